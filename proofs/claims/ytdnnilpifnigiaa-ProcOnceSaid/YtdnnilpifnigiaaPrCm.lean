/-
  Processes and threads (parapetlaw24): the law's maps: of ints by ints, of bools by ints.
-/
import Derived.Test.YtdnnilpifnigiaaPrTree
namespace Go.Proofs.Ytdnnilpifnigiaa
open Go.ChangeShapes Go.WideShapes Go.ChangeAt Go.RowKit Go.Maps
set_option linter.unusedVariables false
noncomputable abbrev elemI : Value → Option (DataW Unit × List MemPlace) := plainElem Try.prog 3
def encI : Enc Int Int where
  wf := iW
  kl k := .int .i64 k
  fd f := .lit (.int .i64 f)
  inj := fun _ _ e => by injection e
  key _ := trivial
  dinj e := by injection e with e; injection e
theorem elemI_mk {f : Int} (h : iW f) : elemI (.int .i64 f) = some (encI.fd f, []) := plainElem_int Try.underlying3 h
theorem elemI_inv {v : Value} {y : DataW Unit × List MemPlace} (h : elemI v = some y) : ∃ f : Int, iW f ∧ v = .int .i64 f ∧ y = (encI.fd f, []) := by
  obtain ⟨a, e1, e2, e3⟩ := plainElem_int_inv Try.underlying3 h
  exact ⟨a, e3, e1, e2⟩
theorem zeroI (w : World) : (zeroValue 3).run Try.prog w = .ok (.int .i64 0) w := by kernel_rfl
section
variable {W : World} {b n : Nat} {D : DataW Unit} {O : List (Int × Int)} {k f : Int}
theorem own_tightI (hown : W.ownsMap Try.prog 3 elemI b n D) : W.ownsMap Try.prog 3 elemI b (Maps.size D) D := by
  obtain ⟨es, clock, hb, F, hs, rfl⟩ := hown
  refine ⟨es, clock, hb, F, ?_, rfl⟩
  rw [Maps.size_eq, length_read]
  exact Nat.le_refl _
theorem keyII (hk : iW k) : keyOf Try.prog 3 (.int .i64 k) = some (encI.kl k) := keyOf_int_mk Try.underlying3 hk
set_option maxRecDepth 100000 in
theorem lookI (H : MHolds encI D O) (hown : W.ownsMap Try.prog 3 elemI b n D) (hp : (k, f) ∈ O) (c : Bool) : (Instr.lookup 38 (.map (some b)) (.int .i64 k) c).run Try.prog W = .ok (if c then .tuple #[.int .i64 f, .bool true] else .int .i64 f) W := by
  have hk : iW k := H.wf _ hp
  cases c
  · obtain ⟨v, ps, hrun, hv⟩ := hown.lookup lawInt Try.underlying38 (zeroI W) (elemI_mk (by decide)) (keyII hk)
    rw [H.at_ _ hp] at hv
    obtain ⟨s', h8, rfl, e⟩ := elemI_inv hv
    injection e with e _
    have e1 : f = s' := encI.dinj e
    subst e1
    exact hrun
  · obtain ⟨v, ps, hrun, hv⟩ := hown.look_ok lawInt Try.underlying38 (zeroI W) (elemI_mk (by decide)) (keyII hk)
    rw [H.at_ _ hp] at hv
    obtain ⟨s', h8, rfl, e⟩ := elemI_inv hv
    injection e with e _
    have e1 : f = s' := encI.dinj e
    subst e1
    rw [H.some_ hp] at hrun
    exact hrun
set_option maxRecDepth 100000 in
theorem lookI_no (H : MHolds encI D O) (hown : W.ownsMap Try.prog 3 elemI b n D) (hk : iW k) (hn : k ∉ O.map (·.1)) : (Instr.lookup 38 (.map (some b)) (.int .i64 k) true).run Try.prog W = .ok (.tuple #[.int .i64 0, .bool false]) W := by
  obtain ⟨v, ps, hrun, hv⟩ := hown.look_ok lawInt Try.underlying38 (zeroI W) (elemI_mk (by decide)) (keyII hk)
  rw [Maps.atKey_of_not_has (H.none (k := k) hk hn)] at hv
  obtain ⟨s', h8, rfl, e⟩ := elemI_inv hv
  injection e with e _
  have e1 : _ = s' := encI.dinj e
  subst e1
  rw [H.none (k := k) hk hn] at hrun
  exact hrun
set_option maxRecDepth 100000 in
theorem lookI_zero (H : MHolds encI D O) (hown : W.ownsMap Try.prog 3 elemI b n D) (hk : iW k) (hn : k ∉ O.map (·.1)) : (Instr.lookup 38 (.map (some b)) (.int .i64 k) false).run Try.prog W = .ok (.int .i64 0) W := by
  obtain ⟨v, ps, hrun, hv⟩ := hown.lookup lawInt Try.underlying38 (zeroI W) (elemI_mk (by decide)) (keyII hk)
  rw [Maps.atKey_of_not_has (H.none (k := k) hk hn)] at hv
  obtain ⟨s', h8, rfl, e⟩ := elemI_inv hv
  injection e with e _
  have e1 : _ = s' := encI.dinj e
  subst e1
  exact hrun
theorem storeI_old (H : MHolds encI D O) (hown : W.ownsMap Try.prog 3 elemI b O.length D) (hl : O.length < maxLen) (hp : (k, f) ∈ O) {e : Int} (h8 : iW e) :
    ∃ W', (Instr.mapUpdate 38 (.map (some b)) (.int .i64 k) (.int .i64 e)).run Try.prog W = .ok () W' ∧ W'.ownsMap Try.prog 3 elemI b (setV O k e).length (D.put (encI.kl k) (encI.fd e)) ∧ Only [b] W W' := by
  obtain ⟨W', h1, h2, h3⟩ := hown.store lawInt Try.underlying38 hl (keyII (H.wf _ hp)) (elemI_mk h8)
  have h4 := own_tightI h2
  rw [(H.old hp e).size] at h4
  exact ⟨W', h1, h4, Only.of_grown h3.grown (fun k hk _ => by injection hk with hk; simp [hk])⟩
theorem lenI (H : MHolds encI D O) (hown : W.ownsMap Try.prog 3 elemI b n D) (ty : TypeId) : (Builtin.len_ #[38] ty #[.map (some b)]).run Try.prog W = .ok (.int .i64 O.length) W := by
  have := hown.len Try.underlying38 ty
  rwa [H.size] at this
theorem storeI_new (H : MHolds encI D O) (hown : W.ownsMap Try.prog 3 elemI b O.length D) (hl : O.length < maxLen) (hk : iW k) (hn : k ∉ O.map (·.1)) (h8 : iW f) :
    ∃ W', (Instr.mapUpdate 38 (.map (some b)) (.int .i64 k) (.int .i64 f)).run Try.prog W = .ok () W' ∧ W'.ownsMap Try.prog 3 elemI b (O ++ [(k, f)]).length (D.put (encI.kl k) (encI.fd f)) ∧ Only [b] W W' := by
  obtain ⟨W', h1, h2, h3⟩ := hown.store lawInt Try.underlying38 hl (keyII hk) (elemI_mk h8)
  have h4 := own_tightI h2
  rw [(H.new (f := f) hk hn).size] at h4
  exact ⟨W', h1, h4, Only.of_grown h3.grown (fun k hk _ => by injection hk with hk; simp [hk])⟩
theorem sameKlI {a b : Int} : (encI.kl a).sameKey (encI.kl b) = decide (a = b) := by
  by_cases h : a = b
  · subst h
    simp [WideAt.sameKey_self (encI.key a)]
  · rw [Maps.sameKey_ne (fun e => h (by injection e))]
    simp [h]
theorem comeI (H : MHolds encI D O) {x : Value} {f : Int} {kl : Lit} {y : DataW Unit × List MemPlace} (hf8 : iW f) (hk : keyOf Try.prog 3 x = some kl) (hy : elemI (.int .i64 f) = some y) (hat : ∀ zd, D.atKey kl zd = y.1) : ∃ t, (t, f) ∈ O ∧ x = .int .i64 t ∧ kl = encI.kl t := by
  obtain ⟨p, hp, hpk⟩ := (H.has kl).1 (has_true_of_atKey hat)
  have hf := H.at_ _ hp .nil
  rw [hpk, hat] at hf
  rw [elemI_mk hf8] at hy
  injection hy with hy
  rw [← hy] at hf
  have e : f = p.2 := encI.dinj hf
  exact ⟨p.1, by rw [e]; exact hp, lawInt.inj hk (by rw [← hpk]; exact keyII (H.wf _ hp)), hpk.symm⟩
end

noncomputable abbrev elemB : Value → Option (DataW Unit × List MemPlace) := plainElem Try.prog 4
def encB : Enc Int Bool where
  wf := iW
  kl k := .int .i64 k
  fd f := .lit (.bool f)
  inj := fun _ _ e => by injection e
  key _ := trivial
  dinj e := by injection e with e; injection e
theorem elemB_mk (f : Bool) : elemB (.bool f) = some (encB.fd f, []) := plainElem_bool Try.underlying4 f
set_option maxRecDepth 100000 in
theorem elemB_inv {v : Value} {y : DataW Unit × List MemPlace} (h : elemB v = some y) : ∃ f : Bool, v = .bool f ∧ y = (encB.fd f, []) := by
  unfold elemB plainElem at h
  rw [Try.underlying4] at h
  split at h
  all_goals first
    | (cases h; done)
    | (rename_i heq; cases heq; done)
    | (injection h with h; exact ⟨_, rfl, h.symm⟩)
theorem keyB {k : Int} (hk : iW k) : keyOf Try.prog 3 (.int .i64 k) = some (encB.kl k) := keyOf_int_mk Try.underlying3 hk
theorem zeroB (w : World) : (zeroValue 4).run Try.prog w = .ok (.bool false) w := by kernel_rfl
section
variable {W : World} {b n : Nat} {D : DataW Unit} {O : List (Int × Bool)} {k : Int} {f : Bool}
theorem own_tightB (hown : W.ownsMap Try.prog 3 elemB b n D) : W.ownsMap Try.prog 3 elemB b (Maps.size D) D := by
  obtain ⟨es, clock, hb, F, hs, rfl⟩ := hown
  refine ⟨es, clock, hb, F, ?_, rfl⟩
  rw [Maps.size_eq, length_read]
  exact Nat.le_refl _
set_option maxRecDepth 100000 in
theorem lookB (H : MHolds encB D O) (hown : W.ownsMap Try.prog 3 elemB b n D) (hp : (k, f) ∈ O) (c : Bool) : (Instr.lookup 39 (.map (some b)) (.int .i64 k) c).run Try.prog W = .ok (if c then .tuple #[.bool f, .bool true] else .bool f) W := by
  have hk : iW k := H.wf _ hp
  cases c
  · obtain ⟨v, ps, hrun, hv⟩ := hown.lookup lawInt Try.underlying39 (zeroB W) (elemB_mk _) (keyB hk)
    rw [H.at_ _ hp] at hv
    obtain ⟨s', rfl, e⟩ := elemB_inv hv
    injection e with e _
    have e1 : f = s' := encB.dinj e
    subst e1
    exact hrun
  · obtain ⟨v, ps, hrun, hv⟩ := hown.look_ok lawInt Try.underlying39 (zeroB W) (elemB_mk _) (keyB hk)
    rw [H.at_ _ hp] at hv
    obtain ⟨s', rfl, e⟩ := elemB_inv hv
    injection e with e _
    have e1 : f = s' := encB.dinj e
    subst e1
    rw [H.some_ hp] at hrun
    exact hrun
set_option maxRecDepth 100000 in
theorem lookB_no (H : MHolds encB D O) (hown : W.ownsMap Try.prog 3 elemB b n D) (hk : iW k) (hn : k ∉ O.map (·.1)) : (Instr.lookup 39 (.map (some b)) (.int .i64 k) true).run Try.prog W = .ok (.tuple #[.bool false, .bool false]) W := by
  obtain ⟨v, ps, hrun, hv⟩ := hown.look_ok lawInt Try.underlying39 (zeroB W) (elemB_mk _) (keyB hk)
  rw [Maps.atKey_of_not_has (H.none (k := k) hk hn)] at hv
  obtain ⟨s', rfl, e⟩ := elemB_inv hv
  injection e with e _
  have e1 : _ = s' := encB.dinj e
  subst e1
  rw [H.none (k := k) hk hn] at hrun
  exact hrun
theorem lenB (H : MHolds encB D O) (hown : W.ownsMap Try.prog 3 elemB b n D) (ty : TypeId) : (Builtin.len_ #[39] ty #[.map (some b)]).run Try.prog W = .ok (.int .i64 O.length) W := by
  have := hown.len Try.underlying39 ty
  rwa [H.size] at this
theorem storeB_new (H : MHolds encB D O) (hown : W.ownsMap Try.prog 3 elemB b O.length D) (hl : O.length < maxLen) (hk : iW k) (hn : k ∉ O.map (·.1)) :
    ∃ W', (Instr.mapUpdate 39 (.map (some b)) (.int .i64 k) (.bool f)).run Try.prog W = .ok () W' ∧ W'.ownsMap Try.prog 3 elemB b (O ++ [(k, f)]).length (D.put (encB.kl k) (encB.fd f)) ∧ Only [b] W W' := by
  obtain ⟨W', h1, h2, h3⟩ := hown.store lawInt Try.underlying39 hl (keyB hk) (elemB_mk _)
  have h4 := own_tightB h2
  rw [(H.new (f := f) hk hn).size] at h4
  exact ⟨W', h1, h4, Only.of_grown h3.grown (fun k hk _ => by injection hk with hk; simp [hk])⟩
theorem dropB (H : MHolds encB D O) (hown : W.ownsMap Try.prog 3 elemB b O.length D) (hp : (k, f) ∈ O) (ty : TypeId) :
    ∃ W', (Builtin.delete_ #[39, 3] ty #[.map (some b), .int .i64 k]).run Try.prog W = .ok (.tuple #[]) W' ∧ W'.ownsMap Try.prog 3 elemB b (outV O k).length (D.del (encB.kl k)) ∧ Only [b] W W' := by
  obtain ⟨W', h1, h2, h3⟩ := hown.drop lawInt Try.underlying39 (keyB (H.wf _ hp)) ty
  have h4 := own_tightB h2
  rw [(H.del hp).size] at h4
  exact ⟨W', h1, h4, Only.of_grown h3.grown (fun k hk _ => by injection hk with hk; simp [hk])⟩
end

section
variable {W : World} {b n : Nat} {D : DataW Unit} {O : List (Int × Bool)} {k : Int}
set_option maxRecDepth 100000 in
theorem lookB_zero (H : MHolds encB D O) (hown : W.ownsMap Try.prog 3 elemB b n D) (hk : iW k) (hn : k ∉ O.map (·.1)) : (Instr.lookup 39 (.map (some b)) (.int .i64 k) false).run Try.prog W = .ok (.bool false) W := by
  obtain ⟨v, ps, hrun, hv⟩ := hown.lookup lawInt Try.underlying39 (zeroB W) (elemB_mk _) (keyB hk)
  rw [Maps.atKey_of_not_has (H.none (k := k) hk hn)] at hv
  obtain ⟨s', rfl, e⟩ := elemB_inv hv
  injection e with e _
  have e1 : _ = s' := encB.dinj e
  subst e1
  exact hrun
end
end Go.Proofs.Ytdnnilpifnigiaa
