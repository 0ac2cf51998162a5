/-
  Sleepers (parapet/waitq): the two maps: of each thread the channels that it sleeps on, of each channel its sleepers: what is kept is the slice itself (its block, its length, its room).
-/
import Derived.Test.YtokclkiidhcffaaWqKey
import Derived.Test.YtokclkiidhcffaaMapL
namespace Go.Proofs.Ytokclkiidhcffaa
open Go.ChangeShapes Go.WideShapes Go.ChangeAt Go.RowKit Go.Maps
set_option linter.unusedVariables false

/-- A slice at the head of a block: the block, the length, the room. -/
structure SV where
  b : Nat
  n : Nat
  c : Nat
abbrev SO := Option SV
def svO : SO → Value
  | none => .slice none 0 0
  | some s => .slice (some ⟨s.b, 0, none⟩) s.n s.c
def fdO : SO → DataW Unit
  | none => .nil
  | some s => .agg [.lit (.int .i64 s.b), .lit (.int .i64 s.n), .lit (.int .i64 s.c)]
def elemSl (v : Value) : Option (DataW Unit × List MemPlace) :=
  match v with
  | .slice none 0 0 => some (.nil, [])
  | .slice (some ⟨b, 0, none⟩) n c => some (.agg [.lit (.int .i64 b), .lit (.int .i64 n), .lit (.int .i64 c)], [])
  | _ => none
theorem elemSl_mk (f : SO) : elemSl (svO f) = some (fdO f, []) := by cases f <;> rfl
theorem elemSl_inv {v : Value} {y : DataW Unit × List MemPlace} (h : elemSl v = some y) : ∃ f : SO, v = svO f ∧ y = (fdO f, []) := by
  unfold elemSl at h
  split at h
  · injection h with h
    exact ⟨none, rfl, h.symm⟩
  · rename_i b n c
    injection h with h
    exact ⟨some ⟨b, n, c⟩, rfl, h.symm⟩
  · cases h
theorem fdO_inj {f f' : SO} (h : fdO f = fdO f') : f = f' := by
  cases f with
  | none => cases f' with
    | none => rfl
    | some s => cases h
  | some s => cases f' with
    | none => cases h
    | some s' =>
      obtain ⟨a, b, c⟩ := s
      obtain ⟨a', b', c'⟩ := s'
      simp [fdO] at h
      obtain ⟨h1, h2, h3⟩ := h
      have e1 : a = a' := by omega
      have e2 : b = b' := by omega
      have e3 : c = c' := by omega
      rw [e1, e2, e3]
abbrev iW (k : Int) : Prop := (Lit.int .i64 k).wf = true
theorem lawInt : Keyed Try.prog 3 := int_keyed Try.underlying3
theorem zeroC (w : World) : (zeroValue 30).run Try.prog w = .ok (.slice none 0 0) w := by kernel_rfl
theorem zeroT (w : World) : (zeroValue 35).run Try.prog w = .ok (.slice none 0 0) w := by kernel_rfl
def encOn : Enc Int SO where
  wf := iW
  kl k := .int .i64 k
  fd := fdO
  inj := fun _ _ e => by injection e
  key _ := trivial
  dinj e := fdO_inj e
def encSl : Enc CH SO where
  wf := CH.wf
  kl := kL
  fd := fdO
  inj := kL_inj
  key _ := trivial
  dinj e := fdO_inj e
theorem keyOn {k : Int} (hk : iW k) : keyOf Try.prog 3 (.int .i64 k) = some (encOn.kl k) := keyOf_int_mk Try.underlying3 hk
theorem elemOn_mk (f : SO) : elemSl (svO f) = some (encOn.fd f, []) := elemSl_mk f
theorem elemSc_mk (f : SO) : elemSl (svO f) = some (encSl.fd f, []) := elemSl_mk f
theorem keySl {k : CH} (hk : k.wf) : keyOf Try.prog 32 (kV k) = some (encSl.kl k) := keyOf_kV hk

section
variable {W : World} {b n : Nat} {D : DataW Unit} {O : List (Int × SO)} {k : Int} {f : SO}
theorem own_tightOn (hown : W.ownsMap Try.prog 3 elemSl b n D) : W.ownsMap Try.prog 3 elemSl b (Maps.size D) D := by
  obtain ⟨es, clock, hb, F, hs, rfl⟩ := hown
  refine ⟨es, clock, hb, F, ?_, rfl⟩
  rw [Maps.size_eq, length_read]
  exact Nat.le_refl _
set_option maxRecDepth 100000 in
theorem lookOn (H : MHolds encOn D O) (hown : W.ownsMap Try.prog 3 elemSl b n D) (hp : (k, f) ∈ O) : (Instr.lookup 51 (.map (some b)) (.int .i64 k) false).run Try.prog W = .ok (svO f) W := by
  have hk : iW k := H.wf _ hp
  obtain ⟨v, ps, hrun, hv⟩ := hown.lookup lawInt Try.underlying51 (zeroC W) (elemSl_mk none) (keyOn hk)
  rw [H.at_ _ hp] at hv
  obtain ⟨s', rfl, e⟩ := elemSl_inv hv
  injection e with e _
  have e1 : f = s' := fdO_inj e
  subst e1
  exact hrun
set_option maxRecDepth 100000 in
theorem lookOn_no (H : MHolds encOn D O) (hown : W.ownsMap Try.prog 3 elemSl b n D) (hk : encOn.wf k) (hn : k ∉ O.map (·.1)) : (Instr.lookup 51 (.map (some b)) (.int .i64 k) false).run Try.prog W = .ok (.slice none 0 0) W := by
  obtain ⟨v, ps, hrun, hv⟩ := hown.lookup lawInt Try.underlying51 (zeroC W) (elemSl_mk none) (keyOn hk)
  rw [Maps.atKey_of_not_has (H.none (k := k) hk hn)] at hv
  obtain ⟨s', rfl, e⟩ := elemSl_inv hv
  injection e with e _
  have e1 : _ = s' := fdO_inj (f := none) e
  subst e1
  exact hrun
theorem lenOn (H : MHolds encOn D O) (hown : W.ownsMap Try.prog 3 elemSl b n D) (ty : TypeId) : (Builtin.len_ #[51] ty #[.map (some b)]).run Try.prog W = .ok (.int .i64 O.length) W := by
  have := hown.len Try.underlying51 ty
  rwa [H.size] at this
theorem storeOn_new (H : MHolds encOn D O) (hown : W.ownsMap Try.prog 3 elemSl b O.length D) (hl : O.length < maxLen) (hk : encOn.wf k) (hn : k ∉ O.map (·.1)) :
    ∃ W', (Instr.mapUpdate 51 (.map (some b)) (.int .i64 k) (svO f)).run Try.prog W = .ok () W' ∧ W'.ownsMap Try.prog 3 elemSl b (O ++ [(k, f)]).length (D.put (encOn.kl k) (encOn.fd f)) ∧ Only [b] W W' := by
  obtain ⟨W', h1, h2, h3⟩ := hown.store lawInt Try.underlying51 hl (keyOn hk) (elemOn_mk f)
  have h4 := own_tightOn h2
  rw [(H.new (f := f) hk hn).size] at h4
  exact ⟨W', h1, h4, Only.of_grown h3.grown (fun k hk _ => by injection hk with hk; simp [hk])⟩
theorem storeOn_old (H : MHolds encOn D O) (hown : W.ownsMap Try.prog 3 elemSl b O.length D) (hl : O.length < maxLen) {f' : SO} (hp : (k, f') ∈ O) :
    ∃ W', (Instr.mapUpdate 51 (.map (some b)) (.int .i64 k) (svO f)).run Try.prog W = .ok () W' ∧ W'.ownsMap Try.prog 3 elemSl b (setV O k f).length (D.put (encOn.kl k) (encOn.fd f)) ∧ Only [b] W W' := by
  obtain ⟨W', h1, h2, h3⟩ := hown.store lawInt Try.underlying51 hl (keyOn (k := k) (H.wf _ hp)) (elemOn_mk f)
  have h4 := own_tightOn h2
  rw [(H.old hp f).size] at h4
  exact ⟨W', h1, h4, Only.of_grown h3.grown (fun k hk _ => by injection hk with hk; simp [hk])⟩
theorem dropOn (H : MHolds encOn D O) (hown : W.ownsMap Try.prog 3 elemSl b O.length D) (hp : (k, f) ∈ O) (ty : TypeId) :
    ∃ W', (Builtin.delete_ #[51, 3] ty #[.map (some b), .int .i64 k]).run Try.prog W = .ok (.tuple #[]) W' ∧ W'.ownsMap Try.prog 3 elemSl b (outV O k).length (D.del (encOn.kl k)) ∧ Only [b] W W' := by
  obtain ⟨W', h1, h2, h3⟩ := hown.drop lawInt Try.underlying51 (keyOn (k := k) (H.wf _ hp)) ty
  have h4 := own_tightOn h2
  rw [(H.del hp).size] at h4
  exact ⟨W', h1, h4, Only.of_grown h3.grown (fun k hk _ => by injection hk with hk; simp [hk])⟩
end

section
variable {W : World} {b n : Nat} {D : DataW Unit} {O : List (CH × SO)} {k : CH} {f : SO}
theorem own_tightSl (hown : W.ownsMap Try.prog 32 elemSl b n D) : W.ownsMap Try.prog 32 elemSl b (Maps.size D) D := by
  obtain ⟨es, clock, hb, F, hs, rfl⟩ := hown
  refine ⟨es, clock, hb, F, ?_, rfl⟩
  rw [Maps.size_eq, length_read]
  exact Nat.le_refl _
set_option maxRecDepth 100000 in
theorem lookSl (H : MHolds encSl D O) (hown : W.ownsMap Try.prog 32 elemSl b n D) (hp : (k, f) ∈ O) : (Instr.lookup 52 (.map (some b)) (kV k) false).run Try.prog W = .ok (svO f) W := by
  have hk : k.wf := H.wf _ hp
  obtain ⟨v, ps, hrun, hv⟩ := hown.lookup lawKey Try.underlying52 (zeroT W) (elemSl_mk none) (keySl hk)
  rw [H.at_ _ hp] at hv
  obtain ⟨s', rfl, e⟩ := elemSl_inv hv
  injection e with e _
  have e1 : f = s' := fdO_inj e
  subst e1
  exact hrun
set_option maxRecDepth 100000 in
theorem lookSl_no (H : MHolds encSl D O) (hown : W.ownsMap Try.prog 32 elemSl b n D) (hk : encSl.wf k) (hn : k ∉ O.map (·.1)) : (Instr.lookup 52 (.map (some b)) (kV k) false).run Try.prog W = .ok (.slice none 0 0) W := by
  obtain ⟨v, ps, hrun, hv⟩ := hown.lookup lawKey Try.underlying52 (zeroT W) (elemSl_mk none) (keySl hk)
  rw [Maps.atKey_of_not_has (H.none (k := k) hk hn)] at hv
  obtain ⟨s', rfl, e⟩ := elemSl_inv hv
  injection e with e _
  have e1 : _ = s' := fdO_inj (f := none) e
  subst e1
  exact hrun
theorem lenSl (H : MHolds encSl D O) (hown : W.ownsMap Try.prog 32 elemSl b n D) (ty : TypeId) : (Builtin.len_ #[52] ty #[.map (some b)]).run Try.prog W = .ok (.int .i64 O.length) W := by
  have := hown.len Try.underlying52 ty
  rwa [H.size] at this
theorem storeSl_new (H : MHolds encSl D O) (hown : W.ownsMap Try.prog 32 elemSl b O.length D) (hl : O.length < maxLen) (hk : encSl.wf k) (hn : k ∉ O.map (·.1)) :
    ∃ W', (Instr.mapUpdate 52 (.map (some b)) (kV k) (svO f)).run Try.prog W = .ok () W' ∧ W'.ownsMap Try.prog 32 elemSl b (O ++ [(k, f)]).length (D.put (encSl.kl k) (encSl.fd f)) ∧ Only [b] W W' := by
  obtain ⟨W', h1, h2, h3⟩ := hown.store lawKey Try.underlying52 hl (keySl hk) (elemSc_mk f)
  have h4 := own_tightSl h2
  rw [(H.new (f := f) hk hn).size] at h4
  exact ⟨W', h1, h4, Only.of_grown h3.grown (fun k hk _ => by injection hk with hk; simp [hk])⟩
theorem storeSl_old (H : MHolds encSl D O) (hown : W.ownsMap Try.prog 32 elemSl b O.length D) (hl : O.length < maxLen) {f' : SO} (hp : (k, f') ∈ O) :
    ∃ W', (Instr.mapUpdate 52 (.map (some b)) (kV k) (svO f)).run Try.prog W = .ok () W' ∧ W'.ownsMap Try.prog 32 elemSl b (setV O k f).length (D.put (encSl.kl k) (encSl.fd f)) ∧ Only [b] W W' := by
  obtain ⟨W', h1, h2, h3⟩ := hown.store lawKey Try.underlying52 hl (keySl (k := k) (H.wf _ hp)) (elemSc_mk f)
  have h4 := own_tightSl h2
  rw [(H.old hp f).size] at h4
  exact ⟨W', h1, h4, Only.of_grown h3.grown (fun k hk _ => by injection hk with hk; simp [hk])⟩
theorem dropSl (H : MHolds encSl D O) (hown : W.ownsMap Try.prog 32 elemSl b O.length D) (hp : (k, f) ∈ O) (ty : TypeId) :
    ∃ W', (Builtin.delete_ #[52, 32] ty #[.map (some b), kV k]).run Try.prog W = .ok (.tuple #[]) W' ∧ W'.ownsMap Try.prog 32 elemSl b (outV O k).length (D.del (encSl.kl k)) ∧ Only [b] W W' := by
  obtain ⟨W', h1, h2, h3⟩ := hown.drop lawKey Try.underlying52 (keySl (k := k) (H.wf _ hp)) ty
  have h4 := own_tightSl h2
  rw [(H.del hp).size] at h4
  exact ⟨W', h1, h4, Only.of_grown h3.grown (fun k hk _ => by injection hk with hk; simp [hk])⟩
end
end Go.Proofs.Ytokclkiidhcffaa
