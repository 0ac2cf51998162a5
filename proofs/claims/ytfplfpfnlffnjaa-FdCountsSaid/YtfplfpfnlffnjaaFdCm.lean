/-
  Open files (parapet/fdtab): the law's counts: maps of ints by ints (MapII has the same where no map of files lies beside).
-/
import Derived.Test.YtfplfpfnlffnjaaFdWorld
namespace Go.Proofs.Ytfplfpfnlffnjaa
open Go.ChangeShapes Go.WideShapes Go.ChangeAt Go.RowKit Go.Maps
set_option linter.unusedVariables false

noncomputable abbrev elemI : Value → Option (DataW Unit × List MemPlace) := plainElem Try.prog 3
def encI : Enc Int Int where
  wf := iW
  kl k := .int .i64 k
  fd f := .lit (.int .i64 f)
  inj := fun _ _ e => by injection e
  key _ := trivial
  dinj e := by injection e with e; injection e
theorem elemI_mk {f : Int} (h : iW f) : elemI (.int .i64 f) = some (encI.fd f, []) := plainElem_int Try.underlying3 h
theorem elemI_inv {v : Value} {y : DataW Unit × List MemPlace} (h : elemI v = some y) : ∃ f : Int, iW f ∧ v = .int .i64 f ∧ y = (encI.fd f, []) := by
  obtain ⟨a, e1, e2, e3⟩ := plainElem_int_inv Try.underlying3 h
  exact ⟨a, e3, e1, e2⟩
theorem zeroI (w : World) : (zeroValue 3).run Try.prog w = .ok (.int .i64 0) w := by kernel_rfl
section
variable {W : World} {b n : Nat} {D : DataW Unit} {O : List (Int × Int)} {k f : Int}
theorem own_tightI (hown : W.ownsMap Try.prog 3 elemI b n D) : W.ownsMap Try.prog 3 elemI b (Maps.size D) D := by
  obtain ⟨es, clock, hb, F, hs, rfl⟩ := hown
  refine ⟨es, clock, hb, F, ?_, rfl⟩
  rw [Maps.size_eq, length_read]
  exact Nat.le_refl _
theorem keyII (hk : iW k) : keyOf Try.prog 3 (.int .i64 k) = some (encI.kl k) := keyOf_int_mk Try.underlying3 hk
set_option maxRecDepth 100000 in
theorem lookI (H : MHolds encI D O) (hown : W.ownsMap Try.prog 3 elemI b n D) (hp : (k, f) ∈ O) (c : Bool) : (Instr.lookup 75 (.map (some b)) (.int .i64 k) c).run Try.prog W = .ok (if c then .tuple #[.int .i64 f, .bool true] else .int .i64 f) W := by
  have hk : iW k := H.wf _ hp
  cases c
  · obtain ⟨v, ps, hrun, hv⟩ := hown.lookup lawInt Try.underlying75 (zeroI W) (elemI_mk (by decide)) (keyII hk)
    rw [H.at_ _ hp] at hv
    obtain ⟨s', h8, rfl, e⟩ := elemI_inv hv
    injection e with e _
    have e1 : f = s' := encI.dinj e
    subst e1
    exact hrun
  · obtain ⟨v, ps, hrun, hv⟩ := hown.look_ok lawInt Try.underlying75 (zeroI W) (elemI_mk (by decide)) (keyII hk)
    rw [H.at_ _ hp] at hv
    obtain ⟨s', h8, rfl, e⟩ := elemI_inv hv
    injection e with e _
    have e1 : f = s' := encI.dinj e
    subst e1
    rw [H.some_ hp] at hrun
    exact hrun
set_option maxRecDepth 100000 in
theorem lookI_no (H : MHolds encI D O) (hown : W.ownsMap Try.prog 3 elemI b n D) (hk : iW k) (hn : k ∉ O.map (·.1)) : (Instr.lookup 75 (.map (some b)) (.int .i64 k) true).run Try.prog W = .ok (.tuple #[.int .i64 0, .bool false]) W := by
  obtain ⟨v, ps, hrun, hv⟩ := hown.look_ok lawInt Try.underlying75 (zeroI W) (elemI_mk (by decide)) (keyII hk)
  rw [Maps.atKey_of_not_has (H.none (k := k) hk hn)] at hv
  obtain ⟨s', h8, rfl, e⟩ := elemI_inv hv
  injection e with e _
  have e1 : _ = s' := encI.dinj e
  subst e1
  rw [H.none (k := k) hk hn] at hrun
  exact hrun
set_option maxRecDepth 100000 in
theorem lookI_zero (H : MHolds encI D O) (hown : W.ownsMap Try.prog 3 elemI b n D) (hk : iW k) (hn : k ∉ O.map (·.1)) : (Instr.lookup 75 (.map (some b)) (.int .i64 k) false).run Try.prog W = .ok (.int .i64 0) W := by
  obtain ⟨v, ps, hrun, hv⟩ := hown.lookup lawInt Try.underlying75 (zeroI W) (elemI_mk (by decide)) (keyII hk)
  rw [Maps.atKey_of_not_has (H.none (k := k) hk hn)] at hv
  obtain ⟨s', h8, rfl, e⟩ := elemI_inv hv
  injection e with e _
  have e1 : _ = s' := encI.dinj e
  subst e1
  exact hrun
theorem storeI_old (H : MHolds encI D O) (hown : W.ownsMap Try.prog 3 elemI b O.length D) (hl : O.length < maxLen) (hp : (k, f) ∈ O) {e : Int} (h8 : iW e) :
    ∃ W', (Instr.mapUpdate 75 (.map (some b)) (.int .i64 k) (.int .i64 e)).run Try.prog W = .ok () W' ∧ W'.ownsMap Try.prog 3 elemI b (setV O k e).length (D.put (encI.kl k) (encI.fd e)) ∧ Only [b] W W' := by
  obtain ⟨W', h1, h2, h3⟩ := hown.store lawInt Try.underlying75 hl (keyII (H.wf _ hp)) (elemI_mk h8)
  have h4 := own_tightI h2
  rw [(H.old hp e).size] at h4
  exact ⟨W', h1, h4, Only.of_grown h3.grown (fun k hk _ => by injection hk with hk; simp [hk])⟩
theorem lenI (H : MHolds encI D O) (hown : W.ownsMap Try.prog 3 elemI b n D) (ty : TypeId) : (Builtin.len_ #[75] ty #[.map (some b)]).run Try.prog W = .ok (.int .i64 O.length) W := by
  have := hown.len Try.underlying75 ty
  rwa [H.size] at this
theorem storeI_new (H : MHolds encI D O) (hown : W.ownsMap Try.prog 3 elemI b O.length D) (hl : O.length < maxLen) (hk : iW k) (hn : k ∉ O.map (·.1)) (h8 : iW f) :
    ∃ W', (Instr.mapUpdate 75 (.map (some b)) (.int .i64 k) (.int .i64 f)).run Try.prog W = .ok () W' ∧ W'.ownsMap Try.prog 3 elemI b (O ++ [(k, f)]).length (D.put (encI.kl k) (encI.fd f)) ∧ Only [b] W W' := by
  obtain ⟨W', h1, h2, h3⟩ := hown.store lawInt Try.underlying75 hl (keyII hk) (elemI_mk h8)
  have h4 := own_tightI h2
  rw [(H.new (f := f) hk hn).size] at h4
  exact ⟨W', h1, h4, Only.of_grown h3.grown (fun k hk _ => by injection hk with hk; simp [hk])⟩
theorem sameKlI {a b : Int} : (encI.kl a).sameKey (encI.kl b) = decide (a = b) := by
  by_cases h : a = b
  · subst h
    simp [WideAt.sameKey_self (encI.key a)]
  · rw [Maps.sameKey_ne (fun e => h (by injection e))]
    simp [h]
theorem comeI (H : MHolds encI D O) {x : Value} {f : Int} {kl : Lit} {y : DataW Unit × List MemPlace} (hf8 : iW f) (hk : keyOf Try.prog 3 x = some kl) (hy : elemI (.int .i64 f) = some y) (hat : ∀ zd, D.atKey kl zd = y.1) : ∃ t, (t, f) ∈ O ∧ x = .int .i64 t ∧ kl = encI.kl t := by
  obtain ⟨p, hp, hpk⟩ := (H.has kl).1 (has_true_of_atKey hat)
  have hf := H.at_ _ hp .nil
  rw [hpk, hat] at hf
  rw [elemI_mk hf8] at hy
  injection hy with hy
  rw [← hy] at hf
  have e : f = p.2 := encI.dinj hf
  exact ⟨p.1, by rw [e]; exact hp, lawInt.inj hk (by rw [← hpk]; exact keyII (H.wf _ hp)), hpk.symm⟩
/-- These are just the names that came, each with how often it came. -/
structure CM (ns : List Int) (R : List (Int × Int)) : Prop where
  keys : ∀ k, k ∈ R.map (·.1) ↔ k ∈ ns
  cnt : ∀ p ∈ R, p.2 = (ns.count p.1 : Nat)
  few : R.length ≤ ns.length
theorem CM.nil : CM [] [] := ⟨by simp, by simp, Nat.le_refl _⟩
theorem CM.new {ns : List Int} {R : List (Int × Int)} (h : CM ns R) {k : Int} (hn : k ∉ ns) : CM (ns ++ [k]) (R ++ [(k, 1)]) := by
  refine ⟨fun j => ?_, fun p hp => ?_, by have := h.few; simp; omega⟩
  · rw [List.map_append, List.mem_append, List.mem_append, h.keys]
    simp
  · rcases List.mem_append.1 hp with hp | hp
    · rw [h.cnt p hp, List.count_append]
      have : p.1 ≠ k := fun e => hn (e ▸ (h.keys p.1).1 (List.mem_map.2 ⟨p, hp, rfl⟩))
      rw [List.count_eq_zero_of_not_mem (l := [k]) (by simpa using this)]
      rfl
    · rw [List.mem_singleton.1 hp, List.count_append, List.count_eq_zero_of_not_mem hn]
      simp
theorem CM.old {ns : List Int} {R : List (Int × Int)} (h : CM ns R) {k c : Int} (hp : (k, c) ∈ R) : CM (ns ++ [k]) (setV R k (c + 1)) := by
  have hk : k ∈ ns := (h.keys k).1 (List.mem_map.2 ⟨_, hp, rfl⟩)
  have hc := h.cnt _ hp
  dsimp only at hc
  refine ⟨fun j => ?_, fun p hq => ?_, by have := h.few; unfold setV; simp; omega⟩
  · rw [setV_keys, h.keys, List.mem_append, List.mem_singleton]
    constructor
    · exact .inl
    · rintro (e | rfl)
      · exact e
      · exact hk
  · obtain ⟨q, hq2, rfl⟩ := List.mem_map.1 hq
    split
    · rw [List.count_append]
      simp
      omega
    · rename_i e
      rw [h.cnt q hq2, List.count_append, List.count_eq_zero_of_not_mem (l := [k]) (by simpa using e)]
      rfl
end
end Go.Proofs.Ytfplfpfnlffnjaa
