/-
  Maps of ints by ints.
-/
import Derived.Test.YtjpojoflbjhjjaaMapL
import Derived.Test.YtjpojoflbjhjjaaKRow
namespace Go.Proofs.Ytjpojoflbjhjjaa
open Go.ChangeShapes Go.WideShapes Go.ChangeAt Go.RowKit Go.Maps
set_option linter.unusedVariables false

theorem lawInt : Keyed Try.prog 3 := int_keyed Try.underlying3
abbrev iW (k : Int) : Prop := (Lit.int .i64 k).wf = true
noncomputable abbrev elemI : Value → Option (DataW Unit × List MemPlace) := plainElem Try.prog 3
def encI : Enc Int Int where
  wf := iW
  kl k := .int .i64 k
  fd f := .lit (.int .i64 f)
  inj := fun _ _ e => by injection e
  key _ := trivial
  dinj e := by injection e with e; injection e
theorem elemI_mk {f : Int} (h : iW f) : elemI (.int .i64 f) = some (encI.fd f, []) := plainElem_int Try.underlying3 h
theorem elemI_inv {v : Value} {y : DataW Unit × List MemPlace} (h : elemI v = some y) : ∃ f : Int, iW f ∧ v = .int .i64 f ∧ y = (encI.fd f, []) := by
  obtain ⟨a, e1, e2, e3⟩ := plainElem_int_inv Try.underlying3 h
  exact ⟨a, e3, e1, e2⟩
theorem zeroI (w : World) : (zeroValue 3).run Try.prog w = .ok (.int .i64 0) w := by kernel_rfl
section
variable {W : World} {b n : Nat} {D : DataW Unit} {O : List (Int × Int)} {k f : Int}
theorem own_tightI (hown : W.ownsMap Try.prog 3 elemI b n D) : W.ownsMap Try.prog 3 elemI b (Maps.size D) D := by
  obtain ⟨es, clock, hb, F, hs, rfl⟩ := hown
  refine ⟨es, clock, hb, F, ?_, rfl⟩
  rw [Maps.size_eq, length_read]
  exact Nat.le_refl _
theorem keyI (hk : iW k) : keyOf Try.prog 3 (.int .i64 k) = some (encI.kl k) := keyOf_int_mk Try.underlying3 hk
set_option maxRecDepth 100000 in
theorem lookI (H : MHolds encI D O) (hown : W.ownsMap Try.prog 3 elemI b n D) (hp : (k, f) ∈ O) (c : Bool) : (Instr.lookup 65 (.map (some b)) (.int .i64 k) c).run Try.prog W = .ok (if c then .tuple #[.int .i64 f, .bool true] else .int .i64 f) W := by
  have hk : iW k := H.wf _ hp
  cases c
  · obtain ⟨v, ps, hrun, hv⟩ := hown.lookup lawInt Try.underlying65 (zeroI W) (elemI_mk (by decide)) (keyI hk)
    rw [H.at_ _ hp] at hv
    obtain ⟨s', h8, rfl, e⟩ := elemI_inv hv
    injection e with e _
    have e1 : f = s' := encI.dinj e
    subst e1
    exact hrun
  · obtain ⟨v, ps, hrun, hv⟩ := hown.look_ok lawInt Try.underlying65 (zeroI W) (elemI_mk (by decide)) (keyI hk)
    rw [H.at_ _ hp] at hv
    obtain ⟨s', h8, rfl, e⟩ := elemI_inv hv
    injection e with e _
    have e1 : f = s' := encI.dinj e
    subst e1
    rw [H.some_ hp] at hrun
    exact hrun
set_option maxRecDepth 100000 in
theorem lookI_no (H : MHolds encI D O) (hown : W.ownsMap Try.prog 3 elemI b n D) (hk : iW k) (hn : k ∉ O.map (·.1)) : (Instr.lookup 65 (.map (some b)) (.int .i64 k) true).run Try.prog W = .ok (.tuple #[.int .i64 0, .bool false]) W := by
  obtain ⟨v, ps, hrun, hv⟩ := hown.look_ok lawInt Try.underlying65 (zeroI W) (elemI_mk (by decide)) (keyI hk)
  rw [Maps.atKey_of_not_has (H.none (k := k) hk hn)] at hv
  obtain ⟨s', h8, rfl, e⟩ := elemI_inv hv
  injection e with e _
  have e1 : _ = s' := encI.dinj e
  subst e1
  rw [H.none (k := k) hk hn] at hrun
  exact hrun
theorem lenI (H : MHolds encI D O) (hown : W.ownsMap Try.prog 3 elemI b n D) (ty : TypeId) : (Builtin.len_ #[65] ty #[.map (some b)]).run Try.prog W = .ok (.int .i64 O.length) W := by
  have := hown.len Try.underlying65 ty
  rwa [H.size] at this
theorem storeI_new (H : MHolds encI D O) (hown : W.ownsMap Try.prog 3 elemI b O.length D) (hl : O.length < maxLen) (hk : iW k) (hn : k ∉ O.map (·.1)) (h8 : iW f) :
    ∃ W', (Instr.mapUpdate 65 (.map (some b)) (.int .i64 k) (.int .i64 f)).run Try.prog W = .ok () W' ∧ W'.ownsMap Try.prog 3 elemI b (O ++ [(k, f)]).length (D.put (encI.kl k) (encI.fd f)) ∧ Only [b] W W' := by
  obtain ⟨W', h1, h2, h3⟩ := hown.store lawInt Try.underlying65 hl (keyI hk) (elemI_mk h8)
  have h4 := own_tightI h2
  rw [(H.new (f := f) hk hn).size] at h4
  exact ⟨W', h1, h4, Only.of_grown h3.grown (fun k hk _ => by injection hk with hk; simp [hk])⟩
theorem dropI (H : MHolds encI D O) (hown : W.ownsMap Try.prog 3 elemI b O.length D) (hp : (k, f) ∈ O) (ty : TypeId) :
    ∃ W', (Builtin.delete_ #[65, 3] ty #[.map (some b), .int .i64 k]).run Try.prog W = .ok (.tuple #[]) W' ∧ W'.ownsMap Try.prog 3 elemI b (outV O k).length (D.del (encI.kl k)) ∧ Only [b] W W' := by
  obtain ⟨W', h1, h2, h3⟩ := hown.drop lawInt Try.underlying65 (keyI (H.wf _ hp)) ty
  have h4 := own_tightI h2
  rw [(H.del hp).size] at h4
  exact ⟨W', h1, h4, Only.of_grown h3.grown (fun k hk _ => by injection hk with hk; simp [hk])⟩
end
end Go.Proofs.Ytjpojoflbjhjjaa
