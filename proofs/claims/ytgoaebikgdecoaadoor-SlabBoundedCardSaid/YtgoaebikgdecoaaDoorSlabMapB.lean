/-
  Slabs (parapetlaw08): the law's map of bools by ints.
-/
import Derived.Test.YtgoaebikgdecoaaDoorSlabMap
namespace Go.Proofs.YtgoaebikgdecoaaDoor
open Go.ChangeShapes Go.WideShapes Go.ChangeAt Go.RowKit Go.Maps
set_option linter.unusedVariables false

noncomputable abbrev elemB : Value → Option (DataW Unit × List MemPlace) := plainElem Tryd.prog 4
def encB : Enc Int Bool where
  wf := iW
  kl k := .int .i64 k
  fd f := .lit (.bool f)
  inj := fun _ _ e => by injection e
  key _ := trivial
  dinj e := by injection e with e; injection e
theorem elemB_mk (f : Bool) : elemB (.bool f) = some (encB.fd f, []) := plainElem_bool Tryd.underlying4 f
theorem elemB_inv {v : Value} {y : DataW Unit × List MemPlace} (h : elemB v = some y) : ∃ f : Bool, v = .bool f ∧ y = (encB.fd f, []) := by
  unfold elemB plainElem at h
  rw [Tryd.underlying4] at h
  split at h
  all_goals first
    | (cases h; done)
    | (rename_i heq; cases heq; done)
    | (injection h with h; exact ⟨_, rfl, h.symm⟩)
theorem keyB {k : Int} (hk : iW k) : keyOf Tryd.prog 3 (.int .i64 k) = some (encB.kl k) := keyOf_int_mk Tryd.underlying3 hk
theorem zeroB (w : World) : (zeroValue 4).run Tryd.prog w = .ok (.bool false) w := by kernel_rfl
section
variable {W : World} {b n : Nat} {D : DataW Unit} {O : List (Int × Bool)} {k : Int} {f : Bool}
theorem own_tightB (hown : W.ownsMap Tryd.prog 3 elemB b n D) : W.ownsMap Tryd.prog 3 elemB b (Maps.size D) D := by
  obtain ⟨es, clock, hb, F, hs, rfl⟩ := hown
  refine ⟨es, clock, hb, F, ?_, rfl⟩
  rw [Maps.size_eq, length_read]
  exact Nat.le_refl _
set_option maxRecDepth 100000 in
theorem lookB (H : MHolds encB D O) (hown : W.ownsMap Tryd.prog 3 elemB b n D) (hp : (k, f) ∈ O) (c : Bool) : (Instr.lookup 45 (.map (some b)) (.int .i64 k) c).run Tryd.prog W = .ok (if c then .tuple #[.bool f, .bool true] else .bool f) W := by
  have hk : iW k := H.wf _ hp
  cases c
  · obtain ⟨v, ps, hrun, hv⟩ := hown.lookup lawInt Tryd.underlying45 (zeroB W) (elemB_mk _) (keyB hk)
    rw [H.at_ _ hp] at hv
    obtain ⟨s', rfl, e⟩ := elemB_inv hv
    injection e with e _
    have e1 : f = s' := encB.dinj e
    subst e1
    exact hrun
  · obtain ⟨v, ps, hrun, hv⟩ := hown.look_ok lawInt Tryd.underlying45 (zeroB W) (elemB_mk _) (keyB hk)
    rw [H.at_ _ hp] at hv
    obtain ⟨s', rfl, e⟩ := elemB_inv hv
    injection e with e _
    have e1 : f = s' := encB.dinj e
    subst e1
    rw [H.some_ hp] at hrun
    exact hrun
set_option maxRecDepth 100000 in
theorem lookB_no (H : MHolds encB D O) (hown : W.ownsMap Tryd.prog 3 elemB b n D) (hk : iW k) (hn : k ∉ O.map (·.1)) : (Instr.lookup 45 (.map (some b)) (.int .i64 k) true).run Tryd.prog W = .ok (.tuple #[.bool false, .bool false]) W := by
  obtain ⟨v, ps, hrun, hv⟩ := hown.look_ok lawInt Tryd.underlying45 (zeroB W) (elemB_mk _) (keyB hk)
  rw [Maps.atKey_of_not_has (H.none (k := k) hk hn)] at hv
  obtain ⟨s', rfl, e⟩ := elemB_inv hv
  injection e with e _
  have e1 : _ = s' := encB.dinj e
  subst e1
  rw [H.none (k := k) hk hn] at hrun
  exact hrun
theorem lenB (H : MHolds encB D O) (hown : W.ownsMap Tryd.prog 3 elemB b n D) (ty : TypeId) : (Builtin.len_ #[45] ty #[.map (some b)]).run Tryd.prog W = .ok (.int .i64 O.length) W := by
  have := hown.len Tryd.underlying45 ty
  rwa [H.size] at this
theorem storeB_new (H : MHolds encB D O) (hown : W.ownsMap Tryd.prog 3 elemB b O.length D) (hl : O.length < maxLen) (hk : iW k) (hn : k ∉ O.map (·.1)) :
    ∃ W', (Instr.mapUpdate 45 (.map (some b)) (.int .i64 k) (.bool f)).run Tryd.prog W = .ok () W' ∧ W'.ownsMap Tryd.prog 3 elemB b (O ++ [(k, f)]).length (D.put (encB.kl k) (encB.fd f)) ∧ Only [b] W W' := by
  obtain ⟨W', h1, h2, h3⟩ := hown.store lawInt Tryd.underlying45 hl (keyB hk) (elemB_mk _)
  have h4 := own_tightB h2
  rw [(H.new (f := f) hk hn).size] at h4
  exact ⟨W', h1, h4, Only.of_grown h3.grown (fun k hk _ => by injection hk with hk; simp [hk])⟩
theorem dropB (H : MHolds encB D O) (hown : W.ownsMap Tryd.prog 3 elemB b O.length D) (hp : (k, f) ∈ O) (ty : TypeId) :
    ∃ W', (Builtin.delete_ #[45, 3] ty #[.map (some b), .int .i64 k]).run Tryd.prog W = .ok (.tuple #[]) W' ∧ W'.ownsMap Tryd.prog 3 elemB b (outV O k).length (D.del (encB.kl k)) ∧ Only [b] W W' := by
  obtain ⟨W', h1, h2, h3⟩ := hown.drop lawInt Tryd.underlying45 (keyB (H.wf _ hp)) ty
  have h4 := own_tightB h2
  rw [(H.del hp).size] at h4
  exact ⟨W', h1, h4, Only.of_grown h3.grown (fun k hk _ => by injection hk with hk; simp [hk])⟩
end
end Go.Proofs.YtgoaebikgdecoaaDoor
