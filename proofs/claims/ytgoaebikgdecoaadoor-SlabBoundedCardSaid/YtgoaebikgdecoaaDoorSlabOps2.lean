/-
  Slabs (parapet/slab): Room, Live of a heap made behind a world; the law's map at keys that it has not.
-/
import Derived.Test.YtgoaebikgdecoaaDoorSlabBack3
import Derived.Test.YtgoaebikgdecoaaDoorSlabMapB
import Derived.Test.YtgoaebikgdecoaaDoorSlabReservedWalk
namespace Go.Proofs.YtgoaebikgdecoaaDoor
open Go.ChangeShapes Go.WideShapes Go.ChangeAt Go.RowKit Go.Maps
set_option linter.unusedVariables false

section
variable {w0 w w' : World} {g m : Nat} {L : Int} {ss : List SL} {O : List (Int × Int)}
theorem hp_room (hT : TabS w0) (h : Hp8 w0 w g m L ss O) (k : Int) : Calls Tryd.prog 20 #[.pointer (some ⟨g, 0, none⟩), .int .i64 k] w fun e w' => e = .returned (.int .i64 (roomF L ss k)) ∧ Hp8 w0 w' g m L ss O ∧ Only [] w w' := by
  have h' := h
  obtain ⟨v, h1, h2, h3, h4, h5, h6⟩ := h
  refine (hRoom_is h1 h2 (hT.only h6 (by simp)) k).mono ?_
  rintro e w' ⟨rfl, ho⟩
  exact ⟨rfl, h'.only ho, ho⟩
theorem hp_live (h : Hp8 w0 w g m L ss O) : Calls Tryd.prog 19 #[.pointer (some ⟨g, 0, none⟩)] w fun e w' => e = .returned (.int .i64 O.length) ∧ w = w' := by
  obtain ⟨v, h1, _⟩ := h
  exact hLive_is h1
end
section
variable {W : World} {b n : Nat} {D : DataW Unit} {O : List (Int × Bool)} {k : Int} {f : Bool}
set_option maxRecDepth 100000 in
theorem lookB_out (H : MHolds encB D O) (hown : W.ownsMap Tryd.prog 3 elemB b n D) (hk : iW k) (hn : k ∉ O.map (·.1)) : (Instr.lookup 45 (.map (some b)) (.int .i64 k) false).run Tryd.prog W = .ok (.bool false) W := by
  obtain ⟨v, ps, hrun, hv⟩ := hown.lookup lawInt Tryd.underlying45 (zeroB W) (elemB_mk _) (keyB hk)
  rw [Maps.atKey_of_not_has (H.none (k := k) hk hn)] at hv
  obtain ⟨s', rfl, e⟩ := elemB_inv hv
  injection e with e _
  have e1 : _ = s' := encB.dinj e
  subst e1
  exact hrun
theorem dropB_no (H : MHolds encB D O) (hown : W.ownsMap Tryd.prog 3 elemB b O.length D) (hk : iW k) (hn : k ∉ O.map (·.1)) (ty : TypeId) :
    ∃ W', (Builtin.delete_ #[45, 3] ty #[.map (some b), .int .i64 k]).run Tryd.prog W = .ok (.tuple #[]) W' ∧ W'.ownsMap Tryd.prog 3 elemB b O.length D ∧ Only [b] W W' := by
  obtain ⟨W', h1, h2, h3⟩ := hown.drop lawInt Tryd.underlying45 (keyB hk) ty
  rw [Maps.del_of_not_has (show Maps.has D (encB.kl k) = false from H.none (k := k) hk hn)] at h2
  exact ⟨W', h1, h2, Only.of_grown h3.grown (fun k hk _ => by injection hk with hk; simp [hk])⟩
end
end Go.Proofs.YtgoaebikgdecoaaDoor
