/-
  A name (api.Name) as an argument: a number and a text.
-/
import Derived.Test.YtkjmbaoooeglkaaGreatDoorNmKey
import Derived.Test.YtkjmbaoooeglkaaGreatDoorRead
namespace Go.Proofs.YtkjmbaoooeglkaaGreatDoor
open Go.ChangeShapes Go.WideShapes Go.ChangeAt Go.RowKit
set_option linter.unusedVariables false
section
variable {H : Type} {enc : TypeId × Value → H} {w : World} {base : Nat} {d : DataW H}
set_option maxRecDepth 100000 in
theorem Rd.name {v : Value} (o : Value.okWide Tryz.prog w .any base 43 v) (h : Rd enc Tryz.prog w 43 v.cells.toList d) : ∃ k : NM, v = kV k ∧ k.wf := by
  obtain ⟨cs, rfl, hsz⟩ := okWide_struct Tryz.underlying43 o
  rw [show Tryz.prog.cellsOf 43 = 2 by kernel_rfl] at hsz
  obtain ⟨l⟩ := cs
  match l, hsz with
  | [c0, c1], _ =>
    obtain ⟨⟨n, ps, hn⟩, _⟩ := h
    obtain ⟨ys, n', _, _, hlen, hyl, hfs⟩ := DataW.trod_struct Tryz.underlying43 hn
    obtain ⟨x, e0, hx⟩ : ∃ x, c0 = .int .i64 x ∧ (Lit.int .i64 x).wf = true := by
      have hk : DataW.trod enc Tryz.prog w 0 (fun _ => true) true n' 3 (List.take (Tryz.prog.cellsOf 3) (List.drop 0 [c0, c1])) = ys[0]? := hfs 0 _ rfl
      rw [List.getElem?_eq_getElem (by rw [hyl]; decide), show Tryz.prog.cellsOf 3 = 1 by kernel_rfl] at hk
      obtain ⟨x, hx, _, hw⟩ := DataW.trod_int Tryz.underlying3 hk
      injection hx with hx _
      exact ⟨x, hx, hw⟩
    obtain ⟨y, e1, hy⟩ : ∃ y, c1 = .string y ∧ y.size ≤ maxLen := by
      have hk : DataW.trod enc Tryz.prog w 0 (fun _ => true) true n' 9 (List.take (Tryz.prog.cellsOf 9) (List.drop 1 [c0, c1])) = ys[1]? := hfs 1 _ rfl
      rw [List.getElem?_eq_getElem (by rw [hyl]; decide), show Tryz.prog.cellsOf 9 = 1 by kernel_rfl] at hk
      obtain ⟨y, hy, _, hw⟩ := DataW.trod_string Tryz.underlying9 hk
      injection hy with hy _
      exact ⟨y, hy, hw⟩
    subst e0 e1
    exact ⟨⟨x, y⟩, rfl, hx, hy⟩
end
end Go.Proofs.YtkjmbaoooeglkaaGreatDoor
