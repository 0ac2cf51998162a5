/-
  The cache of names: what ForgetDir does, plainly: name by name.
-/
import Derived.Test.YtjpojoflbjhjjaaNcPack
namespace Go.Proofs.Ytjpojoflbjhjjaa
open Go.ChangeShapes Go.WideShapes Go.ChangeAt Go.RowKit Go.Maps
set_option linter.unusedVariables false
set_option linter.unusedSimpArgs false
/-- The first i names of that directory are let go. -/
def CS.upto (p : CS) (dir : Int) (i : Nat) : CS :=
  { p with L := (p.L.take i).filter (fun e => !(e.key.dir == dir)) ++ p.L.drop i, s := { p.s with L := p.s.L ++ ((p.L.take i).filter (fun e => e.key.dir == dir)).map (fun e => (e.id, p.s.ep)) } }
def CS.forgetDir (p : CS) (dir : Int) : CS := p.upto dir p.L.length
section
variable {p : CS} {dir : Int} {i : Nat} {e : KE}
theorem CS.upto_zero (p : CS) (dir : Int) : p.upto dir 0 = p := by
  unfold CS.upto
  simp
theorem take_one_more {l : List KE} (hi : l[i]? = some e) : l.take (i + 1) = l.take i ++ [e] ∧ l.drop i = e :: l.drop (i + 1) := by
  obtain ⟨h1, rfl⟩ := List.getElem?_eq_some_iff.1 hi
  exact ⟨by rw [List.take_add_one, hi]; rfl, List.drop_eq_getElem_cons h1⟩
theorem CS.upto_at (hi : p.L[i]? = some e) : (p.upto dir i).L[((p.L.take i).filter (fun e => !(e.key.dir == dir))).length]? = some e := by
  show ((p.L.take i).filter (fun e => !(e.key.dir == dir)) ++ p.L.drop i)[_]? = _
  rw [List.getElem?_append_right (Nat.le_refl _), Nat.sub_self, (take_one_more hi).2]
  rfl
theorem CS.upto_yes (hi : p.L[i]? = some e) (h : (e.key.dir == dir) = true) : p.upto dir (i + 1) = (p.upto dir i).drop ((p.L.take i).filter (fun e => !(e.key.dir == dir))).length := by
  rw [CS.drop_some (CS.upto_at hi)]
  obtain ⟨t1, t2⟩ := take_one_more hi
  have e1 : (p.L.take (i + 1)).filter (fun e => !(e.key.dir == dir)) = (p.L.take i).filter (fun e => !(e.key.dir == dir)) := by
    rw [t1, List.filter_append]
    simp [h]
  have e2 : (p.L.take (i + 1)).filter (fun e => e.key.dir == dir) = (p.L.take i).filter (fun e => e.key.dir == dir) ++ [e] := by
    rw [t1, List.filter_append]
    simp [h]
  have e3 : ((p.L.take i).filter (fun e => !(e.key.dir == dir)) ++ p.L.drop i).eraseIdx ((p.L.take i).filter (fun e => !(e.key.dir == dir))).length = (p.L.take i).filter (fun e => !(e.key.dir == dir)) ++ p.L.drop (i + 1) := by
    rw [List.eraseIdx_append_of_length_le (Nat.le_refl _), Nat.sub_self, t2]
    rfl
  unfold CS.upto
  simp only [e1, e2, e3, List.map_append, List.map_cons, List.map_nil, List.append_assoc]
theorem CS.upto_no (hi : p.L[i]? = some e) (h : (e.key.dir == dir) = false) : p.upto dir (i + 1) = p.upto dir i := by
  obtain ⟨t1, t2⟩ := take_one_more hi
  have e1 : (p.L.take (i + 1)).filter (fun e => !(e.key.dir == dir)) = (p.L.take i).filter (fun e => !(e.key.dir == dir)) ++ [e] := by
    rw [t1, List.filter_append]
    simp [h]
  have e2 : (p.L.take (i + 1)).filter (fun e => e.key.dir == dir) = (p.L.take i).filter (fun e => e.key.dir == dir) := by
    rw [t1, List.filter_append]
    simp [h]
  unfold CS.upto
  simp only [e1, e2, t2, List.append_assoc, List.singleton_append]
theorem OkC.upto (h : OkC p) (dir : Int) : ∀ i, i ≤ p.L.length → OkC (p.upto dir i)
  | 0, _ => by rw [CS.upto_zero]; exact h
  | i + 1, hi => by
    have h1 := OkC.upto h dir i (by omega)
    have h2 : p.L[i]? = some p.L[i] := List.getElem?_eq_getElem (by omega)
    cases hd : (p.L[i].key.dir == dir) with
    | true => rw [CS.upto_yes h2 hd]; exact h1.drop (CS.upto_at h2)
    | false => rw [CS.upto_no h2 hd]; exact h1
/-- What is left has its names in the order that slices.DeleteFunc leaves. -/
theorem CS.forgetDir_keys (p : CS) (dir : Int) : (p.forgetDir dir).L.map KE.key = (p.L.map KE.key).filter (fun t => !(t.dir == dir)) := by
  unfold CS.forgetDir CS.upto
  simp only [List.take_length, List.drop_length, List.append_nil]
  rw [List.filter_map]
  rfl
end
end Go.Proofs.Ytjpojoflbjhjjaa
