/-
  The names of a path, plainly: what lies between the bytes 47; that the library's FieldsFunc finds the same; the document's loop.
-/
import Derived.Lib.FieldsP
import Derived.Lib.MapLaws
import Derived.Lib.IndexLaws
import Derived.Test.YtkeoiohdohjdfaaNcSplit
namespace Go.Proofs.Ytkeoiohdohjdfaa
open Go.Lib
set_option linter.unusedVariables false
set_option linter.unusedSimpArgs false
def mkB (l : List UInt8) : ByteArray := ⟨l.toArray⟩
/-- What lies between the bytes 47; name: what was read of the first. -/
def fldB : List UInt8 → List UInt8 → List (List UInt8)
  | [], name => if name = [] then [] else [name]
  | c :: t, name => if c = 47 then (if name = [] then fldB t [] else name :: fldB t []) else fldB t (name ++ [c])
theorem fldB_skip : ∀ (cs t name : List UInt8), (∀ c ∈ cs, c ≠ 47) → fldB (cs ++ t) name = fldB t (name ++ cs)
  | [], t, name, _ => by simp
  | c :: cs, t, name, h => by
    rw [List.cons_append, fldB, if_neg (h c (by simp)), fldB_skip cs t (name ++ [c]) (fun x hx => h x (by simp [hx]))]
    simp
theorem fldB_end {name : List UInt8} (h : name ≠ []) : fldB [] name = [name] := by rw [fldB, if_neg h]
theorem fldB_cut {t name : List UInt8} (h : name ≠ []) : fldB (47 :: t) name = name :: fldB t [] := by rw [fldB, if_pos rfl, if_neg h]
theorem toNat47 {c : UInt8} : c.toNat = 47 ↔ c = 47 := ⟨fun h => by
  have : UInt8.ofNat c.toNat = UInt8.ofNat 47 := by rw [h]
  simpa using this, fun h => by subst h; rfl⟩
/-- One rune of a text. -/
theorem dec47 (s : ByteArray) (pos : Nat) (h : pos < s.data.toList.length) :
    ((Utf8.decode s pos).1 = 47 → s.data.toList.getD pos 0 = 47 ∧ (Utf8.decode s pos).2 = 1) ∧ ((Utf8.decode s pos).1 ≠ 47 → ∀ j, j < (Utf8.decode s pos).2 → s.data.toList.getD (pos + j) 0 ≠ 47) ∧ 1 ≤ (Utf8.decode s pos).2 ∧ pos + (Utf8.decode s pos).2 ≤ s.data.toList.length := by
  rw [decode_N]
  generalize s.data.toList = l at *
  have e0 : (l.getD pos 0).toNat = 47 ↔ l.getD pos 0 = 47 := toNat47
  have e1 : (l.getD (pos + 1) 0).toNat = 47 ↔ l.getD (pos + 1) 0 = 47 := toNat47
  have e2 : (l.getD (pos + 2) 0).toNat = 47 ↔ l.getD (pos + 2) 0 = 47 := toNat47
  have e3 : (l.getD (pos + 3) 0).toNat = 47 ↔ l.getD (pos + 3) 0 = 47 := toNat47
  rcases decodeN_shape (l.length - pos) (l.getD pos 0).toNat (l.getD (pos + 1) 0).toNat (l.getD (pos + 2) 0).toNat (l.getD (pos + 3) 0).toNat with ⟨c, e⟩ | ⟨c1, c2, c3, cv, e⟩ | ⟨c1, c2, c3, c4, cv, cs, e⟩ | ⟨c1, c2, c3, c4, c5, cv, cw, e⟩ | e
  · rw [e]
    refine ⟨fun h => ⟨e0.1 h, rfl⟩, fun h j hj => ?_, Nat.le_refl _, by simp only; omega⟩
    obtain rfl : j = 0 := by simp only at hj; omega
    exact fun q => h (e0.2 q)
  · rw [e]
    refine ⟨fun h => ?_, fun h j hj => ?_, by simp, by simp only; omega⟩
    · simp only at h; omega
    · simp only at hj
      have : j = 0 ∨ j = 1 := by omega
      rcases this with rfl | rfl
      · exact fun q => by have := e0.2 q; omega
      · exact fun q => by have := e1.2 q; omega
  · rw [e]
    refine ⟨fun h => ?_, fun h j hj => ?_, by simp, by simp only; omega⟩
    · simp only at h; omega
    · simp only at hj
      have : j = 0 ∨ j = 1 ∨ j = 2 := by omega
      rcases this with rfl | rfl | rfl
      · exact fun q => by have := e0.2 q; omega
      · exact fun q => by have := e1.2 q; omega
      · exact fun q => by have := e2.2 q; omega
  · rw [e]
    refine ⟨fun h => ?_, fun h j hj => ?_, by simp, by simp only; omega⟩
    · simp only at h; omega
    · simp only at hj
      have : j = 0 ∨ j = 1 ∨ j = 2 ∨ j = 3 := by omega
      rcases this with rfl | rfl | rfl | rfl
      · exact fun q => by have := e0.2 q; omega
      · exact fun q => by have := e1.2 q; omega
      · exact fun q => by have := e2.2 q; omega
      · exact fun q => by have := e3.2 q; omega
  · by_cases h0 : (l.getD pos 0).toNat < 128
    · have ed : decodeN (l.length - pos) (l.getD pos 0).toNat (l.getD (pos + 1) 0).toNat (l.getD (pos + 2) 0).toNat (l.getD (pos + 3) 0).toNat = ((l.getD pos 0).toNat, 1) := by unfold decodeN; rw [if_pos h0]
      rw [ed] at e
      injection e with e _
      omega
    · rw [e]
      refine ⟨fun h => ?_, fun h j hj => ?_, Nat.le_refl _, by simp only; omega⟩
      · simp at h
      · obtain rfl : j = 0 := by simp only at hj; omega
        exact fun q => by have := e0.2 q; omega
def nameOf (l : List UInt8) : Option Nat → Nat → List UInt8
  | some a, pos => (l.drop a).take (pos - a)
  | none, _ => []
theorem ext_eq (s : ByteArray) (a b : Nat) : s.extract a b = mkB ((s.data.toList.drop a).take (b - a)) := by
  apply ByteArray.ext
  apply Array.toList_inj.1
  simp [mkB]
theorem take_more (l : List UInt8) (a pos n : Nat) (h : a ≤ pos) : (l.drop a).take (pos + n - a) = (l.drop a).take (pos - a) ++ (l.drop pos).take n := by
  rw [show pos + n - a = (pos - a) + n from by omega, List.take_add, List.drop_drop, show a + (pos - a) = pos from by omega]
theorem spans_fld (s : ByteArray) : ∀ (f pos : Nat) (st : Option Nat) (acc : List (Nat × Nat)), s.data.toList.length - pos ≤ f → pos ≤ s.data.toList.length → (∀ a, st = some a → a < pos) →
    (closeSpans s (spansFromP p47 s f pos st acc)).map (fun x => s.extract x.1 x.2) = acc.map (fun x => s.extract x.1 x.2) ++ (fldB (s.data.toList.drop pos) (nameOf s.data.toList st pos)).map mkB := by
  have hsz : s.size = s.data.toList.length := size_eq s
  have hend : ∀ (pos : Nat) (st : Option Nat) (acc : List (Nat × Nat)), pos = s.data.toList.length → (∀ a, st = some a → a < pos) →
      (closeSpans s (acc, st)).map (fun x => s.extract x.1 x.2) = acc.map (fun x => s.extract x.1 x.2) ++ (fldB (s.data.toList.drop pos) (nameOf s.data.toList st pos)).map mkB := by
    intro pos st acc hp ha
    subst hp
    rw [List.drop_length]
    cases st with
    | none => simp [closeSpans, nameOf, fldB]
    | some a =>
      have h1 := ha a rfl
      have hne : nameOf s.data.toList (some a) s.data.toList.length ≠ [] := by
        intro e
        have e : (s.data.toList.drop a).take (s.data.toList.length - a) = [] := e
        have := congrArg List.length e
        rw [List.length_take, List.length_drop] at this
        simp at this
        simp at h1
        omega
      rw [fldB_end hne]
      simp only [closeSpans, nameOf, List.map_append, List.map_cons, List.map_nil, hsz, ext_eq]
  intro f
  induction f with
  | zero =>
    intro pos st acc hf hp ha
    rw [show spansFromP p47 s 0 pos st acc = (acc, st) from rfl]
    exact hend pos st acc (by omega) ha
  | succ f ih =>
    intro pos st acc hf hp ha
    by_cases hlt : pos < s.data.toList.length
    · obtain ⟨d1, d2, d3, d4⟩ := dec47 s pos hlt
      have hdrop : s.data.toList.drop pos = (s.data.toList.drop pos).take (Utf8.decode s pos).2 ++ s.data.toList.drop (pos + (Utf8.decode s pos).2) := by
        rw [← List.drop_drop, List.take_append_drop]
      have hstep : spansFromP p47 s (f + 1) pos st acc = (if p47 (Utf8.decode s pos).1 then
          (match st with
           | some a => spansFromP p47 s f (pos + (Utf8.decode s pos).2) none (acc ++ [(a, pos)])
           | none => spansFromP p47 s f (pos + (Utf8.decode s pos).2) none acc)
         else
          (match st with
           | some a => spansFromP p47 s f (pos + (Utf8.decode s pos).2) (some a) acc
           | none => spansFromP p47 s f (pos + (Utf8.decode s pos).2) (some pos) acc)) := by
        show (if pos < s.size then _ else _) = _
        rw [if_pos (by rw [hsz]; exact hlt)]
        cases st <;> rfl
      rw [hstep]
      by_cases h47 : (Utf8.decode s pos).1 = 47
      · obtain ⟨g1, g2⟩ := d1 h47
        rw [if_pos (by unfold p47; rw [h47]; rfl)]
        have hl : s.data.toList.drop pos = 47 :: s.data.toList.drop (pos + 1) := by
          rw [List.drop_eq_getElem_cons hlt]
          congr 1
          rw [List.getD_eq_getElem?_getD, List.getElem?_eq_getElem hlt] at g1
          exact g1
        rw [g2]
        cases st with
        | none =>
          simp only
          rw [ih (pos + 1) none acc (by omega) (by omega) (fun a e => by cases e), hl]
          simp [nameOf, fldB]
        | some a =>
          have h1 := ha a rfl
          have hne : nameOf s.data.toList (some a) pos ≠ [] := by
            intro e
            have e : (s.data.toList.drop a).take (pos - a) = [] := e
            have := congrArg List.length e
            rw [List.length_take, List.length_drop] at this
            simp at this
            simp at hlt
            omega
          simp only
          rw [ih (pos + 1) none (acc ++ [(a, pos)]) (by omega) (by omega) (fun a e => by cases e), hl, fldB_cut hne]
          simp only [nameOf, List.map_append, List.map_cons, List.map_nil, ext_eq, List.append_assoc, List.cons_append, List.nil_append]
      · have hg := d2 h47
        rw [if_neg (by unfold p47; simpa using h47)]
        have hcs : ∀ c ∈ (s.data.toList.drop pos).take (Utf8.decode s pos).2, c ≠ 47 := by
          intro c hc
          obtain ⟨j, hj, e⟩ := List.mem_iff_getElem.1 hc
          rw [List.length_take, List.length_drop] at hj
          have hj2 := hg j (by omega)
          rw [List.getElem_take, List.getElem_drop] at e
          rw [List.getD_eq_getElem?_getD, List.getElem?_eq_getElem (by omega)] at hj2
          rw [← e]
          exact hj2
        rw [hdrop, fldB_skip _ _ _ hcs]
        cases st with
        | none =>
          simp only
          rw [ih _ (some pos) acc (by omega) d4 (fun a e => by injection e with e; omega)]
          simp [nameOf]
        | some a =>
          have h1 := ha a rfl
          simp only
          rw [ih _ (some a) acc (by omega) d4 (fun a' e => by injection e with e; omega)]
          simp only [nameOf]
          rw [take_more _ _ _ _ (by omega)]
    · have hpe : pos = s.data.toList.length := by omega
      have hstep : spansFromP p47 s (f + 1) pos st acc = (acc, st) := spansFromP_end p47 s (f + 1) pos st acc (by rw [hsz]; exact hlt)
      rw [hstep]
      exact hend pos st acc hpe ha
/-- FieldsFunc at the byte 47. -/
theorem fields_eq (s : ByteArray) : goFieldsP p47 s = (fldB s.data.toList []).map mkB := by
  have h := spans_fld s s.size 0 none [] (by rw [size_eq]; omega) (Nat.zero_le _) (fun a e => by cases e)
  simpa [goFieldsP, spansOfP, nameOf] using h
end Go.Proofs.Ytkeoiohdohjdfaa
