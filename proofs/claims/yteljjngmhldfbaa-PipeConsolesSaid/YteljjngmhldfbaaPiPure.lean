/-
  The pipe (parapet/pipe), plainly: a ring of 512 bytes, and the bytes that it holds.
-/
import Derived.Test.YteljjngmhldfbaaAppendNew
namespace Go.Proofs.Yteljjngmhldfbaa
open Go.ChangeShapes Go.WideShapes Go.ChangeAt Go.RowKit
set_option linter.unusedVariables false

theorem gb_ext {xs ys : List Int} (hl : xs.length = ys.length) (h : ∀ i, i < xs.length → gb xs i = gb ys i) : xs = ys := by
  apply List.ext_getElem hl
  intro i h1 h2
  have := h i h1
  simpa [gb, List.getD, List.getElem?_eq_getElem h1, List.getElem?_eq_getElem h2] using this
theorem gb_take {xs : List Int} {n i : Nat} (h : i < n) : gb (xs.take n) i = gb xs i := by
  unfold gb
  simp [List.getD, h]
theorem gb_drop (xs : List Int) (n i : Nat) : gb (xs.drop n) i = gb xs (n + i) := by
  unfold gb
  simp [List.getD, List.getElem?_drop]
theorem gb_app_l {xs ys : List Int} {i : Nat} (h : i < xs.length) : gb (xs ++ ys) i = gb xs i := by
  unfold gb
  simp [List.getD, List.getElem?_append_left h]
theorem gb_app_r {xs ys : List Int} {i : Nat} (h : xs.length ≤ i) : gb (xs ++ ys) i = gb ys (i - xs.length) := by
  unfold gb
  simp [List.getD, List.getElem?_append_right h]
theorem gb_splice {L cs : List Int} {o i : Nat} (h : o + cs.length ≤ L.length) : gb (Go.splice L o cs) i = if o ≤ i ∧ i < o + cs.length then gb cs (i - o) else gb L i := by
  have hl : (L.take o).length = o := by rw [List.length_take]; omega
  unfold Go.splice
  by_cases h1 : i < o
  · rw [gb_app_l (by rw [hl]; exact h1), gb_take h1, if_neg (by omega)]
  · rw [gb_app_r (by rw [hl]; omega), hl]
    by_cases h2 : i < o + cs.length
    · rw [gb_app_l (by omega), if_pos (by omega)]
    · rw [gb_app_r (by omega), gb_drop, if_neg (by omega)]
      congr 1
      omega
theorem u8_of_gb {xs : List Int} (h : ∀ i, i < xs.length → 0 ≤ gb xs i ∧ gb xs i ≤ 255) : U8 xs := by
  intro x hx
  obtain ⟨i, hi, rfl⟩ := List.getElem_of_mem hx
  have := h i hi
  simpa [gb, List.getD, List.getElem?_eq_getElem hi] using this

/-- The ring R, its first byte at f, holds the bytes B. -/
structure Ring (R : List Int) (f : Nat) (B : List Int) : Prop where
  len : R.length = 512
  u8 : U8 R
  at_ : f < 512
  few : B.length ≤ 512
  has : ∀ j, j < B.length → gb B j = gb R ((f + j) % 512)
section
variable {R B b : List Int} {f n : Nat}
theorem Ring.u8B (h : Ring R f B) : U8 B := u8_of_gb fun i hi => by rw [h.has i hi]; exact h.u8.get _
theorem Ring.new : Ring (List.replicate 512 0) 0 [] := ⟨List.length_replicate, U8.replicate _, by omega, Nat.zero_le _, fun j hj => absurd hj (Nat.not_lt_zero _)⟩
theorem Ring.take (h : Ring R f B) (hn : n ≤ B.length) : Ring R ((f + n) % 512) (B.drop n) := by
  refine ⟨h.len, h.u8, by omega, by rw [List.length_drop]; have := h.few; omega, fun j hj => ?_⟩
  rw [List.length_drop] at hj
  rw [gb_drop, h.has _ (by omega)]
  congr 1
  omega
/-- What two copies out of the ring leave. -/
theorem Ring.out (h : Ring R f B) (hn : n ≤ B.length) :
    Go.splice (Go.splice (List.replicate n 0) 0 ((R.drop f).take (min n (512 - f)))) (min n (512 - f)) (R.take (n - min n (512 - f))) = B.take n := by
  have h1 := h.len
  have h2 := h.at_
  have h3 := h.few
  have l1 : ((R.drop f).take (min n (512 - f))).length = min n (512 - f) := by rw [List.length_take, List.length_drop]; omega
  have l2 : (R.take (n - min n (512 - f))).length = n - min n (512 - f) := by rw [List.length_take]; omega
  have l3 : (Go.splice (List.replicate n 0) 0 ((R.drop f).take (min n (512 - f)))).length = n := by
    rw [length_splice _ _ _ (by rw [l1, List.length_replicate]; omega), List.length_replicate]
  have l4 : (Go.splice (Go.splice (List.replicate n 0) 0 ((R.drop f).take (min n (512 - f)))) (min n (512 - f)) (R.take (n - min n (512 - f)))).length = n := by
    rw [length_splice _ _ _ (by rw [l2, l3]; omega), l3]
  refine gb_ext (by rw [l4, List.length_take]; omega) fun i hi => ?_
  rw [l4] at hi
  rw [gb_take hi, h.has i (by omega), gb_splice (by rw [l2, l3]; omega), l2]
  by_cases hk : i < min n (512 - f)
  · rw [if_neg (by omega), gb_splice (by rw [l1, List.length_replicate]; omega), l1, if_pos (by omega), gb_take (by omega), gb_drop]
    congr 1
    omega
  · rw [if_pos (by omega), gb_take (by omega)]
    congr 1
    omega
/-- What two copies into the ring leave. -/
theorem Ring.put (h : Ring R f B) (hu : U8 b) (hb : B.length + b.length ≤ 512) :
    Ring (Go.splice (Go.splice R ((f + B.length) % 512) (b.take (min b.length (512 - (f + B.length) % 512)))) 0 (b.drop (min b.length (512 - (f + B.length) % 512)))) f (B ++ b) := by
  have h1 := h.len
  have h2 := h.at_
  have h3 := h.few
  generalize hs : (f + B.length) % 512 = s
  generalize hk : min b.length (512 - s) = k
  have hkb : k ≤ b.length := by omega
  have l1 : (b.take k).length = k := by rw [List.length_take]; omega
  have l2 : (b.drop k).length = b.length - k := by rw [List.length_drop]
  have l3 : (Go.splice R s (b.take k)).length = 512 := by rw [length_splice _ _ _ (by rw [l1]; omega), h1]
  have l4 : (Go.splice (Go.splice R s (b.take k)) 0 (b.drop k)).length = 512 := by rw [length_splice _ _ _ (by rw [l2, l3]; omega), l3]
  refine ⟨l4, (h.u8.splice (hu.take _) _).splice (hu.drop _) _, h2, by rw [List.length_append]; exact hb, fun j hj => ?_⟩
  rw [List.length_append] at hj
  rw [gb_splice (by rw [l2, l3]; omega), l2, gb_splice (by rw [l1]; omega), l1]
  by_cases hj1 : j < B.length
  · rw [gb_app_l hj1, h.has j hj1, if_neg (by omega), if_neg (by omega)]
  · rw [gb_app_r (by omega)]
    by_cases hj2 : j - B.length < k
    · rw [if_neg (by omega), if_pos (by omega), gb_take (by omega)]
      congr 1
      omega
    · rw [if_pos (by omega), gb_drop]
      congr 1
      omega
end

/-- A pipe's cells. -/
def pipeC (R : List Int) (f c : Nat) (r q : Int) : List Value := .bool true :: (u8l R ++ [.int .i64 f, .int .i64 c, .int .i64 r, .int .i64 q])
section
variable {R : List Int} {f c : Nat} {r q : Int}
theorem pipeC_length (h : R.length = 512) : (pipeC R f c r q).length = 517 := by simp [pipeC, u8l, h]
theorem pipeC_0 : (pipeC R f c r q).toArray[0]? = some (.bool true) := by simp [pipeC]
theorem pipeC_byte {i : Nat} (hi : i < R.length) : (pipeC R f c r q).toArray[1 + i]? = some (.int .u8 (gb R i)) := by
  rw [List.getElem?_toArray, pipeC, Nat.add_comm, List.getElem?_cons_succ, ← List.getElem?_toArray]
  exact u8l_get R _ i hi
set_option maxRecDepth 100000 in
theorem pipeC_far (h : R.length = 512) (i : Nat) : (pipeC R f c r q).toArray[513 + i]? = ([.int .i64 f, .int .i64 c, .int .i64 r, .int .i64 q] : List Value)[i]? := by
  rw [List.getElem?_toArray, pipeC, show 513 + i = (512 + i) + 1 by omega, List.getElem?_cons_succ, List.getElem?_append_right (by rw [u8l_length]; omega), u8l_length, h]
  congr 1
  omega
set_option maxRecDepth 100000 in
theorem pipeC_set (h : R.length = 512) (i : Nat) (x : Value) : (pipeC R f c r q).toArray.setIfInBounds (513 + i) x = (.bool true :: (u8l R ++ ([.int .i64 f, .int .i64 c, .int .i64 r, .int .i64 q] : List Value).set i x)).toArray := by
  rw [List.setIfInBounds_toArray, pipeC, show 513 + i = (512 + i) + 1 by omega, List.set_cons_succ, List.set_append_right _ _ (by rw [u8l_length]; omega), u8l_length, h]
  congr 4
  omega
theorem pipeC_lay (h : R.length = 512) (o : Nat) (ys : List Int) (ho : o + ys.length ≤ 512) : Go.splice (pipeC R f c r q) (1 + o) (u8l ys) = pipeC (Go.splice R o ys) f c r q := by
  have e1 : o ≤ (u8l R).length := by rw [u8l_length]; omega
  have e2 : o + (u8l ys).length ≤ (u8l R).length := by rw [u8l_length, u8l_length]; omega
  unfold Go.splice pipeC
  rw [Nat.add_comm 1 o, List.take_succ_cons, show o + 1 + (u8l ys).length = (o + (u8l ys).length) + 1 by omega, List.drop_succ_cons, List.take_append_of_le_length e1, List.drop_append_of_le_length e2]
  simp [u8l, List.map_take, List.map_drop]
end
end Go.Proofs.Yteljjngmhldfbaa
