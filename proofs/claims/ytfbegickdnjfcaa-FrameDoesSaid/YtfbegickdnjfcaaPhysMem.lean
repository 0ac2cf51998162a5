/-
  What every call of a memory (parapet/phys) that New or Fork made comes to, in terms of the bytes that it holds.
  'IsMem w g d cap xs r': the struct lies in block g, its bytes are the list xs in block d, of capacity cap; r is what lies in the room behind them.
-/
import Derived.Test.YtfbegickdnjfcaaPhysNil
namespace Go.Proofs.Ytfbegickdnjfcaa
open Go.ChangeShapes Go.WideShapes Go.ChangeAt Go.RowKit
set_option linter.unusedVariables false

/-- A struct of one field, a slice of bytes, in block g (of type T), whose bytes are the list xs in block d, of capacity cap; r: what lies in the room behind them. -/
structure IsBuf (T : TypeId) (w : World) (g d cap : Nat) (xs : List Int) (r : List Value) : Prop where
  mem : Blk w g T #[.slice (some ⟨d, 0, none⟩) xs.length cap]
  row : Blk w d 5 (u8l xs ++ r).toArray
  cap : xs.length + r.length = cap
  pos : 0 < xs.length
  mul : xs.length % 256 = 0
  big : xs.length ≤ 1048576
  tne : T ≠ 5

section
variable {T : TypeId} {w w' : World} {g d cap : Nat} {xs : List Int} {r : List Value} {S : List Nat}
theorem IsBuf.cell0 (h : IsBuf T w g d cap xs r) : w.cell? ⟨g, 0, none⟩ = some (.slice (some ⟨d, 0, none⟩) xs.length cap) := by
  rw [h.mem.cell]; rfl
theorem IsBuf.byte (h : IsBuf T w g d cap xs r) {i : Nat} (hi : i < xs.length) : w.cell? ⟨d, i, none⟩ = some (.int .u8 (gb xs i)) := by
  rw [h.row.cell]; exact u8l_get xs r i hi
theorem IsBuf.free (h : IsBuf T w g d cap xs r) (i : Nat) : w.frozen? ⟨d, i, none⟩ = false := h.row.frozen i
theorem IsBuf.le (h : IsBuf T w g d cap xs r) : xs.length ≤ cap := by have := h.cap; omega
theorem IsBuf.only (h : IsBuf T w g d cap xs r) (ho : Only S w w') (hg : g ∉ S) (hd : d ∉ S) : IsBuf T w' g d cap xs r :=
  ⟨h.mem.only ho hg, h.row.only ho hd, h.cap, h.pos, h.mul, h.big, h.tne⟩
theorem IsBuf.drewN (h : IsBuf T w g d cap xs r) (n : Nat) : IsBuf T (w.drewN n) g d cap xs r := ⟨h.mem.drewN n, h.row.drewN n, h.cap, h.pos, h.mul, h.big, h.tne⟩
theorem IsBuf.alloc (h : IsBuf T w g d cap xs r) (o : Obj) : IsBuf T (w.alloc o) g d cap xs r := ⟨h.mem.alloc o, h.row.alloc o, h.cap, h.pos, h.mul, h.big, h.tne⟩
theorem IsBuf.ne (h : IsBuf T w g d cap xs r) : g ≠ d := h.mem.ne_ h.row h.tne
theorem IsBuf.lt (h : IsBuf T w g d cap xs r) : g < w.heap.size ∧ d < w.heap.size := ⟨h.mem.lt, h.row.lt⟩
/-- A byte is set. -/
theorem IsBuf.set (h : IsBuf T w g d cap xs r) {i : Nat} (hi : i < xs.length) (x : Int) : IsBuf T (w.setCell ⟨d, i, none⟩ (.int .u8 x)) g d cap (xs.set i x) r := by
  have hl : (xs.set i x).length = xs.length := List.length_set
  refine ⟨?_, ?_, by rw [hl]; exact h.cap, by rw [hl]; exact h.pos, by rw [hl]; exact h.mul, by rw [hl]; exact h.big, h.tne⟩
  · rw [hl]; exact h.mem.far (p := ⟨d, i, none⟩) h.ne _
  · have := h.row.set_ i (.int .u8 x)
    rw [u8l_set xs r i x hi] at this
    exact this
/-- A row of bytes is laid over. -/
theorem IsBuf.lay (h : IsBuf T w g d cap xs r) {i : Nat} (ys : List Int) (hi : i + ys.length ≤ xs.length) :
    IsBuf T (w.setRow d ((u8l xs ++ r).toArray.toList.take i ++ (u8l ys ++ (u8l xs ++ r).toArray.toList.drop (i + (u8l ys).length))).toArray) g d cap (Go.splice xs i ys) r := by
  have hl : (Go.splice xs i ys).length = xs.length := length_splice xs i ys hi
  have e : (u8l xs ++ r).toArray.toList.take i ++ (u8l ys ++ (u8l xs ++ r).toArray.toList.drop (i + (u8l ys).length)) = u8l (Go.splice xs i ys) ++ r := by
    have h1 : i ≤ (u8l xs).length := by rw [u8l_length]; omega
    have h2 : i + (u8l ys).length ≤ (u8l xs).length := by rw [u8l_length, u8l_length]; omega
    show (u8l xs ++ r).take i ++ (u8l ys ++ (u8l xs ++ r).drop (i + (u8l ys).length)) = _
    rw [List.take_append_of_le_length h1, List.drop_append_of_le_length h2]
    simp [u8l, Go.splice, List.map_take, List.map_drop]
  rw [e]
  exact ⟨by rw [hl]; exact h.mem.rowFar h.ne _, h.row.row _, by rw [hl]; exact h.cap, by rw [hl]; exact h.pos, by rw [hl]; exact h.mul, by rw [hl]; exact h.big, h.tne⟩
end

/-- A memory of parapet/phys. -/
abbrev IsMem := IsBuf 53

theorem span_ok {w : World} {g d cap : Nat} {xs : List Int} {r : List Value} (hm : IsMem w g d cap xs r) (a n : Int) (ha : 0 ≤ a) (hn : 0 < n) (han : a + n ≤ xs.length) :
    Calls Try.prog 44 #[.pointer (some ⟨g, 0, none⟩), .int .i64 a, .int .i64 n] w fun e w' => e = .returned (.tuple #[.slice (some ⟨d, a.toNat, none⟩) n.toNat n.toNat, .int .i64 0]) ∧ w = w' := by
  have hc := hm.cell0
  have h0 := hm.pos
  have h1 := hm.le
  have h2 := hm.big
  have hz : ((xs.length : Int) == 0) = false := beq_eq_false_iff_ne.2 (by omega)
  have he : (a + n).toNat - a.toNat = n.toNat := by omega
  have HE := hide he
  clear he
  go_enter Try.func44, Try.ntmps44
  go_wp2_with (go_at_call 42; refine (closed_mem _ _ _ _ _ hc h0 h2).mono ?_; rintro e w' ⟨rfl, rfl⟩)
  go_ret2
  exact ⟨by rw [HE.out]; rfl, rfl⟩

theorem span_nought {w : World} {g d cap : Nat} {xs : List Int} {r : List Value} (hm : IsMem w g d cap xs r) (a : Int) (ha : 0 ≤ a) (han : a ≤ xs.length) :
    Calls Try.prog 44 #[.pointer (some ⟨g, 0, none⟩), .int .i64 a, .int .i64 0] w fun e w' => e = .returned (.tuple #[.slice (some ⟨d, 0, none⟩) 0 0, .int .i64 0]) ∧ w = w' := by
  have hc := hm.cell0
  have h0 := hm.pos
  have h1 := hm.le
  have h2 := hm.big
  have hz : ((xs.length : Int) == 0) = false := beq_eq_false_iff_ne.2 (by omega)
  go_enter Try.func44, Try.ntmps44
  go_wp2_with (go_at_call 42; refine (closed_mem _ _ _ _ _ hc h0 h2).mono ?_; rintro e w' ⟨rfl, rfl⟩)
  go_ret2
  exact ⟨by simp, rfl⟩

theorem span_bad {w : World} {g d cap : Nat} {xs : List Int} {r : List Value} (hm : IsMem w g d cap xs r) (a n : Int)
    (han : a < 0 ∨ n < 0 ∨ (0 ≤ a ∧ xs.length < a + n)) :
    Calls Try.prog 44 #[.pointer (some ⟨g, 0, none⟩), .int .i64 a, .int .i64 n] w fun e w' => e = .returned (.tuple #[.slice none 0 0, .int .i64 10]) ∧ w = w' := by
  have hc := hm.cell0
  have h0 := hm.pos
  have h1 := hm.le
  have h2 := hm.big
  have hz : ((xs.length : Int) == 0) = false := beq_eq_false_iff_ne.2 (by omega)
  by_cases ha : a < 0
  · clear han
    go_enter Try.func44, Try.ntmps44
    go_wp2_with (go_at_call 42; refine (closed_mem _ _ _ _ _ hc h0 h2).mono ?_; rintro e w' ⟨rfl, rfl⟩)
    go_ret2
    exact ⟨rfl, rfl⟩
  · by_cases hal : (xs.length : Int) < a
    · clear han
      go_enter Try.func44, Try.ntmps44
      go_wp2_with (go_at_call 42; refine (closed_mem _ _ _ _ _ hc h0 h2).mono ?_; rintro e w' ⟨rfl, rfl⟩)
      go_ret2
      exact ⟨rfl, rfl⟩
    · by_cases hn : n < 0
      · clear han
        go_enter Try.func44, Try.ntmps44
        go_wp2_with (go_at_call 42; refine (closed_mem _ _ _ _ _ hc h0 h2).mono ?_; rintro e w' ⟨rfl, rfl⟩)
        go_ret2
        exact ⟨rfl, rfl⟩
      · have hh : (xs.length : Int) < a + n := by omega
        clear han
        go_enter Try.func44, Try.ntmps44
        go_wp2_with (go_at_call 42; refine (closed_mem _ _ _ _ _ hc h0 h2).mono ?_; rintro e w' ⟨rfl, rfl⟩)
        go_ret2
        exact ⟨rfl, rfl⟩

/-- The number of the word whose first byte stands at i, its lowest byte first. -/
def word (xs : List Int) (i : Nat) : Int := gb xs i + 256 * gb xs (i + 1) + 65536 * gb xs (i + 2) + 16777216 * gb xs (i + 3)
/-- A word is set. -/
def putw (xs : List Int) (i : Nat) (x : Int) : List Int := (((xs.set i (x % 256)).set (i + 1) (x / 256 % 256)).set (i + 2) (x / 65536 % 256)).set (i + 3) (x / 16777216)
theorem length_putw (xs : List Int) (i : Nat) (x : Int) : (putw xs i x).length = xs.length := by simp [putw]
theorem U8.putw {xs : List Int} (h : U8 xs) (i : Nat) {x : Int} (h0 : 0 ≤ x) (h1 : x ≤ 4294967295) : U8 (putw xs i x) :=
  (((h.set i (by omega)).set (i + 1) (by omega)).set (i + 2) (by omega)).set (i + 3) (by omega)

theorem or4 (x0 x1 x2 x3 : Int) (b0 : 0 ≤ x0 ∧ x0 ≤ 255) (b1 : 0 ≤ x1 ∧ x1 ≤ 255) (b2 : 0 ≤ x2 ∧ x2 ≤ 255) (b3 : 0 ≤ x3 ∧ x3 ≤ 255) :
    bits .or .u32 (bits .or .u32 (bits .or .u32 x0 (x1 * 256)) (x2 * 65536)) (x3 * 16777216) = x0 + 256 * x1 + 65536 * x2 + 16777216 * x3 := by
  obtain ⟨a0, rfl⟩ := Int.eq_ofNat_of_zero_le b0.1
  obtain ⟨a1, rfl⟩ := Int.eq_ofNat_of_zero_le b1.1
  obtain ⟨a2, rfl⟩ := Int.eq_ofNat_of_zero_le b2.1
  obtain ⟨a3, rfl⟩ := Int.eq_ofNat_of_zero_le b3.1
  have h0 : a0 < 256 := by omega
  have h1 : a1 < 256 := by omega
  have h2 : a2 < 256 := by omega
  have h3 : a3 < 256 := by omega
  have e1 : bits .or .u32 (a0 : Int) ((a1 : Int) * 256) = ((256 * a1 + a0 : Nat) : Int) := by
    have := u32_or_nat a0 (a1 * 256) (by omega) (by omega)
    have e : (a0 ||| a1 * 256) = 256 * a1 + a0 := by
      rw [Nat.or_comm, Nat.mul_comm]
      exact (Nat.two_pow_add_eq_or_of_lt (i := 8) h0 a1).symm
    rw [e] at this
    rw [← this]
    congr 1
  have e2 : bits .or .u32 ((256 * a1 + a0 : Nat) : Int) ((a2 : Int) * 65536) = ((65536 * a2 + (256 * a1 + a0) : Nat) : Int) := by
    have := u32_or_nat (256 * a1 + a0) (a2 * 65536) (by omega) (by omega)
    have e : ((256 * a1 + a0) ||| a2 * 65536) = 65536 * a2 + (256 * a1 + a0) := by
      rw [Nat.or_comm, Nat.mul_comm a2]
      exact (Nat.two_pow_add_eq_or_of_lt (i := 16) (by omega) a2).symm
    rw [e] at this
    rw [← this]
    congr 1
  have e3 : bits .or .u32 ((65536 * a2 + (256 * a1 + a0) : Nat) : Int) ((a3 : Int) * 16777216) = ((16777216 * a3 + (65536 * a2 + (256 * a1 + a0)) : Nat) : Int) := by
    have := u32_or_nat (65536 * a2 + (256 * a1 + a0)) (a3 * 16777216) (by omega) (by omega)
    have e : ((65536 * a2 + (256 * a1 + a0)) ||| a3 * 16777216) = 16777216 * a3 + (65536 * a2 + (256 * a1 + a0)) := by
      rw [Nat.or_comm, Nat.mul_comm a3]
      exact (Nat.two_pow_add_eq_or_of_lt (i := 24) (by omega) a3).symm
    rw [e] at this
    rw [← this]
    congr 1
  rw [e1, e2, e3]
  omega



end Go.Proofs.Ytfbegickdnjfcaa