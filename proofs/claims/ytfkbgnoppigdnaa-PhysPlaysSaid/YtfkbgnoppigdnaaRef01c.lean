/-
  What the calls of the document's own memory (parapetref01) come to: Write, frames, New.
-/
import Derived.Test.YtfkbgnoppigdnaaRef01b
import Derived.Test.YtfkbgnoppigdnaaAppendNew
namespace Go.Proofs.Ytfkbgnoppigdnaa
open Go.ChangeShapes Go.WideShapes Go.ChangeAt Go.RowKit
set_option linter.unusedVariables false

theorem made_u8 (n : Nat) : madeCells #[.int .u8 0] n = (u8l (List.replicate n 0) ++ ([] : List Value)).toArray := by
  apply Array.ext'
  rw [toList_madeCells_one]
  simp [u8l]
theorem sees_made (w : World) (n : Nat) : Sees (w.alloc (.cells (madeCells #[.int .u8 0] n) 5)) (some ⟨w.heap.size, 0, none⟩) n (List.replicate n 0) := by
  refine ⟨by simp, fun _ => ⟨w.heap.size, 0, rfl, by simp, fun i hi => ?_⟩⟩
  rw [Nat.zero_add, (Blk.new w 5 (madeCells #[.int .u8 0] n)).cell, made_u8]
  exact u8l_get _ _ i (by simpa using hi)

section
variable {w : World} {g d cap : Nat} {xs : List Int} {r : List Value} (hm : IsRef w g d cap xs r)
include hm

theorem rwrite_ok (a : Int) (A : Option Addr) (n c : Nat) (ys : List Int) (hy : Sees w A n ys) (hA : 0 < n → ∀ b, A = some b → b.block ≠ d) (ha : 0 ≤ a) (han : a + n ≤ xs.length) :
    Calls Try.prog 58 #[.pointer (some ⟨g, 0, none⟩), .int .i64 a, .slice A n c] w fun e w' => e = .returned (.int .i64 0) ∧ Only [d] w w' ∧ IsRef w' g d cap (Go.splice xs a.toNat ys) r := by
  have HT := hide (there_yes hm a n ha (by omega) han)
  have h2 := hm.big
  have HYL := hide hy.1
  have HL := hide (show a.toNat + ys.length ≤ xs.length by rw [hy.1]; omega)
  have HM := hide hm
  have HY := hide hy
  have HA := hide hA
  have hle := hm.le
  clear hm hy hA
  go_enter Try.func58, Try.ntmps58
  go_wp2_with (go_at_call 85; refine HT.out.mono ?_; rintro e w' ⟨rfl, rfl⟩)
  go_loopw [7] (fun i wr => ∃ k : Nat, k ≤ n ∧ i = .int .i64 k ∧ IsRef wr g d cap (Go.splice xs a.toNat (ys.take k)) r ∧ Only [d] w wr) (fun i _ => n - (intOf i).toNat)
  case atStart => exact ⟨0, Nat.zero_le _, rfl, by simpa [Go.splice] using HM.out, Only.refl _ _⟩
  case round =>
    clear HM
    obtain ⟨k, hk, rfl, hm, ho⟩ := hrel
    have HO := hide ho
    have HK := hide (show (Go.splice xs a.toNat (ys.take k)).length = xs.length from length_splice _ _ _ (by have := HL.out; simp; omega))
    by_cases hlt : k < n
    · obtain ⟨b, o, rfl, hb, hcs⟩ := HY.out.2 (by omega)
      have hbd := HA.out (by omega) _ rfl
      have hcb := (ho.cell hb (by simpa using hbd)).trans (hcs k hlt)
      have hc := hm.cell0
      rw [HK.out] at hc
      have HE := hide (show (a + (k : Int)).toNat = a.toNat + k by omega)
      have hi : a.toNat + k < (Go.splice xs a.toNat (ys.take k)).length := by rw [HK.out]; have := HL.out; have := HYL.out; omega
      have hd := hm.byte hi
      have hf := hm.free (a.toNat + k)
      have HM := hide (hm.set hi (gb ys k))
      rw [splice_set _ _ _ _ (by rw [HYL.out]; exact hlt) HL.out] at HM
      rw [← HE.out] at hd hf
      clear ho hm hcs hbd hb hi
      go_wp2
      go_region
      go_wp2
      go_roundw
      case rel => exact ⟨k + 1, hlt, by go_num, by rw [HE.out]; exact HM.out.drewN 1, (HO.out.setCell (p := ⟨d, (a + (k : Int)).toNat, none⟩) _ (by simp)).drew⟩
      case measure => simp [intOf]; omega
    · obtain rfl : k = n := by omega
      rw [List.take_of_length_le (by rw [HYL.out]; exact Nat.le_refl _)] at hm
      clear HK
      go_wp2
      go_ret
      exact ⟨rfl, HO.out, hm⟩

theorem rwrite_bad (a : Int) (A : Option Addr) (n c : Nat) (hb : a < 0 ∨ (0 ≤ a ∧ xs.length < a + n)) :
    Calls Try.prog 58 #[.pointer (some ⟨g, 0, none⟩), .int .i64 a, .slice A n c] w fun e w' => e = .returned (.int .i64 10) ∧ w = w' := by
  have HT := hide (there_no hm a n (by omega))
  clear hm hb
  go_enter Try.func58, Try.ntmps58
  go_wp2_with (go_at_call 85; refine HT.out.mono ?_; rintro e w' ⟨rfl, rfl⟩)
  go_ret
  exact ⟨rfl, rfl⟩

theorem rframe_yes (n : Int) (h0 : 0 ≤ n) (hn : 256 * n + 256 ≤ xs.length) :
    Calls Try.prog 86 #[.pointer (some ⟨g, 0, none⟩), .int .i64 n] w fun e w' => e = .returned (.bool true) ∧ w = w' := by
  have hc := hm.cell0
  have h2 := hm.big
  have h3 : n < (xs.length : Int) / 256 := by omega
  clear hm
  go_enter Try.func86, Try.ntmps86
  go_wp2
  go_ret
  exact ⟨by simp, rfl⟩

theorem rframe_no (n : Int) (hn : n < 0 ∨ xs.length < 256 * n + 256) :
    Calls Try.prog 86 #[.pointer (some ⟨g, 0, none⟩), .int .i64 n] w fun e w' => e = .returned (.bool false) ∧ w = w' := by
  have hc := hm.cell0
  have h2 := hm.big
  have h3 := hm.mul
  clear hm
  by_cases h0 : n < 0
  · clear hn
    go_enter Try.func86, Try.ntmps86
    go_wp2
    go_ret
    exact ⟨by simp, rfl⟩
  · have h4 : (xs.length : Int) / 256 ≤ n := by omega
    clear hn
    go_enter Try.func86, Try.ntmps86
    go_wp2
    go_ret
    exact ⟨by simp; omega, rfl⟩

theorem rgetframe_ok (n : Int) (h0 : 0 ≤ n) (hn : 256 * n + 256 ≤ xs.length) :
    Calls Try.prog 61 #[.pointer (some ⟨g, 0, none⟩), .int .i64 n] w fun e w' => ∃ v, e = .returned (.tuple #[v, .int .i64 0]) ∧ Fresh w' w.heap.size v ((xs.drop (256 * n.toNat)).take 256) ∧ Only [] w w' := by
  have HF := hide (rframe_yes hm n h0 hn)
  have HR := rread_pos hm (256 * n) 256 (by omega) (by decide) (by omega)
  have h2 := hm.big
  rw [show (256 * n).toNat = 256 * n.toNat by omega] at HR
  replace HR := hide HR
  clear hm
  go_enter Try.func61, Try.ntmps61
  go_wp2_with (first | (go_at_call 86; refine HF.out.mono ?_; rintro e w' ⟨rfl, rfl⟩) | (go_at_call 57; refine HR.out.mono ?_; rintro e w' ⟨v, rfl, hf, ho⟩))
  go_ret2
  exact ⟨v, rfl, hf, ho⟩

theorem rgetframe_bad (n : Int) (hn : n < 0 ∨ xs.length < 256 * n + 256) :
    Calls Try.prog 61 #[.pointer (some ⟨g, 0, none⟩), .int .i64 n] w fun e w' => e = .returned (.tuple #[.slice none 0 0, .int .i64 10]) ∧ w = w' := by
  have HF := hide (rframe_no hm n hn)
  clear hm hn
  go_enter Try.func61, Try.ntmps61
  go_wp2_with (go_at_call 86; refine HF.out.mono ?_; rintro e w' ⟨rfl, rfl⟩)
  go_ret2
  exact ⟨rfl, rfl⟩

theorem rzero_bad (n : Int) (hn : n < 0 ∨ xs.length < 256 * n + 256) :
    Calls Try.prog 59 #[.pointer (some ⟨g, 0, none⟩), .int .i64 n] w fun e w' => e = .returned (.int .i64 10) ∧ w = w' := by
  have HF := hide (rframe_no hm n hn)
  clear hm hn
  go_enter Try.func59, Try.ntmps59
  go_wp2_with (go_at_call 86; refine HF.out.mono ?_; rintro e w' ⟨rfl, rfl⟩)
  go_ret
  exact ⟨rfl, rfl⟩

set_option maxRecDepth 100000 in
theorem rzero_ok (n : Int) (h0 : 0 ≤ n) (hn : 256 * n + 256 ≤ xs.length) :
    Calls Try.prog 59 #[.pointer (some ⟨g, 0, none⟩), .int .i64 n] w fun e w' => e = .returned (.int .i64 0) ∧ Only [d] w w' ∧ IsRef w' g d cap (Go.splice xs (256 * n.toNat) (List.replicate 256 0)) r := by
  have HF := hide (rframe_yes hm n h0 hn)
  have h2 := hm.big
  have HD := hide (show d ≠ w.heap.size from by have := hm.lt; omega)
  have HW := hide fun (o : Obj) (c : Nat) (ys : List Int) (hy : Sees (w.alloc o) (some ⟨w.heap.size, 0, none⟩) 256 ys) =>
    rwrite_ok (hm.alloc o) (256 * n) (some ⟨w.heap.size, 0, none⟩) 256 c ys hy (by intro _ b hb; simp at hb; subst hb; exact fun e => HD.out e.symm) (by omega) (by omega)
  have HE := hide (show (256 * n).toNat = 256 * n.toNat by omega)
  obtain ⟨i0, hi, hz0, hz1, hz2⟩ := info_parts info_u8
  have hmk : ∀ u : World, (Instr.makeSlice 32 (.int .i64 256) (.int .i64 256)).run Try.prog u =
      .ok (.slice (some ⟨u.heap.size, 0, none⟩) 256 256) (u.alloc (.cells (madeCells #[.int .u8 0] 256) 5)) := fun u => by
    have h := run_make (P := Try.prog) u 32 5 i0 (.int .u8 0) Try.underlying32 hi hz0 .i64 .i64 256 256 (by omega) (Int.le_refl _) (by rw [hz2]; omega) (by omega)
    rw [hz1] at h
    exact h
  have HMk := hide hmk
  clear hmk
  go_enter Try.func59, Try.ntmps59
  go_wp2_with (first | (go_at_call 86; refine HF.out.mono ?_; rintro e w' ⟨rfl, rfl⟩) | (simp only [HMk.out]))
  refine (HW.out _ 256 (List.replicate 256 0) (sees_made w 256)).mono ?_
  rintro e w1 ⟨rfl, ho, hm1⟩
  rw [HE.out] at hm1
  go_wp2
  go_ret
  exact ⟨rfl, ((Only.refl [d] w).alloc _).trans ho, hm1⟩

theorem rcopy_bad1 (n m : Int) (hn : n < 0 ∨ xs.length < 256 * n + 256) :
    Calls Try.prog 60 #[.pointer (some ⟨g, 0, none⟩), .int .i64 n, .int .i64 m] w fun e w' => e = .returned (.int .i64 10) ∧ w = w' := by
  have HF := hide (rframe_no hm n hn)
  clear hm hn
  go_enter Try.func60, Try.ntmps60
  go_wp2_with (go_at_call 86; refine HF.out.mono ?_; rintro e w' ⟨rfl, rfl⟩)
  go_ret
  exact ⟨rfl, rfl⟩

theorem rcopy_bad2 (n m : Int) (h0 : 0 ≤ n) (hn : 256 * n + 256 ≤ xs.length) (hm1 : m < 0 ∨ xs.length < 256 * m + 256) :
    Calls Try.prog 60 #[.pointer (some ⟨g, 0, none⟩), .int .i64 n, .int .i64 m] w fun e w' => e = .returned (.int .i64 10) ∧ w = w' := by
  have HF := hide (rframe_yes hm n h0 hn)
  have HF1 := hide (rframe_no hm m hm1)
  clear hm hm1 hn h0
  go_enter Try.func60, Try.ntmps60
  go_wp2_with fail
  refine HF.out.mono ?_
  rintro e w' ⟨rfl, rfl⟩
  go_wp2_with fail
  refine HF1.out.mono ?_
  rintro e w' ⟨rfl, rfl⟩
  go_wp2
  go_ret
  exact ⟨rfl, rfl⟩

theorem rcopy_ok (n m : Int) (h0 : 0 ≤ n) (hn : 256 * n + 256 ≤ xs.length) (h1 : 0 ≤ m) (hn1 : 256 * m + 256 ≤ xs.length) :
    Calls Try.prog 60 #[.pointer (some ⟨g, 0, none⟩), .int .i64 n, .int .i64 m] w fun e w' => e = .returned (.int .i64 0) ∧ Only [d] w w' ∧
      IsRef w' g d cap (Go.splice xs (256 * n.toNat) ((xs.drop (256 * m.toNat)).take 256)) r := by
  have HF := hide (rframe_yes hm n h0 hn)
  have HF1 := hide (rframe_yes hm m h1 hn1)
  have HG := hide (rgetframe_ok hm m h1 hn1)
  have h2 := hm.big
  have HD := hide hm.lt
  have HE := hide (show (256 * n).toNat = 256 * n.toNat by omega)
  have HL := hide (show ((xs.drop (256 * m.toNat)).take 256).length = 256 by simp; omega)
  have HW := hide fun (w' : World) (d' c : Nat) (ho : Only [] w w') (hd : w.heap.size ≤ d') (ys : List Int) (hy : Sees w' (some ⟨d', 0, none⟩) 256 ys) =>
    rwrite_ok (hm.only ho (by simp) (by simp)) (256 * n) (some ⟨d', 0, none⟩) 256 c ys hy (by intro _ b hb; simp at hb; subst hb; intro e; have := HD.out; simp at e; omega) (by omega) (by omega)
  clear hm
  revert HG HL
  generalize (xs.drop (256 * m.toNat)).take 256 = ys
  intro HG HL
  go_enter Try.func60, Try.ntmps60
  go_wp2_with fail
  refine HF.out.mono ?_
  rintro e w' ⟨rfl, rfl⟩
  go_wp2_with fail
  refine HF1.out.mono ?_
  rintro e w' ⟨rfl, rfl⟩
  go_wp2_with fail
  refine HG.out.mono ?_
  rintro e w1 ⟨v, rfl, hf, ho⟩
  obtain ⟨d', c, rfl, hd, hs⟩ := hf.sees
  rw [HL.out] at hs ⊢
  have HS := hide hs
  clear hf hs
  go_wp2_with fail
  refine (HW.out w1 d' c ho hd ys HS.out).mono ?_
  rintro e w2 ⟨rfl, ho2, hm2⟩
  rw [HE.out] at hm2
  go_wp2
  go_ret
  exact ⟨rfl, (ho.mono (by simp)).trans ho2, hm2⟩
end

theorem rnew_bad (n : Int) (w : World) (h : n < 1 ∨ 4096 < n) : Calls Try.prog 15 #[.int .i64 n] w fun e w' => e = .returned (.tuple #[.pointer none, .int .i64 1]) ∧ w = w' := by
  by_cases h1 : n < 1
  · clear h
    go_enter Try.func15, Try.ntmps15
    go_wp2
    go_ret2
    exact ⟨rfl, rfl⟩
  · have h2 : 4096 < n := by omega
    clear h
    go_enter Try.func15, Try.ntmps15
    go_wp2
    go_ret2
    exact ⟨rfl, rfl⟩

set_option maxRecDepth 100000 in
theorem rnew_ok (n : Int) (w : World) (h1 : 1 ≤ n) (h2 : n ≤ 4096) :
    Calls Try.prog 15 #[.int .i64 n] w fun e w' => ∃ g d, e = .returned (.tuple #[.pointer (some ⟨g, 0, none⟩), .int .i64 0]) ∧ w.heap.size ≤ g ∧ w.heap.size ≤ d ∧ IsRef w' g d (256 * n.toNat) (List.replicate (256 * n.toNat) 0) [] ∧ Only [] w w' := by
  obtain ⟨i0, hi, hz0, hz1, hz2⟩ := info_parts info_u8
  have hmk : ∀ u : World, (Instr.makeSlice 32 (.int .i64 (256 * n)) (.int .i64 (256 * n))).run Try.prog u =
      .ok (.slice (some ⟨u.heap.size, 0, none⟩) (256 * n.toNat) (256 * n.toNat)) (u.alloc (.cells (madeCells #[.int .u8 0] (256 * n.toNat)) 5)) := fun u => by
    have h := run_make (P := Try.prog) u 32 5 i0 (.int .u8 0) Try.underlying32 hi hz0 .i64 .i64 (256 * n) (256 * n) (by omega) (Int.le_refl _) (by rw [hz2]; omega) (by omega)
    have e : (256 * n).toNat = 256 * n.toNat := by omega
    rw [e] at h
    simpa [hz1, Value.cells] using h
  go_enter Try.func15, Try.ntmps15
  go_wp2
  go_ret2
  refine ⟨w.heap.size + 1, w.heap.size, rfl, Nat.le_succ _, Nat.le_refl _, ?_, ?_⟩
  rotate_left
  · exact ((Only.refl _ _).alloc _).alloc _
  refine ⟨?_, ?_, by simp, by simp; omega, by simp, by simp; omega, by decide⟩
  · have := Blk.new (w.alloc (.cells (madeCells #[.int .u8 0] (256 * n.toNat)) 5)) 43 #[.slice (some ⟨w.heap.size, 0, none⟩) (256 * n.toNat) (256 * n.toNat)]
    simpa using this
  · refine Blk.alloc ?_ _
    rw [← made_u8]
    exact Blk.new _ _ _
end Go.Proofs.Ytfkbgnoppigdnaa
