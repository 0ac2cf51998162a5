/-
  One call on both memories: 'sameBytes', 'word' and 'step' of layer 1's statements answer true, and both hold the same bytes again.
-/
import Derived.Test.YtfkbgnoppigdnaaPhysBoth
namespace Go.Proofs.Ytfkbgnoppigdnaa
open Go.ChangeShapes Go.WideShapes Go.ChangeAt Go.RowKit
set_option linter.unusedVariables false

theorem U8.s8 {xs : List Int} (h : U8 xs) (a : Int) {x : Int} (hx : 0 ≤ x ∧ x ≤ 255) : U8 (s8 xs a x) := by
  unfold Go.Proofs.Ytfkbgnoppigdnaa.s8; split
  · exact h.set _ hx
  · exact h
theorem U8.s32 {xs : List Int} (h : U8 xs) (a : Int) {x : Int} (h0 : 0 ≤ x) (h1 : x ≤ 4294967295) : U8 (s32 xs a x) := by
  unfold Go.Proofs.Ytfkbgnoppigdnaa.s32; split
  · exact h.putw _ h0 h1
  · exact h
theorem U8.cas {xs : List Int} (h : U8 xs) (a x : Int) {y : Int} (h0 : 0 ≤ y) (h1 : y ≤ 4294967295) : U8 (cas xs a x y) := by
  unfold Go.Proofs.Ytfkbgnoppigdnaa.cas; split
  · exact h.putw _ h0 h1
  · exact h
theorem U8.zf {xs : List Int} (h : U8 xs) (n : Int) : U8 (zf xs n) := by
  unfold Go.Proofs.Ytfkbgnoppigdnaa.zf; split
  · exact h.splice (U8.replicate _) _
  · exact h
theorem U8.cf {xs : List Int} (h : U8 xs) (n m : Int) : U8 (cf xs n m) := by
  unfold Go.Proofs.Ytfkbgnoppigdnaa.cf; split
  · exact h.splice ((h.drop _).take _) _
  · exact h
theorem U8.wr {xs ys : List Int} (h : U8 xs) (a : Int) (hy : U8 ys) : U8 (wr xs a ys) := by
  unfold Go.Proofs.Ytfkbgnoppigdnaa.wr; split
  · exact h.splice hy _
  · exact h

theorem same_yes (w : World) (A A' : Option Addr) (n c c' : Nat) (zs : List Int) (h : Sees w A n zs) (h' : Sees w A' n zs) (hn : n ≤ 9223372036854775807) :
    Calls Try.prog 21 #[.slice A n c, .slice A' n c'] w fun e w' => e = .returned (.bool true) ∧ Only [] w w' := by
  have H := hide h
  have H' := hide h'
  clear h h'
  have hb : ((n : Int) != (n : Int)) = false := by simp
  go_enter Try.func21, Try.ntmps21
  go_wp2
  go_loopw [5] (fun i wr => ∃ k : Nat, k ≤ n ∧ i = .int .i64 k ∧ Only [] w wr) (fun i _ => n - (intOf i).toNat)
  case atStart => exact ⟨0, Nat.zero_le _, rfl, Only.refl _ _⟩
  case round =>
    obtain ⟨k, hk, rfl, ho⟩ := hrel
    have HO := hide ho
    by_cases hlt : k < n
    · obtain ⟨b, o, rfl, hbb, hc⟩ := H.out.2 (by omega)
      obtain ⟨b2, o2, rfl, hbb2, hc2⟩ := H'.out.2 (by omega)
      have c1 := (ho.cell hbb (by simp)).trans (hc k hlt)
      have c2 := (ho.cell hbb2 (by simp)).trans (hc2 k hlt)
      have hlt2 : (k : Int) < n := by omega
      clear ho hc hc2 hbb hbb2
      generalize gb zs k = v at c1 c2
      go_wp2
      go_quiet (fail)
      go_wp2
      go_roundw
      case rel => exact ⟨k + 1, hlt, by go_num, HO.out.drewN _⟩
      case measure => simp [intOf]; omega
    · clear ho
      go_wp2
      go_ret
      exact ⟨rfl, HO.out⟩

section
variable {w : World} {g d c g' d' c' : Nat} {r r' : List Value} {xs : List Int} (p : Pair w g d c r g' d' c' r' xs)
include p

theorem word1 (a b x y : Int) (B : Option Addr) (bn bc : Nat) :
    Calls Try.prog 56 #[.pointer (some ⟨g, 0, none⟩), .pointer (some ⟨g', 0, none⟩), .agg #[.int .i64 1, .int .i64 a, .int .i64 b, .int .u32 x, .int .u32 y, .slice B bn bc]] w fun e w' => e = .returned (.bool true) ∧ ∃ ys, ys.length = xs.length ∧ Pair w' g d c r g' d' c' r' ys ∧ Only [d, d'] w w' := by
  have H1 := hide fun o => mem_l8 (p.mem.alloc o) a
  have H2 := hide fun o w1 (ho : Only [] (w.alloc o) w1) => ref_l8 ((p.ref.alloc o).only ho (by simp) (by simp)) a
  have HP := hide p
  clear p
  generalize l8 xs a = v at H1 H2
  generalize err (IsB xs a) = q at H1 H2
  go_enter Try.func56, Try.ntmps56
  go_wp2_with fail
  refine (H1.out _).mono ?_
  rintro e w1 ⟨rfl, ho1⟩
  have hb := fun i => (Blk.only (Blk.new w 34 #[.int .i64 1, .int .i64 a, .int .i64 b, .int .u32 x, .int .u32 y, .slice B bn bc]) ho1 (by simp)).cell i
  have hc := hb 1
  clear hb
  go_wp2_with fail
  refine (H2.out _ _ ho1).mono ?_
  rintro e w2 ⟨rfl, ho2⟩
  go_wp2
  go_ret
  have ho : Only [] w w2 := (((Only.refl [] w).alloc _).trans ho1).trans ho2
  exact ⟨rfl, xs, rfl, HP.out.only ho (by simp), ho.mono (by simp)⟩

theorem word3 (a b x y : Int) (B : Option Addr) (bn bc : Nat) :
    Calls Try.prog 56 #[.pointer (some ⟨g, 0, none⟩), .pointer (some ⟨g', 0, none⟩), .agg #[.int .i64 3, .int .i64 a, .int .i64 b, .int .u32 x, .int .u32 y, .slice B bn bc]] w fun e w' => e = .returned (.bool true) ∧ ∃ ys, ys.length = xs.length ∧ Pair w' g d c r g' d' c' r' ys ∧ Only [d, d'] w w' := by
  have H1 := hide fun o => mem_l32 (p.mem.alloc o) p.u8 a
  have H2 := hide fun o w1 (ho : Only [] (w.alloc o) w1) => ref_l32 ((p.ref.alloc o).only ho (by simp) (by simp)) p.u8 a
  have HP := hide p
  clear p
  generalize l32 xs a = v at H1 H2
  generalize err (IsW xs a) = q at H1 H2
  go_enter Try.func56, Try.ntmps56
  go_wp2_with fail
  refine (H1.out _).mono ?_
  rintro e w1 ⟨rfl, ho1⟩
  have hb := fun i => (Blk.only (Blk.new w 34 #[.int .i64 3, .int .i64 a, .int .i64 b, .int .u32 x, .int .u32 y, .slice B bn bc]) ho1 (by simp)).cell i
  have hc := hb 1
  clear hb
  go_wp2_with fail
  refine (H2.out _ _ ho1).mono ?_
  rintro e w2 ⟨rfl, ho2⟩
  go_wp2
  go_ret
  have ho : Only [] w w2 := (((Only.refl [] w).alloc _).trans ho1).trans ho2
  exact ⟨rfl, xs, rfl, HP.out.only ho (by simp), ho.mono (by simp)⟩

theorem word5 (a b x y : Int) (B : Option Addr) (bn bc : Nat) (y0 : 0 ≤ y) (y1 : y ≤ 4294967295) :
    Calls Try.prog 56 #[.pointer (some ⟨g, 0, none⟩), .pointer (some ⟨g', 0, none⟩), .agg #[.int .i64 5, .int .i64 a, .int .i64 b, .int .u32 x, .int .u32 y, .slice B bn bc]] w fun e w' => e = .returned (.bool true) ∧ ∃ ys, ys.length = xs.length ∧ Pair w' g d c r g' d' c' r' ys ∧ Only [d, d'] w w' := by
  have H1 := hide fun o => mem_cas (p.mem.alloc o) p.u8 a x y y0 y1
  have H2 := hide fun o w1 (ho : Only [d] (w.alloc o) w1) => ref_cas ((p.ref.alloc o).only ho (by simpa using p.gd) (by simpa using p.ne.symm)) p.u8 a x y y0 y1
  have HU := hide (p.u8.cas a x y0 y1)
  have HL := hide (show (cas xs a x y).length = xs.length by unfold cas; split <;> simp [length_putw])
  have HD := hide p.mem.lt.2
  have HP := hide fun o => (⟨p.mem.alloc o, p.ref.alloc o, p.u8, p.ne⟩ : Pair (w.alloc o) g d c r g' d' c' r' xs)
  clear p
  generalize l32 xs a = v at H1 H2
  generalize err (IsW xs a) = q at H1 H2
  generalize cas xs a x y = ys at H1 H2 HU HL
  go_enter Try.func56, Try.ntmps56
  go_wp2_with fail
  refine (H1.out _).mono ?_
  rintro e w1 ⟨rfl, ho1, hm1⟩
  have hb := fun i => (Blk.only (Blk.new w 34 #[.int .i64 5, .int .i64 a, .int .i64 b, .int .u32 x, .int .u32 y, .slice B bn bc]) ho1 (by have := HD.out; simp; omega)).cell i
  have hc1 := hb 1
  have hc2 := hb 3
  have hc3 := hb 4
  clear hb
  go_wp2_with fail
  refine (H2.out _ _ ho1).mono ?_
  rintro e w2 ⟨rfl, ho2, hm2⟩
  have HH := hide ((HP.out _).both ho1 hm1 ho2 hm2 HU.out)
  clear hm1 hm2
  go_wp2
  go_ret
  exact ⟨rfl, ys, HL.out, HH.out.1, ((Only.refl _ w).alloc _).trans HH.out.2⟩

theorem word4 (a b x y : Int) (B : Option Addr) (bn bc : Nat) (x0 : 0 ≤ x) (x1 : x ≤ 4294967295) :
    Calls Try.prog 56 #[.pointer (some ⟨g, 0, none⟩), .pointer (some ⟨g', 0, none⟩), .agg #[.int .i64 4, .int .i64 a, .int .i64 b, .int .u32 x, .int .u32 y, .slice B bn bc]] w fun e w' => e = .returned (.bool true) ∧ ∃ ys, ys.length = xs.length ∧ Pair w' g d c r g' d' c' r' ys ∧ Only [d, d'] w w' := by
  have H1 := hide fun w1 (ho : Only [] w w1) => mem_s32 (p.mem.only ho (by simp) (by simp)) a x x0 x1
  have H2 := hide fun w1 (ho : Only [d] w w1) => ref_s32 (p.ref.only ho (by simpa using p.gd) (by simpa using p.ne.symm)) a x x0 x1
  have HU := hide (p.u8.s32 a x0 x1)
  have HL := hide (show (s32 xs a x).length = xs.length by unfold s32; split <;> simp [length_putw])
  have HP := hide p
  have hd := p.mem.lt.2
  have hd' := p.ref.lt.2
  clear p
  generalize err (IsW xs a) = q at H1 H2
  generalize s32 xs a x = ys at H1 H2 HU HL
  go_enter Try.func56, Try.ntmps56
  go_wp2_with fail
  have hb := fun i => (Blk.new w 34 #[.int .i64 4, .int .i64 a, .int .i64 b, .int .u32 x, .int .u32 y, .slice B bn bc]).cell i
  have hc1 := hb 1
  have hc2 := hb 3
  clear hb
  go_region_held3 (fun w' => w'.cell? ⟨w.heap.size, 1, none⟩ = some (.int .i64 a) ∧ w'.cell? ⟨w.heap.size, 3, none⟩ = some (.int .u32 x)) (first | go_keep | exact ⟨(ho1.cell (by simp) (by simp; omega)).trans hc1, (ho1.cell (by simp) (by simp; omega)).trans hc2⟩ | exact ⟨(ho2.cell (Nat.lt_of_lt_of_le (by simp) ho1.size) (by simp; omega)).trans ((ho1.cell (by simp) (by simp; omega)).trans hc1), (ho2.cell (Nat.lt_of_lt_of_le (by simp) ho1.size) (by simp; omega)).trans ((ho1.cell (by simp) (by simp; omega)).trans hc2)⟩) (first | (go_at_call 17; refine (H1.out _ (by repeat (first | exact Only.refl _ _ | apply Only.drew | apply Only.alloc))).mono ?_; rintro e w1 ⟨rfl, ho1, hm1⟩) | (go_at_call 83; refine (H2.out _ (Only.trans (by repeat (first | exact Only.refl _ _ | apply Only.drew | apply Only.alloc)) ho1)).mono ?_; rintro e w2 ⟨rfl, ho2, hm2⟩))
  have ho : Only [d] w w1 := Only.trans (by repeat (first | exact Only.refl _ _ | apply Only.drew | apply Only.alloc)) ho1
  have HH := hide (HP.out.both ho hm1 ho2 hm2 HU.out)
  clear hm1 hm2 ho1 ho2 ho
  go_wp2
  go_ret
  exact ⟨rfl, ys, HL.out, HH.out.1, HH.out.2⟩

theorem word2 (a b x y : Int) (B : Option Addr) (bn bc : Nat) (x0 : 0 ≤ x) (x1 : x ≤ 4294967295) :
    Calls Try.prog 56 #[.pointer (some ⟨g, 0, none⟩), .pointer (some ⟨g', 0, none⟩), .agg #[.int .i64 2, .int .i64 a, .int .i64 b, .int .u32 x, .int .u32 y, .slice B bn bc]] w fun e w' => e = .returned (.bool true) ∧ ∃ ys, ys.length = xs.length ∧ Pair w' g d c r g' d' c' r' ys ∧ Only [d, d'] w w' := by
  have H1 := hide fun w1 (ho : Only [] w w1) => mem_s8 (p.mem.only ho (by simp) (by simp)) a (x % 256)
  have H2 := hide fun w1 (ho : Only [d] w w1) => ref_s8 (p.ref.only ho (by simpa using p.gd) (by simpa using p.ne.symm)) a (x % 256)
  have HU := hide (p.u8.s8 a (x := x % 256) (by omega))
  have HL := hide (show (s8 xs a (x % 256)).length = xs.length by unfold s8; split <;> simp)
  have HP := hide p
  have hd := p.mem.lt.2
  have hd' := p.ref.lt.2
  clear p
  generalize err (IsB xs a) = q at H1 H2
  generalize s8 xs a (x % 256) = ys at H1 H2 HU HL
  go_enter Try.func56, Try.ntmps56
  go_wp2_with fail
  have hb := fun i => (Blk.new w 34 #[.int .i64 2, .int .i64 a, .int .i64 b, .int .u32 x, .int .u32 y, .slice B bn bc]).cell i
  have hc1 := hb 1
  have hc2 := hb 3
  clear hb
  go_region_held3 (fun w' => w'.cell? ⟨w.heap.size, 1, none⟩ = some (.int .i64 a) ∧ w'.cell? ⟨w.heap.size, 3, none⟩ = some (.int .u32 x)) (first | go_keep | exact ⟨(ho1.cell (by simp) (by simp; omega)).trans hc1, (ho1.cell (by simp) (by simp; omega)).trans hc2⟩ | exact ⟨(ho2.cell (Nat.lt_of_lt_of_le (by simp) ho1.size) (by simp; omega)).trans ((ho1.cell (by simp) (by simp; omega)).trans hc1), (ho2.cell (Nat.lt_of_lt_of_le (by simp) ho1.size) (by simp; omega)).trans ((ho1.cell (by simp) (by simp; omega)).trans hc2)⟩) (first | (go_at_call 27; refine (H1.out _ (by repeat (first | exact Only.refl _ _ | apply Only.drew | apply Only.alloc))).mono ?_; rintro e w1 ⟨rfl, ho1, hm1⟩) | (go_at_call 81; refine (H2.out _ (Only.trans (by repeat (first | exact Only.refl _ _ | apply Only.drew | apply Only.alloc)) ho1)).mono ?_; rintro e w2 ⟨rfl, ho2, hm2⟩))
  have ho : Only [d] w w1 := Only.trans (by repeat (first | exact Only.refl _ _ | apply Only.drew | apply Only.alloc)) ho1
  have HH := hide (HP.out.both ho hm1 ho2 hm2 HU.out)
  clear hm1 hm2 ho1 ho2 ho
  go_wp2
  go_ret
  exact ⟨rfl, ys, HL.out, HH.out.1, HH.out.2⟩

end
end Go.Proofs.Ytfkbgnoppigdnaa
