/-
  One call on both memories, the rest of 'step': frames, zeros, copies, writes.
-/
import Derived.Test.YtfkbgnoppigdnaaPhysStep2
namespace Go.Proofs.Ytfkbgnoppigdnaa
open Go.ChangeShapes Go.WideShapes Go.ChangeAt Go.RowKit
set_option linter.unusedVariables false

section
variable {w : World} {g d c g' d' c' : Nat} {r r' : List Value} {xs : List Int} (p : Pair w g d c r g' d' c' r' xs)
include p

set_option maxRecDepth 100000 in
theorem step10_ok (a b x y : Int) (B : Option Addr) (bn bc : Nat) (hf : IsF xs a) :
    Calls Try.prog 19 #[.pointer (some ⟨g, 0, none⟩), .pointer (some ⟨g', 0, none⟩), .agg #[.int .i64 10, .int .i64 a, .int .i64 b, .int .u32 x, .int .u32 y, .slice B bn bc]] w fun e w' => e = .returned (.bool true) ∧ ∃ ys, ys.length = xs.length ∧ Pair w' g d c r g' d' c' r' ys ∧ Only [d, d'] w w' := by
  have H1 := hide fun o => getframe_ok (p.mem.alloc o) a hf.1 hf.2
  have H2 := hide fun o w1 (ho : Only [] (w.alloc o) w1) => rgetframe_ok ((p.ref.alloc o).only ho (by simp) (by simp)) a hf.1 hf.2
  have HN := hide (show ((xs.drop (256 * a.toNat)).take 256).length ≤ 1048576 by simp; omega)
  have HP := hide p
  clear p hf
  generalize (xs.drop (256 * a.toNat)).take 256 = zs at H1 H2 HN
  go_enter Try.func19, Try.ntmps19
  go_wp2_with fail
  refine (H1.out _).mono ?_
  rintro e w1 ⟨v, rfl, hf1, ho1⟩
  have hbk := fun i => (Blk.only (Blk.new w 34 #[.int .i64 10, .int .i64 a, .int .i64 b, .int .u32 x, .int .u32 y, .slice B bn bc]) ho1 (by simp)).cell i
  have hc1 := hbk 1
  clear hbk
  obtain ⟨da, ca, ra, rfl, hda, hblk, hla⟩ := hf1
  go_wp2_with fail
  refine (H2.out _ _ ho1).mono ?_
  rintro e w2 ⟨v2, rfl, hf2, ho2⟩
  obtain ⟨db, cb, rfl, hdb, hs2⟩ := hf2.sees
  have hblk2 := hblk.only ho2 (by simp)
  have HS := hide (same_yes w2 (some ⟨da, 0, none⟩) (some ⟨db, 0, none⟩) zs.length ca cb zs ⟨rfl, fun _ => ⟨da, 0, rfl, hblk2.lt, fun i hi => by rw [Nat.zero_add, hblk2.cell]; exact u8l_get zs ra i hi⟩⟩ hs2 (by have := HN.out; omega))
  clear hs2 hf2 hc1
  go_wp2_with fail
  refine HS.out.mono ?_
  rintro e w3 ⟨rfl, ho3⟩
  have HB := hide (hblk2.only ho3 (by simp))
  have HO := hide ((((Only.refl [] w).alloc _).trans ho1).trans (ho2.trans ho3))
  have HD := hide (show w.heap.size ≤ da from Nat.le_trans (by simp) hda)
  have hn := HN.out
  clear HS hblk hblk2 ho1 ho2 ho3 hda hdb
  generalize hzn : zs.length = n at hn HN
  have HZ := hide hzn
  clear hzn hla
  go_wp2
  go_loopw [20] (fun i wr => Bumps n da ra w3 i wr) (fun i _ => n - (intOf i).toNat)
  case atStart => exact ⟨0, zs, Nat.zero_le _, rfl, HZ.out, HB.out, Only.refl _ _⟩
  case round =>
    clear HB
    obtain ⟨k, qs, hk, rfl, hq, hbl, hoB⟩ := hrel
    have HQ := hide hq
    have HOB := hide hoB
    have HBL := hide hbl
    by_cases hlt : k < n
    · have hcl := hbl.cell k
      rw [u8l_get _ _ _ (by rw [hq]; exact hlt)] at hcl
      have hfr := hbl.frozen k
      clear hbl hq hoB
      generalize gb qs k = vk at hcl
      go_wp2
      go_roundw
      case rel => exact ⟨k + 1, _, hlt, by go_num, by rw [List.length_set]; exact HQ.out, HBL.out.setu (by rw [HQ.out]; exact hlt) _, HOB.out.setCell _ (by simp)⟩
      case measure => simp [intOf]; omega
    · have HOO := hide (HO.out.trans' HOB.out (by intro k hk hk'; simp at hk'; have := HD.out; omega))
      clear hbl hq hoB
      go_wp2
      go_ret
      exact ⟨rfl, xs, rfl, HP.out.only HOO.out (by simp), HOO.out.mono (by simp)⟩

set_option maxRecDepth 100000 in
theorem step10_bad (a b x y : Int) (B : Option Addr) (bn bc : Nat) (hb : a < 0 ∨ xs.length < 256 * a + 256) :
    Calls Try.prog 19 #[.pointer (some ⟨g, 0, none⟩), .pointer (some ⟨g', 0, none⟩), .agg #[.int .i64 10, .int .i64 a, .int .i64 b, .int .u32 x, .int .u32 y, .slice B bn bc]] w fun e w' => e = .returned (.bool true) ∧ ∃ ys, ys.length = xs.length ∧ Pair w' g d c r g' d' c' r' ys ∧ Only [d, d'] w w' := by
  have H1 := hide fun o => getframe_bad (p.mem.alloc o) a hb
  have H2 := hide fun o => rgetframe_bad (p.ref.alloc o) a hb
  have HP := hide p
  clear p hb
  go_enter Try.func19, Try.ntmps19
  go_wp2_with (first | (go_at_call 24; refine (H1.out _).mono ?_; rintro e w1 ⟨rfl, rfl⟩) | (go_at_call 61; refine (H2.out _).mono ?_; rintro e w1 ⟨rfl, rfl⟩) | (go_at_call 21; refine (same_yes _ none none 0 0 0 [] ⟨rfl, by simp⟩ ⟨rfl, by simp⟩ (by simp)).mono ?_; rintro e w3 ⟨rfl, ho3⟩))
  have HO := hide (((Only.refl [] w).alloc _).trans ho3)
  clear ho3
  go_loopw [20] (fun i wr => i = .int .i64 0 ∧ Only [] w wr) (fun i _ => 0)
  case atStart => exact ⟨rfl, HO.out⟩
  case round =>
    obtain ⟨rfl, ho⟩ := hrel
    have HOO := hide ho
    clear ho
    go_wp2
    go_ret
    exact ⟨rfl, xs, rfl, HP.out.only HOO.out (by simp), HOO.out.mono (by simp)⟩

set_option maxRecDepth 100000 in
theorem step8 (a b x y : Int) (B : Option Addr) (bn bc : Nat) :
    Calls Try.prog 19 #[.pointer (some ⟨g, 0, none⟩), .pointer (some ⟨g', 0, none⟩), .agg #[.int .i64 8, .int .i64 a, .int .i64 b, .int .u32 x, .int .u32 y, .slice B bn bc]] w fun e w' => e = .returned (.bool true) ∧ ∃ ys, ys.length = xs.length ∧ Pair w' g d c r g' d' c' r' ys ∧ Only [d, d'] w w' := by
  have H1 := hide fun w1 (ho : Only [] w w1) => mem_zero (p.mem.only ho (by simp) (by simp)) a
  have H2 := hide fun w1 (ho : Only [d] w w1) => ref_zero (p.ref.only ho (by simpa using p.gd) (by simpa using p.ne.symm)) a
  have HU := hide (p.u8.zf a)
  have HL := hide (show (zf xs a).length = xs.length by unfold zf; split; exact length_splice _ _ _ (by rename_i h; unfold IsF at h; simp; omega); rfl)
  have HP := hide p
  have hd := p.mem.lt.2
  have hd' := p.ref.lt.2
  clear p
  generalize err (IsF xs a) = q at H1 H2
  generalize zf xs a = ys at H1 H2 HU HL
  go_enter Try.func19, Try.ntmps19
  go_wp2_with fail
  have hb := fun i => (Blk.new w 34 #[.int .i64 8, .int .i64 a, .int .i64 b, .int .u32 x, .int .u32 y, .slice B bn bc]).cell i
  have hc1 := hb 1
  clear hb
  go_region_held3 (fun w' => w'.cell? ⟨w.heap.size, 1, none⟩ = some (.int .i64 a)) (first | go_keep | exact (ho1.cell (by simp) (by simp; omega)).trans hc1 | exact (ho2.cell (Nat.lt_of_lt_of_le (by simp) ho1.size) (by simp; omega)).trans ((ho1.cell (by simp) (by simp; omega)).trans hc1)) (first | (go_at_call 18; refine (H1.out _ (by repeat (first | exact Only.refl _ _ | apply Only.drew | apply Only.alloc))).mono ?_; rintro e w1 ⟨rfl, ho1, hm1⟩) | (go_at_call 59; refine (H2.out _ (Only.trans (by repeat (first | exact Only.refl _ _ | apply Only.drew | apply Only.alloc)) ho1)).mono ?_; rintro e w2 ⟨rfl, ho2, hm2⟩))
  have ho : Only [d] w w1 := Only.trans (by repeat (first | exact Only.refl _ _ | apply Only.drew | apply Only.alloc)) ho1
  have HH := hide (HP.out.both ho hm1 ho2 hm2 HU.out)
  clear hm1 hm2 ho1 ho2 ho
  go_wp2
  go_ret
  exact ⟨rfl, ys, HL.out, HH.out.1, HH.out.2⟩

set_option maxRecDepth 100000 in
theorem step9 (a b x y : Int) (B : Option Addr) (bn bc : Nat) :
    Calls Try.prog 19 #[.pointer (some ⟨g, 0, none⟩), .pointer (some ⟨g', 0, none⟩), .agg #[.int .i64 9, .int .i64 a, .int .i64 b, .int .u32 x, .int .u32 y, .slice B bn bc]] w fun e w' => e = .returned (.bool true) ∧ ∃ ys, ys.length = xs.length ∧ Pair w' g d c r g' d' c' r' ys ∧ Only [d, d'] w w' := by
  have H1 := hide fun w1 (ho : Only [] w w1) => mem_copy (p.mem.only ho (by simp) (by simp)) a b
  have H2 := hide fun w1 (ho : Only [d] w w1) => ref_copy (p.ref.only ho (by simpa using p.gd) (by simpa using p.ne.symm)) a b
  have HU := hide (p.u8.cf a b)
  have HL := hide (show (cf xs a b).length = xs.length by unfold cf; split; exact length_splice _ _ _ (by rename_i h; unfold IsF at h; simp; omega); rfl)
  have HP := hide p
  have hd := p.mem.lt.2
  have hd' := p.ref.lt.2
  clear p
  generalize err (IsF xs a ∧ IsF xs b) = q at H1 H2
  generalize cf xs a b = ys at H1 H2 HU HL
  go_enter Try.func19, Try.ntmps19
  go_wp2_with fail
  have hb := fun i => (Blk.new w 34 #[.int .i64 9, .int .i64 a, .int .i64 b, .int .u32 x, .int .u32 y, .slice B bn bc]).cell i
  have hc1 := hb 1
  have hc2 := hb 2
  clear hb
  go_region_held3 (fun w' => w'.cell? ⟨w.heap.size, 1, none⟩ = some (.int .i64 a) ∧ w'.cell? ⟨w.heap.size, 2, none⟩ = some (.int .i64 b)) (first | go_keep | exact ⟨(ho1.cell (by simp) (by simp; omega)).trans hc1, (ho1.cell (by simp) (by simp; omega)).trans hc2⟩ | exact ⟨(ho2.cell (Nat.lt_of_lt_of_le (by simp) ho1.size) (by simp; omega)).trans ((ho1.cell (by simp) (by simp; omega)).trans hc1), (ho2.cell (Nat.lt_of_lt_of_le (by simp) ho1.size) (by simp; omega)).trans ((ho1.cell (by simp) (by simp; omega)).trans hc2)⟩) (first | (go_at_call 29; refine (H1.out _ (by repeat (first | exact Only.refl _ _ | apply Only.drew | apply Only.alloc))).mono ?_; rintro e w1 ⟨rfl, ho1, hm1⟩) | (go_at_call 60; refine (H2.out _ (Only.trans (by repeat (first | exact Only.refl _ _ | apply Only.drew | apply Only.alloc)) ho1)).mono ?_; rintro e w2 ⟨rfl, ho2, hm2⟩))
  have ho : Only [d] w w1 := Only.trans (by repeat (first | exact Only.refl _ _ | apply Only.drew | apply Only.alloc)) ho1
  have HH := hide (HP.out.both ho hm1 ho2 hm2 HU.out)
  clear hm1 hm2 ho1 ho2 ho
  go_wp2
  go_ret
  exact ⟨rfl, ys, HL.out, HH.out.1, HH.out.2⟩
end
end Go.Proofs.Ytfkbgnoppigdnaa
