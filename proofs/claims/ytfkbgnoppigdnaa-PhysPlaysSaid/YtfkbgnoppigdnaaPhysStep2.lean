/-
  One call on both memories, the rest of 'step': ranges, frames, copies.
-/
import Derived.Test.YtfkbgnoppigdnaaPhysStep
namespace Go.Proofs.Ytfkbgnoppigdnaa
open Go.ChangeShapes Go.WideShapes Go.ChangeAt Go.RowKit
set_option linter.unusedVariables false

theorem rread_ok {w : World} {g d cap : Nat} {xs : List Int} {r : List Value} (hm : IsRef w g d cap xs r) (a n : Int) (ha : 0 ≤ a) (hn : 0 ≤ n) (han : a + n ≤ xs.length) :
    Calls Try.prog 57 #[.pointer (some ⟨g, 0, none⟩), .int .i64 a, .int .i64 n] w fun e w' => ∃ v, e = .returned (.tuple #[v, .int .i64 0]) ∧ Fresh w' w.heap.size v ((xs.drop a.toNat).take n.toNat) ∧ Only [] w w' := by
  by_cases h : n = 0
  · subst h; simpa using rread_nought hm a ha (by omega)
  · exact rread_pos hm a n ha (by omega) han

/-- The loop that adds one to each byte of a new slice, behind k rounds. -/
def Bumps (n D : Nat) (r : List Value) (w0 : World) (i : Value) (wr : World) : Prop :=
  ∃ (k : Nat) (zs : List Int), k ≤ n ∧ i = .int .i64 k ∧ zs.length = n ∧ Blk wr D 5 (u8l zs ++ r).toArray ∧ Only [D] w0 wr

theorem Blk.setu {w : World} {D : Nat} {zs : List Int} {r : List Value} (h : Blk w D 5 (u8l zs ++ r).toArray) {k : Nat} (hk : k < zs.length) (v : Int) :
    Blk (w.setCell ⟨D, k, none⟩ (.int .u8 v)) D 5 (u8l (zs.set k v) ++ r).toArray := by
  have := h.set_ k (.int .u8 v)
  rwa [u8l_set zs r k v hk] at this

section
variable {w : World} {g d c g' d' c' : Nat} {r r' : List Value} {xs : List Int} (p : Pair w g d c r g' d' c' r' xs)
include p

set_option maxRecDepth 100000 in
theorem step6_ok (a b x y : Int) (B : Option Addr) (bn bc : Nat) (ha : 0 ≤ a) (hb : 0 ≤ b) (hab : a + b ≤ xs.length) :
    Calls Try.prog 19 #[.pointer (some ⟨g, 0, none⟩), .pointer (some ⟨g', 0, none⟩), .agg #[.int .i64 6, .int .i64 a, .int .i64 b, .int .u32 x, .int .u32 y, .slice B bn bc]] w fun e w' => e = .returned (.bool true) ∧ ∃ ys, ys.length = xs.length ∧ Pair w' g d c r g' d' c' r' ys ∧ Only [d, d'] w w' := by
  have H1 := hide fun o => read_ok (p.mem.alloc o) a b ha hb hab
  have H2 := hide fun o w1 (ho : Only [] (w.alloc o) w1) => rread_ok ((p.ref.alloc o).only ho (by simp) (by simp)) a b ha hb hab
  have HN := hide (show ((xs.drop a.toNat).take b.toNat).length ≤ 1048576 by have := p.mem.big; simp; omega)
  have HP := hide p
  clear p
  generalize (xs.drop a.toNat).take b.toNat = zs at H1 H2 HN
  go_enter Try.func19, Try.ntmps19
  go_wp2_with fail
  refine (H1.out _).mono ?_
  rintro e w1 ⟨v, rfl, hf1, ho1⟩
  have hbk := fun i => (Blk.only (Blk.new w 34 #[.int .i64 6, .int .i64 a, .int .i64 b, .int .u32 x, .int .u32 y, .slice B bn bc]) ho1 (by simp)).cell i
  have hc1 := hbk 1
  have hc2 := hbk 2
  clear hbk
  obtain ⟨da, ca, ra, rfl, hda, hblk, hla⟩ := hf1
  go_wp2_with fail
  refine (H2.out _ _ ho1).mono ?_
  rintro e w2 ⟨v2, rfl, hf2, ho2⟩
  obtain ⟨db, cb, rfl, hdb, hs2⟩ := hf2.sees
  have hblk2 := hblk.only ho2 (by simp)
  have HS := hide (same_yes w2 (some ⟨da, 0, none⟩) (some ⟨db, 0, none⟩) zs.length ca cb zs ⟨rfl, fun _ => ⟨da, 0, rfl, hblk2.lt, fun i hi => by rw [Nat.zero_add, hblk2.cell]; exact u8l_get zs ra i hi⟩⟩ hs2 (by have := HN.out; omega))
  clear hs2 hf2 hc1 hc2
  go_wp2_with fail
  refine HS.out.mono ?_
  rintro e w3 ⟨rfl, ho3⟩
  have HB := hide (hblk2.only ho3 (by simp))
  have HO := hide ((((Only.refl [] w).alloc _).trans ho1).trans (ho2.trans ho3))
  have HD := hide (show w.heap.size ≤ da from Nat.le_trans (by simp) hda)
  have hn := HN.out
  clear HS hblk hblk2 ho1 ho2 ho3 hda hdb
  generalize hzn : zs.length = n at hn HN
  have HZ := hide hzn
  clear hzn hla
  go_wp2
  go_loopw [12] (fun i wr => Bumps n da ra w3 i wr) (fun i _ => n - (intOf i).toNat)
  case atStart => exact ⟨0, zs, Nat.zero_le _, rfl, HZ.out, HB.out, Only.refl _ _⟩
  case round =>
    clear HB
    obtain ⟨k, qs, hk, rfl, hq, hbl, hoB⟩ := hrel
    have HQ := hide hq
    have HOB := hide hoB
    have HBL := hide hbl
    by_cases hlt : k < n
    · have hcl := hbl.cell k
      rw [u8l_get _ _ _ (by rw [hq]; exact hlt)] at hcl
      have hfr := hbl.frozen k
      clear hbl hq hoB
      generalize gb qs k = vk at hcl
      go_wp2
      go_roundw
      case rel => exact ⟨k + 1, _, hlt, by go_num, by rw [List.length_set]; exact HQ.out, HBL.out.setu (by rw [HQ.out]; exact hlt) _, HOB.out.setCell _ (by simp)⟩
      case measure => simp [intOf]; omega
    · have HOO := hide (HO.out.trans' HOB.out (by intro k hk hk'; simp at hk'; have := HD.out; omega))
      clear hbl hq hoB
      go_wp2
      go_ret
      exact ⟨rfl, xs, rfl, HP.out.only HOO.out (by simp), HOO.out.mono (by simp)⟩

set_option maxRecDepth 100000 in
theorem step6_bad (a b x y : Int) (B : Option Addr) (bn bc : Nat) (hb : a < 0 ∨ b < 0 ∨ (0 ≤ a ∧ xs.length < a + b)) :
    Calls Try.prog 19 #[.pointer (some ⟨g, 0, none⟩), .pointer (some ⟨g', 0, none⟩), .agg #[.int .i64 6, .int .i64 a, .int .i64 b, .int .u32 x, .int .u32 y, .slice B bn bc]] w fun e w' => e = .returned (.bool true) ∧ ∃ ys, ys.length = xs.length ∧ Pair w' g d c r g' d' c' r' ys ∧ Only [d, d'] w w' := by
  have H1 := hide fun o => read_bad (p.mem.alloc o) a b hb
  have H2 := hide fun o => rread_bad (p.ref.alloc o) a b hb
  have HP := hide p
  clear p hb
  go_enter Try.func19, Try.ntmps19
  go_wp2_with (first | (go_at_call 20; refine (H1.out _).mono ?_; rintro e w1 ⟨rfl, rfl⟩) | (go_at_call 57; refine (H2.out _).mono ?_; rintro e w1 ⟨rfl, rfl⟩) | (go_at_call 21; refine (same_yes _ none none 0 0 0 [] ⟨rfl, by simp⟩ ⟨rfl, by simp⟩ (by simp)).mono ?_; rintro e w3 ⟨rfl, ho3⟩))
  have HO := hide (((Only.refl [] w).alloc _).trans ho3)
  clear ho3
  go_loopw [12] (fun i wr => i = .int .i64 0 ∧ Only [] w wr) (fun i _ => 0)
  case atStart => exact ⟨rfl, HO.out⟩
  case round =>
    obtain ⟨rfl, ho⟩ := hrel
    have HOO := hide ho
    clear ho
    go_wp2
    go_ret
    exact ⟨rfl, xs, rfl, HP.out.only HOO.out (by simp), HOO.out.mono (by simp)⟩
end
end Go.Proofs.Ytfkbgnoppigdnaa
