/-
  The document's own disk: lay.
-/
import Derived.Test.YtpajdnjbeplneaaRWrite
import Derived.Deep.RegionLaw
namespace Go.Proofs.Ytpajdnjbeplneaa
open Go.ChangeShapes Go.WideShapes Go.ChangeAt Go.RowKit
set_option linter.unusedVariables false

theorem splice_setR (plat zs : List Int) (o k : Nat) (hk : k < zs.length) (ho : o + zs.length ≤ plat.length) : (Go.splice plat o (zs.take k)).set (o + k) (gb zs k) = Go.splice plat o (zs.take (k + 1)) := by
  have h1 : (plat.take o).length = o := by simp; omega
  have h2 : (zs.take k).length = k := by simp; omega
  have h3 : (zs.take (k + 1)).length = k + 1 := by simp; omega
  unfold Go.splice
  rw [h2, h3, List.take_succ_eq_append_getElem hk]
  simp only [List.append_assoc]
  rw [List.set_append_right _ _ (by rw [h1]; omega), h1]
  congr 1
  rw [List.set_append_right _ _ (by rw [h2]; omega), h2]
  congr 1
  rw [show o + k - o - k = 0 by omega, List.drop_eq_getElem_cons (show o + k < plat.length by omega)]
  simp only [gb, List.getD, List.getElem?_eq_getElem hk, Option.getD_some, List.set_cons_zero, List.singleton_append]
  rw [show o + (k + 1) = o + k + 1 by omega]

theorem u8l_setI (xs : List Int) (r : List Value) (i : Nat) (b : Int) (hi : i < xs.length) : (u8l xs ++ r).toArray.setIfInBounds i (.int .u8 b) = (u8l (xs.set i b) ++ r).toArray := by
  simp only [List.setIfInBounds_toArray]
  rw [List.set_append_left _ _ (by rw [u8l_length]; exact hi)]
  simp [u8l, List.map_set]

/-- What lay has done behind k bytes. -/
def LayR (w0 : World) (g pb pc : Nat) (pr : List Value) (pv : Value) (N : Nat) (plat : List Int) (ws : List WR) (left : Int) (stops : Bool) (rd wt fl : Int) (x : WR) (m : Nat) (i : Value) (wr : World) : Prop :=
  ∃ k : Nat, k ≤ m ∧ i = .int .i64 k ∧ Only [pb] w0 wr ∧ IsR2 wr g pb pc pr pv N (Go.splice plat (512 * x.sec) (x.data.take k)) ws left stops rd wt fl

section
variable {w : World} {g pb pc : Nat} {pr : List Value} {pv : Value} {N : Nat} {plat : List Int} {ws : List WR} {left : Int} {stops : Bool} {rd wt fl : Int} (h : IsR2 w g pb pc pr pv N plat ws left stops rd wt fl)
include h

set_option maxRecDepth 100000 in
theorem r2lay_is (x : WR) (hx : x ∈ ws) (m : Nat) (hm : m ≤ 512) : Calls Try.prog 80 #[.pointer (some ⟨g, 0, none⟩), .agg #[.int .i64 x.sec, .slice (some ⟨x.blk, 0, none⟩) 512 (512 + x.rest.length)], .int .i64 m] w fun e w' =>
    e = .returned (.tuple #[]) ∧ Only [pb] w w' ∧ IsR2 w' g pb pc pr pv N (Go.splice plat (512 * x.sec) (x.data.take m)) ws left stops rd wt fl := by
  have HX := hide (And.intro (h.wok x hx) (h.far x hx))
  have HB := hide (show Blk (w.alloc (.cells #[.int .i64 x.sec, .slice (some ⟨x.blk, 0, none⟩) 512 (512 + x.rest.length)] 112)) w.heap.size 112 #[.int .i64 x.sec, .slice (some ⟨x.blk, 0, none⟩) 512 (512 + x.rest.length)] from Blk.new w _ _)
  have HD0 := hide (h.quiet ((Only.refl [] w).alloc (.cells #[.int .i64 x.sec, .slice (some ⟨x.blk, 0, none⟩) 512 (512 + x.rest.length)] 112)))
  have HP := hide h.row.lt
  have HL := hide (And.intro h.len h.cap)
  have hbig := h.big
  have hsec := (h.wok x hx).sec
  clear h hx
  go_enter Try.func80, Try.ntmps80
  go_wp2
  generalize hw2 : w.alloc (.cells #[.int .i64 x.sec, .slice (some ⟨x.blk, 0, none⟩) 512 (512 + x.rest.length)] 112) = w2 at *
  have HWW := hide (show Only [] w w2 from hw2 ▸ (Only.refl [] w).alloc _)
  clear hw2
  go_loopw [6] (fun i wr => LayR w2 g pb pc pr pv N plat ws left stops rd wt fl x m i wr) (fun i _ => m - (intOf i).toNat)
  case atStart => exact ⟨0, Nat.zero_le _, rfl, Only.refl _ _, by simpa [Go.splice] using HD0.out⟩
  case round =>
    obtain ⟨k, hk, rfl, ho, hd⟩ := hrel
    have HO := hide ho
    have HD := hide hd
    by_cases hlt : k < m
    · have hb := HB.out.only ho (by have := HP.out; simp; omega)
      have hxo := HX.out.1
      have e0 : wr.cell? ⟨w.heap.size, 0, none⟩ = some (.int .i64 x.sec) := (hb.cell 0).trans rfl
      have e1 : wr.cell? ⟨w.heap.size, 1, none⟩ = some (.slice (some ⟨x.blk, 0, none⟩) 512 (512 + x.rest.length)) := (hb.cell 1).trans rfl
      have e2 := hd.c1
      have hxw := ((hxo.only HWW.out (by simp)).only ho (by simpa using HX.out.2))
      have e3 : wr.cell? ⟨x.blk, k, none⟩ = some (.int .u8 (gb x.data k)) := by
        rw [hxw.row.cell]
        exact u8l_get _ _ k (by rw [hxw.len]; omega)
      have hsl : (Go.splice plat (512 * x.sec) (x.data.take k)).length = 512 * N := hd.len
      have e4 : wr.cell? ⟨pb, x.sec * 512 + k, none⟩ = some (.int .u8 (gb (Go.splice plat (512 * x.sec) (x.data.take k)) (x.sec * 512 + k))) := by
        rw [hd.row.cell]
        exact u8l_get _ _ _ (by rw [hsl]; omega)
      have e5 : wr.frozen? ⟨pb, x.sec * 512 + k, none⟩ = false := hd.row.frozen _
      have hn1 : x.sec * 512 + k < 512 * N := by omega
      have hk5 : k < 512 := by omega
      have hr2 : IntKind.i64.wrap ((x.sec : Int) * 512 + (k : Int)) = (x.sec : Int) * 512 + (k : Int) := by rw [IntKind.wrap_i64]; omega
      have hr3 : ((x.sec : Int) * 512 + (k : Int)).toNat = x.sec * 512 + k := by omega
      have hr1 : IntKind.i64.wrap ((x.sec : Int) * 512) = (x.sec : Int) * 512 := by rw [IntKind.wrap_i64]; omega
      have hn2 : (x.sec : Int) * 512 + (k : Int) < 512 * (N : Int) := by omega
      have hn3 : 0 ≤ (x.sec : Int) * 512 + (k : Int) := by omega
      have hk6 : (k : Int) < 512 := by omega
      clear hb hxo hxw ho hd hsl
      go_wp2
      go_region
      all_goals go_wp2
      have hd := HD.out
      have hxw := (((HX.out.1).only HWW.out (by simp)).only HO.out (by simpa using HX.out.2))
      have ho1 : Only [pb] wr (wr.setCell ⟨pb, x.sec * 512 + k, none⟩ (.int .u8 (gb x.data k))).drew := ((Only.refl _ _).setCell _ (by simp)).drew
      have hsl : (Go.splice plat (512 * x.sec) (x.data.take k)).length = 512 * N := hd.len
      have hb1 := hd.row.set_ (x.sec * 512 + k) (.int .u8 (gb x.data k))
      rw [u8l_setI _ _ _ _ (by rw [hsl]; omega), show x.sec * 512 + k = 512 * x.sec + k by omega, splice_setR plat x.data (512 * x.sec) k (by rw [hxw.len]; omega) (by rw [hxw.len, HL.out.1]; omega)] at hb1
      rw [show x.sec * 512 + k = 512 * x.sec + k by omega] at ho1 ⊢
      refine ⟨⟨k + 1, hlt, by go_num, HO.out.trans ho1, hd.replat ho1 (hb1.only ((Only.refl [] _).drew) (by simp)) ?_ ?_⟩, by simp [intOf]; omega⟩
      · rw [← splice_setR plat x.data (512 * x.sec) k (by rw [hxw.len]; omega) (by rw [hxw.len, HL.out.1]; omega)]
        simpa using hsl
      · rw [← splice_setR plat x.data (512 * x.sec) k (by rw [hxw.len]; omega) (by rw [hxw.len, HL.out.1]; omega)]
        intro y hy
        rcases List.mem_or_eq_of_mem_set hy with hy | rfl
        · exact hd.u8 y hy
        · have hkl : k < x.data.length := by rw [hxw.len]; omega
          have hg : gb x.data k = x.data[k] := by simp [gb, List.getD, List.getElem?_eq_getElem hkl]
          rw [hg]
          exact hxw.u8 _ (List.getElem_mem hkl)
    · obtain rfl : k = m := by omega
      clear ho hd
      go_wp2
      go_end0
      exact ⟨rfl, (HWW.out.mono (by simp)).trans HO.out, HD.out⟩
end
end Go.Proofs.Ytpajdnjbeplneaa
