/-
  The law's does over the pair of both disks: Write.
-/
import Derived.Test.YtpkoihbebhmicaaRDoes3
namespace Go.Proofs.Ytpkoihbebhmicaa
open Go.ChangeShapes Go.WideShapes Go.ChangeAt Go.RowKit
set_option linter.unusedVariables false

theorem row_sees {w : World} {d : Nat} {zs : List Int} (hb : Blk w d 5 (u8l zs).toArray) : Sees w (some ⟨d, 0, none⟩) zs.length zs :=
  ⟨rfl, fun _ => ⟨d, 0, rfl, hb.lt, fun i hi => by
    rw [Nat.zero_add, hb.cell]
    have := u8l_get zs [] i hi
    simpa using this⟩⟩

section
variable {w0 w : World} {g gr N k : Nat} (h : Pr w0 w g gr N k)
include h

/-- Write of both; what lies between may turn the slice that was handed in. -/
theorem pr_write (n : Int) (zs : List Int) (hu : U8 zs) (hk : k < 4398046511000) (B : Nat) (tB : TypeId) (cs : Array Value) (hB : w.heap.size ≤ B) :
    ∃ E : Int, ∀ (wb : World) (d : Nat), Only [] w wb → Blk wb B tB cs → w.heap.size ≤ d → Blk wb d 5 (u8l zs).toArray →
      Calls Try.prog 10 #[.pointer (some ⟨g, 0, none⟩), .int .i64 n, .slice (some ⟨d, 0, none⟩) zs.length zs.length] wb fun e w1 => e = .returned (.int .i64 E) ∧ Blk w1 B tB cs ∧ Blk w1 d 5 (u8l zs).toArray ∧ wb.heap.size ≤ w1.heap.size ∧
        ∀ (w3 : World) (d2 : Nat), Only [d] w1 w3 → w1.heap.size ≤ d2 → Blk w3 d2 5 (u8l zs).toArray →
          Calls Try.prog 28 #[.pointer (some ⟨gr, 0, none⟩), .int .i64 n, .slice (some ⟨d2, 0, none⟩) zs.length zs.length] w3 fun e w4 => e = .returned (.int .i64 E) ∧ Only [] (w3) w3 ∧ (B ≠ d → Blk w3 B tB cs → Blk w4 B tB cs) ∧ Pr w0 w4 g gr N (k + 1) := by
  obtain ⟨plat, l, left, left', stops, rd, wt, fl, F, G, hd, hr, hl, hFG, hF, hG, h0⟩ := h
  have b1 : B ∉ F := fun hm => by have := hd.lt B hm; omega
  have b2 : B ∉ G := fun hm => by have := hr.lt B hm; omega
  have hc := hd.counts
  -- nothing is done
  have idle : ∀ E : Int, (∀ wb (d : Nat), Only [] w wb → Calls Try.prog 10 #[.pointer (some ⟨g, 0, none⟩), .int .i64 n, .slice (some ⟨d, 0, none⟩) zs.length zs.length] wb fun e w1 => e = .returned (.int .i64 E) ∧ wb = w1) →
      (∀ w3 (d2 : Nat), Rk w3 gr N plat l left' stops rd wt fl G → Calls Try.prog 28 #[.pointer (some ⟨gr, 0, none⟩), .int .i64 n, .slice (some ⟨d2, 0, none⟩) zs.length zs.length] w3 fun e w4 => e = .returned (.int .i64 E) ∧ Only [] w3 w4) →
      ∀ (wb : World) (d : Nat), Only [] w wb → Blk wb B tB cs → w.heap.size ≤ d → Blk wb d 5 (u8l zs).toArray →
      Calls Try.prog 10 #[.pointer (some ⟨g, 0, none⟩), .int .i64 n, .slice (some ⟨d, 0, none⟩) zs.length zs.length] wb fun e w1 => e = .returned (.int .i64 E) ∧ Blk w1 B tB cs ∧ Blk w1 d 5 (u8l zs).toArray ∧ wb.heap.size ≤ w1.heap.size ∧
        ∀ (w3 : World) (d2 : Nat), Only [d] w1 w3 → w1.heap.size ≤ d2 → Blk w3 d2 5 (u8l zs).toArray →
          Calls Try.prog 28 #[.pointer (some ⟨gr, 0, none⟩), .int .i64 n, .slice (some ⟨d2, 0, none⟩) zs.length zs.length] w3 fun e w4 => e = .returned (.int .i64 E) ∧ Only [] (w3) w3 ∧ (B ≠ d → Blk w3 B tB cs → Blk w4 B tB cs) ∧ Pr w0 w4 g gr N (k + 1) := by
    intro E hdw hrw wb d ob hbB hwd hbd
    refine (hdw wb d ob).mono ?_
    rintro e w1 ⟨he, rfl⟩
    refine ⟨he, hbB, hbd, Nat.le_refl _, fun w3 d2 o3 hd2 hb2 => ?_⟩
    have dF : ∀ q ∈ F, q ∉ [d] := fun q hq => by have := hd.lt q hq; simp; omega
    have dG : ∀ q ∈ G, q ∉ [d] := fun q hq => by have := hr.lt q hq; simp; omega
    have hr3 := (hr.quiet ob).only o3 dG
    refine (hrw w3 d2 hr3).mono ?_
    rintro e w4 ⟨he, o4⟩
    refine ⟨he, Only.refl _ _, fun _ hb3 => hb3.only o4 (by simp), plat, l, left, left', stops, rd, wt, fl, F, G, (((hd.quiet ob).only o3 dF).quiet o4).more (Nat.le_succ k), hr3.quiet o4, hl, hFG, hF, hG, ?_⟩
    exact ((h0.trans ob).trans' o3 (fun q hq hm => by simp at hm; have := h0.size; omega)).trans o4
  by_cases hn : n < 0 ∨ N ≤ n
  · exact ⟨20, idle 20 (fun wb d ob => dk_write_sector (hd.quiet ob) n _ _ _ hn) (fun w3 d2 hr3 => (rk_write_sector hr3 n _ _ _ hn).mono fun e w4 ⟨a, b⟩ => ⟨a, b ▸ Only.refl _ _⟩)⟩
  obtain ⟨n, rfl⟩ := Int.eq_ofNat_of_zero_le (show 0 ≤ n by omega)
  by_cases hL : zs.length ≠ 512
  · exact ⟨1, idle 1 (fun wb d ob => dk_write_len (hd.quiet ob) n _ _ _ (by omega) (by omega) hL) (fun w3 d2 hr3 => (rk_write_len hr3 n _ _ _ (by omega) (by omega) hL).mono fun e w4 ⟨a, b⟩ => ⟨a, b ▸ Only.refl _ _⟩)⟩
  have hL2 : zs.length = 512 := by omega
  by_cases hl0 : left = 0
  · obtain ⟨z1, z2⟩ := hl.zero hl0
    exact ⟨0, idle 0 (fun wb d ob => by rw [hL2]; exact dk_write_off (hd.quiet ob) n _ _ (by omega) (by omega) hl0) (fun w3 d2 hr3 => by rw [hL2]; exact rk_write_off hr3 n _ _ (by omega) (by omega) z1 z2)⟩
  · refine ⟨0, fun wb d ob hbB hwd hbd => ?_⟩
    have hdF : d ∉ F := fun hm => by have := hd.lt d hm; omega
    have hdG : d ∉ G := fun hm => by have := hr.lt d hm; omega
    have hsd := row_sees hbd
    obtain ⟨_, _, e1, _, hcell⟩ := hsd.2 (by omega)
    cases e1
    have hdw := dk_write (hd.quiet ob) n d 0 zs.length zs (by omega) hl0 hl.max.1 hL2 hu (fun i hi => hcell i (by omega)) hbd.lt hdF hk
    rw [← hL2] at hdw
    refine hdw.mono ?_
    rintro e w1 ⟨he, F', t1, hd1⟩
    refine ⟨he, hbB.only t1.1 b1, hbd.only t1.1 hdF, t1.1.size, fun w3 d2 o3 hd2 hb2 => ?_⟩
    have hr1 := (hr.quiet ob).only t1.1 (fun q hq hf => hFG q hf hq)
    have hr3 := hr1.only o3 (fun q hq hm => by simp at hm; exact hdG (hm ▸ hq))
    have hdF' : d ∉ F' := fun hm => by
      rcases t1.2 d hm with h | h
      · exact hdF h
      · have := hbd.lt; omega
    have hd3 := hd1.only o3 (fun q hq hm => by simp at hm; exact hdF' (hm ▸ hq))
    have h01 : Only [] w0 w1 := (h0.trans ob).trans' t1.1 (fun q hq hm => by have := hF q hm; omega)
    have h03 : Only [] w0 w3 := h01.trans' o3 (fun q hq hm => by simp at hm; have := h0.size; omega)
    have hlp := hl.pos hl0
    have hlen := hd.few
    have hsee := row_sees hb2
    have hrw := rk_write hr3 n (some ⟨d2, 0, none⟩) zs.length zs (by omega) hlp.1 hl.max.2 (hL2 ▸ hsee) hu (fun b hb hm => by cases hb; have := hr1.lt d2 hm; omega) hc.2.1.1 (by omega) (by omega)
    rw [← hL2] at hrw
    refine hrw.mono ?_
    rintro e w4 ⟨G', he4, t2, hr4⟩
    have t1' : Turned wb w3 F F' → True := fun _ => trivial
    have e1 : ∀ q ∈ F', q ∉ G := fun q hq hg => by
      rcases t1.2 q hq with h | h
      · exact hFG q h hg
      · have := (hr.quiet ob).lt q hg; omega
    have e2 : ∀ q ∈ F', w0.heap.size ≤ q := fun q hq => by
      rcases t1.2 q hq with h | h
      · exact hF q h
      · have := h0.size; have := ob.size; omega
    refine ⟨he4, Only.refl _ _, fun hBd hb3 => hb3.only t2.1 b2, plat, _, _, _, stops, rd, _, fl, F', G', hd3.only t2.1 e1, hr4, hlp.2, fun q hq hg => ?_, e2, fun q hq => ?_, ?_⟩
    · rcases t2.2 q hg with h | h
      · exact e1 q hq h
      · have := hd3.lt q hq; omega
    · rcases t2.2 q hq with h | h
      · exact hG q h
      · have := h03.size; omega
    · exact h03.trans' t2.1 (fun q hq hm => by have := hG q hm; omega)

set_option maxRecDepth 100000 in
set_option maxHeartbeats 1000000 in
theorem does_write (m b x : Int) (K : Option Addr) (kn kc : Nat) (hk : k < 4398046511000) (hb0 : 0 ≤ b) (hb1 : b ≤ 255) :
    Calls Try.prog 13 #[.pointer (some ⟨g, 0, none⟩), .pointer (some ⟨gr, 0, none⟩), opV 0 m b x K kn kc] w fun e w' => e = .returned (.bool true) ∧ Pr w0 w' g gr N (k + 1) := by
  obtain ⟨L, hL⟩ := Int.eq_ofNat_of_zero_le (show 0 ≤ 512 + x.tmod 4 by have := Int.lt_tmod_of_pos x (show (0 : Int) < 4 by decide); omega)
  have hL9 : L ≤ 515 := by have := Int.tmod_lt_of_pos x (show (0 : Int) < 4 by decide); omega
  obtain ⟨E, hE⟩ := pr_write h m (fillL L b) (u8_fillL L b) hk w.heap.size 33 (opC 0 m b x K kn kc) (Nat.le_refl _)
  rw [fillL_length] at hE
  have HE := hide hE
  have HB := hide (Blk.new w 33 (opC 0 m b x K kn kc))
  have HFI := hide (fun W => filled_ok L b W (by omega) hb0 hb1)
  clear h hE
  go_enter Try.func13, Try.ntmps13
  go_wp2_with (go_at_call 11; refine (HFI.out _).mono ?_; rintro e w1 ⟨d, rfl, hd, hbd, ho⟩; have HD := hide hd; have HBD := hide hbd; have HO := hide ho; have c1 : w1.cell? ⟨w.heap.size, 1, none⟩ = some (.int .i64 m) := ((HB.out.only ho (by simp)).cell 1).trans rfl; clear hd hbd ho; rw [fillL_length])
  have HO1 := hide (((Only.refl [] w).alloc (.cells (opC 0 m b x K kn kc) 33)).trans HO.out)
  have HDW := hide (show w.heap.size + 1 ≤ d by have := HD.out; simpa using this)
  refine (HE.out w1 d HO1.out (HB.out.only HO.out (by simp)) (by have := HDW.out; omega) HBD.out).mono ?_
  rintro e w2 ⟨rfl, hbB, hbd, hsz, hnext⟩
  have HNX := hide hnext
  have HBB := hide hbB
  have HBD2 := hide hbd
  have HDL := hide (show d < w2.heap.size from hbd.lt)
  clear hbB hbd hnext hsz c1
  go_wp2_with fail
  go_loopw [34] (fun i wr => ∃ j : Nat, j ≤ L ∧ i = .int .i64 j ∧ Only [d] w2 wr ∧ ∃ zs : List Int, zs.length = L ∧ Blk wr d 5 (u8l zs ++ ([] : List Value)).toArray) (fun i _ => L - (intOf i).toNat)
  case atStart => exact ⟨0, Nat.zero_le _, rfl, Only.refl _ _, fillL L b, fillL_length _ _, by simpa using HBD2.out⟩
  case round =>
    obtain ⟨j, hj, rfl, ho, zs, hzl, hbk⟩ := hrel
    have HOj := hide ho
    have HBj := hide hbk
    have HZL := hide hzl
    by_cases hlt : j < L
    · have hck : wr.cell? ⟨d, j, none⟩ = some (.int .u8 (gb zs j)) := by
        rw [hbk.cell]
        exact u8l_get zs [] j (by omega)
      have hfk := hbk.frozen j
      have hk2 : (j : Int) < L := by omega
      clear hbk ho hzl hL
      generalize gb zs j = y at hck
      go_wp2
      go_roundw
      case rel => exact ⟨j + 1, hlt, by go_num, HOj.out.setCell _ (by simp), _, (List.length_set ..).trans HZL.out, HBj.out.setu_ (by rw [HZL.out]; exact hlt) _⟩
      case measure => simp [intOf]; omega
    · have hbw : Blk wr w.heap.size 33 (opC 0 m b x K kn kc) := HBB.out.only ho (by have := HDW.out; simp; omega)
      have HBW := hide hbw
      have c1 : wr.cell? ⟨w.heap.size, 1, none⟩ = some (.int .i64 m) := (hbw.cell 1).trans rfl
      have c2 : wr.cell? ⟨w.heap.size, 2, none⟩ = some (.int .u8 b) := (hbw.cell 2).trans rfl
      have c3 : wr.cell? ⟨w.heap.size, 3, none⟩ = some (.int .i64 x) := (hbw.cell 3).trans rfl
      clear hbk ho hbw hzl
      go_wp2_with fail
      have hLw : IntKind.i64.wrap (L : Int) = (L : Int) := by rw [IntKind.wrap_i64]; omega
      have hLx : IntKind.i64.wrap (512 + x.tmod 4) = (L : Int) := by rw [hL, hLw]
      go_region_held3 (fun W => W.cell? ⟨w.heap.size, 1, none⟩ = some (.int .i64 m) ∧ W.cell? ⟨w.heap.size, 2, none⟩ = some (.int .u8 b) ∧ W.cell? ⟨w.heap.size, 3, none⟩ = some (.int .i64 x)) (first | go_keep | exact cc4 | exact cc3 | exact ⟨c1, c2, c3⟩) (first | (go_at_call 11; refine (HFI.out _).mono ?_; rintro e w3 ⟨d2, rfl, hd2, hbd2, ho2⟩; rw [fillL_length]; have k3 : Only [] wr w3 := Only.trans (by repeat (first | exact Only.refl _ _ | apply Only.drew)) ho2; have hb3 := HBW.out.only k3 (by simp); have g2 : w2.heap.size ≤ d2 := Nat.le_trans HOj.out.size (Nat.le_trans (Only.size (S := []) (by repeat (first | exact Only.refl _ _ | apply Only.drew))) hd2); have cc3 : w3.cell? ⟨w.heap.size, 1, none⟩ = some (.int .i64 m) ∧ w3.cell? ⟨w.heap.size, 2, none⟩ = some (.int .u8 b) ∧ w3.cell? ⟨w.heap.size, 3, none⟩ = some (.int .i64 x) := ⟨(hb3.cell 1).trans rfl, (hb3.cell 2).trans rfl, (hb3.cell 3).trans rfl⟩) | (go_at_call 28; have k4 : Only [] w3 _ := (by repeat (first | exact Only.refl _ _ | apply Only.drew)); refine (HNX.out _ d2 ((HOj.out.trans (k3.mono (by simp))).trans (k4.mono (by simp))) g2 (hbd2.only k4 (by simp))).mono ?_; rintro e w4 ⟨rfl, _, hb4, hp4⟩; have hb5 := hb4 (by have := HDW.out; omega) (hb3.only k4 (by simp)); have cc4 : w4.cell? ⟨w.heap.size, 1, none⟩ = some (.int .i64 m) ∧ w4.cell? ⟨w.heap.size, 2, none⟩ = some (.int .u8 b) ∧ w4.cell? ⟨w.heap.size, 3, none⟩ = some (.int .i64 x) := ⟨(hb5.cell 1).trans rfl, (hb5.cell 2).trans rfl, (hb5.cell 3).trans rfl⟩))
      have HPR := hide hp4
      clear hp4 hb4 hb5 cc4 cc3 hb3 hbd2 ho2 k3 k4 g2 hd2 c1 c2 c3 hL hLw hLx
      go_wp2
      go_ret
      exact ⟨rfl, HPR.out⟩
end
end Go.Proofs.Ytpkoihbebhmicaa
