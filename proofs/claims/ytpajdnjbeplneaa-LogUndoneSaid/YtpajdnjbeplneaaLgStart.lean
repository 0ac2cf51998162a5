/-
  The log: the laws' 'start'.
-/
import Derived.Test.YtpajdnjbeplneaaLgTell
import Derived.Test.YtpajdnjbeplneaaLgNil
import Derived.Test.YtpajdnjbeplneaaXFormat
namespace Go.Proofs.Ytpajdnjbeplneaa
open Go.ChangeShapes Go.WideShapes Go.ChangeAt Go.RowKit Go.Maps
set_option linter.unusedVariables false
/-- The platter behind Format. -/
def fmtF (N a : Nat) : List Int := layAll (List.replicate (512 * N) 0) [(a, hdrF 0 [])]
/-- Both logs, made behind w. -/
structure Both0 (w w' : World) (gw gd g gr gx N a sz : Nat) (F G : List Nat) : Prop where
  lg : LgP w' g gd N a sz none ⟨0, [], 0, 0, fmtF N a, []⟩ 2 F
  xd : Xd w' gr N (fmtF N a) [] 2 G
  xl : Blk w' gx 71 (xlC gr a sz 0 (.slice none 0 0) (.slice none 0 0) false false 0)
  wd : Blk w' gw 37 #[.pointer (some ⟨gd, 0, none⟩), .pointer (some ⟨g, 0, none⟩), .pointer (some ⟨gr, 0, none⟩), .pointer (some ⟨gx, 0, none⟩)]
  newF : ∀ q ∈ F, w.heap.size ≤ q
  newG : ∀ q ∈ G, w.heap.size ≤ q
  newx : w.heap.size ≤ gx
  neww : w.heap.size ≤ gw
  apart : ∀ q ∈ F, q ∉ G
  gxF : gx ∉ F ∧ gx ∉ G
  gwF : gw ∉ F ∧ gw ∉ G
  only : Only [] w w'
/-- What start gives. -/
def Started (w w' : World) (e : Ending) (count a sz : Int) : Prop :=
  if 1 ≤ count ∧ count ≤ 4096 ∧ mayL count.toNat a sz = true then ∃ gw gd g gr gx F G, e = .returned (.tuple #[.pointer (some ⟨gw, 0, none⟩), .bool true]) ∧ Both0 w w' gw gd g gr gx count.toNat a.toNat sz.toNat F G
  else e = .returned (.tuple #[.pointer none, .bool true]) ∧ Only [] w w'
set_option maxRecDepth 100000 in
set_option maxHeartbeats 2000000 in
theorem start_is (count a sz : Int) (w : World) : Calls Try.prog 6 #[.int .i64 count, .int .i64 a, .int .i64 sz] w fun e w' => Started w w' e count a sz := by
  by_cases hc : 1 ≤ count ∧ count ≤ 4096
  · obtain ⟨N, rfl⟩ := Int.eq_ofNat_of_zero_le (show 0 ≤ count by omega)
    go_enter Try.func6, Try.ntmps6
    go_wp2_with fail
    refine (dk_new (N : Int) _ hc.1 hc.2).mono ?_
    rintro e w1 ⟨gd, FD, rfl, ho1, hFD, hd⟩
    rw [Int.toNat_natCast] at hd
    have HO1 := hide ho1
    have HFD := hide hFD
    have HD1 := hide hd
    clear ho1 hFD hd
    go_wp2_with fail
    refine (xd_new (N : Int) _ hc.1 hc.2).mono ?_
    rintro e w2 ⟨gr, GR, rfl, ho2, hGR, hx⟩
    rw [Int.toNat_natCast] at hx
    have HO2 := hide (HO1.out.trans ho2)
    have HD2 := hide (HD1.out.quiet ho2)
    have HGR := hide hGR
    have HX2 := hide hx
    have HGF := hide (show ∀ q ∈ FD, q ∉ GR from fun q hq hm => by have := HD1.out.lt q hq; have := hGR q hm; omega)
    clear ho2 hGR hx
    go_wp2_with fail
    refine (awake_ok _).mono ?_
    rintro e w3 ⟨rfl, ho3⟩
    have HO3 := hide (HO2.out.trans ho3)
    have HD3 := hide (HD2.out.quiet ho3)
    have HX3 := hide (HX2.out.quiet ho3)
    clear ho3
    have hcN : N ≤ 4096 := by omega
    cases hm : mayL N a sz with
    | false =>
      have HF := hide (format_no hcN a sz (dk_count HD3.out) hm)
      have HXF := hide (xformat_no HX3.out a sz hm)
      have HS := hide (show ¬(1 ≤ (N : Int) ∧ (N : Int) ≤ 4096 ∧ mayL (N : Int).toNat a sz = true) from fun e => by rw [Int.toNat_natCast, hm] at e; cases e.2.2)
      clear hm hc
      go_wp2_with (first | (go_at_call 29; refine HF.out.mono ?_; rintro e w' ⟨rfl, rfl⟩) | (go_at_call 30; refine HXF.out.mono ?_; rintro e w' ⟨rfl, rfl⟩))
      go_ret2
      unfold Started
      rw [if_neg HS.out]
      exact ⟨rfl, HO3.out⟩
    | true =>
      have hmm := of_decide_eq_true hm
      obtain ⟨an, rfl⟩ := Int.eq_ofNat_of_zero_le hmm.2.2.1
      obtain ⟨sn, rfl⟩ := Int.eq_ofNat_of_zero_le (show 0 ≤ sz by omega)
      have HS := hide (show 1 ≤ (N : Int) ∧ (N : Int) ≤ 4096 ∧ mayL (N : Int).toNat (an : Int) (sn : Int) = true from ⟨hc.1, hc.2, by rw [Int.toNat_natCast]; exact hm⟩)
      have HF := hide (format_ok (a := an) (sz := sn) HD3.out hm (by decide))
      have HXM := hide hm
      clear hm hmm hc
      go_wp2_with fail
      refine HF.out.mono ?_
      rintro e w4 ⟨g, F, rfl, ho4, hF, hL⟩
      unfold fmtP at hL
      rw [List.nil_append] at hL
      have HO4 := hide (HO3.out.trans' ho4 (fun q hq hm => by have := HFD.out q hm; omega))
      have HX4 := hide (HX3.out.only ho4 (fun q hq hm => HGF.out q hm hq))
      have HF4 := hide (show (∀ q ∈ F, w.heap.size ≤ q) ∧ ∀ q ∈ F, q ∉ GR from ⟨fun q hq => (hF q hq).elim (fun e => HFD.out q e) (fun e => Nat.le_trans HO3.out.size e), fun q hq hm => by
        rcases hF q hq with e | e
        · exact HGF.out q e hm
        · have := HX3.out.lt q hm; omega⟩)
      have HL4 := hide hL
      clear ho4 hF hL
      go_wp2_with fail
      refine (xformat_ok (a := an) (sz := sn) HX4.out HXM.out (by decide)).mono ?_
      rintro e w5 ⟨gx, G, rfl, hgx, hgxG, hT, hX, hB⟩
      rw [List.nil_append] at hX
      have HO5 := hide (HO4.out.trans' hT.1 (fun q hq hm => by have := HGR.out q hm; have := HO1.out.size; omega))
      have HL5 := hide (HL4.out.only hT.1 (fun q hq hm => HF4.out.2 q hq hm))
      have HA5 := hide (show (∀ q ∈ G, w.heap.size ≤ q) ∧ (∀ q ∈ F, q ∉ G) ∧ w.heap.size ≤ gx ∧ gx ∉ F ∧ gx ∉ G from ⟨fun q hq => (hT.2 q hq).elim (fun e => Nat.le_trans HO1.out.size (HGR.out q e)) (fun e => Nat.le_trans HO4.out.size e), fun q hq hm => by
        rcases hT.2 q hm with e | e
        · exact HF4.out.2 q hq e
        · have := HL4.out.lt q hq; omega, Nat.le_trans HO4.out.size hgx, fun hm => by have := HL4.out.lt gx hm; omega, hgxG⟩)
      have HX5 := hide hX
      have HB5 := hide hB
      clear hgx hgxG hT hX hB
      go_wp2
      go_ret2
      unfold Started
      rw [if_pos HS.out]
      have hA : Only [] w5 (w5.alloc (.cells #[.pointer (some ⟨gd, 0, none⟩), .pointer (some ⟨g, 0, none⟩), .pointer (some ⟨gr, 0, none⟩), .pointer (some ⟨gx, 0, none⟩)] 37)) := (Only.refl [] w5).alloc _
      refine ⟨w5.heap.size, gd, g, gr, gx, F, G, rfl, ?_⟩
      rw [Int.toNat_natCast, Int.toNat_natCast, Int.toNat_natCast]
      exact ⟨HL5.out.quiet hA, HX5.out.quiet hA, HB5.out.only hA (by simp), Blk.new _ _ _, HF4.out.1, HA5.out.1, HA5.out.2.2.1, HO5.out.size, HA5.out.2.1, HA5.out.2.2.2, ⟨fun hm => absurd (HL5.out.lt _ hm) (Nat.lt_irrefl _), fun hm => absurd (HX5.out.lt _ hm) (Nat.lt_irrefl _)⟩, HO5.out.trans hA⟩
  · have HS := hide (show ¬(1 ≤ count ∧ count ≤ 4096 ∧ mayL count.toNat a sz = true) from fun e => hc ⟨e.1, e.2.1⟩)
    have hb : count < 1 ∨ 4096 < count := by omega
    have HD := hide (fun W => dnew_bad count W hb)
    have HX := hide (fun W => rnew_bad count W hb)
    have hm0 : mayL 0 a sz = false := decide_eq_false (by omega)
    have HF := hide (fun W => format_no (w := W) (N := 0) (by decide) a sz (dcount_nil W) hm0)
    clear hc hb hm0
    go_enter Try.func6, Try.ntmps6
    go_wp2_with (first | (go_at_call 27; refine (HD.out _).mono ?_; rintro e w' ⟨rfl, rfl⟩) | (go_at_call 28; refine (HX.out _).mono ?_; rintro e w' ⟨rfl, rfl⟩) | (go_at_call 18; refine (awake_ok _).mono ?_; rintro e w3 ⟨rfl, ho3⟩; have HO3 := hide ho3; clear ho3) | (go_at_call 29; refine (HF.out _).mono ?_; rintro e w' ⟨rfl, rfl⟩))
    go_ret2
    unfold Started
    rw [if_neg HS.out]
    exact ⟨rfl, HO3.out⟩
end Go.Proofs.Ytpajdnjbeplneaa
