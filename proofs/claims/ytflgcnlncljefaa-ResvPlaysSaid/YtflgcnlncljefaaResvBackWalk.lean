/-
  The walk of 'ResvBack'.
-/
import Derived.Test.YtflgcnlncljefaaResvOps
namespace Go.Proofs.Ytflgcnlncljefaa
open Go.ChangeShapes Go.WideShapes Go.ChangeAt Go.RowKit Go.Deep
set_option linter.unusedVariables false

theorem leave_head (H L : Int) (t : ST) (r : List ST) : leaveF H ⟨L, t :: r⟩ t.id = ((admS H L r).2, 0, ⟨L, (admS H L r).1⟩) := by
  have h : atI (t :: r) t.id = ((0 : Nat) : Int) := atI_yes (i := 0) (s := t) rfl rfl (fun j s' hj => absurd hj (by omega))
  unfold leaveF
  simp only []
  rw [h, if_neg (by omega)]
  rfl
theorem admS_length (H L : Int) (ss : List ST) : (admS H L ss).1.length = ss.length := admitGo_length H L ss (resvL ss)

def BackIn (w : World) (g : Nat) (H : Int) (n : Nat) (iv : Value) (wr : World) : Prop := ∃ (k : Nat) (s : GS), k ≤ n ∧ iv = .int .i64 k ∧ GtI w wr g H s
def lenAt (g : Nat) (w : World) : Nat := match w.cell? ⟨g, 3, none⟩ with | some (.slice _ n _) => n | _ => 0
theorem lenAt_is {w wr : World} {g : Nat} {H : Int} {s : GS} (h : GtI w wr g H s) : lenAt g wr = s.ss.length := by
  obtain ⟨F, ⟨v, h1, _⟩, _⟩ := h
  obtain ⟨A, c, rfl, _⟩ := h1.row.form
  have hc : wr.cell? ⟨g, 3, none⟩ = some (.slice A s.ss.length c) := h1.blk.cell 3
  unfold lenAt
  rw [hc]

set_option maxHeartbeats 1500000 in
set_option maxRecDepth 100000 in
theorem resvBack_walk (n : Int) (A : Option Addr) (len cap : Nat) (w : World) (hlen : len < 5900000000000) (hops : ∀ i, i < len → OpAt9 w A i) :
    Calls Try.prog 8 #[.int .i64 n, .slice A len cap] w fun e w' => e = .returned (.bool true) ∧ Below w.heap.size w w' := by
  have HOP := hide hops
  have HLEN := hide hlen
  clear hops
  by_cases hn : 1 ≤ n ∧ n ≤ 1073741824
  · go_enter Try.func8, Try.ntmps8
    go_wp2_with fail
    refine (gNew_ok n hn).mono ?_
    rintro e w1 ⟨g, F, rfl, hg, hF, ho⟩
    have hI : GtI w w1 g n ⟨0, []⟩ := ⟨F, hg, hF, ho⟩
    clear hg hF ho
    go_wp2_with fail
    refine (lives9 _).mono ?_
    rintro e w2 ⟨rfl, ho2⟩
    have HI := hide (hI.only ho2)
    clear hI ho2
    go_wp2
    go_loopw [7] (fun iv wr => BackIn w g n len iv wr) (fun iv _ => len - (intOf iv).toNat)
    case atStart => exact ⟨0, _, Nat.zero_le _, rfl, HI.out⟩
    case round =>
      obtain ⟨k, s, hk, rfl, hI⟩ := hrel
      have HGI := hide hI
      by_cases hlt : k < len
      · obtain ⟨q, o, kd, b, c, rfl, hq, c0, c1, c2, hb, hc⟩ := HOP.out k hlt
        have HC := hide (fun (W : World) (hW : Only [] w W) => (show W.cell? ⟨q, o + k * 3, none⟩ = some (.int .i64 kd) ∧ W.cell? ⟨q, o + k * 3 + 1, none⟩ = some (.int .i64 b) ∧ W.cell? ⟨q, o + k * 3 + 2, none⟩ = some (.int .i64 c) from ⟨(hW.cell hq (by simp)).trans c0, (hW.cell hq (by simp)).trans c1, (hW.cell hq (by simp)).trans c2⟩))
        obtain ⟨d0, d1, d2⟩ := HC.out wr hI.base
        have HGT := hide (fun (W : World) (hW : Only [] wr W) => hI.only hW)
        have hl64 : (k : Int) + 1 ≤ 9223372036854775807 := by omega
        clear hI c0 c1 c2
        by_cases k1 : kd = 1
        · subst k1
          go_wp2_with fail
          go_region_held3 (fun w' => w'.cell? ⟨q, o + k * 3 + 1, none⟩ = some (.int .i64 b) ∧ w'.cell? ⟨q, o + k * 3 + 2, none⟩ = some (.int .i64 c)) (first | assumption | exact ⟨d1, d2⟩ | exact HK2.out | go_keep) (first | (go_at_call 14; refine (enterI (HGT.out _ (by repeat (first | exact Only.refl _ _ | apply Only.drew))) _ _).mono ?_; rintro e w3 ⟨rfl, hI3⟩; have HI3 := hide hI3; have HK2 := hide (HC.out _ hI3.base).2; clear hI3))
          all_goals
            go_wp2
            go_roundw
            case rel => exact ⟨k + 1, _, by omega, by go_num, HI3.out⟩
            case measure => simp [intOf]; omega
        · by_cases k2 : kd = 2
          · subst k2
            go_wp2_with fail
            go_region_held3 (fun w' => w'.cell? ⟨q, o + k * 3 + 1, none⟩ = some (.int .i64 b) ∧ w'.cell? ⟨q, o + k * 3 + 2, none⟩ = some (.int .i64 c)) (first | assumption | exact ⟨d1, d2⟩ | exact HK2.out | go_keep) (first | (go_at_call 15; refine (takeI (HGT.out _ (by repeat (first | exact Only.refl _ _ | apply Only.drew))) _ _).mono ?_; rintro e w3 ⟨rfl, hI3⟩; have HI3 := hide hI3; have HK2 := hide (HC.out _ hI3.base).2; clear hI3))
            all_goals
              go_wp2
              go_roundw
              case rel => exact ⟨k + 1, _, by omega, by go_num, HI3.out⟩
              case measure => simp [intOf]; omega
          · have e1 : (kd == 1) = false := beq_eq_false_iff_ne.2 k1
            have e2 : (kd == 2) = false := beq_eq_false_iff_ne.2 k2
            clear k1 k2
            go_wp2
            go_roundw
            case rel => exact ⟨k + 1, _, by omega, by go_num, HGI.out⟩
            case measure => simp [intOf]; omega
      · obtain rfl : k = len := by omega
        clear hI
        go_wp2
        go_loopw [] (fun wz => ∃ s' : GS, GtI w wz g n s') (fun wz => lenAt g wz)
        case atStart => exact ⟨_, HGI.out⟩
        case round =>
          obtain ⟨s', hI'⟩ := hrel
          have HME := hide (lenAt_is hI')
          obtain ⟨L', ss'⟩ := s'
          cases ss' with
          | nil =>
            have HS1 := hide (seatsI hI')
            have HI' := hide hI'
            clear hI'
            go_wp2_with (go_at_call 19; refine HS1.out.mono ?_; rintro e w4 ⟨A4, c4, rfl, hss4, hfr4, ho4⟩; have HO4 := hide ho4; clear hss4 hfr4 ho4)
            have hI4 := HI'.out.only HO4.out
            have hbd : 0 ≤ L' ∧ L' ≤ n := ⟨hI4.ok.l0, by have := hI4.ok.sum; have := hI4.ok.r0; simp only [] at *; omega⟩
            refine (heapI hI4).mono ?_
            rintro e w5 ⟨rfl, ho5⟩
            have hw1 : IntKind.i64.wrap (L' + 1) = L' + 1 := by rw [IntKind.wrap_i64]; omega
            have hI5 := hI4.only ho5
            have HX0 := hide (hI5.box (wr' := w5.alloc (.cells #[.int .i64 n, .int .i64 L', .int .i64 0] 43)) (b := w5.heap.size) ((Only.refl [] w5).alloc _) (Nat.le_refl _) (by simp))
            have HB0 := hide (Blk.new w5 43 #[.int .i64 n, .int .i64 L', .int .i64 0])
            clear hI4 ho5 hI5
            simp only [resvL]
            go_wp2_with fail
            have g1 : giveF n ⟨L', []⟩ (L' + 1) = ([], 1, ⟨L', []⟩) := by unfold giveF; rw [if_pos (.inr (by show L' < L' + 1; omega))]
            have g2 : giveF n ⟨L', []⟩ L' = ([], 0, ⟨0, []⟩) := by
              unfold giveF
              rw [if_neg (by show ¬ (L' < 0 ∨ L' < L'); omega)]
              have : L' - L' = 0 := by omega
              simp only []
              rw [this]
              rfl
            refine (giveX HX0.out (L' + 1)).mono ?_
            rw [g1]
            rintro e w6 ⟨A6, c6, rfl, hX6, hc6⟩
            have k1 : w6.cell? ⟨w5.heap.size, 1, none⟩ = some (.int .i64 L') := (hc6 1).trans (HB0.out.cell 1)
            have k2 : w6.cell? ⟨w5.heap.size, 2, none⟩ = some (.int .i64 0) := (hc6 2).trans (HB0.out.cell 2)
            have HX6 := hide hX6
            clear hX6 hc6
            simp only [List.length_nil]
            go_wp2_with fail
            refine (giveX HX6.out L').mono ?_
            rw [g2]
            rintro e w7 ⟨A7, c7, rfl, hX7, hc7⟩
            have k3 : w7.cell? ⟨w5.heap.size, 2, none⟩ = some (.int .i64 0) := (hc7 2).trans k2
            have HX7 := hide hX7
            have HH7 := hide (heapI hX7.gi)
            clear hX7 hc7 k1 k2 g1 g2
            simp only [List.length_nil]
            go_wp2_with (go_at_call 18; refine HH7.out.mono ?_; rintro e w8 ⟨rfl, ho8⟩; have HO8 := hide ho8; clear ho8)
            go_ret
            exact ⟨rfl, (HX7.out.gi.base.trans HO8.out).below (Nat.le_refl _) (by simp)⟩
          | cons t r =>
            have HGS := hide (fun (W : World) (hW : Only [] wr W) => seatsI (hI'.only hW))
            have HGL := hide (fun (W : World) (hW : Only [] wr W) => leaveI (hI'.only hW) t.id)
            rw [leave_head] at HGL
            have HI' := hide hI'
            clear hI'
            go_wp2_with (first | (go_at_call 19; have hg := HO4; refine (HGS.out _ (by exact HO4.out)).mono ?_; rintro e w5 ⟨A5, c5, rfl, hss5, hfr5, ho5⟩; have HO5 := hide (HO4.out.trans ho5); obtain ⟨b5, rfl, _, hc5⟩ := hss5 (by simp); obtain ⟨i0, _, _, _⟩ := hc5 0 t rfl; rw [Nat.zero_mul] at i0; clear hss5 hfr5 ho5 hc5) | (go_at_call 19; refine (HGS.out _ (Only.refl _ _)).mono ?_; rintro e w4 ⟨A4, c4, rfl, hss4, hfr4, ho4⟩; have HO4 := hide ho4; clear hss4 hfr4 ho4) | (go_at_call 17; refine (HGL.out _ HO5.out).mono ?_; rintro e w6 ⟨A6, c6, rfl, _, hI6⟩; have HI6 := hide hI6; clear hI6))
            go_roundw
            case rel => exact ⟨_, HI6.out⟩
            case measure => rw [HME.out, lenAt_is HI6.out, admS_length]; simp
  · go_enter Try.func8, Try.ntmps8
    go_wp2_with (first | (go_at_call 9; refine (gNew_no n (by omega)).mono ?_; rintro e w1 ⟨rfl, rfl⟩) | (go_at_call 11; refine (lives9 _).mono ?_; rintro e w2 ⟨rfl, ho2⟩; have HO2 := hide ho2; clear ho2))
    go_ret
    exact ⟨rfl, HO2.out.below (Nat.le_refl _) (by simp)⟩
end Go.Proofs.Ytflgcnlncljefaa
