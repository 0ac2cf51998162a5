/-
  The walk of 'ResvOrder'.
-/
import Derived.Test.YtflgcnlncljefaaResvOrder
namespace Go.Proofs.Ytflgcnlncljefaa
open Go.ChangeShapes Go.WideShapes Go.ChangeAt Go.RowKit Go.Deep
set_option linter.unusedVariables false

/-- In the first loop: i calls came. -/
structure OrdS (w wr : World) (g : Nat) (H : Int) (i : Nat) (ss : List ST) : Prop where
  gt : GtI w wr g H ⟨0, ss⟩
  shape : Shape H 0 ss
  rise : Rises 0 (ss.map ST.id)
  top : ∀ x ∈ ss.map ST.id, x ≤ i
  few : ss.length ≤ i
def OrdIn (w : World) (g : Nat) (H : Int) (len : Nat) (wv nv iv : Value) (wr : World) : Prop :=
  ∃ (i : Nat) (ss : List ST), i ≤ len ∧ i ≤ 64 ∧ iv = .int .i64 i ∧ nv = .int .i64 ss.length ∧ wv = .bool (anyW ss) ∧ OrdS w wr g H i ss
def OrdIn2 (w : World) (g : Nat) (H : Int) (n : Nat) (lv gv kv : Value) (wr : World) : Prop :=
  ∃ (k : Nat) (last : Int) (ss : List ST), k + ss.length = n ∧ kv = .int .i64 k ∧ gv = .int .i64 k ∧ lv = .int .i64 last ∧ GtI w wr g H ⟨0, ss⟩ ∧ Shape H 0 ss ∧ Rises last (ss.map ST.id)

section
variable {w wr : World} {g : Nat} {H : Int} {i : Nat} {ss : List ST}
theorem enterO (h : OrdS w wr g H i ss) (hi : i < 64) (b : Int) : Calls Try.prog 14 #[.pointer (some ⟨g, 0, none⟩), .int .i64 ((i : Int) + 1), .int .i64 b] wr fun e w' => ∃ (bb : Bool) (er : Int) (ss3 : List ST), e = .returned (.tuple #[.bool bb, .int .i64 er]) ∧ OrdS w w' g H (i + 1) ss3 ∧
    ((er ≠ 0 ∧ ss3 = ss ∧ (b < 0 ∨ H < b)) ∨ (er = 0 ∧ (bb = true → anyW ss = false) ∧ anyW ss3 = (anyW ss || !bb) ∧ ss3.length = ss.length + 1)) := by
  have hat : atI ss ((i : Int) + 1) < 0 := by
    rw [atI_no (fun s hs he => by have := h.top s.id (List.mem_map_of_mem hs); omega)]
    omega
  have hl : ss.length ≠ 64 := by have := h.few; omega
  refine (enterI h.gt _ b).mono ?_
  rintro e w' ⟨rfl, hg⟩
  by_cases he : (enterF H ⟨0, ss⟩ ((i : Int) + 1) b).2.1 = 0
  · obtain ⟨h1, h2, h3, h4, h5⟩ := enter_order (s := ⟨0, ss⟩) h.shape he
    have hlen : (enterF H ⟨0, ss⟩ ((i : Int) + 1) b).2.2.ss.length = ss.length + 1 := by
      have := congrArg List.length h5
      simpa using this
    have e0 : (enterF H ⟨0, ss⟩ ((i : Int) + 1) b).2.2 = ⟨0, (enterF H ⟨0, ss⟩ ((i : Int) + 1) b).2.2.ss⟩ := by
      have hx : ∀ x : GS, x.L = 0 → x = ⟨0, x.ss⟩ := fun x hx => by cases x; simp at hx; subst hx; rfl
      exact hx _ h4
    refine ⟨_, _, (enterF H ⟨0, ss⟩ ((i : Int) + 1) b).2.2.ss, rfl, ⟨by rw [e0] at hg; exact hg, h3, ?_, ?_, by have := h.few; omega⟩, .inr ⟨he, h1, h2, hlen⟩⟩
    · rw [h5]
      refine rises_snoc h.rise (fun y hy => ?_)
      rcases List.mem_cons.1 hy with rfl | hy
      · omega
      · have := h.top y hy; omega
    · rw [h5]
      intro x hx
      rcases List.mem_append.1 hx with hx | hx
      · have := h.top x hx; omega
      · simp at hx; omega
  · obtain ⟨h1, h2⟩ := enter_err he hat hl
    rw [h1] at hg
    exact ⟨_, _, ss, rfl, ⟨hg, h.shape, h.rise, fun x hx => by have := h.top x hx; omega, by have := h.few; omega⟩, .inl ⟨he, rfl, h2⟩⟩
end

set_option maxHeartbeats 1500000 in
set_option maxRecDepth 100000 in
theorem resvOrder_walk (n : Int) (A : Option Addr) (len cap : Nat) (zs : List Int) (w : World) (hz : IsRow .i64 w A len cap zs) :
    Calls Try.prog 5 #[.int .i64 n, .slice A len cap] w fun e w' => e = .returned (.bool true) ∧ Below w.heap.size w w' := by
  have HZ := hide hz
  clear hz
  by_cases hn : 1 ≤ n ∧ n ≤ 1073741824
  · go_enter Try.func5, Try.ntmps5
    go_wp2_with fail
    refine (gNew_ok n hn).mono ?_
    rintro e w1 ⟨g, F, rfl, hg, hF, ho⟩
    have hI : GtI w w1 g n ⟨0, []⟩ := ⟨F, hg, hF, ho⟩
    clear hg hF ho
    go_wp2_with fail
    refine (lives9 _).mono ?_
    rintro e w2 ⟨rfl, ho2⟩
    have HI := hide (hI.only ho2)
    clear hI ho2
    go_wp2
    go_loopw [7, 8, 9] (fun wv nv iv wr => OrdIn w g n len wv nv iv wr) (fun _ _ iv _ => len - (intOf iv).toNat)
    case atStart => exact ⟨0, [], Nat.zero_le _, by omega, rfl, rfl, rfl, ⟨HI.out, ⟨[], [], rfl, ⟨by simp, by simp⟩, by simp⟩, by simp [Rises], by simp, by simp⟩⟩
    case round =>
      obtain ⟨i, ss, hi, hi64, rfl, rfl, rfl, hs⟩ := hrel
      have HS := hide hs
      clear hs
      by_cases hlt : i < len ∧ i < 64
      · obtain ⟨hlt, hi2⟩ := hlt
        have HZ2 := HZ.out
        obtain ⟨b, o, rfl, hb, _, _, _, hc, _⟩ := HZ2.at_ (by omega)
        have c0 := ((HS.out.gt.base.cell hb (by simp)) : wr.cell? ⟨b, o + i, none⟩ = _).trans (hc i (by omega))
        have HC := hide (fun (W : World) (hW : Only [] w W) => (hW.cell hb (by simp)).trans (hc i (by omega)))
        have hl1 : (i : Int) < (len : Nat) := by omega
        have hl2 : (i : Int) < 64 := by omega
        clear hc HZ2
        go_wp2_with fail
        refine (enterO HS.out hi2 (gb zs i)).mono ?_
        rintro e w3 ⟨bb, er, ss3, rfl, hs3, hcase⟩
        have c3 := HC.out w3 hs3.gt.base
        have HS3 := hide hs3
        clear hs3 c0
        rcases hcase with ⟨her, hss, hbad⟩ | ⟨her, hin, hany, hlen3⟩
        · subst hss
          have e1 : (er == 0) = false := beq_eq_false_iff_ne.2 her
          have HB := hide hbad
          clear hbad
          by_cases hb0 : gb zs i < 0
          · have d1 : decide (0 ≤ gb zs i) = false := by simp; omega
            clear hb0
            generalize gb zs i = z at *
            go_wp2
            go_roundw
            case rel => exact ⟨i + 1, ss3, by omega, by omega, by go_num, rfl, rfl, HS3.out⟩
            case measure => simp [intOf]; omega
          · have d1 : decide (0 ≤ gb zs i) = true := by simp; omega
            have d2 : decide (gb zs i ≤ n) = false := by have := HB.out; simp; omega
            clear hb0
            generalize gb zs i = z at *
            go_wp2
            go_roundw
            case rel => exact ⟨i + 1, ss3, by omega, by omega, by go_num, rfl, rfl, HS3.out⟩
            case measure => simp [intOf]; omega
        · subst her
          have hl65 : (ss.length : Int) + 1 ≤ 100 := by have := HS.out.few; omega
          have HL3 := hide hlen3
          have HAN := hide hany
          have HHN := hide hin
          clear hany hlen3 hin
          cases bb with
          | true =>
            have ha : anyW ss = false := HHN.out rfl
            rw [ha]
            go_wp2
            go_roundw
            case rel => exact ⟨i + 1, ss3, by omega, by omega, by go_num, by rw [HL3.out]; go_num, by rw [HAN.out, ha]; rfl, HS3.out⟩
            case measure => simp [intOf]; omega
          | false =>
            cases ha : anyW ss with
            | true =>
              go_wp2
              go_roundw
              case rel => exact ⟨i + 1, ss3, by omega, by omega, by go_num, by rw [HL3.out]; go_num, by rw [HAN.out, ha]; rfl, HS3.out⟩
              case measure => simp [intOf]; omega
            | false =>
              go_wp2
              go_roundw
              case rel => exact ⟨i + 1, ss3, by omega, by omega, by go_num, by rw [HL3.out]; go_num, by rw [HAN.out, ha]; rfl, HS3.out⟩
              case measure => simp [intOf]; omega
      · have hfw := HS.out.few
        by_cases h1 : i < len
        · have h2 : i = 64 := by omega
          have d1 : decide ((i : Int) < (len : Nat)) = true := by simp; omega
          have d2 : decide ((i : Int) < 64) = false := by simp; omega
          have d3 : (i : Int) < (len : Nat) := by omega
          have d4 : ¬ (i : Int) < 64 := by omega
          clear hlt
          go_wp2
          go_loopw [12, 13, 14] (fun lv gv kv wz => OrdIn2 w g n ss.length lv gv kv wz) (fun _ _ kv _ => ss.length + 1 - (intOf kv).toNat)
          case atStart => exact ⟨0, 0, ss, by simp, rfl, rfl, rfl, HS.out.gt, HS.out.shape, HS.out.rise⟩
          case round =>
            obtain ⟨k, last, ss', hk, rfl, rfl, rfl, hJ, hsh, hri⟩ := hrel
            have hkl : (k : Int) ≤ (ss.length : Nat) := by omega
            have hk64 : (k : Int) + 1 ≤ 1000 := by omega
            have HJ := hide (fun (W : World) (hW : Only [] wr W) => hJ.only hW)
            cases ss' with
            | nil =>
              have hkn : k = ss.length := by simpa using hk
              have HHE := hide (fun (W : World) (hW : Only [] wr W) => heapI (hJ.only hW))
              clear hJ hsh hri hk
              rw [← hkn] at *
              go_wp2_with (first | (go_at_call 19; have hg := HO4; refine (seatsI (HJ.out _ HO4.out)).mono ?_; rintro e w5 ⟨A5, c5, rfl, _, _, ho5⟩; have HO5 := hide (HO4.out.trans ho5); clear ho5) | (go_at_call 19; refine (seatsI (HJ.out _ (Only.refl _ _))).mono ?_; rintro e w4 ⟨A4, c4, rfl, _, _, ho4⟩; have HO4 := hide ho4; clear ho4) | (go_at_call 18; refine (HHE.out _ HO5.out).mono ?_; rintro e w6 ⟨rfl, ho6⟩; have HO6 := hide (HO5.out.trans ho6); clear ho6))
              go_ret
              exact ⟨rfl, ((HJ.out _ (Only.refl _ _)).base.trans HO6.out).below (Nat.le_refl _) (by simp)⟩
            | cons t r =>
              obtain ⟨htw, hsh2⟩ := order_head hJ.ok hsh
              have hlt3 : decide (t.id ≤ last) = false := by
                have := (List.pairwise_cons.1 hri).1 t.id (by simp)
                simp; omega
              have HSH := hide hsh2
              have HRI := hide (show Rises t.id (((admS n 0 r).1).map ST.id) from by rw [admS_ids]; exact (List.pairwise_cons.1 hri).2)
              have HLV := hide (fun (W : World) (hW : Only [] wr W) => leaveI (hJ.only hW) t.id)
              rw [leave_head] at HLV
              have HST := hide (fun (W : World) (hW : Only [] wr W) => (show Calls Try.prog 20 #[.pointer (some ⟨g, 0, none⟩)] W fun e w' => e = .returned (.bool false) ∧ W = w' from by
                have := stallI (hJ.only hW)
                simp only [stallB, htw] at this
                exact this))
              have HK := hide hk
              have HTW := hide htw
              clear hJ hsh hri hsh2 htw hk
              go_wp2_with (first | (go_at_call 19; refine (seatsI (HJ.out _ (Only.refl _ _))).mono ?_; rintro e w4 ⟨A4, c4, rfl, hss, _, ho4⟩; have HO4 := hide ho4; obtain ⟨b4, rfl, _, hc4⟩ := hss (by simp); obtain ⟨i0, _, _, i3⟩ := hc4 0 t rfl; rw [Nat.zero_mul] at i0; rw [show 0 * 4 + 3 = 3 from rfl, HTW.out] at i3; clear hss ho4 hc4) | (go_at_call 20; refine (HST.out _ HO4.out).mono ?_; rintro e w' ⟨rfl, rfl⟩) | (go_at_call 17; refine (HLV.out _ HO4.out).mono ?_; rintro e w6 ⟨A6, c6, rfl, _, hI6⟩; have HI6 := hide hI6; clear hI6))
              go_roundw
              case rel => exact ⟨k + 1, t.id, (admS n 0 r).1, by have := HK.out; rw [admS_length]; simp at this; omega, by go_num, by go_num, rfl, HI6.out, HSH.out, HRI.out⟩
              case measure => have := HK.out; simp at this; simp [intOf]; omega
        · have h2 : i = len := by omega
          have d1 : decide ((i : Int) < (len : Nat)) = false := by simp; omega
          have d3 : ¬ (i : Int) < (len : Nat) := by omega
          clear hlt
          go_wp2
          go_loopw [12, 13, 14] (fun lv gv kv wz => OrdIn2 w g n ss.length lv gv kv wz) (fun _ _ kv _ => ss.length + 1 - (intOf kv).toNat)
          case atStart => exact ⟨0, 0, ss, by simp, rfl, rfl, rfl, HS.out.gt, HS.out.shape, HS.out.rise⟩
          case round =>
            obtain ⟨k, last, ss', hk, rfl, rfl, rfl, hJ, hsh, hri⟩ := hrel
            have hkl : (k : Int) ≤ (ss.length : Nat) := by omega
            have hk64 : (k : Int) + 1 ≤ 1000 := by omega
            have HJ := hide (fun (W : World) (hW : Only [] wr W) => hJ.only hW)
            cases ss' with
            | nil =>
              have hkn : k = ss.length := by simpa using hk
              have HHE := hide (fun (W : World) (hW : Only [] wr W) => heapI (hJ.only hW))
              clear hJ hsh hri hk
              rw [← hkn] at *
              go_wp2_with (first | (go_at_call 19; have hg := HO4; refine (seatsI (HJ.out _ HO4.out)).mono ?_; rintro e w5 ⟨A5, c5, rfl, _, _, ho5⟩; have HO5 := hide (HO4.out.trans ho5); clear ho5) | (go_at_call 19; refine (seatsI (HJ.out _ (Only.refl _ _))).mono ?_; rintro e w4 ⟨A4, c4, rfl, _, _, ho4⟩; have HO4 := hide ho4; clear ho4) | (go_at_call 18; refine (HHE.out _ HO5.out).mono ?_; rintro e w6 ⟨rfl, ho6⟩; have HO6 := hide (HO5.out.trans ho6); clear ho6))
              go_ret
              exact ⟨rfl, ((HJ.out _ (Only.refl _ _)).base.trans HO6.out).below (Nat.le_refl _) (by simp)⟩
            | cons t r =>
              obtain ⟨htw, hsh2⟩ := order_head hJ.ok hsh
              have hlt3 : decide (t.id ≤ last) = false := by
                have := (List.pairwise_cons.1 hri).1 t.id (by simp)
                simp; omega
              have HSH := hide hsh2
              have HRI := hide (show Rises t.id (((admS n 0 r).1).map ST.id) from by rw [admS_ids]; exact (List.pairwise_cons.1 hri).2)
              have HLV := hide (fun (W : World) (hW : Only [] wr W) => leaveI (hJ.only hW) t.id)
              rw [leave_head] at HLV
              have HST := hide (fun (W : World) (hW : Only [] wr W) => (show Calls Try.prog 20 #[.pointer (some ⟨g, 0, none⟩)] W fun e w' => e = .returned (.bool false) ∧ W = w' from by
                have := stallI (hJ.only hW)
                simp only [stallB, htw] at this
                exact this))
              have HK := hide hk
              have HTW := hide htw
              clear hJ hsh hri hsh2 htw hk
              go_wp2_with (first | (go_at_call 19; refine (seatsI (HJ.out _ (Only.refl _ _))).mono ?_; rintro e w4 ⟨A4, c4, rfl, hss, _, ho4⟩; have HO4 := hide ho4; obtain ⟨b4, rfl, _, hc4⟩ := hss (by simp); obtain ⟨i0, _, _, i3⟩ := hc4 0 t rfl; rw [Nat.zero_mul] at i0; rw [show 0 * 4 + 3 = 3 from rfl, HTW.out] at i3; clear hss ho4 hc4) | (go_at_call 20; refine (HST.out _ HO4.out).mono ?_; rintro e w' ⟨rfl, rfl⟩) | (go_at_call 17; refine (HLV.out _ HO4.out).mono ?_; rintro e w6 ⟨A6, c6, rfl, _, hI6⟩; have HI6 := hide hI6; clear hI6))
              go_roundw
              case rel => exact ⟨k + 1, t.id, (admS n 0 r).1, by have := HK.out; rw [admS_length]; simp at this; omega, by go_num, by go_num, rfl, HI6.out, HSH.out, HRI.out⟩
              case measure => have := HK.out; simp at this; simp [intOf]; omega
  · go_enter Try.func5, Try.ntmps5
    go_wp2_with (first | (go_at_call 9; refine (gNew_no n (by omega)).mono ?_; rintro e w1 ⟨rfl, rfl⟩) | (go_at_call 11; refine (lives9 _).mono ?_; rintro e w2 ⟨rfl, ho2⟩; have HO2 := hide ho2; clear ho2))
    go_ret
    exact ⟨rfl, HO2.out.below (Nat.le_refl _) (by simp)⟩
end Go.Proofs.Ytflgcnlncljefaa
