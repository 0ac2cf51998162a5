/-
  The walk of 'ResvPlays'.
-/
import Derived.Test.YtflgcnlncljefaaResvLooks
namespace Go.Proofs.Ytflgcnlncljefaa
open Go.ChangeShapes Go.WideShapes Go.ChangeAt Go.RowKit Go.Deep
set_option linter.unusedVariables false

/-- What a step of both leaves. -/
def Step9 (w : World) (g x : Nat) (H : Int) (e : Ending) (w' : World) : Prop := e = .returned (.bool true) ∧ ∃ s : GS, P9 w w' g x H s s [] ∧ Nod s.ss
theorem Kept.trans {bs : List Nat} {w1 w2 w3 : World} (h : Kept bs w1 w2) (h' : Kept bs w2 w3) : Kept bs w1 w3 := fun b hb o => (h' b hb o).trans (h b hb o)
theorem Kept.less {bs bs' : List Nat} {w1 w2 : World} (h : Kept bs w1 w2) (hb : ∀ b ∈ bs', b ∈ bs) : Kept bs' w1 w2 := fun b h' o => h b (hb b h') o
section
variable {w W W' : World} {g x : Nat} {H : Int} {s s1 s2 : GS} {bs : List Nat}
theorem admitGo_few (H L : Int) : ∀ (ss : List ST) (R : Int), (admitGo H L R ss).2.2.length ≤ ss.length
  | [], R => by simp [admitGo]
  | s :: r, R => by
    rw [admitGo]
    split
    · split
      · simp
      · have := admitGo_few H L r (R + s.bound)
        simp; omega
    · have := admitGo_few H L r R
      simp; omega
theorem admS_few (H L : Int) (ss : List ST) (h : ss.length ≤ 64) : (admS H L ss).2.length ≤ 1000 := by
  have := admitGo_few H L ss (resvL ss)
  unfold admS
  omega
theorem P9.okk (h : P9 w W g x H s1 s2 bs) : s1.ok H := by obtain ⟨F1, F2, h1, _⟩ := h; exact h1.ok
theorem leaveF_len (hok : s.ok H) (n : Int) : (leaveF H s n).1.length ≤ 1000 := by
  unfold leaveF
  split
  · simp
  · exact admS_few _ _ _ (Nat.le_trans (List.length_eraseIdx_le ..) hok.few)
theorem giveF_len (hok : s.ok H) (n : Int) : (giveF H s n).1.length ≤ 1000 := by
  unfold giveF
  split
  · simp
  · exact admS_few _ _ _ hok.few
set_option maxHeartbeats 1500000 in
set_option maxRecDepth 100000 in
theorem step9 (h : P9 w W g x H s s []) (hn : Nod s.ss) (kd id n : Int) : Calls Try.prog 12 #[.pointer (some ⟨g, 0, none⟩), .pointer (some ⟨x, 0, none⟩), .agg #[.int .i64 kd, .int .i64 id, .int .i64 n]] W fun e w' => Step9 w g x H e w' := by
  have hb0 := Blk.new W 33 #[.int .i64 kd, .int .i64 id, .int .i64 n]
  have HP := hide (h.box (W' := W.alloc (.cells #[.int .i64 kd, .int .i64 id, .int .i64 n] 33)) ((Only.refl [] W).alloc _) (Nat.le_refl _) (by simp))
  have HC := hide (fun (W' : World) (hk : Kept [W.heap.size] (W.alloc (.cells #[.int .i64 kd, .int .i64 id, .int .i64 n] 33)) W') => (show W'.cell? ⟨W.heap.size, 1, none⟩ = some (.int .i64 id) ∧ W'.cell? ⟨W.heap.size, 2, none⟩ = some (.int .i64 n) from ⟨(hk _ (by simp) 1).trans (hb0.cell 1), (hk _ (by simp) 2).trans (hb0.cell 2)⟩))
  have HN := hide hn
  clear h hn hb0
  by_cases k1 : kd = 1
  · subst k1
    go_enter Try.func12, Try.ntmps12
    go_wp2_with (first | (go_at_call 14; refine (enterP HP.out _ _).mono ?_; rintro e w3 ⟨rfl, hp3, hk3⟩; have HP3 := hide hp3; obtain ⟨d1, d2⟩ := HC.out _ hk3; clear hp3 hk3) | (go_at_call 24; refine (enterP9 HP3.out _ _).mono ?_; rintro e w4 ⟨rfl, hp4, hk4⟩; have HP4 := hide hp4; clear hp4 hk4))
    go_ret
    exact ⟨by simp, _, HP4.out.less (by simp), HN.out.enter _ _⟩
  · by_cases k2 : kd = 2
    · subst k2
      clear k1
      have HNT := hide (HN.out.take id n)
      go_enter Try.func12, Try.ntmps12
      go_wp2_with fail
      obtain ⟨d1, d2⟩ := HC.out _ (fun b hb o => rfl)
      revert HP HC d1 d2
      generalize W.alloc (.cells #[.int .i64 2, .int .i64 id, .int .i64 n] 33) = W1
      generalize W.heap.size = bx
      intro HP HC d1 d2
      have HP1 := hide (fun (W' : World) (ho : Only [] W1 W') => HP.out.only ho)
      have HC1 := hide (fun (W' w3 : World) (ho : Only [] W1 W') (hk : Kept [bx] W' w3) => HC.out w3 ((HP.out.kept ho).trans hk))
      go_region_held3 (fun w' => w'.cell? ⟨bx, 1, none⟩ = some (.int .i64 id) ∧ w'.cell? ⟨bx, 2, none⟩ = some (.int .i64 n)) (first | assumption | exact ⟨d1, d2⟩ | exact HK2.out | go_keep) (first | (go_at_call 15; have hg := HPR; refine (takeP (HPR.out.only (by repeat (first | exact Only.refl _ _ | apply Only.drew))) _ _).mono ?_; rintro e w4 ⟨rfl, hp4, hk4⟩; have HP4 := hide hp4; have HK2 := hide (show w4.cell? ⟨bx, 1, none⟩ = some (.int .i64 id) ∧ w4.cell? ⟨bx, 2, none⟩ = some (.int .i64 n) from ⟨(hk4 bx (by simp) 1).trans HKR.out.1, (hk4 bx (by simp) 2).trans HKR.out.2⟩); clear hp4 hk4) | (go_at_call 25; have hg := HPG; refine (takeP9 (HPG.out.only (by repeat (first | exact Only.refl _ _ | apply Only.drew))) _ _).mono ?_; rintro e w4 ⟨rfl, hp4, hk4⟩; have HP4 := hide hp4; have HK2 := hide (show w4.cell? ⟨bx, 1, none⟩ = some (.int .i64 id) ∧ w4.cell? ⟨bx, 2, none⟩ = some (.int .i64 n) from ⟨(hk4 bx (by simp) 1).trans HKG.out.1, (hk4 bx (by simp) 2).trans HKG.out.2⟩); clear hp4 hk4) | (go_at_call 15; refine (takeP (HP1.out _ (by repeat (first | exact Only.refl _ _ | apply Only.drew))) _ _).mono ?_; rintro e w3 ⟨rfl, hp3, hk3⟩; have HPG := hide hp3; have HKG := hide (HC1.out _ w3 (by repeat (first | exact Only.refl _ _ | apply Only.drew)) hk3); have HK2 := HKG; clear hp3 hk3) | (go_at_call 25; refine (takeP9 (HP1.out _ (by repeat (first | exact Only.refl _ _ | apply Only.drew))) _ _).mono ?_; rintro e w3 ⟨rfl, hp3, hk3⟩; have HPR := hide hp3; have HKR := hide (HC1.out _ w3 (by repeat (first | exact Only.refl _ _ | apply Only.drew)) hk3); have HK2 := HKR; clear hp3 hk3))
      all_goals
        go_wp2
        go_ret
        exact ⟨by simp, _, HP4.out.less (by simp), HNT.out⟩
    · by_cases k3 : kd = 3
      · subst k3
        clear k1 k2
        have HNT := hide (HN.out.give (H := H) n)
        have HLN := hide (giveF_len (H := H) HP.out.okk n)
        go_enter Try.func12, Try.ntmps12
        go_wp2_with (first | (go_at_call 16; refine (giveP HP.out _).mono ?_; rintro e w3 ⟨A3, c3, bs3, rfl, hb3, hi3, hp3, hk3⟩; have HP3 := hide hp3; have HI3 := hide hi3; have HB3 := hide hb3; have HK3 := hide hk3; obtain ⟨d1, d2⟩ := HC.out _ hk3; clear hp3 hk3 hi3 hb3) | (go_at_call 26; refine (giveP9 HP3.out _).mono ?_; rintro e w4 ⟨A4, c4, bs4, rfl, hb4, hi4, hp4, hk4⟩; have HP4 := hide hp4; have HI4 := hide hi4; have HI3 := hide (HI3.out.kept hk4); clear hp4 hk4 hi4 hb4) | (go_at_call 27; refine (same9 HI3.out HI4.out HLN.out _ _).mono ?_; rintro e w5 ⟨rfl, ho5⟩; have HO5 := hide ho5; clear ho5))
        go_ret
        exact ⟨by simp, _, (HP4.out.only HO5.out).less (by simp), HNT.out⟩
      · by_cases k4 : kd = 4
        · subst k4
          clear k1 k2 k3
          have HNT := hide (HN.out.leave (H := H) id)
          have HLN := hide (leaveF_len (H := H) HP.out.okk id)
          go_enter Try.func12, Try.ntmps12
          go_wp2_with (first | (go_at_call 17; refine (leaveP HP.out _).mono ?_; rintro e w3 ⟨A3, c3, bs3, rfl, hb3, hi3, hp3, hk3⟩; have HP3 := hide hp3; have HI3 := hide hi3; have HB3 := hide hb3; have HK3 := hide hk3; obtain ⟨d1, d2⟩ := HC.out _ hk3; clear hp3 hk3 hi3 hb3) | (go_at_call 28; refine (leaveP9 HP3.out _).mono ?_; rintro e w4 ⟨A4, c4, bs4, rfl, hb4, hi4, hp4, hk4⟩; have HP4 := hide hp4; have HI4 := hide hi4; have HI3 := hide (HI3.out.kept hk4); clear hp4 hk4 hi4 hb4) | (go_at_call 27; refine (same9 HI3.out HI4.out HLN.out _ _).mono ?_; rintro e w5 ⟨rfl, ho5⟩; have HO5 := hide ho5; clear ho5))
          go_ret
          exact ⟨by simp, _, (HP4.out.only HO5.out).less (by simp), HNT.out⟩
        · have e1 : (kd == 1) = false := beq_eq_false_iff_ne.2 k1
          have e2 : (kd == 2) = false := beq_eq_false_iff_ne.2 k2
          have e3 : (kd == 3) = false := beq_eq_false_iff_ne.2 k3
          have e4 : (kd == 4) = false := beq_eq_false_iff_ne.2 k4
          clear k1 k2 k3 k4
          have HLK := hide (looks9 HP.out HN.out id)
          go_enter Try.func12, Try.ntmps12
          go_wp2_with (go_at_call 13; refine HLK.out.mono ?_; rintro e w5 ⟨rfl, ho5⟩; have HO5 := hide ho5; clear ho5)
          go_ret
          exact ⟨rfl, _, (HP.out.only HO5.out).less (by simp), HN.out⟩

def PlIn (w : World) (g x : Nat) (H : Int) (n : Nat) (iv : Value) (wr : World) : Prop := ∃ (k : Nat) (s : GS), k ≤ n ∧ iv = .int .i64 k ∧ P9 w wr g x H s s [] ∧ Nod s.ss

set_option maxHeartbeats 1500000 in
set_option maxRecDepth 100000 in
theorem resvPlays_walk (n : Int) (A : Option Addr) (len cap : Nat) (w : World) (hlen : len < 5900000000000) (hops : ∀ i, i < len → OpAt9 w A i) :
    Calls Try.prog 3 #[.int .i64 n, .slice A len cap] w fun e w' => e = .returned (.bool true) ∧ Below w.heap.size w w' := by
  have HOP := hide hops
  have HLEN := hide hlen
  clear hops
  by_cases hn : 1 ≤ n ∧ n ≤ 1073741824
  · go_enter Try.func3, Try.ntmps3
    go_wp2_with fail
    refine (gNew_ok n hn).mono ?_
    rintro e w1 ⟨g, F, rfl, hg, hF, ho⟩
    go_wp2_with fail
    refine (r9New_ok n hn).mono ?_
    rintro e w2 ⟨x, F2, rfl, hr, hF2, ho2⟩
    have hP : P9 w w2 g x n ⟨0, []⟩ ⟨0, []⟩ [] := ⟨F, F2, hg.only ho2 (by simp), hr, fun q hq hm => by have := hg.lt q hq; have := hF2 q hm; omega, fun q hq => by
      have := ho.size
      rcases List.mem_append.1 hq with hq | hq
      · exact hF q hq
      · have := hF2 q hq; omega, ho.trans ho2, by simp⟩
    clear hg hF ho hr hF2 ho2
    go_wp2_with fail
    refine (lives9 _).mono ?_
    rintro e w3 ⟨rfl, ho3⟩
    have HP := hide (hP.only ho3)
    clear hP ho3
    go_wp2
    go_loopw [9] (fun iv wr => PlIn w g x n len iv wr) (fun iv _ => len - (intOf iv).toNat)
    case atStart => exact ⟨0, _, Nat.zero_le _, rfl, HP.out, by simp [Nod]⟩
    case round =>
      obtain ⟨k, s, hk, rfl, hI, hnd⟩ := hrel
      have HGI := hide hI
      have HND := hide hnd
      clear hnd
      by_cases hlt : k < len
      · obtain ⟨q, o, kd, b, c, rfl, hq, c0, c1, c2, hb, hc⟩ := HOP.out k hlt
        have hww := hI.base
        have d0 := (hww.cell hq (by simp) : wr.cell? ⟨q, o + k * 3, none⟩ = _).trans c0
        have d1 := (hww.cell hq (by simp) : wr.cell? ⟨q, o + k * 3 + 1, none⟩ = _).trans c1
        have d2 := (hww.cell hq (by simp) : wr.cell? ⟨q, o + k * 3 + 2, none⟩ = _).trans c2
        have HST := hide (step9 hI HND.out kd b c)
        have hl1 : (k : Int) < (len : Nat) := by omega
        have hl64 : (k : Int) + 1 ≤ 9223372036854775807 := by omega
        clear hI c0 c1 c2 hww
        go_wp2_with (go_at_call 12; refine HST.out.mono ?_; rintro e w4 ⟨rfl, s4, hp4, hn4⟩; have HP4 := hide hp4; have HN4 := hide hn4; clear hp4 hn4)
        go_roundw
        case rel => exact ⟨k + 1, s4, by omega, by go_num, HP4.out, HN4.out⟩
        case measure => simp [intOf]; omega
      · obtain rfl : k = len := by omega
        have HLK := hide (looks9 hI HND.out 1)
        clear hI
        go_wp2_with (go_at_call 13; refine HLK.out.mono ?_; rintro e w5 ⟨rfl, ho5⟩; have HO5 := hide ho5; clear ho5)
        go_ret
        exact ⟨rfl, (HGI.out.base.trans HO5.out).below (Nat.le_refl _) (by simp)⟩
  · go_enter Try.func3, Try.ntmps3
    go_wp2_with (first | (go_at_call 9; refine (gNew_no n (by omega)).mono ?_; rintro e w1 ⟨rfl, rfl⟩) | (go_at_call 10; refine (r9New_no n (by omega)).mono ?_; rintro e w1 ⟨rfl, rfl⟩) | (go_at_call 11; refine (lives9 _).mono ?_; rintro e w2 ⟨rfl, ho2⟩; have HO2 := hide ho2; clear ho2))
    go_loopw [9] (fun iv wr => iv = .int .i64 0 ∧ wr = w2) (fun iv _ => 0)
    case atStart => exact ⟨rfl, rfl⟩
    case round =>
      obtain ⟨rfl, rfl⟩ := hrel
      by_cases h0 : (0 : Int) < (len : Nat)
      · have h0' : decide ((0 : Int) < (len : Nat)) = true := by simp; omega
        go_wp2
        go_ret
        exact ⟨rfl, HO2.out.below (Nat.le_refl _) (by simp)⟩
      · have h0' : decide ((0 : Int) < (len : Nat)) = false := by simp; omega
        go_wp2
        go_ret
        exact ⟨rfl, HO2.out.below (Nat.le_refl _) (by simp)⟩
end
end Go.Proofs.Ytflgcnlncljefaa
