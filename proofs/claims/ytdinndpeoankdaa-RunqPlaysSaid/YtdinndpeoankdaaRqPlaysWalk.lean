/-
  The walk of 'RunqPlays'.
-/
import Derived.Test.YtdinndpeoankdaaRq11Looks
namespace Go.Proofs.Ytdinndpeoankdaa
open Go.ChangeShapes Go.WideShapes Go.ChangeAt Go.RowKit Go.Maps
set_option linter.unusedVariables false
section
variable {w0 w w' : World} {g gx hx : Nat} {s s' t t' : RQ} {xs xs' : Nat → Value} {ys S : List Nat}
set_option maxHeartbeats 2000000 in
set_option maxRecDepth 100000 in
theorem step11_7 (h : Bq w0 w g gx hx s s ys xs) {kd a b : Int} (hb2 : iW b) (hk : kd = 7) :
    Calls Try.prog 7 #[.pointer (some ⟨g, 0, none⟩), .pointer (some ⟨gx, 0, none⟩), .agg #[.int .i64 kd, .int .i64 a, .int .i64 b]] w fun e w' => e = .returned (.bool true) ∧ Only [] w w' := by
  have k1 : (kd == 1) = false := by simp [hk]
  have k2 : (kd == 2) = false := by simp [hk]
  have k3 : (kd == 3) = false := by simp [hk]
  have k4 : (kd == 4) = false := by simp [hk]
  have k5 : (kd == 5) = false := by simp [hk]
  have k6 : (kd == 6) = false := by simp [hk]
  have k7 : (kd == 7) = true := by simp [hk]
  have hok := h.q.ok
  have HB := hide (h.add (.cells #[.int .i64 kd, .int .i64 a, .int .i64 b] 33))
  have HQ := hide (lq_where HB.out.q b hb2)
  have HX := hide (xWhere_is HB.out.x hok b)
  have HO := hide (show Only [] w (w.alloc (.cells #[.int .i64 kd, .int .i64 a, .int .i64 b] 33)) from (Only.refl [] w).alloc _)
  generalize whereF s b = rr at *
  obtain ⟨r1, r2⟩ := rr
  simp only [] at HQ HX
  clear h hk hok
  go_enter Try.func7, Try.ntmps7
  go_wp2_with (first | (go_at_call 22; refine HQ.out.mono ?_; rintro e w3 ⟨rfl, rfl⟩) | (go_at_call 23; refine HX.out.mono ?_; rintro e w4 ⟨rfl, rfl⟩))
  go_ret
  exact ⟨by simp, HO.out⟩
set_option maxHeartbeats 2000000 in
set_option maxRecDepth 100000 in
theorem step11_look (h : Bq w0 w g gx hx s s ys xs) {kd a b : Int} (h1 : kd ≠ 1) (h2 : kd ≠ 2) (h3 : kd ≠ 3) (h4 : kd ≠ 4) (h5 : kd ≠ 5) (h6 : kd ≠ 6) (h7 : kd ≠ 7) :
    Calls Try.prog 7 #[.pointer (some ⟨g, 0, none⟩), .pointer (some ⟨gx, 0, none⟩), .agg #[.int .i64 kd, .int .i64 a, .int .i64 b]] w fun e w' => e = .returned (.bool true) ∧ Only [] w w' := by
  have k1 : (kd == 1) = false := by simp [h1]
  have k2 : (kd == 2) = false := by simp [h2]
  have k3 : (kd == 3) = false := by simp [h3]
  have k4 : (kd == 4) = false := by simp [h4]
  have k5 : (kd == 5) = false := by simp [h5]
  have k6 : (kd == 6) = false := by simp [h6]
  have k7 : (kd == 7) = false := by simp [h7]
  have HO := hide (show Only [] w (w.alloc (.cells #[.int .i64 kd, .int .i64 a, .int .i64 b] 33)) from (Only.refl [] w).alloc _)
  have HL := hide (looks11_is (h.add (.cells #[.int .i64 kd, .int .i64 a, .int .i64 b] 33)))
  clear h h1 h2 h3 h4 h5 h6 h7
  go_enter Try.func7, Try.ntmps7
  go_wp2_with (go_at_call 8; refine HL.out.mono ?_; rintro e w3 ⟨rfl, ho⟩; have HO3 := hide ho; clear ho)
  go_ret
  exact ⟨by simp, HO.out.trans HO3.out⟩
theorem step11_is (h : Bq w0 w g gx hx s s ys xs) {kd a b : Int} (hb2 : iW b) :
    Calls Try.prog 7 #[.pointer (some ⟨g, 0, none⟩), .pointer (some ⟨gx, 0, none⟩), .agg #[.int .i64 kd, .int .i64 a, .int .i64 b]] w fun e w' => e = .returned (.bool true) ∧ DidP w0 w w' g gx hx ys := by
  have q : ∀ {e : Ending} {w' : World}, e = .returned (.bool true) ∧ Only [] w w' → e = .returned (.bool true) ∧ DidP w0 w w' g gx hx ys := fun ⟨p1, p2⟩ => ⟨p1, s, xs, h.quiet p2, fun k hk => p2.block k (h.lt hk) (by simp)⟩
  by_cases h1 : kd = 1
  · exact step11_1 h hb2 h1
  by_cases h2 : kd = 2
  · exact step11_2 h hb2 h2
  by_cases h3 : kd = 3
  · exact step11_3 h hb2 h3
  by_cases h4 : kd = 4
  · exact step11_4 h hb2 h4
  by_cases h5 : kd = 5
  · exact step11_5 h hb2 h5
  by_cases h6 : kd = 6
  · exact step11_6 h hb2 h6
  by_cases h7 : kd = 7
  · exact (step11_7 h hb2 h7).mono fun e w' p => q p
  exact (step11_look h h1 h2 h3 h4 h5 h6 h7).mono fun e w' p => q p
set_option maxHeartbeats 2000000 in
set_option maxRecDepth 100000 in
theorem runqPlays_walk (n : Int) (A : Option Addr) (len cap : Nat) (w : World) (hn : len < 5900000000000) (hA : ∀ i, i < len → OpAt11 w A i) :
    Calls Try.prog 3 #[.int .i64 n, .slice A len cap] w fun e w' => e = .returned (.bool true) ∧ Below w.heap.size w w' := by
  have HA := hide hA
  have HN := hide hn
  clear hA hn
  by_cases h : 1 ≤ n ∧ n ≤ 8
  · obtain ⟨m, rfl⟩ : ∃ m : Nat, n = m := ⟨n.toNat, by omega⟩
    have hm : 1 ≤ m ∧ m ≤ 8 := by omega
    have HNQ := hide (lq_new (w := w) m hm)
    have HNX := hide (fun W => xNew_ok m hm W)
    clear h hm
    go_enter Try.func3, Try.ntmps3
    go_wp2_with (first | (go_at_call 4; refine HNQ.out.mono ?_; rintro e w1 ⟨g, rfl, h1⟩; have H1 := hide h1; clear h1) | (go_at_call 5; refine (HNX.out _).mono ?_; rintro e w2 ⟨gx, hx, xs, rfl, x1, x2, x3⟩; have HX1 := hide x1; have HX2 := hide x2; have HX3 := hide x3; clear x1 x2 x3) | (go_at_call 6; refine (lives11 _).mono ?_; rintro e w3 ⟨rfl, ho⟩; have HO3 := hide ho; clear ho))
    go_loopw [9] (fun iv wr => ∃ i : Nat, i ≤ len ∧ iv = .int .i64 i ∧ ∃ s xs, Bq w wr g gx hx s s [] xs) (fun iv _ => len - (intOf iv).toNat)
    case atStart =>
      refine ⟨0, Nat.zero_le _, rfl, emptyQ m, xs, Bq.quiet ⟨?_, HX1.out, by simp⟩ HO3.out⟩
      obtain ⟨F, r1, r2, r3, r4⟩ := H1.out
      have hs := r3.size
      refine ⟨F, r1.only HX3.out (by simp), fun q hq => ⟨(r2 q hq).1, fun hm => ?_⟩, r3.trans HX3.out, fun b hb => ?_⟩
      · have := r1.ltF hq
        have := HX2.out q hm
        omega
      · have := HX2.out b hb
        exact ⟨by omega, HX1.out.foot_lt hb⟩
    case round =>
      obtain ⟨i, hi, rfl, s, xs2, hb⟩ := hrel
      have HB := hide hb
      by_cases hlt : i < len
      · have hltI : (i : Int) < len := by omega
        obtain ⟨q, o, k, b, c, rfl, hq, e0, e1, e2, wb, wc⟩ := HA.out i hlt
        have ho := hb.q.base
        have c0 := (ho.cell (b := q) (o := o + i * 3) (s := none) hq (by simp)).trans e0
        have c1 := (ho.cell (b := q) (o := o + i * 3 + 1) (s := none) hq (by simp)).trans e1
        have c2 := (ho.cell (b := q) (o := o + i * 3 + 2) (s := none) hq (by simp)).trans e2
        have HS := hide (step11_is hb (kd := k) (a := b) (b := c) wc)
        clear hb e0 e1 e2 ho
        go_wp2_with (go_at_call 7; refine HS.out.mono ?_; rintro e w5 ⟨rfl, s5, xs5, h5, _⟩; have H5 := hide h5; clear h5)
        rw [show wrap64 ((i : Int) + 1) = ((i + 1 : Nat) : Int) by have := HN.out; rw [wrap64]; omega]
        refine ⟨⟨i + 1, hlt, rfl, s5, xs5, H5.out⟩, ?_⟩
        simp [intOf]
        omega
      · obtain rfl : i = len := by omega
        have HL := hide (looks11_is hb)
        clear hb
        go_wp2_with (go_at_call 8; refine HL.out.mono ?_; rintro e w6 ⟨rfl, ho⟩; have HO6 := hide ho; clear ho)
        go_ret
        exact ⟨by simp, (HB.out.q.base.trans HO6.out).below (Nat.le_refl _) (by simp)⟩
  · have HNQ := hide (qNew_bad (w := w) n h)
    have HNX := hide (fun W => xNew_bad n h W)
    clear h
    go_enter Try.func3, Try.ntmps3
    go_wp2_with (first | (go_at_call 4; refine HNQ.out.mono ?_; rintro e w1 ⟨rfl, rfl⟩) | (go_at_call 5; refine (HNX.out _).mono ?_; rintro e w2 ⟨rfl, rfl⟩) | (go_at_call 6; refine (lives11 _).mono ?_; rintro e w3 ⟨rfl, ho⟩; have HO3 := hide ho; clear ho))
    go_loopw [9] (fun iv wr => iv = .int .i64 0 ∧ Only [] w wr) (fun _ _ => 0)
    case atStart => exact ⟨rfl, HO3.out⟩
    case round =>
      obtain ⟨rfl, hw⟩ := hrel
      have HW := hide hw
      clear hw
      by_cases hl : 0 < len
      · have hlI : (0 : Int) < len := by omega
        go_wp2_with fail
        go_ret
        exact ⟨rfl, HW.out.below (Nat.le_refl _) (by simp)⟩
      · obtain rfl : len = 0 := by omega
        go_wp2_with fail
        go_ret
        exact ⟨rfl, HW.out.below (Nat.le_refl _) (by simp)⟩
end
end Go.Proofs.Ytdinndpeoankdaa
