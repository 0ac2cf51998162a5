/-
  'FrameDoes': does, for a step that gives a frame back, counts one, or writes.
-/
import Derived.Test.YtfbegickdnjfcaaRef06i
import Derived.Test.YtfbegickdnjfcaaPhysLives
namespace Go.Proofs.Ytfbegickdnjfcaa
open Go.ChangeShapes Go.WideShapes Go.ChangeAt Go.RowKit
set_option linter.unusedVariables false
set_option linter.unusedSimpArgs false
section
variable {w w' w1 w2 : World} {n0 t g d cap : Nat} {xs xs' : List Int} {r : List Value} {first harts : Nat} {v : Nat → Value} {ns ns' : Nat → List Int} {a cC bL : Nat} {vs : Nat → Value} {Z : List Nat}
theorem i64_and63 (n : Int) : bits .and .i64 n 63 = n % 64 := by
  have h63 : (BitVec.ofInt 64 63).toNat = 2 ^ 6 - 1 := by decide
  have key : (BitVec.ofInt 64 n &&& BitVec.ofInt 64 63).toNat = (n % ((2 ^ 64 : Nat) : Int)).toNat % 2 ^ 6 := by
    rw [BitVec.toNat_and, BitVec.toNat_ofInt, h63, Nat.and_two_pow_sub_one_eq_mod]
  show IntKind.i64.wrap ((BitVec.ofInt 64 n &&& BitVec.ofInt 64 63).toNat : Nat) = n % 64
  rw [key, IntKind.wrap_i64]
  omega
/-- Is a frame counted, and how often? -/
theorem P6.count (P : P6 xs first ns) (x : Int) : cntF first ns x = 0 ∨ ∃ k : Nat, x = (first : Int) + k ∧ k < (ns 2).length ∧ 0 < gb (ns 2) k ∧ gb (ns 2) k ≤ 1048576 := by
  by_cases h : (first : Int) ≤ x ∧ x - first < (ns 2).length
  · have hk : (x - (first : Int)).toNat < (ns 2).length := by omega
    have hc := P.good.cnt _ hk
    have hx : x = (first : Int) + ((x - (first : Int)).toNat : Nat) := by omega
    by_cases h0 : gb (ns 2) (x - (first : Int)).toNat = 0
    · left; rw [cntF_at hx hk]; exact h0
    · right; exact ⟨_, hx, hk, by omega, hc.2⟩
  · left; unfold cntF; rw [if_neg h]

/-- does, kind 1: nothing comes of it. -/
theorem does_decr_arg (B : B6 w n0 t g d cap xs r first harts v ns a cC bL vs Z ns) (P : P6 xs first ns) (h x : Int) (hh : ¬ (0 ≤ h ∧ h < harts)) :
    Calls Try.prog 9 #[.pointer (some ⟨g, 0, none⟩), .pointer (some ⟨t, 0, none⟩), .pointer (some ⟨a, 0, none⟩), .agg #[.int .i64 1, .int .i64 h, .int .i64 x]] w fun e w' => e = .returned (.bool true) ∧ Did6 w w' n0 t g d cap xs.length r first harts (ns 2).length a cC bL := by
  have HB := hide (fun W (ho : Only [] w W) => B.only ho)
  have HF := hide (fun W (ho : Only [] w W) => decr_arg (HB.out W ho).1.fr h x hh)
  have HR := hide (fun W (ho : Only [] w W) => rdecr_arg (HB.out W ho).1.rf h x hh)
  have HP := hide P
  clear B P hh
  go_enter Try.func9, Try.ntmps9
  go_wp2_with (first | (go_at_call 14; refine (HF.out _ (by repeat (first | exact Only.refl _ _ | apply Only.drew | apply Only.alloc | apply Only.drewN))).mono ?_; rintro e w' ⟨rfl, rfl⟩) | (go_at_call 23; refine (HR.out _ (by repeat (first | exact Only.refl _ _ | apply Only.drew | apply Only.alloc | apply Only.drewN))).mono ?_; rintro e w' ⟨rfl, rfl⟩))
  go_ret
  obtain ⟨B', hb⟩ := HB.out _ ((Only.refl [] w).alloc _)
  exact ⟨rfl, ⟨_, _, _, _, _, B', HP.out, rfl, rfl⟩, hb⟩

theorem does_decr_no (B : B6 w n0 t g d cap xs r first harts v ns a cC bL vs Z ns) (P : P6 xs first ns) (h : Nat) (x : Int) (hh : h < harts) (hx : x ≤ 9223372036854775807) (h0 : cntF first ns x = 0) :
    Calls Try.prog 9 #[.pointer (some ⟨g, 0, none⟩), .pointer (some ⟨t, 0, none⟩), .pointer (some ⟨a, 0, none⟩), .agg #[.int .i64 1, .int .i64 h, .int .i64 x]] w fun e w' => e = .returned (.bool true) ∧ Did6 w w' n0 t g d cap xs.length r first harts (ns 2).length a cC bL := by
  have HB := hide (fun W (ho : Only [] w W) => B.only ho)
  have HF := hide (fun W (ho : Only [] w W) => decr_no (HB.out W ho).1.fr h hh x hx h0)
  have HR := hide (fun W (ho : Only [] w W) => rdecr_no (HB.out W ho).1.rf h hh x hx h0)
  have HP := hide P
  clear B P hh
  go_enter Try.func9, Try.ntmps9
  go_wp2_with (first | (go_at_call 14; refine (HF.out _ (by repeat (first | exact Only.refl _ _ | apply Only.drew | apply Only.alloc | apply Only.drewN))).mono ?_; rintro e w' ⟨rfl, n, rfl⟩) | (go_at_call 23; refine (HR.out _ (by repeat (first | exact Only.refl _ _ | apply Only.drew | apply Only.alloc | apply Only.drewN))).mono ?_; rintro e w' ⟨rfl, m, rfl⟩))
  go_ret
  refine ⟨rfl, ?_⟩
  have hoe : Only [] w ((w.alloc (.cells #[.int .i64 1, .int .i64 h, .int .i64 x] 37)).drewN (n + m)) := ((Only.refl [] w).alloc _).drewN _
  obtain ⟨B', hb⟩ := HB.out _ hoe
  exact ⟨⟨_, _, _, _, _, B', HP.out, rfl, rfl⟩, hb⟩

set_option maxHeartbeats 1000000 in
/-- does, kind 1: one of several lets go. -/
theorem does_decr_less (B : B6 w n0 t g d cap xs r first harts v ns a cC bL vs Z ns) (P : P6 xs first ns) (h : Nat) (hh : h < harts) (k : Nat) (hk : k < (ns 2).length) (h1 : 1 < gb (ns 2) k) (h2 : gb (ns 2) k ≤ 1048576) :
    Calls Try.prog 9 #[.pointer (some ⟨g, 0, none⟩), .pointer (some ⟨t, 0, none⟩), .pointer (some ⟨a, 0, none⟩), .agg #[.int .i64 1, .int .i64 h, .int .i64 ((first : Int) + k)]] w fun e w' => e = .returned (.bool true) ∧ Did6 w w' n0 t g d cap xs.length r first harts (ns 2).length a cC bL := by
  have h8 := B.fr.hh
  have hfit := B.fr.fit
  have hsm := B.fr.small
  have hsl : ∀ o, Slot o → (ns o).length ≤ 4096 := P.good.few
  obtain ⟨W0, hW0⟩ : ∃ W0 : World, W0 = w.alloc (.cells #[.int .i64 1, .int .i64 h, .int .i64 ((first : Int) + k)] 37) := ⟨_, rfl⟩
  have ho0 : Only [] w W0 := by rw [hW0]; exact (Only.refl _ _).alloc _
  obtain ⟨B0, hb0⟩ := B.only ho0
  have hbx := B.boxed
  have hB : Blk W0 w.heap.size 37 #[.int .i64 1, .int .i64 h, .int .i64 ((first : Int) + k)] := by rw [hW0]; exact Blk.new w 37 _
  have hP := P.turn hk (c := gb (ns 2) k - 1) (by omega) (by omega) (by omega)
  have HF := hide (decr_less B0.fr h hh ((first : Int) + k) k rfl hk (gb (ns 2) k) rfl h1 h2)
  have HB0 := hide B0
  have HB := hide hB
  have HBX := hide hbx
  have HB1 := hide hb0
  have HW0 := hide hW0
  have HH := hide hh
  have HK := hide hk
  have hfk : (first : Int) + k ≤ 4096 := by omega
  have HP := hide hP
  clear hP
  clear B B0 P hsl h8 hfit hb0 hB hbx
  go_enter Try.func9, Try.ntmps9
  go_wp2_with fail
  rw [← HW0.out]
  refine HF.out.mono ?_
  rintro e w1 ⟨rfl, D1⟩
  obtain ⟨v1, B1, hb1, O1⟩ := HB0.out.pool D1
  have b1 := HB.out.only O1 HBX.out.1
  have c0 := b1.cell 0
  have c1 := b1.cell 1
  have c2 := b1.cell 2
  have HR := hide (rdecr_less B1.rf h HH.out ((first : Int) + k) k rfl HK.out (gb (ns 2) k) rfl h1 h2)
  have HB2 := hide B1
  have HB3 := hide hb1
  have HBY := hide b1
  clear D1 B1 hb1 O1 b1 HF HB0 HB
  go_wp2_with fail
  refine HR.out.mono ?_
  rintro e w2 ⟨rfl, D2⟩
  obtain ⟨vs2, Z2, B2, hb2, O2⟩ := HB2.out.refs D2
  have b2 := HBY.out.only O2 HBX.out.2
  have HB4 := hide B2
  have HB5 := hide hb2
  clear D2 B2 hb2 O2 HR HB2 c0 c1 c2 HBY
  have c0 := b2.cell 0
  have c1 := b2.cell 1
  have c2 := b2.cell 2
  clear b2
  go_wp2
  go_ret
  obtain ⟨B3, hb3⟩ := HB4.out.only (Only.refl [] _)
  exact ⟨rfl, ⟨_, _, _, _, _, B3, HP.out, by rw [upd_same, List.length_set], rfl⟩, HB1.out.trans (HB3.out.trans (HB5.out.trans hb3))⟩

set_option maxHeartbeats 1000000 in
/-- does, kind 1: the last lets go. -/
theorem does_decr_free (B : B6 w n0 t g d cap xs r first harts v ns a cC bL vs Z ns) (P : P6 xs first ns) (h : Nat) (hh : h < harts) (k : Nat) (hk : k < (ns 2).length) (h1 : gb (ns 2) k = 1) :
    Calls Try.prog 9 #[.pointer (some ⟨g, 0, none⟩), .pointer (some ⟨t, 0, none⟩), .pointer (some ⟨a, 0, none⟩), .agg #[.int .i64 1, .int .i64 h, .int .i64 ((first : Int) + k)]] w fun e w' => e = .returned (.bool true) ∧ Did6 w w' n0 t g d cap xs.length r first harts (ns 2).length a cC bL := by
  have h8 := B.fr.hh
  have hfit := B.fr.fit
  have hsm := B.fr.small
  have hsl : ∀ o, Slot o → (ns o).length ≤ 4096 := P.good.few
  obtain ⟨W0, hW0⟩ : ∃ W0 : World, W0 = w.alloc (.cells #[.int .i64 1, .int .i64 h, .int .i64 ((first : Int) + k)] 37) := ⟨_, rfl⟩
  have ho0 : Only [] w W0 := by rw [hW0]; exact (Only.refl _ _).alloc _
  obtain ⟨B0, hb0⟩ := B.only ho0
  have hbx := B.boxed
  have hB : Blk W0 w.heap.size 37 #[.int .i64 1, .int .i64 h, .int .i64 ((first : Int) + k)] := by rw [hW0]; exact Blk.new w 37 _
  have hP := P.back hk h1 (show h < 8 by omega) hfit
  have hn2 : giveN (upd ns 2 ((ns 2).set k 0)) h ((first : Int) + k) 2 = (ns 2).set k 0 := by rw [giveN_2 _ (by omega), upd_same]
  have hfew : (ns 12).length + (ns (4 + h)).length < 4096 := by
    have e1 := freeL_length ns (fslot4 (show h < 8 by omega)) []
    have e2 := freeL_has (upd ns (4 + h) []) fslot12
    rw [upd_far _ _ (show (12 : Nat) ≠ 4 + h by omega)] at e2
    have e3 := P.tot
    have e4 := usedL_set (ns 2) k hk 0
    rw [h1] at e4
    simp only [Int.lt_irrefl, if_false, show (0 : Int) < 1 from by decide, if_true] at e4
    have e5 := P.small
    simp at e1
    omega
  have hfit' : 256 * (first + k) + 256 ≤ xs.length := by omega
  have hzr : ZeroAt (zeroF xs (first + k)) (first + k) := fun j hj => by rw [gb_splice_zero _ _ _ hfit', if_pos (by omega)]
  have hsl2 : ∀ o, Slot o → (upd ns 2 ((ns 2).set k 0) o).length ≤ 4096 := fun o ho => by
    by_cases e : o = 2
    · subst e; rw [upd_same, List.length_set]; exact hsl 2 ho
    · rw [upd_far _ _ e]; exact hsl o ho
  have HF := hide (decr_free B0.fr h hh ((first : Int) + k) k rfl hk h1 (n2 := giveN (upd ns 2 ((ns 2).set k 0)) h ((first : Int) + k)) (fun w1 v1 F1 => give_is w1 t g d cap _ r first harts v1 _ h _ F1 (by omega) hsl2) (by rw [hn2, List.length_set]))
  have HB0 := hide B0
  have HB := hide hB
  have HBX := hide hbx
  have HB1 := hide hb0
  have HW0 := hide hW0
  have HH := hide hh
  have HK := hide hk
  have hfk : (first : Int) + k ≤ 4096 := by omega
  have HP := hide hP
  have HFW := hide hfew
  have HUP := hide P.up
  have HZR := hide hzr
  have HFIT := hide hfit'
  have HL := hide (zeroF_len hfit')
  have HN2 := hide hn2
  clear hP hfew hzr hfit' hsl2 hn2
  clear B B0 P hsl h8 hfit hb0 hB hbx
  go_enter Try.func9, Try.ntmps9
  go_wp2_with fail
  rw [← HW0.out]
  refine HF.out.mono ?_
  rintro e w1 ⟨rfl, D1⟩
  obtain ⟨v1, B1, hb1, O1⟩ := HB0.out.pool D1
  have b1 := HB.out.only O1 HBX.out.1
  have c0 := b1.cell 0
  have c1 := b1.cell 1
  have c2 := b1.cell 2
  have HR := hide (rdecr_free B1.rf h HH.out ((first : Int) + k) k rfl HK.out h1 HFW.out HUP.out)
  have HB2 := hide B1
  have HB3 := hide hb1
  have HBY := hide b1
  clear D1 B1 hb1 O1 b1 HF HB0 HB
  go_wp2_with fail
  refine HR.out.mono ?_
  rintro e w2 ⟨rfl, D2⟩
  obtain ⟨vs2, Z2, B2, hb2, O2⟩ := HB2.out.refs D2
  have b2 := HBY.out.only O2 HBX.out.2
  have HZ := hide (zero6_yes B2.fr.mem ((first : Int) + k) (first + k) (by omega) (by rw [HL.out]; exact HFIT.out) HZR.out)
  have HB4 := hide B2
  have HB5 := hide hb2
  clear D2 B2 hb2 O2 HR HB2 c0 c1 c2 HBY
  have c0 := b2.cell 0
  have c1 := b2.cell 1
  have c2 := b2.cell 2
  clear b2
  go_wp2_with (go_at_call 22; refine HZ.out.mono ?_; rintro e w3 ⟨rfl, o3⟩; have HO3 := hide o3; clear o3)
  go_ret
  obtain ⟨B3, hb3⟩ := HB4.out.only HO3.out
  exact ⟨rfl, ⟨_, _, _, _, _, B3, HP.out, by rw [HN2.out, List.length_set], HL.out⟩, HB1.out.trans (HB3.out.trans (HB5.out.trans hb3))⟩

/-- does, another kind: nothing is done. -/
theorem does_else (B : B6 w n0 t g d cap xs r first harts v ns a cC bL vs Z ns) (P : P6 xs first ns) (k h x : Int) (h0 : k ≠ 0) (h1 : k ≠ 1) (h2 : k ≠ 2) (h3 : k ≠ 3) (h4 : k ≠ 4) :
    Calls Try.prog 9 #[.pointer (some ⟨g, 0, none⟩), .pointer (some ⟨t, 0, none⟩), .pointer (some ⟨a, 0, none⟩), .agg #[.int .i64 k, .int .i64 h, .int .i64 x]] w fun e w' => e = .returned (.bool true) ∧ Did6 w w' n0 t g d cap xs.length r first harts (ns 2).length a cC bL := by
  have HB := hide (fun W (ho : Only [] w W) => B.only ho)
  have HP := hide P
  have e0 : (k == 0) = false := beq_eq_false_iff_ne.2 h0
  have e1 : (k == 1) = false := beq_eq_false_iff_ne.2 h1
  have e2 : (k == 2) = false := beq_eq_false_iff_ne.2 h2
  have e3 : (k == 3) = false := beq_eq_false_iff_ne.2 h3
  have e4 : (k == 4) = false := beq_eq_false_iff_ne.2 h4
  clear B P
  go_enter Try.func9, Try.ntmps9
  go_wp2
  go_ret
  obtain ⟨B', hb⟩ := HB.out _ ((Only.refl [] w).alloc _)
  exact ⟨rfl, ⟨_, _, _, _, _, B', HP.out, rfl, rfl⟩, hb⟩

theorem does_write_no (B : B6 w n0 t g d cap xs r first harts v ns a cC bL vs Z ns) (P : P6 xs first ns) (h x : Int) (hx : x ≤ 9223372036854775807) (h0 : cntF first ns x = 0) :
    Calls Try.prog 9 #[.pointer (some ⟨g, 0, none⟩), .pointer (some ⟨t, 0, none⟩), .pointer (some ⟨a, 0, none⟩), .agg #[.int .i64 3, .int .i64 h, .int .i64 x]] w fun e w' => e = .returned (.bool true) ∧ Did6 w w' n0 t g d cap xs.length r first harts (ns 2).length a cC bL := by
  have HB := hide (fun W (ho : Only [] w W) => B.only ho)
  have HR := hide (fun W (ho : Only [] w W) => rcount_is (HB.out W ho).1.rf x hx)
  rw [h0] at HR
  have HP := hide P
  clear B P h0
  go_enter Try.func9, Try.ntmps9
  go_wp2_with (go_at_call 27; refine (HR.out _ (by repeat (first | exact Only.refl _ _ | apply Only.drew | apply Only.alloc | apply Only.drewN))).mono ?_; rintro e w' ⟨rfl, n, rfl⟩)
  go_ret
  obtain ⟨B', hb⟩ := HB.out _ (((Only.refl [] w).alloc _).drewN _)
  exact ⟨rfl, ⟨_, _, _, _, _, B', HP.out, rfl, rfl⟩, hb⟩

set_option maxHeartbeats 1000000 in
/-- does, kind 3: a frame that somebody has is written. -/
theorem does_write (B : B6 w n0 t g d cap xs r first harts v ns a cC bL vs Z ns) (P : P6 xs first ns) (h : Int) (k : Nat) (hk : k < (ns 2).length) (h1 : 0 < gb (ns 2) k) :
    Calls Try.prog 9 #[.pointer (some ⟨g, 0, none⟩), .pointer (some ⟨t, 0, none⟩), .pointer (some ⟨a, 0, none⟩), .agg #[.int .i64 3, .int .i64 h, .int .i64 ((first : Int) + k)]] w fun e w' => e = .returned (.bool true) ∧ Did6 w w' n0 t g d cap xs.length r first harts (ns 2).length a cC bL := by
  have hfit := B.fr.fit
  have hsm := B.fr.small
  have HB := hide (fun W (ho : Only [] w W) => B.only ho)
  have HR := hide (fun W (ho : Only [] w W) => rcount_is (HB.out W ho).1.rf ((first : Int) + k) (by omega))
  rw [cntF_at rfl hk] at HR
  have HP := hide P
  have hfk : (first : Int) + k ≤ 4096 := by omega
  have hgt : decide (0 < gb (ns 2) k) = true := by simp; omega
  have HK := hide (And.intro hk h1)
  have HFIT := hide (show 256 * (first + k) + 256 ≤ xs.length by omega)
  clear B P hk hfit hsm
  go_enter Try.func9, Try.ntmps9
  go_wp2_with (go_at_call 27; refine (HR.out _ (by repeat (first | exact Only.refl _ _ | apply Only.drew | apply Only.alloc | apply Only.drewN))).mono ?_; rintro e w' ⟨rfl, n, rfl⟩)
  have e1 : wrap64 (4 * bits .and .i64 h 63) = 4 * (h % 64) := by rw [i64_and63]; unfold wrap64; omega
  have e2 : wrap64 (256 * ((first : Int) + k) + wrap64 (4 * bits .and .i64 h 63)) = 256 * ((first : Int) + k) + 4 * (h % 64) := by rw [e1]; unfold wrap64; omega
  rw [e2]
  have hoe : Only [] w ((w.alloc (.cells #[.int .i64 3, .int .i64 h, .int .i64 ((first : Int) + k)] 37)).drewN n) := ((Only.refl [] w).alloc _).drewN _
  obtain ⟨B1, hb1⟩ := HB.out _ hoe
  refine (store32_ok B1.fr.mem (256 * ((first : Int) + k) + 4 * (h % 64)) 7 (by omega) (by have := HFIT.out; omega) (by omega) (by decide) (by decide)).mono ?_
  rintro e w3 ⟨rfl, ho3, hm3⟩
  have e8 : (256 * ((first : Int) + k) + 4 * (h % 64)).toNat = 256 * (first + k) + 4 * (h % 64).toNat := by omega
  rw [e8] at hm3
  have hl8 : 256 * (first + k) + 4 * (h % 64).toNat + 4 ≤ xs.length := by have := HFIT.out; omega
  obtain ⟨v3, B3, hb3, -⟩ := B1.pool (xs' := putw xs (256 * (first + k) + 4 * (h % 64).toNat) 7) ⟨v, B1.fr.zeroed ho3 hm3 (U8.putw B1.fr.u8 _ (by decide) (by decide)) (length_putw _ _ _), Turn.self ho3⟩
  have P3 : P6 (putw xs (256 * (first + k) + 4 * (h % 64).toNat) 7) first ns := HP.out.write fun q hq hz h0 i hi => by
    have hne : q ≠ k := fun e => by subst e; have := HK.out.2; omega
    rw [gb_putw _ _ _ _ hl8, if_neg (by omega), if_neg (by omega), if_neg (by omega), if_neg (by omega)]
    exact h0 i hi
  have HE := hide (show Did6 w w3 n0 t g d cap xs.length r first harts (ns 2).length a cC bL from ⟨⟨_, _, _, _, _, B3, P3, rfl, length_putw _ _ _⟩, hb1.trans hb3⟩)
  clear B1 hb1 ho3 hm3 B3 hb3 P3 hoe HB HR HP
  go_wp2
  go_ret
  exact ⟨rfl, HE.out⟩
end
end Go.Proofs.Ytfbegickdnjfcaa
