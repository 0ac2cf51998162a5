/-
  The law's own helpers over frames: sameInts, awake.
-/
import Derived.Test.YtfbegickdnjfcaaFrRight
import Derived.Test.YtfbegickdnjfcaaFrNew
namespace Go.Proofs.Ytfbegickdnjfcaa
open Go.ChangeShapes Go.WideShapes Go.ChangeAt Go.RowKit
set_option linter.unusedVariables false

/-- A slice of these numbers, as one may read it. -/
def SeesI (w : World) (v : Value) (zs : List Int) : Prop := ∃ A c, v = .slice A zs.length c ∧ (0 < zs.length → ∃ b o, A = some ⟨b, o, none⟩ ∧ b < w.heap.size ∧ ∀ i, i < zs.length → w.cell? ⟨b, o + i, none⟩ = some (.int .i64 (gb zs i)))
theorem KRow.sees {w : World} {B : Nat} {v : Value} {zs : List Int} (h : KRow .i64 3 w B v zs) : SeesI w v zs := by
  obtain ⟨A, c, e, hA⟩ := h.form
  refine ⟨A, c, e, fun hp => ?_⟩
  obtain ⟨b, e, _, hb, hc⟩ := hA hp
  exact ⟨b, 0, e, hb, fun i hi => by rw [Nat.zero_add]; exact hc i hi⟩
theorem SeesI.only {w w' : World} {v : Value} {zs : List Int} (h : SeesI w v zs) (ho : Only [] w w') : SeesI w' v zs := by
  obtain ⟨A, c, e, hA⟩ := h
  refine ⟨A, c, e, fun hp => ?_⟩
  obtain ⟨b, o, e, hb, hc⟩ := hA hp
  exact ⟨b, o, e, Nat.lt_of_lt_of_le hb ho.size, fun i hi => (ho.cell hb (by simp)).trans (hc i hi)⟩
theorem SeesI.lit {w : World} {b : Nat} {zs : List Int} (h : Blk w b 3 (i64l zs).toArray) (c : Nat) : SeesI w (.slice (some ⟨b, 0, none⟩) zs.length c) zs :=
  ⟨_, c, rfl, fun hp => ⟨b, 0, rfl, h.lt, fun i hi => by
    rw [Nat.zero_add, h.cell]
    have := i64l_get zs [] i hi
    rwa [List.append_nil] at this⟩⟩

theorem same6_yes' (w : World) (A A' : Option Addr) (n c c' : Nat) (zs : List Int) (h : 0 < n → ∃ b o, A = some ⟨b, o, none⟩ ∧ b < w.heap.size ∧ ∀ i, i < n → w.cell? ⟨b, o + i, none⟩ = some (.int .i64 (gb zs i))) (h' : 0 < n → ∃ b o, A' = some ⟨b, o, none⟩ ∧ b < w.heap.size ∧ ∀ i, i < n → w.cell? ⟨b, o + i, none⟩ = some (.int .i64 (gb zs i))) (hn : n ≤ 9223372036854775807) :
    Calls Try.prog 15 #[.slice A n c, .slice A' n c'] w fun e w' => e = .returned (.bool true) ∧ Only [] w w' := by
  have H := hide h
  have H' := hide h'
  clear h h'
  have hb : ((n : Int) != (n : Int)) = false := by simp
  go_enter Try.func15, Try.ntmps15
  go_wp2
  go_loopw [13] (fun i wr => ∃ k : Nat, k ≤ n ∧ i = .int .i64 k ∧ Only [] w wr) (fun i _ => n - (intOf i).toNat)
  case atStart => exact ⟨0, Nat.zero_le _, rfl, Only.refl _ _⟩
  case round =>
    obtain ⟨k, hk, rfl, ho⟩ := hrel
    have HO := hide ho
    by_cases hlt : k < n
    · obtain ⟨b, o, rfl, hbb, hc⟩ := H.out (by omega)
      obtain ⟨b2, o2, rfl, hbb2, hc2⟩ := H'.out (by omega)
      have c1 := (ho.cell hbb (by simp)).trans (hc k hlt)
      have c2 := (ho.cell hbb2 (by simp)).trans (hc2 k hlt)
      have hlt2 : (k : Int) < n := by omega
      clear ho hc hc2 hbb hbb2
      generalize gb zs k = v at c1 c2
      go_wp2
      go_quiet (fail)
      go_wp2
      go_roundw
      case rel => exact ⟨k + 1, hlt, by go_num, HO.out.drewN _⟩
      case measure => simp [intOf]; omega
    · clear ho
      go_wp2
      go_ret
      exact ⟨rfl, HO.out⟩

theorem same6_yes {w : World} {v v' : Value} {zs : List Int} (h : SeesI w v zs) (h' : SeesI w v' zs) (hn : zs.length ≤ 9223372036854775807) : Calls Try.prog 15 #[v, v'] w fun e w' => e = .returned (.bool true) ∧ Only [] w w' := by
  obtain ⟨A, c, rfl, hA⟩ := h
  obtain ⟨A', c', rfl, hA'⟩ := h'
  exact same6_yes' w A A' _ c c' zs hA hA' hn

theorem seq6_nil (w : World) (q : Option Addr) : (binOp BinOp.eql 42 (.func (.func 32) #[] #[.pointer q]) .nilFunc).run Try.prog w = .ok (.bool false) w := by kernel_rfl

/-- Frames that live in blocks of one's own, from w on. -/
def Live (w W : World) (t g d cap : Nat) (xs : List Int) (r : List Value) (first harts : Nat) (ns : Nat → List Int) : Prop :=
  ∃ v, IsFr W t g d cap xs r first harts v ns ∧ (∀ k, k ∈ d :: footL t v → w.heap.size ≤ k) ∧ Only [] w W
section
variable {w W W' : World} {t g d cap : Nat} {xs xs' : List Int} {r : List Value} {first harts : Nat} {v : Nat → Value} {ns ns' : Nat → List Int}
theorem Live.only (h : Live w W t g d cap xs r first harts ns) (ho : Only [] W W') : Live w W' t g d cap xs r first harts ns := by
  obtain ⟨v, F, hk, ho1⟩ := h
  exact ⟨v, F.only ho (by simp) (by simp) (by simp), hk, ho1.trans ho⟩
theorem Live.turn {v' : Nat → Value} (hk : ∀ k, k ∈ d :: footL t v → w.heap.size ≤ k) (ho : Only [] w W) (F : IsFr W' t g d cap xs' r first harts v' ns') (T : Turn W W' (d :: footL t v) (d :: footL t v')) : Live w W' t g d cap xs' r first harts ns' :=
  ⟨v', F, fun k h => (T.foot k h).elim (hk k) (fun h => Nat.le_trans ho.size h), ho.trans' T.only (fun k h1 h2 => by have := hk k h2; omega)⟩
theorem Live.did (hk : ∀ k, k ∈ d :: footL t v → w.heap.size ≤ k) (ho : Only [] w W) (h : FrDid W W' t g d cap xs' r first harts v ns') : Live w W' t g d cap xs' r first harts ns' := by
  obtain ⟨v', F, T⟩ := h
  exact Live.turn hk ho F T
theorem Live.moved (hk : ∀ k, k ∈ d :: footL t v → w.heap.size ≤ k) (ho : Only [] w W) (F : IsFr W t g d cap xs r first harts v ns) (h : Moved W W' t v ns') (h2 : (ns' 2).length = (ns 2).length) : Live w W' t g d cap xs r first harts ns' := by
  obtain ⟨v', R, T, k⟩ := h
  exact Live.turn hk ho (F.moved R T k h2) (T.more d)
end

/-- The rows of the chapter's example: at first, behind Alloc, behind Decr. -/
def ex0 : Nat → List Int := nsNew 4 20 20
def ex1 : Nat → List Int := allocN ex0 0 7
def ex2 : Nat → List Int := upd ex1 2 ((ex1 2).set 7 0)
def ex3 : Nat → List Int := upd ex2 5 (ex2 5 ++ [11])
theorem ex0_few : ∀ o, Slot o → (ex0 o).length ≤ 4096 := fun o ho => (show ∀ o, o < 13 → (ex0 o).length ≤ 4096 by decide +kernel) o ho.lt
theorem ex_good {xs : List Int} (hz : ∀ k, k < 20 → ∀ j, j < 256 → gb xs (256 * (4 + k) + j) = 0) : Good xs 4 ex3 := by
  have hl : (ex3 2).length = 20 := by decide +kernel
  refine ⟨fun k hk => ?_, fun x hx => ?_, fun k hk h0 => ?_, fun k hk h0 j hj => hz k (by omega) j hj, fun o ho => ?_⟩
  · rw [hl] at hk
    exact (show ∀ k, k < 20 → 0 ≤ gb (ex3 2) k ∧ gb (ex3 2) k ≤ 1048576 by decide +kernel) k hk
  · have h := (show ∀ x ∈ freeL ex3, (x - 4).toNat < 20 ∧ x = ((4 : Nat) : Int) + ((x - 4).toNat : Int) ∧ gb (ex3 2) (x - 4).toNat = 0 by decide +kernel) x hx
    exact ⟨(x - 4).toNat, by rw [hl]; exact h.1, h.2.1, h.2.2⟩
  · rw [hl] at hk
    exact (show ∀ k : Nat, k < 20 → (freeL ex3).count (((4 : Nat) : Int) + (k : Int)) = 1 by decide +kernel) k hk
  · exact (show ∀ o, o < 13 → (ex3 o).length ≤ 4096 by decide +kernel) o ho.lt

set_option maxRecDepth 100000 in
set_option maxHeartbeats 4000000 in
theorem awake6 (w : World) : Calls Try.prog 4 #[] w fun e w' => e = .returned (.bool true) ∧ Only [] w w' := by
  have hs0 := seq6_nil
  go_enter Try.func4, Try.ntmps4
  go_wp2_with fail
  refine (new_ok 24 _ (by decide) (by decide)).mono ?_
  rintro e w1 ⟨g, d, rfl, hg, hd, hm, ho1⟩
  have HN := hide (fnew_ok hm (U8.replicate _) 4 2 20 ⟨by decide, by decide⟩ (by decide) (by rw [List.length_replicate]; decide) 4 20 2 rfl rfl rfl)
  have HO1 := hide ho1
  have HD := hide (And.intro hg hd)
  clear hm ho1 hg hd
  go_wp2_with fail
  refine HN.out.mono ?_
  rintro e w2 ⟨t, v, xs, rfl, hF, hfo, ho2, hxl, hz⟩
  have HL2 := hide (show Live w w2 t g d (256 * (24 : Int).toNat) xs [] 4 2 ex0 from ⟨v, hF, fun k hk => by
    rcases List.mem_cons.1 hk with rfl | hk
    · exact HD.out.2
    · exact Nat.le_trans HO1.out.size (hfo k hk), HO1.out.trans' ho2 (fun k h1 h2 => by simp at h2; have := HD.out.2; omega)⟩)
  have HZ := hide hz
  have HXL := hide (show xs.length = 6144 from by rw [hxl, List.length_replicate]; rfl)
  clear hF hfo ho2 hz HN hxl
  go_wp2_with fail
  refine (fall_new _ _).mono ?_
  rintro e w3 ⟨rfl, hw3⟩
  have HL3 := hide (HL2.out.only (show Only [] w2 w3 by rw [hw3]; exact (Only.refl _ _).alloc _))
  clear HL2 hw3
  go_wp2_with fail
  refine (fall_new _ _).mono ?_
  rintro e w4 ⟨rfl, hw4⟩
  have HL4 := hide (HL3.out.only (show Only [] w3 w4 by rw [hw4]; exact (Only.refl _ _).alloc _))
  clear HL3 hw4
  obtain ⟨v4, F4, k4, o4⟩ := HL4.out
  have HA := hide ((show Calls Try.prog 12 #[.pointer (some ⟨t, 0, none⟩), .int .i64 0] w4 fun e w' => e = .returned (.tuple #[.int .i64 11, .int .i64 0]) ∧ FrDid w4 w' t g d _ (zeroF xs (4 + 7)) [] 4 2 v4 (allocN ex0 0 7) from
    alloc_ok F4 0 7 (by decide) ex0_few (by decide +kernel) (by decide +kernel) (by decide +kernel) 11 (by decide +kernel) (by decide)).mono (R' := fun e w' => e = .returned (.tuple #[.int .i64 11, .int .i64 0]) ∧ Live w w' t g d (256 * (24 : Int).toNat) (zeroF xs (4 + 7)) [] 4 2 ex1) (fun e w' h => ⟨h.1, Live.did k4 o4 h.2⟩))
  clear F4 k4 o4 HL4
  go_wp2_with fail
  refine HA.out.mono ?_
  rintro e w5 ⟨rfl, hL5⟩
  have HL5 := hide hL5
  obtain ⟨v5, F5, k5, o5⟩ := hL5
  have HLi := hide (show Calls Try.prog 13 #[.pointer (some ⟨t, 0, none⟩), .int .i64 0] w5 fun e w' => NewRow w5 w' e (ex1 4) from list_ok F5 0 (by decide) (by decide +kernel))
  have HF5 := hide F5
  have HK5 := hide (And.intro k5 o5)
  clear F5 k5 o5 HA HL5
  go_wp2_with fail
  refine HLi.out.mono ?_
  rintro e w6 ⟨l6, rfl, hr6, ho6⟩
  have HDe := hide ((show Calls Try.prog 14 #[.pointer (some ⟨t, 0, none⟩), .int .i64 1, .int .i64 11] w6 fun e w' => e = .returned (.tuple #[.bool true, .int .i64 0]) ∧ FrDid w6 w' t g d _ (zeroF (zeroF xs (4 + 7)) (4 + 7)) [] 4 2 v5 ex3 from
    decr_free (HF5.out.only ho6 (by simp) (by simp) (by simp)) 1 (by decide) 11 7 (by decide) (by decide +kernel) (by decide +kernel) (fun w1 v1 F1 => give_short F1 1 (by decide) 11 (by decide +kernel)) (by decide +kernel)).mono
      (R' := fun e w' => e = .returned (.tuple #[.bool true, .int .i64 0]) ∧ SeesI w' l6 [4, 5, 6, 7, 8, 9, 10] ∧ Live w w' t g d (256 * (24 : Int).toNat) (zeroF (zeroF xs (4 + 7)) (4 + 7)) [] 4 2 ex3) (fun e w' h => by
      refine ⟨h.1, ?_, Live.did HK5.out.1 (HK5.out.2.trans ho6) h.2⟩
      obtain ⟨v', F', T⟩ := h.2
      have := (KRow.only hr6 T.only (fun q hq hm => by
        have h1 := (hr6.at_ hq).1
        rcases List.mem_cons.1 hm with rfl | hm
        · have := HF5.out.lts.2.1; omega
        · have := HF5.out.lts.2.2 q hm; omega)).sees
      rwa [show ex1 4 = [4, 5, 6, 7, 8, 9, 10] by decide +kernel] at this))
  clear hr6 ho6 HLi HF5 HK5
  go_wp2_with fail
  refine HDe.out.mono ?_
  rintro e w7 ⟨rfl, hs7, hL7⟩
  have HS7 := hide hs7
  have HL7 := hide hL7
  have HSA := hide (same6_yes (HS7.out.only ((Only.refl [] w7).alloc (.cells #[.int .i64 4, .int .i64 5, .int .i64 6, .int .i64 7, .int .i64 8, .int .i64 9, .int .i64 10] 3))) (SeesI.lit (zs := [4, 5, 6, 7, 8, 9, 10]) (Blk.new w7 3 #[.int .i64 4, .int .i64 5, .int .i64 6, .int .i64 7, .int .i64 8, .int .i64 9, .int .i64 10]) 7) (by decide))
  have HOA := hide ((Only.refl [] w7).alloc (.cells #[.int .i64 4, .int .i64 5, .int .i64 6, .int .i64 7, .int .i64 8, .int .i64 9, .int .i64 10] 3))
  clear hs7 hL7 HDe
  go_wp2_with fail
  refine HSA.out.mono ?_
  rintro e w8 ⟨rfl, ho8⟩
  have HL8 := hide (HL7.out.only (HOA.out.trans ho8))
  obtain ⟨v8, F8, k8, o8⟩ := HL8.out
  have HLi := hide (show Calls Try.prog 13 #[.pointer (some ⟨t, 0, none⟩), .int .i64 1] w8 fun e w' => NewRow w8 w' e (ex3 5) from list_ok F8 1 (by decide) (by decide +kernel))
  clear F8 k8 o8 HL7 HOA HSA HS7 ho8
  go_wp2_with fail
  refine HLi.out.mono ?_
  rintro e w9 ⟨l9, rfl, hr9, ho9⟩
  have hs9 := hr9.sees
  rw [show ex3 5 = [11] by decide +kernel] at hs9
  have HL9 := hide (HL8.out.only ho9)
  have HSA := hide (same6_yes (hs9.only ((Only.refl [] w9).alloc (.cells #[.int .i64 11] 3))) (SeesI.lit (zs := [11]) (Blk.new w9 3 #[.int .i64 11]) 1) (by decide))
  have HOA := hide ((Only.refl [] w9).alloc (.cells #[.int .i64 11] 3))
  clear hr9 ho9 hs9 HL8 HLi
  go_wp2_with fail
  refine HSA.out.mono ?_
  rintro e w10 ⟨rfl, ho10⟩
  obtain ⟨v10, F10, k10, o10⟩ := HL9.out.only (HOA.out.trans ho10)
  have HRi := hide (right_is F10 (ex_good (fun k hk j hj => by
    have h6 : 256 * (4 + 7) + 256 ≤ xs.length := by rw [HXL.out]; decide
    rw [gb_splice_zero _ _ _ (by rw [zeroF_len h6]; exact h6)]
    split
    · rfl
    · rw [gb_splice_zero _ _ _ h6]
      split
      · rfl
      · exact HZ.out k hk j hj)) (by decide +kernel))
  have HO10 := hide o10
  clear F10 k10 o10 ho10 HL9 HOA HSA
  go_wp2_with (go_at_call 16; refine HRi.out.mono ?_; rintro e w11 ⟨rfl, hb11⟩; have HB11 := hide hb11; clear hb11)
  go_ret
  exact ⟨rfl, HO10.out.trans (Only.of_below HB11.out)⟩
end Go.Proofs.Ytfbegickdnjfcaa
