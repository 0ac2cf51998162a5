/-
  The walk of 'InsnWraps'.
-/
import Derived.Test.YtkoibmpncfbnpaaInsnFewWalk
namespace Go.Proofs.Ytkoibmpncfbnpaa
open Go.ChangeShapes Go.WideShapes Go.ChangeAt Go.RowKit
set_option linter.unusedVariables false
set_option linter.unusedSimpArgs false

def wr0 (a b : Int) : List Int := [0, a, b, 0, 0, 0, 0, 0, 0, 0, 0, 0, 0, 0, 0, 0, 0]
def wr1 (x b : Int) : List Int := [0, x, b, 0, 0, 0, 0, 0, 0, 0, 0, 0, 0, 0, 0, 0, 4]
def sums (a b : Int) : List Int := [val 3 a b 0, val 4 a b 0, val 5 a b 0, val 6 a b 0, val 7 a b 0, val 8 a b 0, val 9 a b 0]
theorem sums_get (a b : Int) (j : Nat) (hj : j < 7) : gb (sums a b) j = val (3 + j) a b 0 := by
  have h : j = 0 ∨ j = 1 ∨ j = 2 ∨ j = 3 ∨ j = 4 ∨ j = 5 ∨ j = 6 := by omega
  rcases h with rfl | rfl | rfl | rfl | rfl | rfl | rfl <;> rfl

theorem wraps_step (o a b : Int) (a0 : 0 ≤ a) (a1 : a < 4294967296) (b0 : 0 ≤ b) (b1 : b < 4294967296) (o1 : 1 ≤ o) (o2 : o ≤ 16) (w : World) :
    Calls Try.prog 15 #[.agg (u32A (wr0 a b)), .int .u32 (8448 + o)] w fun e w' => e = .returned (.tuple #[.agg (u32A (wr1 (val o a b 0) b)), actV 1 0 0 0 0 0]) ∧ Below w.heap.size w w' := by
  have h := step_num (8448 + o) (wr0 a b) (by
    refine ⟨rfl, fun y hy => ?_⟩
    simp [wr0] at hy
    omega) (by omega) (by omega) o 1 2 0 (by omega) (by omega) (by omega) (by unfold immOf; split <;> omega) o1 o2 w
  exact h
theorem wraps_encode (o : Int) (o1 : 1 ≤ o) (o2 : o ≤ 28) (w : World) : Calls Try.prog 13 #[.agg #[.int .i64 o, .int .i64 1, .int .i64 2, .int .i64 0]] w fun e w' => e = .returned (.tuple #[.int .u32 (8448 + o), .int .i64 0]) ∧ Below w.heap.size w w' := by
  have h := encode_ok o 1 2 0 w (by unfold Fits; omega)
  have e : wordOf o 1 2 0 = 8448 + o := by unfold wordOf; split <;> omega
  rw [e] at h
  exact h

/-- The loop over the sums. -/
def WrapsRel (w : World) (cb sb : Nat) (a b : Int) (x : Value) (wr : World) : Prop :=
  ∃ j : Nat, j ≤ 7 ∧ x = .int .i64 j ∧ Blk wr cb 35 (u32A (wr0 a b)) ∧ Blk wr sb 22 (u32A (sums a b)) ∧ Below w.heap.size w wr

set_option maxRecDepth 100000 in
set_option maxHeartbeats 4000000 in
theorem insnWraps_is (a b : Int) (a0 : 0 ≤ a) (a1 : a < 4294967296) (b0 : 0 ≤ b) (b1 : b < 4294967296) (w : World) :
    Calls Try.prog 9 #[.int .u32 a, .int .u32 b] w fun e w' => e = .returned (.bool true) ∧ Below w.heap.size w w' := by
  have S := hide (fun o o1 o2 w => wraps_step o a b a0 a1 b0 b1 o1 o2 w)
  have HL0 := hide (show (wr0 a b).length = 17 from rfl)
  go_enter Try.func9, Try.ntmps9
  go_wp2_with fail
  refine (lives_ok _).mono ?_
  rintro e w1 ⟨rfl, h1⟩
  have H1 := hide h1
  clear h1
  go_wp2_with fail
  refine world_from (fun W => Blk W w1.heap.size 35 (u32A (wr0 a b)) ∧ Blk W (w1.heap.size + 1) 22 (u32A (sums a b)) ∧ Below w.heap.size w W) ⟨(Blk.new w1 _ _).alloc _, ?_, ((H1.out.alloc H1.out.size _).alloc (by have := H1.out.size; simp; omega) _)⟩ ?_
  · have e1 : (w1.alloc (.cells (u32A (wr0 a b)) 35)).heap.size = w1.heap.size + 1 := by simp
    have h := Blk.new (w1.alloc (.cells (u32A (wr0 a b)) 35)) 22 (u32A (sums a b))
    rw [e1] at h
    exact h
  rintro w2 ⟨C2, S2, b2⟩
  clear H1
  generalize w1.heap.size + 1 = sb at *
  generalize w1.heap.size = cb at *
  go_loopw [7] (fun x wr => WrapsRel w cb sb a b x wr) (fun x _ => 7 - (intOf x).toNat)
  case atStart => exact ⟨0, by omega, rfl, C2, S2, b2⟩
  case round =>
    obtain ⟨j, hj, rfl, bc, bs, hb⟩ := hrel
    clear C2 S2 b2
    by_cases hlt : j < 7
    · have hs : wr.cell? ⟨sb, j, none⟩ = some (.int .u32 (val (3 + j) a b 0)) := by rw [← sums_get a b j hlt]; exact (bs.cell j).trans (u32A_get _ _ (by exact hlt))
      have E := hide (fun w => wraps_encode (3 + j) (by omega) (by omega) w)
      have T := hide (fun w => S.out (3 + j) (by omega) (by omega) w)
      have hJ : (j : Int) < 7 := by omega
      have HG := hide (sums_get a b j hlt)
      generalize val (3 + j) a b 0 = x at *
      have HL1 := hide (show (wr1 x b).length = 17 from rfl)
      have HZ := hide (And.intro bc (And.intro bs hb))
      clear bc bs hb hs
      go_wp2_with fail
      refine (E.out _).mono ?_
      rintro e w3 ⟨rfl, h3⟩
      have B3 := below_blk h3 HZ.out.1 HZ.out.1.lt
      have S3 := below_blk h3 HZ.out.2.1 HZ.out.2.1.lt
      have H3 := hide (HZ.out.2.2.trans (h3.mono HZ.out.2.2.size))
      clear h3 HZ
      go_upto_region 11 with (first
        | (with_reducible refine wp_region_lit (id := 10) ?_)
        | ((with_reducible refine cpu_load (.tmp 5) B3 ?_ ?_ ?_); (· rfl); (· exact HL0.out))
        | (go_at_call 15; refine (T.out _).mono ?_; rintro e w4 ⟨rfl, h4⟩; have B4 := below_blk h4 B3 B3.lt; have S4 := below_blk h4 S3 S3.lt; have H4 := hide (H3.out.trans (h4.mono H3.out.size)); clear h4)
        | ((with_reducible refine cpu_store (.tmp 10) (.tmp 70) (wr1 x b) (two_new w4 _ _ ?_ ?_).1 ?_ ?_ ?_ ?_); (· rfl); (· rfl); (· rfl); (· rfl); (· exact HL1.out))
        | ((with_reducible refine act_store (.tmp 11) (.tmp 71) 1 0 0 0 0 0 (let ⟨o, l, h⟩ := (two_new w4 _ _ ?_ ?_).2; ⟨o, l, h.rowFar (by omega) _⟩) ?_ ?_ ?_); (· rfl); (· rfl); (· rfl); (· rfl)))
      refine world_from (fun W => Blk W w4.heap.size 35 (u32A (wr1 x b)) ∧ Blk W (w4.heap.size + 1) 37 (actC 1 0 0 0 0 0) ∧ Below w.heap.size w W ∧ Blk W cb 35 (u32A (wr0 a b)) ∧ Blk W sb 22 (u32A (sums a b))) ⟨(two_laid H4.out).1, (two_laid H4.out).2.1, (two_laid H4.out).2.2.1, (two_laid H4.out).2.2.2 B4, (two_laid H4.out).2.2.2 S4⟩ ?_
      rintro w5 ⟨C5, A5, b5, B5, S5⟩
      generalize w4.heap.size = g at *
      have y1 : w5.cell? ⟨g, 1, none⟩ = some (.int .u32 x) := C5.cell 1
      have y2 : w5.cell? ⟨g, 2, none⟩ = some (.int .u32 b) := C5.cell 2
      have y16 : w5.cell? ⟨g, 16, none⟩ = some (.int .u32 4) := C5.cell 16
      have y0 : w5.cell? ⟨g + 1, 0, none⟩ = some (.int .i64 1) := A5.cell 0
      have ys : w5.cell? ⟨sb, j, none⟩ = some (.int .u32 x) := (S5.cell j).trans ((u32A_get _ _ (by exact hlt)).trans (by rw [HG.out]))
      have HY := hide (And.intro B5 (And.intro S5 b5))
      clear C5 A5 b5 B5 S5 B3 S3 H3 B4 S4 H4
      go_quiet (fail)
      go_wp2
      go_roundw
      case rel => exact ⟨j + 1, by omega, by go_num, HY.out.1.drewN _, HY.out.2.1.drewN _, below_drewN HY.out.2.2 _⟩
      case measure => simp [intOf]; omega
    · have S12 : Hid (∀ w, Calls Try.prog 15 #[.agg (u32A (wr0 a b)), .int .u32 8460] w fun e w' => e = .returned (.tuple #[.agg (u32A (wr1 (val 12 a b 0) b)), actV 1 0 0 0 0 0]) ∧ Below w.heap.size w w') := hide (fun w => S.out 12 (by decide) (by decide) w)
      have S13 : Hid (∀ w, Calls Try.prog 15 #[.agg (u32A (wr0 a b)), .int .u32 8461] w fun e w' => e = .returned (.tuple #[.agg (u32A (wr1 (val 13 a b 0) b)), actV 1 0 0 0 0 0]) ∧ Below w.heap.size w w') := hide (fun w => S.out 13 (by decide) (by decide) w)
      have E12 : Hid (∀ w, Calls Try.prog 13 #[.agg #[.int .i64 12, .int .i64 1, .int .i64 2, .int .i64 0]] w fun e w' => e = .returned (.tuple #[.int .u32 8460, .int .i64 0]) ∧ Below w.heap.size w w') := hide (fun w => wraps_encode 12 (by decide) (by decide) w)
      have E13 : Hid (∀ w, Calls Try.prog 13 #[.agg #[.int .i64 13, .int .i64 1, .int .i64 2, .int .i64 0]] w fun e w' => e = .returned (.tuple #[.int .u32 8461, .int .i64 0]) ∧ Below w.heap.size w w') := hide (fun w => wraps_encode 13 (by decide) (by decide) w)
      obtain ⟨q, r, hq, hr, hfin⟩ : ∃ q r, val 12 a b 0 = q ∧ val 13 a b 0 = r ∧ (b = 0 ∧ q = 4294967295 ∧ r = a ∨ 0 < b ∧ r < b ∧ 0 ≤ q ∧ 0 ≤ r ∧ q * b + r = a ∧ 0 ≤ q * b) := by
        refine ⟨_, _, rfl, rfl, ?_⟩
        by_cases h0 : b = 0
        · left; simp [val, h0]
        · right
          have e1 : val 12 a b 0 = a / b := by simp [val, h0]
          have e2 : val 13 a b 0 = a % b := by simp [val, h0]
          rw [e1, e2]
          have hp : 0 < b := by omega
          have q0 : 0 ≤ a / b := Int.ediv_nonneg a0 b0
          exact ⟨hp, Int.emod_lt_of_pos a hp, q0, Int.emod_nonneg a h0, by rw [Int.mul_comm]; exact Int.mul_ediv_add_emod a b, Int.mul_nonneg q0 b0⟩
      rw [hq] at S12
      rw [hr] at S13
      have HQ := hide hfin
      have HZ := hide (And.intro bc hb)
      clear hq hr hfin S bc bs hb
      go_wp2_with fail
      refine (E12.out _).mono ?_
      rintro e w3 ⟨rfl, h3⟩
      have B3 := below_blk h3 HZ.out.1 HZ.out.1.lt
      have H3 := hide (HZ.out.2.trans (h3.mono HZ.out.2.size))
      clear h3 HZ
      go_wp2_with fail
      refine (E13.out _).mono ?_
      rintro e w4 ⟨rfl, h4⟩
      have B4 := below_blk h4 B3 B3.lt
      have hb1 := H3.out.trans (h4.mono H3.out.size)
      clear h4 B3 H3
      go_upto_region 16 with (first
        | (with_reducible refine wp_region_lit (id := 15) ?_)
        | ((with_reducible refine cpu_load (.tmp 5) B4 ?_ ?_ ?_); (· rfl); (· exact HL0.out))
        | (go_at_call 15; refine (S12.out _).mono ?_; rintro e w5 ⟨rfl, hh⟩; have BB := below_blk hh B4 B4.lt; have HH := hide (hb1.trans (hh.mono hb1.size)); clear hh)
        | ((with_reducible refine cpu_store (.tmp 16) (.tmp 115) (wr1 q b) (two_new w5 _ _ ?_ ?_).1 ?_ ?_ ?_ ?_); (· rfl); (· rfl); (· rfl); (· rfl); (· rfl))
        | ((with_reducible refine act_store (.tmp 17) (.tmp 116) 1 0 0 0 0 0 (let ⟨o, l, h⟩ := (two_new w5 _ _ ?_ ?_).2; ⟨o, l, h.rowFar (by omega) _⟩) ?_ ?_ ?_); (· rfl); (· rfl); (· rfl); (· rfl)))
      refine world_from (fun W => Blk W w5.heap.size 35 (u32A (wr1 q b)) ∧ Below w.heap.size w W ∧ Blk W cb 35 (u32A (wr0 a b))) ⟨(two_laid HH.out).1, (two_laid HH.out).2.2.1, (two_laid HH.out).2.2.2 BB⟩ ?_
      rintro w6 ⟨Q1, hb2, B6⟩
      clear BB HH B4 hb1
      generalize w5.heap.size = gq at *
      go_upto_region 17 with (first
        | (with_reducible refine wp_region_lit (id := 16) ?_)
        | ((with_reducible refine cpu_load (.tmp 5) B6 ?_ ?_ ?_); (· rfl); (· exact HL0.out))
        | (go_at_call 15; refine (S13.out _).mono ?_; rintro e w7 ⟨rfl, hh⟩; have BB := below_blk hh B6 B6.lt; have HH := hide (hb2.trans (hh.mono hb2.size)); have QQ := below_blk hh Q1 Q1.lt; clear hh)
        | ((with_reducible refine cpu_store (.tmp 18) (.tmp 121) (wr1 r b) (two_new w7 _ _ ?_ ?_).1 ?_ ?_ ?_ ?_); (· rfl); (· rfl); (· rfl); (· rfl); (· rfl))
        | ((with_reducible refine act_store (.tmp 19) (.tmp 122) 1 0 0 0 0 0 (let ⟨o, l, h⟩ := (two_new w7 _ _ ?_ ?_).2; ⟨o, l, h.rowFar (by omega) _⟩) ?_ ?_ ?_); (· rfl); (· rfl); (· rfl); (· rfl)))
      refine world_from (fun W => Blk W w7.heap.size 35 (u32A (wr1 r b)) ∧ Below w.heap.size w W ∧ Blk W gq 35 (u32A (wr1 q b))) ⟨(two_laid HH.out).1, (two_laid HH.out).2.2.1, (two_laid HH.out).2.2.2 QQ⟩ ?_
      rintro w8 ⟨R8, hb3, Q8⟩
      clear BB HH QQ Q1 B6 hb2
      generalize w7.heap.size = gr at *
      have yr : w8.cell? ⟨gr, 1, none⟩ = some (.int .u32 r) := R8.cell 1
      have yq : w8.cell? ⟨gq, 1, none⟩ = some (.int .u32 q) := Q8.cell 1
      have H8 := hide hb3
      clear R8 Q8 hb3
      rcases HQ.out with ⟨h0, hq, hr⟩ | ⟨h0, hr, hq0, hr0, hsum, hm0⟩
      · subst hq
        have e0 : (b == 0) = true := by simp [h0]
        have e1 : (r == a) = true := by simp [hr]
        clear h0 hr
        go_wp2
        go_ret
        exact ⟨rfl, H8.out⟩
      · have e0 : (b == 0) = false := beq_eq_false_iff_ne.2 (by omega)
        have e1 : (q * b + r == a) = true := by simp [hsum]
        have hm1 : q * b < 4294967296 := by omega
        have hm2 : q * b + r < 4294967296 := by omega
        clear hsum
        go_wp2
        go_ret
        exact ⟨rfl, H8.out⟩

theorem insnWraps_walk (a b : Int) (w : World) (wa : (Lit.int .u32 a).wf = true) (wb : (Lit.int .u32 b).wf = true) :
    Calls Try.prog 9 #[.int .u32 a, .int .u32 b] w fun e w' => e = .returned (.bool true) ∧ Below w.heap.size w w' :=
  insnWraps_is a b (wf_u32 wa).1 (wf_u32 wa).2 (wf_u32 wb).1 (wf_u32 wb).2 w
end Go.Proofs.Ytkoibmpncfbnpaa
