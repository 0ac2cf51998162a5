/-
  Who is killed (parapet/resv's Victim, and the document's own): both go through the owners and keep the best.
-/
import Derived.Test.YtflgcnlncljefaaResvOps
namespace Go.Proofs.Ytflgcnlncljefaa
open Go.ChangeShapes Go.WideShapes Go.ChangeAt Go.RowKit Go.Deep
set_option linter.unusedVariables false

/-- The slice's owners are ow 0, ow 1 .. -/
def OwnS (w : World) (A : Option Addr) (n : Nat) (ow : Nat → Int × Int) : Prop :=
  0 < n → ∃ q o, A = some ⟨q, o, none⟩ ∧ q < w.heap.size ∧ ∀ i, i < n → w.cell? ⟨q, o + i * 2, none⟩ = some (.int .i64 (ow i).1) ∧ w.cell? ⟨q, o + i * 2 + 1, none⟩ = some (.int .i64 (ow i).2)
theorem OwnS.only {w w' : World} {A : Option Addr} {n : Nat} {ow : Nat → Int × Int} (h : OwnS w A n ow) (ho : Only [] w w') : OwnS w' A n ow := by
  intro hp
  obtain ⟨q, o, rfl, hq, hc⟩ := h hp
  exact ⟨q, o, rfl, Nat.lt_of_lt_of_le hq ho.size, fun i hi => ⟨(ho.cell hq (by simp)).trans (hc i hi).1, (ho.cell hq (by simp)).trans (hc i hi).2⟩⟩

/-- The best of the first k. -/
def vicF (sp : Int) (ow : Nat → Int × Int) : Nat → Int × Int
  | 0 => (0, 0)
  | k + 1 => if (ow k).1 = sp ∨ (ow k).2 ≤ 0 then vicF sp ow k else if (vicF sp ow k).2 < (ow k).2 ∨ ((ow k).2 = (vicF sp ow k).2 ∧ (vicF sp ow k).1 < (ow k).1) then ow k else vicF sp ow k
theorem vicF_pos (sp : Int) (ow : Nat → Int × Int) : ∀ k, 0 ≤ (vicF sp ow k).2
  | 0 => by simp [vicF]
  | k + 1 => by
    have := vicF_pos sp ow k
    unfold vicF
    split
    · exact this
    · rename_i h
      split
      · omega
      · exact this
theorem vicF_zero (sp : Int) (ow : Nat → Int × Int) : ∀ k, (vicF sp ow k).2 = 0 → vicF sp ow k = (0, 0)
  | 0, _ => by simp [vicF]
  | k + 1, h => by
    unfold vicF at h ⊢
    split
    · rename_i h1
      rw [if_pos h1] at h
      exact vicF_zero sp ow k h
    · rename_i h1
      rw [if_neg h1] at h
      split
      · rename_i h2
        rw [if_pos h2] at h
        omega
      · rename_i h2
        rw [if_neg h2] at h
        exact vicF_zero sp ow k h

theorem vicF_succ (sp : Int) (ow : Nat → Int × Int) (k : Nat) : vicF sp ow (k + 1) = if (ow k).1 = sp ∨ (ow k).2 ≤ 0 then ((vicF sp ow k).1, (vicF sp ow k).2) else if (vicF sp ow k).2 < (ow k).2 ∨ ((ow k).2 = (vicF sp ow k).2 ∧ (vicF sp ow k).1 < (ow k).1) then ((ow k).1, (ow k).2) else ((vicF sp ow k).1, (vicF sp ow k).2) := rfl
def VicIn (w : World) (sp : Int) (ow : Nat → Int × Int) (n : Nat) (iv : Value) (wr : World) : Prop :=
  ∃ k : Nat, k ≤ n ∧ iv = .int .i64 k ∧ Blk wr w.heap.size 54 #[.int .i64 (vicF sp ow k).1, .int .i64 (vicF sp ow k).2] ∧ Only [] w wr

section
variable {w : World} {A : Option Addr} {n c : Nat} {ow : Nat → Int × Int}
set_option maxHeartbeats 1500000 in
set_option maxRecDepth 100000 in
theorem gVictim_is (h : OwnS w A n ow) (hn : n ≤ 8796093022208) (sp : Int) : Calls Try.prog 21 #[.slice A n c, .int .i64 sp] w fun e w' => e = .returned (.tuple #[.int .i64 (vicF sp ow n).1, .bool (decide (0 < (vicF sp ow n).2))]) ∧ Only [] w w' := by
  have HO := hide h
  clear h
  go_enter Try.func21, Try.ntmps21
  go_wp2
  go_loopw [11] (fun iv wr => VicIn w sp ow n iv wr) (fun iv _ => n - (intOf iv).toNat)
  case atStart => exact ⟨0, Nat.zero_le _, rfl, Blk.new w _ _, (Only.refl [] w).alloc _⟩
  case round =>
    obtain ⟨k, hk, rfl, hb, ho⟩ := hrel
    have HW := hide ho
    have HB := hide hb
    have b0 := hb.cell 0
    have b1 := hb.cell 1
    by_cases hlt : k < n
    · obtain ⟨q, o, rfl, hq, hc⟩ := HO.out (by omega)
      have c0 := (ho.cell hq (by simp) : wr.cell? ⟨q, o + k * 2, none⟩ = _).trans (hc k hlt).1
      have c1 := (ho.cell hq (by simp) : wr.cell? ⟨q, o + k * 2 + 1, none⟩ = _).trans (hc k hlt).2
      have HS := hide (vicF_succ sp ow k)
      have hf := fun o => (hb.alloc o).frozen 0
      have hf1 := fun o => (hb.alloc o).frozen 1
      have a0 : ∀ o, (wr.alloc o).cell? ⟨w.heap.size, 0, none⟩ = some (.int .i64 (vicF sp ow k).1) := fun o => Lib.cell?_alloc_some _ b0
      have a1 : ∀ o, (wr.alloc o).cell? ⟨w.heap.size, 1, none⟩ = some (.int .i64 (vicF sp ow k).2) := fun o => Lib.cell?_alloc_some _ b1
      have hl64 : (k : Int) + 1 ≤ 9223372036854775807 := by omega
      clear hc ho hb b0 b1
      generalize (ow k).1 = a at *
      generalize (ow k).2 = y at *
      generalize (vicF sp ow k).1 = mi at *
      generalize (vicF sp ow k).2 = mb at *
      by_cases h1 : a = sp
      · have e1 : (a == sp) = true := by rw [h1]; simp
        have HH := hide h1
        clear h1
        go_wp2
        go_roundw
        case rel =>
          refine ⟨k + 1, hlt, by go_num, ?_, HW.out.alloc _⟩
          rw [HS.out, if_pos (.inl HH.out)]
          exact HB.out.alloc _
        case measure => simp [intOf]; omega
      · have e1 : (a == sp) = false := beq_eq_false_iff_ne.2 h1
        have HH := hide h1
        clear h1
        by_cases h2 : y ≤ 0
        · have e2 : decide (y ≤ 0) = true := by simp [h2]
          have H2 := hide h2
          clear h2
          go_wp2
          go_roundw
          case rel =>
            refine ⟨k + 1, hlt, by go_num, ?_, HW.out.alloc _⟩
            rw [HS.out, if_pos (.inr H2.out)]
            exact HB.out.alloc _
          case measure => simp [intOf]; omega
        · have e2 : decide (y ≤ 0) = false := by simp; omega
          have H2 := hide h2
          clear h2
          by_cases h3 : mb < y
          · have e3 : decide (mb < y) = true := by simp [h3]
            have H3 := hide h3
            clear h3
            go_wp2
            go_roundw
            case rel =>
              refine ⟨k + 1, hlt, by go_num, ?_, ((HW.out.alloc _).setCell _ (fun h => absurd h (by simp))).setCell _ (fun h => absurd h (by simp))⟩
              rw [HS.out, if_neg (by rintro (h | h); exact HH.out h; exact H2.out h), if_pos (.inl H3.out)]
              exact ((HB.out.alloc _).set_ 0 (.int .i64 a)).set_ 1 (.int .i64 y)
            case measure => simp [intOf]; omega
          · have e3 : decide (mb < y) = false := by simp; omega
            have H3 := hide h3
            clear h3
            by_cases h4 : y = mb
            · have e4 : (y == mb) = true := by rw [h4]; simp
              have H4 := hide h4
              clear h4
              by_cases h5 : mi < a
              · have e5 : decide (mi < a) = true := by simp [h5]
                have H5 := hide h5
                clear h5
                go_wp2
                go_roundw
                case rel =>
                  refine ⟨k + 1, hlt, by go_num, ?_, ((HW.out.alloc _).setCell _ (fun h => absurd h (by simp))).setCell _ (fun h => absurd h (by simp))⟩
                  rw [HS.out, if_neg (by rintro (h | h); exact HH.out h; exact H2.out h), if_pos (.inr ⟨H4.out, H5.out⟩)]
                  exact ((HB.out.alloc _).set_ 0 (.int .i64 a)).set_ 1 (.int .i64 y)
                case measure => simp [intOf]; omega
              · have e5 : decide (mi < a) = false := by simp; omega
                have H5 := hide h5
                clear h5
                go_wp2
                go_roundw
                case rel =>
                  refine ⟨k + 1, hlt, by go_num, ?_, HW.out.alloc _⟩
                  rw [HS.out, if_neg (by rintro (h | h); exact HH.out h; exact H2.out h), if_neg (by rintro (h | ⟨_, h⟩); exact H3.out h; exact H5.out h)]
                  exact HB.out.alloc _
                case measure => simp [intOf]; omega
            · have e4 : (y == mb) = false := beq_eq_false_iff_ne.2 h4
              have H4 := hide h4
              clear h4
              go_wp2
              go_roundw
              case rel =>
                refine ⟨k + 1, hlt, by go_num, ?_, HW.out.alloc _⟩
                rw [HS.out, if_neg (by rintro (h | h); exact HH.out h; exact H2.out h), if_neg (by rintro (h | ⟨h, _⟩); exact H3.out h; exact H4.out h)]
                exact HB.out.alloc _
              case measure => simp [intOf]; omega
    · obtain rfl : k = n := by omega
      clear ho hb
      go_wp2_with fail
      go_region
      go_wp2
      go_ret2
      exact ⟨rfl, HW.out.drew⟩
def VicIn9 (w : World) (sp : Int) (ow : Nat → Int × Int) (n : Nat) (fv iv : Value) (wr : World) : Prop :=
  ∃ k : Nat, k ≤ n ∧ iv = .int .i64 k ∧ fv = .bool (decide (0 < (vicF sp ow k).2)) ∧ Blk wr w.heap.size 54 #[.int .i64 (vicF sp ow k).1, .int .i64 (vicF sp ow k).2] ∧ Only [] w wr
set_option maxHeartbeats 1500000 in
set_option maxRecDepth 100000 in
theorem r9Victim_is (h : OwnS w A n ow) (hn : n ≤ 8796093022208) (sp : Int) : Calls Try.prog 22 #[.slice A n c, .int .i64 sp] w fun e w' => e = .returned (.tuple #[.int .i64 (vicF sp ow n).1, .bool (decide (0 < (vicF sp ow n).2))]) ∧ Only [] w w' := by
  have HO := hide h
  clear h
  go_enter Try.func22, Try.ntmps22
  go_wp2
  go_loopw [7, 8] (fun fv iv wr => VicIn9 w sp ow n fv iv wr) (fun _ iv _ => n - (intOf iv).toNat)
  case atStart => exact ⟨0, Nat.zero_le _, rfl, rfl, Blk.new w _ _, (Only.refl [] w).alloc _⟩
  case round =>
    obtain ⟨k, hk, rfl, rfl, hb, ho⟩ := hrel
    have HW := hide ho
    have HB := hide hb
    have b0 := hb.cell 0
    have b1 := hb.cell 1
    have HP := hide (vicF_pos sp ow k)
    by_cases hlt : k < n
    · obtain ⟨q, o, rfl, hq, hc⟩ := HO.out (by omega)
      have c0 := (ho.cell hq (by simp) : wr.cell? ⟨q, o + k * 2, none⟩ = _).trans (hc k hlt).1
      have c1 := (ho.cell hq (by simp) : wr.cell? ⟨q, o + k * 2 + 1, none⟩ = _).trans (hc k hlt).2
      have HS := hide (vicF_succ sp ow k)
      have hf := fun o => (hb.alloc o).frozen 0
      have hf1 := fun o => (hb.alloc o).frozen 1
      have a0 : ∀ o, (wr.alloc o).cell? ⟨w.heap.size, 0, none⟩ = some (.int .i64 (vicF sp ow k).1) := fun o => Lib.cell?_alloc_some _ b0
      have a1 : ∀ o, (wr.alloc o).cell? ⟨w.heap.size, 1, none⟩ = some (.int .i64 (vicF sp ow k).2) := fun o => Lib.cell?_alloc_some _ b1
      have hl64 : (k : Int) + 1 ≤ 9223372036854775807 := by omega
      clear hc ho hb b0 b1
      generalize (ow k).1 = a at *
      generalize (ow k).2 = y at *
      generalize (vicF sp ow k).1 = mi at *
      generalize (vicF sp ow k).2 = mb at *
      by_cases h0 : 0 < mb
      · have e0 : decide (0 < mb) = true := by simp [h0]
        have E0 := hide e0
        clear h0
        by_cases h1 : a = sp
        · have e1 : (a == sp) = true := by rw [h1]; simp
          have HH := hide h1
          clear h1
          go_wp2
          go_roundw
          case rel =>
            refine ⟨k + 1, hlt, by go_num, by rw [HS.out, if_pos (.inl HH.out)], ?_, HW.out.alloc _⟩
            rw [HS.out, if_pos (.inl HH.out)]
            exact HB.out.alloc _
          case measure => simp [intOf]; omega
        · have e1 : (a == sp) = false := beq_eq_false_iff_ne.2 h1
          have HH := hide h1
          clear h1
          by_cases h2 : y ≤ 0
          · have e2 : decide (y ≤ 0) = true := by simp [h2]
            have H2 := hide h2
            clear h2
            go_wp2
            go_roundw
            case rel =>
              refine ⟨k + 1, hlt, by go_num, by rw [HS.out, if_pos (.inr H2.out)], ?_, HW.out.alloc _⟩
              rw [HS.out, if_pos (.inr H2.out)]
              exact HB.out.alloc _
            case measure => simp [intOf]; omega
          · have e2 : decide (y ≤ 0) = false := by simp; omega
            have H2 := hide h2
            clear h2
            by_cases h3 : mb < y
            · have e3 : decide (mb < y) = true := by simp [h3]
              have H3 := hide h3
              clear h3
              go_wp2
              go_roundw
              case rel =>
                refine ⟨k + 1, hlt, by go_num, by rw [HS.out, if_neg (by rintro (h | h); exact HH.out h; exact H2.out h), if_pos (.inl H3.out)]; have := H2.out; simp; omega, ?_, ((HW.out.alloc _).setCell _ (fun h => absurd h (by simp))).setCell _ (fun h => absurd h (by simp))⟩
                rw [HS.out, if_neg (by rintro (h | h); exact HH.out h; exact H2.out h), if_pos (.inl H3.out)]
                exact ((HB.out.alloc _).set_ 0 (.int .i64 a)).set_ 1 (.int .i64 y)
              case measure => simp [intOf]; omega
            · have e3 : decide (mb < y) = false := by simp; omega
              have H3 := hide h3
              clear h3
              by_cases h4 : y = mb
              · have e4 : (y == mb) = true := by rw [h4]; simp
                have H4 := hide h4
                clear h4
                by_cases h5 : mi < a
                · have e5 : decide (mi < a) = true := by simp [h5]
                  have H5 := hide h5
                  clear h5
                  go_wp2
                  go_roundw
                  case rel =>
                    refine ⟨k + 1, hlt, by go_num, by rw [HS.out, if_neg (by rintro (h | h); exact HH.out h; exact H2.out h), if_pos (.inr ⟨H4.out, H5.out⟩)]; have := H2.out; simp; omega, ?_, ((HW.out.alloc _).setCell _ (fun h => absurd h (by simp))).setCell _ (fun h => absurd h (by simp))⟩
                    rw [HS.out, if_neg (by rintro (h | h); exact HH.out h; exact H2.out h), if_pos (.inr ⟨H4.out, H5.out⟩)]
                    exact ((HB.out.alloc _).set_ 0 (.int .i64 a)).set_ 1 (.int .i64 y)
                  case measure => simp [intOf]; omega
                · have e5 : decide (mi < a) = false := by simp; omega
                  have H5 := hide h5
                  clear h5
                  go_wp2
                  go_roundw
                  case rel =>
                    refine ⟨k + 1, hlt, by go_num, by rw [HS.out, if_neg (by rintro (h | h); exact HH.out h; exact H2.out h), if_neg (by rintro (h | ⟨_, h⟩); exact H3.out h; exact H5.out h)], ?_, HW.out.alloc _⟩
                    rw [HS.out, if_neg (by rintro (h | h); exact HH.out h; exact H2.out h), if_neg (by rintro (h | ⟨_, h⟩); exact H3.out h; exact H5.out h)]
                    exact HB.out.alloc _
                  case measure => simp [intOf]; omega
              · have e4 : (y == mb) = false := beq_eq_false_iff_ne.2 h4
                have H4 := hide h4
                clear h4
                go_wp2
                go_roundw
                case rel =>
                  refine ⟨k + 1, hlt, by go_num, by rw [HS.out, if_neg (by rintro (h | h); exact HH.out h; exact H2.out h), if_neg (by rintro (h | ⟨h, _⟩); exact H3.out h; exact H4.out h)], ?_, HW.out.alloc _⟩
                  rw [HS.out, if_neg (by rintro (h | h); exact HH.out h; exact H2.out h), if_neg (by rintro (h | ⟨h, _⟩); exact H3.out h; exact H4.out h)]
                  exact HB.out.alloc _
                case measure => simp [intOf]; omega
      · have e0 : decide (0 < mb) = false := by simp; omega
        have E0 := hide e0
        have E1 := hide h0
        clear h0
        by_cases h1 : a = sp
        · have e1 : (a == sp) = true := by rw [h1]; simp
          have HH := hide h1
          clear h1
          go_wp2
          go_roundw
          case rel =>
            refine ⟨k + 1, hlt, by go_num, by rw [HS.out, if_pos (.inl HH.out)], ?_, HW.out.alloc _⟩
            rw [HS.out, if_pos (.inl HH.out)]
            exact HB.out.alloc _
          case measure => simp [intOf]; omega
        · have e1 : (a == sp) = false := beq_eq_false_iff_ne.2 h1
          have HH := hide h1
          clear h1
          by_cases h2 : y ≤ 0
          · have e2 : decide (y ≤ 0) = true := by simp [h2]
            have H2 := hide h2
            clear h2
            go_wp2
            go_roundw
            case rel =>
              refine ⟨k + 1, hlt, by go_num, by rw [HS.out, if_pos (.inr H2.out)], ?_, HW.out.alloc _⟩
              rw [HS.out, if_pos (.inr H2.out)]
              exact HB.out.alloc _
            case measure => simp [intOf]; omega
          · have e2 : decide (y ≤ 0) = false := by simp; omega
            have H2 := hide h2
            clear h2
            have H3 := hide (show mb < y by have := H2.out; have := E1.out; omega)
            go_wp2
            go_roundw
            case rel =>
              refine ⟨k + 1, hlt, by go_num, by rw [HS.out, if_neg (by rintro (h | h); exact HH.out h; exact H2.out h), if_pos (.inl H3.out)]; have := H2.out; simp; omega, ?_, ((HW.out.alloc _).setCell _ (fun h => absurd h (by simp))).setCell _ (fun h => absurd h (by simp))⟩
              rw [HS.out, if_neg (by rintro (h | h); exact HH.out h; exact H2.out h), if_pos (.inl H3.out)]
              exact ((HB.out.alloc _).set_ 0 (.int .i64 a)).set_ 1 (.int .i64 y)
            case measure => simp [intOf]; omega
    · obtain rfl : k = n := by omega
      clear ho hb
      go_wp2
      go_ret2
      exact ⟨rfl, HW.out⟩
end
end Go.Proofs.Ytflgcnlncljefaa
