/-
  The walk of 'RunqTurn': one hart, N threads: behind i rounds the queue is turned by i.
-/
import Derived.Test.YtjamanahgkagjaaRqLaw
namespace Go.Proofs.Ytjamanahgkagjaa
open Go.ChangeShapes Go.WideShapes Go.ChangeAt Go.RowKit
set_option linter.unusedVariables false

def upTo (k : Nat) : List Int := (List.range k).map fun (j : Nat) => (j : Int) + 1
def rotQ (N i : Nat) : List Int := (List.range N).map fun (j : Nat) => (((i + j) % N : Nat) : Int) + 1
theorem upTo_succ (k : Nat) : upTo (k + 1) = upTo k ++ [(k : Int) + 1] := by simp [upTo, List.range_succ]
theorem rotQ_zero (N : Nat) : rotQ N 0 = upTo N := by
  unfold rotQ upTo
  refine List.map_congr_left fun j hj => ?_
  have := List.mem_range.1 hj
  rw [Nat.zero_add, Nat.mod_eq_of_lt this]
theorem rotQ_len (N i : Nat) : (rotQ N i).length = N := by simp [rotQ]
theorem rotQ_head (N i : Nat) (h : 0 < N) : gb (rotQ N i) 0 = ((i % N : Nat) : Int) + 1 := by
  unfold gb rotQ
  rw [List.getD, List.getElem?_map, List.getElem?_range h]
  simp
theorem rotQ_get {N i j : Nat} (h : j < (rotQ N i).length) : (rotQ N i)[j] = (((i + j) % N : Nat) : Int) + 1 := by simp [rotQ]
theorem rotQ_succ (N i : Nat) (h : 0 < N) : rotQ N (i + 1) = (rotQ N i).eraseIdx 0 ++ [((i % N : Nat) : Int) + 1] := by
  have hl : ((rotQ N i).eraseIdx 0).length = N - 1 := by rw [List.length_eraseIdx_of_lt (by rw [rotQ_len]; exact h), rotQ_len]
  apply List.ext_getElem
  · rw [rotQ_len, List.length_append, hl]
    simp; omega
  · intro j h1 h2
    rw [rotQ_get]
    rw [rotQ_len] at h1
    by_cases hj : j < N - 1
    · rw [List.getElem_append_left (by rw [hl]; exact hj), List.getElem_eraseIdx]
      rw [dif_neg (by omega), rotQ_get, show i + 1 + j = i + (j + 1) by omega]
    · rw [List.getElem_append_right (by rw [hl]; omega)]
      simp only [List.getElem_singleton]
      rw [show i + 1 + j = i + N by omega, Nat.add_mod_right]

def TurnA (w : World) (g k : Nat) (wr : World) : Prop := ∃ s, RqL w wr g s [] ∧ s.H = 1 ∧ s.r 0 = 0 ∧ s.n 0 = upTo k ∧ s.O.length = k
def TurnB (w : World) (g N i : Nat) (wr : World) : Prop := ∃ s, RqL w wr g s [] ∧ s.H = 1 ∧ s.r 0 = 0 ∧ s.n 0 = rotQ N i
def TurnC (w : World) (g N i : Nat) (wr : World) : Prop := ∃ s, RqL w wr g s [] ∧ s.H = 1 ∧ s.r 0 = ((i % N : Nat) : Int) + 1 ∧ s.n 0 = (rotQ N i).eraseIdx 0
section
variable {w wr : World} {g N i k : Nat}
theorem has_zero {s : RQ} (h : s.H = 1) : hasQ s 0 = true := by simp [hasQ, h]
theorem turn_put (h : TurnA w g k wr) (hk : k < 64) : Calls Try.prog 14 #[.pointer (some ⟨g, 0, none⟩), .int .i64 0, .int .i64 ((k : Int) + 1)] wr fun e w' => e = .returned (.int .i64 0) ∧ TurnA w g (k + 1) w' := by
  obtain ⟨s, R, h1, h2, h3, h4⟩ := h
  have hn : (k : Int) + 1 ∉ keysQ s := by
    intro hm
    obtain ⟨q, ha⟩ := R.ok.key.1 hm
    have hq : q = 0 := by have := R.ok.lt ha; omega
    subst hq
    obtain ⟨_, h5 | h5⟩ := ha
    · omega
    · rw [h3] at h5
      simp only [upTo, List.mem_map, List.mem_range] at h5
      obtain ⟨j, hj, e⟩ := h5
      omega
  have e : putF s 0 ((k : Int) + 1) = (putS s 0 ((k : Int) + 1), 0) := by
    unfold putF
    rw [if_neg (by rw [has_zero h1]; simp; omega), if_neg hn, if_neg (by omega)]
    rfl
  refine (lq_put R 0 ((k : Int) + 1) (iW_le (by omega) (by omega))).mono ?_
  rw [e]
  rintro e w' ⟨rfl, hd, -⟩
  refine ⟨rfl, _, hd, h1, h2, ?_, ?_⟩
  · show upd s.n 0 (s.n 0 ++ [(k : Int) + 1]) 0 = _
    rw [upd_same, h3, upTo_succ]
  · show (s.O ++ [_]).length = k + 1
    rw [List.length_append, h4]; rfl
theorem turn_next (h : TurnB w g N i wr) (hN : 0 < N) : Calls Try.prog 16 #[.pointer (some ⟨g, 0, none⟩), .int .i64 0] wr fun e w' => e = .returned (.tuple #[.int .i64 (((i % N : Nat) : Int) + 1), .bool true]) ∧ TurnC w g N i w' := by
  obtain ⟨s, R, h1, h2, h3⟩ := h
  have hne : s.n 0 ≠ [] := by
    rw [h3]
    intro e
    have := rotQ_len N i
    rw [e] at this
    simp at this; omega
  have e : nextF s 0 = (runS s 0 0 0, ((i % N : Nat) : Int) + 1, true) := by
    unfold nextF
    rw [if_neg (by rw [has_zero h1]; simpa using h2)]
    show (if s.n 0 ≠ [] then _ else _) = _
    rw [if_pos hne]
    show (runS s 0 0 0, gb (s.n 0) 0, true) = _
    rw [h3, rotQ_head N i hN]
  refine (lq_next R 0).mono ?_
  rw [e]
  rintro e w' ⟨rfl, hd, -⟩
  refine ⟨rfl, _, hd, h1, ?_, ?_⟩
  · show upd s.r 0 (gb (s.n 0) 0) 0 = _
    rw [upd_same, h3, rotQ_head N i hN]
  · show upd s.n 0 ((s.n 0).eraseIdx 0) 0 = _
    rw [upd_same, h3]
theorem turn_tick (h : TurnC w g N i wr) (hN : 2 ≤ N) : Calls Try.prog 17 #[.pointer (some ⟨g, 0, none⟩), .int .i64 0] wr fun e w' => e = .returned (.bool true) ∧ TurnB w g N (i + 1) w' := by
  obtain ⟨s, R, h1, h2, h3⟩ := h
  have hne : s.n 0 ≠ [] := by
    rw [h3]
    intro e
    have := List.length_eraseIdx_of_lt (l := rotQ N i) (i := 0) (by rw [rotQ_len]; omega)
    rw [e, rotQ_len] at this
    simp at this; omega
  have e : tickF s 0 = (tickS s 0, true) := by
    unfold tickF
    rw [if_neg]
    · rfl
    · rw [has_zero h1]
      show ¬ (true = false ∨ s.r 0 = 0 ∨ s.n 0 = [])
      rw [h2]
      simp [hne]
      omega
  refine (lq_tick R 0).mono ?_
  rw [e]
  rintro e w' ⟨rfl, hd, -⟩
  refine ⟨rfl, _, hd, h1, ?_, ?_⟩
  · show upd s.r 0 0 0 = 0
    rw [upd_same]
  · show upd s.n 0 (s.n 0 ++ [s.r 0]) 0 = _
    rw [upd_same, h3, h2, rotQ_succ N i (by omega)]
theorem turn_len (h : TurnB w g N i wr) : Calls Try.prog 21 #[.pointer (some ⟨g, 0, none⟩), .int .i64 0] wr fun e w' => ∃ A c, e = .returned (.slice A N c) ∧ Only [] w w' := by
  obtain ⟨s, R, h1, h2, h3⟩ := h
  refine (lq_queue R 0).mono ?_
  rintro e w' ⟨v, rfl, hr, _, ho⟩
  obtain ⟨A, c, rfl, _⟩ := hr.form
  have e : (queueQ s 0).length = N := by
    unfold queueQ
    rw [has_zero h1, if_pos rfl]
    show (s.n 0).length = N
    rw [h3, rotQ_len]
  exact ⟨A, c, by rw [e], R.base.trans ho⟩
end
theorem wrap64_in (n : Int) (h : -9223372036854775808 ≤ n ∧ n ≤ 9223372036854775807) : wrap64 n = n := by unfold wrap64; omega
theorem turn_count (a : Int) : ∃ N : Nat, 2 ≤ N ∧ N ≤ 61 ∧ (a.tmod 60 < 0 → wrap64 (wrap64 (-a.tmod 60) + 2) = N) ∧ (¬ a.tmod 60 < 0 → wrap64 (a.tmod 60 + 2) = N) := by
  have h1 : -60 < a.tmod 60 := by
    have := Int.lt_tmod_of_pos a (show (0 : Int) < 60 by decide)
    omega
  have h2 : a.tmod 60 < 60 := Int.tmod_lt_of_pos a (by decide)
  generalize a.tmod 60 = m at *
  by_cases h : m < 0
  · refine ⟨(-m + 2).toNat, by omega, by omega, fun _ => ?_, fun h' => absurd h h'⟩
    rw [wrap64_in (-m) (by omega), wrap64_in _ (by omega)]
    omega
  · refine ⟨(m + 2).toNat, by omega, by omega, fun h' => absurd h' h, fun _ => ?_⟩
    rw [wrap64_in _ (by omega)]
    omega
theorem tmod_small (b : Int) : b.tmod 200 < 200 := Int.tmod_lt_of_pos b (by decide)
set_option maxHeartbeats 1500000 in
set_option maxRecDepth 100000 in
theorem runqTurn_walk (a b : Int) (w : World) : Calls Try.prog 5 #[.int .i64 a, .int .i64 b] w fun e w' => e = .returned (.bool true) ∧ Below w.heap.size w w' := by
  have hNEW := hide (fun w => lq_new (w := w) 1 (by decide))
  obtain ⟨N, hN2, hN61, e1, e2⟩ := turn_count a
  have HE1 := hide e1
  have HE2 := hide e2
  have hm := tmod_small b
  have HM := hide hm
  clear e1 e2 hm
  go_enter Try.func5, Try.ntmps5
  go_wp2_with (first | (go_at_call 9; refine (hNEW.out _).mono ?_; rintro e w1 ⟨g, rfl, h1⟩; have H1 := hide h1; clear h1) | (go_at_call 11; refine (lives11 _).mono ?_; rintro e w2 ⟨rfl, ho⟩; have H2 := hide (show TurnA w g 0 w2 from ⟨_, H1.out.quiet ho, rfl, rfl, rfl, rfl⟩); clear ho))
  all_goals
    rename_i hcase _ _
    first | rw [HE1.out hcase] | rw [HE2.out hcase]
    revert HM
    generalize b.tmod 200 = m
    intro HM
    clear HE1 HE2 hcase hNEW H1
    go_loopw [9] (fun tv wr => ∃ k : Nat, k ≤ N ∧ tv = .int .i64 ((k : Int) + 1) ∧ TurnA w g k wr) (fun tv _ => N + 1 - (intOf tv).toNat)
    case atStart => exact ⟨0, Nat.zero_le _, rfl, H2.out⟩
    case round =>
      obtain ⟨k, hk, rfl, hT⟩ := hrel
      by_cases hlt : k < N
      · have hkI : (k : Int) + 1 ≤ N := by omega
        have HP := hide (turn_put hT (by omega))
        clear hT
        go_wp2_with (go_at_call 14; refine HP.out.mono ?_; rintro e w3 ⟨rfl, hT⟩; have HT := hide hT; clear hT)
        go_roundw
        case rel => exact ⟨k + 1, hlt, by go_num, HT.out⟩
        case measure => simp [intOf]; omega
      · obtain rfl : k = N := by omega
        have hkI : ¬ (k : Int) + 1 ≤ k := by omega
        have H3 := hide (show TurnB w g k 0 wr by
          obtain ⟨s, R, h1, h2, h3, h4⟩ := hT
          exact ⟨s, R, h1, h2, by rw [h3, rotQ_zero]⟩)
        clear hT
        go_wp2_with fail
        go_loopw [10] (fun iv wr2 => ∃ i : Nat, iv = .int .i64 i ∧ ((i : Int) ≤ m ∨ i = 0) ∧ TurnB w g k i wr2) (fun iv _ => m.toNat - (intOf iv).toNat)
        case atStart => exact ⟨0, rfl, .inr rfl, H3.out⟩
        case round =>
          obtain ⟨i, rfl, him, hT⟩ := hrel
          have hmb := HM.out
          by_cases hlt : (i : Int) < m
          · have HP := hide (turn_next hT (by omega))
            have HQ := hide (fun w5 (h : TurnC w g k i w5) => turn_tick h hN2)
            have hmod : (i : Int).tmod k = ((i % k : Nat) : Int) := by rw [Int.tmod_eq_emod_of_nonneg (by omega)]; rfl
            have hml : i % k < k := Nat.mod_lt _ (by omega)
            have hk0 : ((k : Int) == 0) = false := by simp only [beq_eq_false_iff_ne]; omega
            have hk1 : (k : Int) ≠ 0 := by omega
            have hw1 : wrap64 (((i % k : Nat) : Int) + 1) = ((i % k : Nat) : Int) + 1 := wrap64_in _ (by omega)
            have hw2 : IntKind.i64.wrap (((i % k : Nat) : Int)) = ((i % k : Nat) : Int) := by rw [IntKind.wrap_i64]; omega
            have hself : ((((i % k : Nat) : Int) + 1) != (((i % k : Nat) : Int) + 1)) = false := by simp
            clear hT
            go_wp2_with (first | (go_at_call 16; refine HP.out.mono ?_; rintro e w5 ⟨rfl, hC⟩; have HC := hide hC; clear hC) | (go_at_call 17; refine (HQ.out _ HC.out).mono ?_; rintro e w6 ⟨rfl, hT⟩; have HT := hide hT; clear hT))
            go_roundw
            case rel => exact ⟨i + 1, by go_num, .inl (by omega), HT.out⟩
            case measure => simp [intOf]; omega
          · have HP := hide (turn_len hT)
            clear hT
            go_wp2_with (go_at_call 21; refine HP.out.mono ?_; rintro e w7 ⟨A, c, rfl, ho⟩; have HO := hide ho; clear ho)
            go_ret
            exact ⟨rfl, HO.out.below (Nat.le_refl _) (by simp)⟩
end Go.Proofs.Ytjamanahgkagjaa
