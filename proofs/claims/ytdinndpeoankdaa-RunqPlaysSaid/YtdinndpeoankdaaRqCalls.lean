/-
  The run queues (parapet/runq): the calls that only look: closed, has, holds, load, idlest, busiest, Running, Queue, Idle, slices.Index.
-/
import Derived.Test.YtdinndpeoankdaaRqAt
import Derived.Deep.RegionLaw
import Derived.RegionTactic
namespace Go.Proofs.Ytdinndpeoankdaa
open Go.ChangeShapes Go.WideShapes Go.ChangeAt Go.RowKit Go.Maps
set_option linter.unusedVariables false

/-- How much a hart has to do. -/
def loadQ (s : RQ) (h : Nat) : Int := if s.r h ≠ 0 then (s.n h).length + 1 else (s.n h).length
/-- The first of k harts with the least to do. -/
def idleQ (s : RQ) : Nat → Nat
  | 0 => 0
  | k + 1 => if loadQ s k < loadQ s (idleQ s k) then k else idleQ s k
/-- The first of k harts with the longest queue. -/
def busyQ (s : RQ) : Nat → Nat
  | 0 => 0
  | k + 1 => if (s.n (busyQ s k)).length < (s.n k).length then k else busyQ s k
theorem idleQ_lt (s : RQ) : ∀ k, idleQ s k < max 1 k
  | 0 => by simp [idleQ]
  | k + 1 => by
    have := idleQ_lt s k
    unfold idleQ
    split <;> omega
theorem busyQ_lt (s : RQ) : ∀ k, busyQ s k < max 1 k
  | 0 => by simp [busyQ]
  | k + 1 => by
    have := busyQ_lt s k
    unfold busyQ
    split <;> omega
/-- There is such a hart. -/
def hasQ (s : RQ) (h : Int) : Bool := decide (0 ≤ h ∧ h < s.H)
/-- The queues are short, the harts 1 to 8. -/
structure SmallQ (s : RQ) : Prop where
  h1 : 1 ≤ s.H
  h8 : s.H ≤ 8
  few : ∀ h, h < 8 → (s.n h).length ≤ 64

section
variable {w w' : World} {g m : Nat} {s : RQ} {vs : Nat → Value} {S : List Nat}
theorem IsRq.form (R : IsRq w g m s vs) {h : Nat} (hh : h < 8) : ∃ A c, vs h = .slice A (s.n h).length c ∧ w.cell? ⟨g, 9 + h, none⟩ = some (.slice A (s.n h).length c) := by
  obtain ⟨A, c, e, _⟩ := (R.row h hh).form2
  exact ⟨A, c, e, e ▸ R.cN hh⟩

theorem qclosed_nil (w : World) : Calls Try.prog 29 #[.pointer none] w fun e w' => e = .returned (.bool true) ∧ w = w' := by
  go_enter Try.func29, Try.ntmps29
  go_wp2
  go_ret
  exact ⟨rfl, rfl⟩
theorem qclosed_is (R : IsRq w g m s vs) (hs : SmallQ s) : Calls Try.prog 29 #[.pointer (some ⟨g, 0, none⟩)] w fun e w' => e = .returned (.bool false) ∧ w = w' := by
  have c0 := R.cH
  have h0 : ((s.H : Int) == 0) = false := by have := hs.h1; simp only [beq_eq_false_iff_ne]; omega
  clear R hs
  go_enter Try.func29, Try.ntmps29
  go_wp2
  go_ret
  exact ⟨rfl, rfl⟩
theorem qhas_is (R : IsRq w g m s vs) (hs : SmallQ s) (h : Int) : Calls Try.prog 30 #[.pointer (some ⟨g, 0, none⟩), .int .i64 h] w fun e w' => e = .returned (.bool (hasQ s h)) ∧ w = w' := by
  have c0 := R.cH
  have HC := hide (qclosed_is R hs)
  clear R hs
  go_enter Try.func30, Try.ntmps30
  by_cases h0 : 0 ≤ h
  · by_cases h1 : h < s.H
    · have e : hasQ s h = true := by simp [hasQ, h0, h1]
      rw [e]
      clear e
      go_wp2_with (go_at_call 29; refine HC.out.mono ?_; rintro e w' ⟨rfl, rfl⟩)
      go_ret
      exact ⟨rfl, rfl⟩
    · have e : hasQ s h = false := by simp [hasQ, h1]
      have hd : decide (h < (s.H : Int)) = false := by simp [h1]
      rw [e]
      clear e h1
      go_wp2_with (go_at_call 29; refine HC.out.mono ?_; rintro e w' ⟨rfl, rfl⟩)
      go_ret
      exact ⟨rfl, rfl⟩
  · have e : hasQ s h = false := by simp [hasQ, h0]
    rw [e]
    clear e
    go_wp2_with (go_at_call 29; refine HC.out.mono ?_; rintro e w' ⟨rfl, rfl⟩)
    go_ret
    exact ⟨rfl, rfl⟩
theorem qhas_nil (w : World) (h : Int) : Calls Try.prog 30 #[.pointer none, .int .i64 h] w fun e w' => e = .returned (.bool false) ∧ w = w' := by
  have HC := hide (qclosed_nil w)
  go_enter Try.func30, Try.ntmps30
  go_wp2_with (go_at_call 29; refine HC.out.mono ?_; rintro e w' ⟨rfl, rfl⟩)
  go_ret
  exact ⟨rfl, rfl⟩
theorem qholds_yes (R : IsRq w g m s vs) (hs : SmallQ s) {t f : Int} (hp : (t, f) ∈ s.O) : Calls Try.prog 31 #[.pointer (some ⟨g, 0, none⟩), .int .i64 t] w fun e w' => e = .returned (.bool true) ∧ w = w' := by
  have HC := hide (qclosed_is R hs)
  have c17 := R.cM
  obtain ⟨D, ho1, ho2⟩ := R.own
  have hlk := lookI ho2 ho1 hp true
  simp only [if_true] at hlk
  clear R ho1 ho2 hp hs
  go_enter Try.func31, Try.ntmps31
  go_wp2_with (go_at_call 29; refine HC.out.mono ?_; rintro e w' ⟨rfl, rfl⟩)
  go_ret
  exact ⟨rfl, rfl⟩
theorem qholds_no (R : IsRq w g m s vs) (hs : SmallQ s) {t : Int} (hk : iW t) (hn : t ∉ s.O.map (·.1)) : Calls Try.prog 31 #[.pointer (some ⟨g, 0, none⟩), .int .i64 t] w fun e w' => e = .returned (.bool false) ∧ w = w' := by
  have HC := hide (qclosed_is R hs)
  have c17 := R.cM
  obtain ⟨D, ho1, ho2⟩ := R.own
  have hlk := lookI_no ho2 ho1 hk hn
  clear R ho1 ho2 hs hn
  go_enter Try.func31, Try.ntmps31
  go_wp2_with (go_at_call 29; refine HC.out.mono ?_; rintro e w' ⟨rfl, rfl⟩)
  go_ret
  exact ⟨rfl, rfl⟩
theorem qholds_nil (w : World) (t : Int) : Calls Try.prog 31 #[.pointer none, .int .i64 t] w fun e w' => e = .returned (.bool false) ∧ w = w' := by
  have HC := hide (qclosed_nil w)
  go_enter Try.func31, Try.ntmps31
  go_wp2_with (go_at_call 29; refine HC.out.mono ?_; rintro e w' ⟨rfl, rfl⟩)
  go_ret
  exact ⟨rfl, rfl⟩
theorem qload_is (R : IsRq w g m s vs) (hs : SmallQ s) (h : Nat) (hh : h < 8) : Calls Try.prog 41 #[.pointer (some ⟨g, 0, none⟩), .int .i64 h] w fun e w' => e = .returned (.int .i64 (loadQ s h)) ∧ w = w' := by
  have cr := R.cR hh
  obtain ⟨A, c, hv, cn⟩ := R.form hh
  have hf := hs.few h hh
  have hhi : (h : Int) < 8 := by omega
  have hf2 : ((s.n h).length : Int) ≤ 64 := by omega
  clear R hs hv
  unfold loadQ
  by_cases h0 : s.r h = 0
  · rw [if_neg (by simp [h0])]
    have hb : (s.r h != 0) = false := by simp [h0]
    clear h0
    go_enter Try.func41, Try.ntmps41
    go_wp2
    go_ret
    exact ⟨rfl, rfl⟩
  · rw [if_pos h0]
    have hb : (s.r h != 0) = true := by simp [h0]
    clear h0
    have e1 : IntKind.i64.wrap (((s.n h).length : Int) + 1) = ((s.n h).length : Int) + 1 := by rw [IntKind.wrap_i64]; omega
    go_enter Try.func41, Try.ntmps41
    go_wp2
    go_ret
    exact ⟨rfl, rfl⟩
theorem qRunning_is (R : IsRq w g m s vs) (hs : SmallQ s) (h : Int) : Calls Try.prog 27 #[.pointer (some ⟨g, 0, none⟩), .int .i64 h] w fun e w' => e = .returned (.int .i64 (if hasQ s h then s.r h.toNat else 0)) ∧ w = w' := by
  have HH := hide (qhas_is R hs h)
  by_cases hb : hasQ s h = true
  · have h2 := hb
    unfold hasQ at h2
    rw [decide_eq_true_eq] at h2
    have := hs.h8
    obtain ⟨k, rfl⟩ : ∃ k : Nat, h = k := ⟨h.toNat, by omega⟩
    have hk : k < 8 := by omega
    have cr := R.cR hk
    have hhi : (k : Int) < 8 := by omega
    rw [hb] at HH
    rw [if_pos hb, Int.toNat_natCast]
    clear R hs hb h2 this
    go_enter Try.func27, Try.ntmps27
    go_wp2_with (go_at_call 30; refine HH.out.mono ?_; rintro e w' ⟨rfl, rfl⟩)
    go_ret
    exact ⟨rfl, rfl⟩
  · rw [if_neg hb]
    have hb' : hasQ s h = false := by simpa using hb
    rw [hb'] at HH
    clear R hs hb hb'
    go_enter Try.func27, Try.ntmps27
    go_wp2_with (go_at_call 30; refine HH.out.mono ?_; rintro e w' ⟨rfl, rfl⟩)
    go_ret
    exact ⟨rfl, rfl⟩
theorem qRunning_nil (w : World) (h : Int) : Calls Try.prog 27 #[.pointer none, .int .i64 h] w fun e w' => e = .returned (.int .i64 0) ∧ w = w' := by
  have HH := hide (qhas_nil w h)
  go_enter Try.func27, Try.ntmps27
  go_wp2_with (go_at_call 30; refine HH.out.mono ?_; rintro e w' ⟨rfl, rfl⟩)
  go_ret
  exact ⟨rfl, rfl⟩
/-- A hart's queue, or nothing. -/
def queueQ (s : RQ) (h : Int) : List Int := if hasQ s h then s.n h.toNat else []
theorem qQueue_is (R : IsRq w g m s vs) (hs : SmallQ s) (h : Int) : Calls Try.prog 12 #[.pointer (some ⟨g, 0, none⟩), .int .i64 h] w fun e w' => ∃ v', e = .returned v' ∧ IRow w' v' (queueQ s h) ∧ (∀ q, v'.ownBlock = some q → w.heap.size ≤ q) ∧ Only [] w w' := by
  have HH := hide (qhas_is R hs h)
  unfold queueQ
  by_cases hb : hasQ s h = true
  · have h2 := hb
    unfold hasQ at h2
    rw [decide_eq_true_eq] at h2
    have := hs.h8
    obtain ⟨k, rfl⟩ : ∃ k : Nat, h = k := ⟨h.toNat, by omega⟩
    have hk : k < 8 := by omega
    obtain ⟨A, c, hv, cn⟩ := R.form hk
    have hhi : (k : Int) < 8 := by omega
    have HQ := hide (cloneI_is (hv ▸ R.row k hk) (by have := hs.few k hk; omega))
    rw [hb] at HH
    rw [if_pos hb, Int.toNat_natCast]
    clear R hs hb h2 this hv
    go_enter Try.func12, Try.ntmps12
    go_wp2_with (first | (go_at_call 30; refine HH.out.mono ?_; rintro e w' ⟨rfl, rfl⟩) | (go_at_call 34; refine HQ.out.mono ?_; rintro e w' ⟨v', rfl, h1, h2, h3⟩; obtain ⟨A', c', rfl, _⟩ := h1.form; have HF := hide (And.intro h1 (And.intro h2 h3)); clear h1 h2 h3))
    go_ret
    exact ⟨_, rfl, HF.out⟩
  · rw [if_neg hb]
    have hb' : hasQ s h = false := by simpa using hb
    rw [hb'] at HH
    clear R hs hb hb'
    go_enter Try.func12, Try.ntmps12
    go_wp2_with (go_at_call 30; refine HH.out.mono ?_; rintro e w' ⟨rfl, rfl⟩)
    go_ret
    exact ⟨_, rfl, KRow.nil _ _ _ _, by simp [Value.ownBlock], Only.refl _ _⟩
theorem qQueue_nil (w : World) (h : Int) : Calls Try.prog 12 #[.pointer none, .int .i64 h] w fun e w' => e = .returned (.slice none 0 0) ∧ w = w' := by
  have HH := hide (qhas_nil w h)
  go_enter Try.func12, Try.ntmps12
  go_wp2_with (go_at_call 30; refine HH.out.mono ?_; rintro e w' ⟨rfl, rfl⟩)
  go_ret
  exact ⟨rfl, rfl⟩
theorem qIdle_is (R : IsRq w g m s vs) (hs : SmallQ s) : Calls Try.prog 24 #[.pointer (some ⟨g, 0, none⟩)] w fun e w' => e = .returned (.bool ((s.O.length : Int) == 0)) ∧ w = w' := by
  have HC := hide (qclosed_is R hs)
  have c17 := R.cM
  obtain ⟨D, ho1, ho2⟩ := R.own
  have hln := fun ty => lenI ho2 ho1 ty
  clear R ho1 ho2 hs
  go_enter Try.func24, Try.ntmps24
  go_wp2_with (go_at_call 29; refine HC.out.mono ?_; rintro e w' ⟨rfl, rfl⟩)
  go_ret
  exact ⟨rfl, rfl⟩
theorem qIdle_nil (w : World) : Calls Try.prog 24 #[.pointer none] w fun e w' => e = .returned (.bool true) ∧ w = w' := by
  have HC := hide (qclosed_nil w)
  go_enter Try.func24, Try.ntmps24
  go_wp2_with (go_at_call 29; refine HC.out.mono ?_; rintro e w' ⟨rfl, rfl⟩)
  go_ret
  exact ⟨rfl, rfl⟩
theorem qWhere_nil (w : World) (t : Int) : Calls Try.prog 22 #[.pointer none, .int .i64 t] w fun e w' => e = .returned (.tuple #[.int .i64 0, .bool false]) ∧ w = w' := by
  have HC := hide (qholds_nil w t)
  go_enter Try.func22, Try.ntmps22
  go_wp2_with (go_at_call 31; refine HC.out.mono ?_; rintro e w' ⟨rfl, rfl⟩)
  go_ret2
  exact ⟨rfl, rfl⟩
theorem qWhere_yes (R : IsRq w g m s vs) (hs : SmallQ s) {t f : Int} (hp : (t, f) ∈ s.O) : Calls Try.prog 22 #[.pointer (some ⟨g, 0, none⟩), .int .i64 t] w fun e w' => e = .returned (.tuple #[.int .i64 f, .bool true]) ∧ w = w' := by
  have HC := hide (qholds_yes R hs hp)
  have c17 := R.cM
  obtain ⟨D, ho1, ho2⟩ := R.own
  have hlk := lookI ho2 ho1 hp false
  simp only [Bool.false_eq_true, if_false] at hlk
  clear R ho1 ho2 hp hs
  go_enter Try.func22, Try.ntmps22
  go_wp2_with (go_at_call 31; refine HC.out.mono ?_; rintro e w' ⟨rfl, rfl⟩)
  go_ret2
  exact ⟨rfl, rfl⟩
theorem qWhere_no (R : IsRq w g m s vs) (hs : SmallQ s) {t : Int} (hk : iW t) (hn : t ∉ s.O.map (·.1)) : Calls Try.prog 22 #[.pointer (some ⟨g, 0, none⟩), .int .i64 t] w fun e w' => e = .returned (.tuple #[.int .i64 0, .bool false]) ∧ w = w' := by
  have HC := hide (qholds_no R hs hk hn)
  clear R hs hn
  go_enter Try.func22, Try.ntmps22
  go_wp2_with (go_at_call 31; refine HC.out.mono ?_; rintro e w' ⟨rfl, rfl⟩)
  go_ret2
  exact ⟨rfl, rfl⟩
set_option maxHeartbeats 1000000 in
theorem qidlest_is (R : IsRq w g m s vs) (hs : SmallQ s) : Calls Try.prog 37 #[.pointer (some ⟨g, 0, none⟩)] w fun e w' => e = .returned (.int .i64 (idleQ s s.H)) ∧ w = w' := by
  have c0 := R.cH
  have HL := hide (fun h hh => qload_is R hs h hh)
  have H8 := hide hs.h8
  clear R hs
  go_enter Try.func37, Try.ntmps37
  go_wp2_with fail
  go_loopw [3, 9] (fun lv iv wr => ∃ i b : Nat, i ≤ s.H ∧ iv = .int .i64 i ∧ lv = .int .i64 b ∧ b = idleQ s i ∧ wr = w) (fun _ iv _ => s.H - (intOf iv).toNat)
  case atStart => exact ⟨0, 0, Nat.zero_le _, rfl, rfl, rfl, rfl⟩
  case round =>
    obtain ⟨i, b, hi, rfl, rfl, hB, rfl⟩ := hrel
    by_cases hlt : i < s.H
    · have hb := idleQ_lt s i
      rw [← hB] at hb
      have h8 := H8.out
      have hltI : (i : Int) < s.H := by omega
      have hb8 : b < 8 := by omega
      have hi8 : i < 8 := by omega
      have HE := hide (show idleQ s (i + 1) = if loadQ s i < loadQ s b then i else b from hB ▸ rfl)
      clear hb hB
      by_cases hc : loadQ s i < loadQ s b
      · rw [if_pos hc] at HE
        go_wp2_with (go_at_call 41; refine (HL.out _ (by assumption)).mono ?_; rintro e w' ⟨rfl, rfl⟩)
        go_roundw
        case rel => exact ⟨i + 1, i, hlt, by go_num, rfl, HE.out.symm, trivial⟩
        case measure => simp [intOf]; omega
      · rw [if_neg hc] at HE
        go_wp2_with (go_at_call 41; refine (HL.out _ (by assumption)).mono ?_; rintro e w' ⟨rfl, rfl⟩)
        go_roundw
        case rel => exact ⟨i + 1, b, hlt, by go_num, rfl, HE.out.symm, trivial⟩
        case measure => simp [intOf]; omega
    · obtain rfl : i = s.H := by omega
      subst hB
      go_wp2
      go_ret
      exact ⟨rfl, rfl⟩
set_option maxHeartbeats 1000000 in
theorem qbusiest_is (R : IsRq w g m s vs) (hs : SmallQ s) : Calls Try.prog 33 #[.pointer (some ⟨g, 0, none⟩)] w fun e w' => e = .returned (.int .i64 (busyQ s s.H)) ∧ Only [] w w' := by
  have c0 := R.cH
  have HR := hide (fun (wr : World) (ho : Only [] w wr) (h : Nat) (hh : h < 8) => (R.quiet ho).form hh)
  have H8 := hide hs
  clear R hs
  go_enter Try.func33, Try.ntmps33
  go_wp2_with fail
  go_loopw [3, 9] (fun lv iv wr => ∃ i b : Nat, i ≤ s.H ∧ iv = .int .i64 i ∧ lv = .int .i64 b ∧ b = busyQ s i ∧ Only [] w wr) (fun _ iv _ => s.H - (intOf iv).toNat)
  case atStart => exact ⟨0, 0, Nat.zero_le _, rfl, rfl, rfl, Only.refl _ _⟩
  case round =>
    obtain ⟨i, b, hi, rfl, rfl, hB, ho⟩ := hrel
    by_cases hlt : i < s.H
    · have hb := busyQ_lt s i
      rw [← hB] at hb
      have h8 := H8.out.h8
      have hltI : (i : Int) < s.H := by omega
      have hb8 : (b : Int) < 8 := by omega
      have hi8 : (i : Int) < 8 := by omega
      obtain ⟨A1, k1, _, q1⟩ := HR.out _ ho i (by omega)
      obtain ⟨A2, k2, _, q2⟩ := HR.out _ ho b (by omega)
      have HE := hide (show busyQ s (i + 1) = if (s.n b).length < (s.n i).length then i else b from hB ▸ rfl)
      have HO := hide ho
      clear hb hB ho
      by_cases hc : (s.n b).length < (s.n i).length
      · rw [if_pos hc] at HE
        have hcI : ((s.n b).length : Int) < (s.n i).length := by omega
        clear hc
        go_wp2_with fail
        go_region
        clear q1 q2
        go_wp2_with fail
        go_roundw
        case rel => exact ⟨i + 1, i, hlt, by go_num, rfl, HE.out.symm, HO.out.drew⟩
        case measure => simp [intOf]; omega
      · rw [if_neg hc] at HE
        have hcI : ¬ ((s.n b).length : Int) < (s.n i).length := by omega
        clear hc
        go_wp2_with fail
        go_region
        clear q1 q2
        go_wp2_with fail
        go_roundw
        case rel => exact ⟨i + 1, b, hlt, by go_num, rfl, HE.out.symm, HO.out.drew⟩
        case measure => simp [intOf]; omega
    · obtain rfl : i = s.H := by omega
      subst hB
      have HO := hide ho
      clear ho
      go_wp2
      go_ret
      exact ⟨rfl, HO.out⟩
theorem index_is {v : Value} {ns : List Int} {t : Int} (h : IRow w v ns) (hf : ns.length ≤ 1000) (ht : t ∈ ns) : Calls Try.prog 40 #[v, .int .i64 t] w fun e w' => ∃ i : Nat, e = .returned (.int .i64 i) ∧ i < ns.length ∧ ns.eraseIdx i = ns.erase t ∧ w = w' := by
  obtain ⟨A, c, rfl, hA, _, _, hc⟩ := h.form2
  have HA := hide hc
  have HAN := hide hA
  have HT := hide ht
  clear h hc ht hA
  go_enter Try.func40, Try.ntmps40
  go_wp2_with fail
  go_loopw [8] (fun iv wr => ∃ i : Nat, i ≤ ns.length ∧ iv = .int .i64 i ∧ t ∉ ns.take i ∧ wr = w) (fun iv _ => ns.length - (intOf iv).toNat)
  case atStart => exact ⟨0, Nat.zero_le _, rfl, by simp, rfl⟩
  case round =>
    obtain ⟨i, hi, rfl, hn, rfl⟩ := hrel
    by_cases hlt : i < ns.length
    · have hltI : (i : Int) < ns.length := by omega
      obtain ⟨ad, rfl⟩ : ∃ ad, A = some ad := by
        rcases A with _ | ad
        · have := (HAN.out rfl).1; omega
        · exact ⟨ad, rfl⟩
      obtain ⟨b, rfl, _, hcell⟩ := HA.out ad rfl
      have ci := hcell i (.int .i64 ns[i]) (by simp [i64l, hlt])
      have HN := hide hn
      have HX := hide (show ns[i] ∈ ns from List.getElem_mem hlt)
      have HS := hide (show ns = ns.take i ++ ns[i] :: ns.drop (i + 1) by rw [List.getElem_cons_drop, List.take_append_drop])
      have HTK := hide (show ns.take (i + 1) = ns.take i ++ [ns[i]] by rw [List.take_add_one]; simp [hlt])
      generalize ns[i] = x at *
      clear hcell hn
      by_cases he : t = x
      · subst he
        have heb : (t == t) = true := by simp
        go_wp2_with fail
        go_ret
        refine ⟨i, rfl, hlt, ?_, rfl⟩
        rw [List.eraseIdx_eq_take_drop_succ]
        conv => rhs; rw [HS.out]
        rw [List.erase_append_right _ HN.out, List.erase_cons_head]
      · have heb : (t == x) = false := by simp [he]
        go_wp2_with fail
        go_roundw
        case rel => exact ⟨i + 1, hlt, by go_num, by rw [HTK.out]; simp [HN.out, he], trivial⟩
        case measure => simp [intOf]; omega
    · exfalso
      rw [List.take_of_length_le (by omega)] at hn
      exact hn HT.out
end
end Go.Proofs.Ytdinndpeoankdaa
