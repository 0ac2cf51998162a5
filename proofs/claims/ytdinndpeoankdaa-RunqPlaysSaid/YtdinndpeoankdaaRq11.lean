/-
  The document's own run queues (parapetref11): the struct, the row of harts; what only looks: hart, long, Where, all, Running, Queue, Idle.
-/
import Derived.Test.YtdinndpeoankdaaRqAllWalk
namespace Go.Proofs.Ytdinndpeoankdaa
open Go.ChangeShapes Go.WideShapes Go.ChangeAt Go.RowKit Go.Maps
set_option linter.unusedVariables false

def valX (s : RQ) (xs : Nat → Value) (o : Nat) : Value := if o % 2 = 0 then .int .i64 (s.r (o / 2)) else xs (o / 2)
theorem valX_even (s : RQ) (xs : Nat → Value) (h : Nat) : valX s xs (h * 2) = .int .i64 (s.r h) := by
  unfold valX
  rw [if_pos (by omega), show h * 2 / 2 = h by omega]
theorem valX_odd (s : RQ) (xs : Nat → Value) (h : Nat) : valX s xs (h * 2 + 1) = xs h := by
  unfold valX
  rw [if_neg (by omega), show (h * 2 + 1) / 2 = h by omega]
theorem valX_run (s : RQ) (xs : Nat → Value) (h : Nat) (x : Int) (s' : RQ) (hr : s'.r = upd s.r h x) : upd (valX s xs) (h * 2) (.int .i64 x) = valX s' xs := by
  funext o
  unfold upd valX
  rw [hr]
  by_cases e : o = h * 2
  · subst e
    rw [if_pos rfl, if_pos (by omega), show h * 2 / 2 = h by omega, upd_same]
  · rw [if_neg e]
    by_cases e2 : o % 2 = 0
    · rw [if_pos e2, if_pos e2, upd_far _ _ (by omega)]
    · rw [if_neg e2, if_neg e2]
theorem valX_row (s : RQ) (xs : Nat → Value) (h : Nat) (x : Value) (s' : RQ) (hr : s'.r = s.r) : upd (valX s xs) (h * 2 + 1) x = valX s' (upd xs h x) := by
  funext o
  unfold upd valX
  rw [hr]
  by_cases e : o = h * 2 + 1
  · subst e
    rw [if_pos rfl, if_neg (by omega)]
    show x = upd xs h x ((h * 2 + 1) / 2)
    rw [show (h * 2 + 1) / 2 = h by omega, upd_same]
  · rw [if_neg e]
    by_cases e2 : o % 2 = 0
    · rw [if_pos e2, if_pos e2]
    · rw [if_neg e2, if_neg e2]
      simp only []
      rw [if_neg (by omega)]
structure IsX (w : World) (gx hx : Nat) (s : RQ) (xs : Nat → Value) : Prop where
  top : Blk w gx 44 #[.slice (some ⟨hx, 0, none⟩) s.H s.H]
  blk : Blk w hx 57 (rowG (valX s xs) (2 * s.H))
  row : ∀ h, h < s.H → IRow w (xs h) (s.n h)
  apart : ∀ h k q, h < s.H → k < s.H → h ≠ k → (xs h).ownBlock = some q → (xs k).ownBlock ≠ some q
def footX (gx hx : Nat) (xs : Nat → Value) (H : Nat) : List Nat := gx :: hx :: (List.range H).flatMap fun o => (xs o).ownBlock.toList
theorem mem_footX {gx hx H : Nat} {xs : Nat → Value} {k : Nat} : k ∈ footX gx hx xs H ↔ k = gx ∨ k = hx ∨ ∃ o, o < H ∧ (xs o).ownBlock = some k := by
  simp [footX]
section
variable {w w' w1 : World} {gx hx : Nat} {s s' : RQ} {xs : Nat → Value} {S : List Nat}
theorem IsX.cT (X : IsX w gx hx s xs) : w.cell? ⟨gx, 0, none⟩ = some (.slice (some ⟨hx, 0, none⟩) s.H s.H) := X.top.cell 0
theorem IsX.cR (X : IsX w gx hx s xs) {h : Nat} (hh : h < s.H) : w.cell? ⟨hx, h * 2, none⟩ = some (.int .i64 (s.r h)) := by
  rw [X.blk.cell, rowG_get _ (by omega), valX_even]
theorem IsX.cN (X : IsX w gx hx s xs) {h : Nat} (hh : h < s.H) : w.cell? ⟨hx, h * 2 + 1, none⟩ = some (xs h) := by
  rw [X.blk.cell, rowG_get _ (by omega), valX_odd]
theorem IsX.fr (X : IsX w gx hx s xs) (o : Nat) : w.frozen? ⟨hx, o, none⟩ = false := X.blk.frozen o
theorem IsX.ltr (X : IsX w gx hx s xs) {h k : Nat} (hh : h < s.H) (e : (xs h).ownBlock = some k) : k < w.heap.size := ((X.row h hh).at_ e).2.1
theorem IsX.gh (X : IsX w gx hx s xs) : gx ≠ hx := X.top.ne_ X.blk (by decide)
theorem IsX.rg (X : IsX w gx hx s xs) {h k : Nat} (hh : h < s.H) (e : (xs h).ownBlock = some k) : k ≠ gx := (X.row h hh).apart X.top (by decide) k e
theorem IsX.rh (X : IsX w gx hx s xs) {h k : Nat} (hh : h < s.H) (e : (xs h).ownBlock = some k) : k ≠ hx := (X.row h hh).apart X.blk (by decide) k e
theorem IsX.foot_lt (X : IsX w gx hx s xs) {k : Nat} (hk : k ∈ footX gx hx xs s.H) : k < w.heap.size := by
  rcases mem_footX.1 hk with rfl | rfl | ⟨o, h, e⟩
  · exact X.top.lt
  · exact X.blk.lt
  · exact X.ltr h e
theorem IsX.only (X : IsX w gx hx s xs) (ho : Only S w w') (hs : ∀ k, k ∈ footX gx hx xs s.H → k ∉ S) : IsX w' gx hx s xs :=
  ⟨X.top.only ho (hs gx (mem_footX.2 (.inl rfl))), X.blk.only ho (hs hx (mem_footX.2 (.inr (.inl rfl)))), fun h hh => (X.row h hh).only ho (fun q hq => hs q (mem_footX.2 (.inr (.inr ⟨h, hh, hq⟩)))), X.apart⟩
theorem IsX.quiet (X : IsX w gx hx s xs) (ho : Only [] w w') : IsX w' gx hx s xs := X.only ho (by simp)
/-- The places count for nothing. -/
theorem IsX.of (X : IsX w gx hx s xs) (h1 : s'.H = s.H) (h2 : s'.r = s.r) (h3 : s'.n = s.n) : IsX w gx hx s' xs := by
  obtain ⟨a, b, c, d⟩ := X
  have e : valX s' xs = valX s xs := by unfold valX; rw [h2]
  exact ⟨by rw [h1]; exact a, by rw [h1, e]; exact b, by rw [h1, h3]; exact c, by rw [h1]; exact d⟩
theorem IsX.form (X : IsX w gx hx s xs) {h : Nat} (hh : h < s.H) : ∃ A c, xs h = .slice A (s.n h).length c ∧ w.cell? ⟨hx, h * 2 + 1, none⟩ = some (.slice A (s.n h).length c) ∧ (A = none → (s.n h).length = 0 ∧ c = 0) ∧ (s.n h).length ≤ c ∧ c ≤ maxLen ∧ ∀ ad, A = some ad → ∃ b, ad = ⟨b, 0, none⟩ ∧ b < w.heap.size ∧ ∀ j u, (i64l (s.n h))[j]? = some u → w.cell? ⟨b, j, none⟩ = some u := by
  obtain ⟨A, c, e, r⟩ := (X.row h hh).form2
  exact ⟨A, c, e, e ▸ X.cN hh, r⟩

theorem xhart_is (X : IsX w gx hx s xs) (h : Int) : Calls Try.prog 35 #[.pointer (some ⟨gx, 0, none⟩), .int .i64 h] w fun e w' => e = .returned (.bool (hasQ s h)) ∧ w = w' := by
  have c0 := X.cT
  clear X
  go_enter Try.func35, Try.ntmps35
  by_cases h0 : 0 ≤ h
  · by_cases h1 : h < s.H
    · have e : hasQ s h = true := by simp [hasQ, h0, h1]
      rw [e]
      clear e
      go_wp2
      go_ret
      exact ⟨rfl, rfl⟩
    · have e : hasQ s h = false := by simp [hasQ, h1]
      have hd : decide (h < (s.H : Int)) = false := by simp [h1]
      rw [e]
      clear e h1
      go_wp2
      go_ret
      exact ⟨rfl, rfl⟩
  · have e : hasQ s h = false := by simp [hasQ, h0]
    have hd : decide (0 ≤ h) = false := by simp [h0]
    rw [e]
    clear e h0
    go_wp2
    go_ret
    exact ⟨rfl, rfl⟩
theorem xlong_is (X : IsX w gx hx s xs) (o : OkQ s) (h : Nat) (hh : h < s.H) : Calls Try.prog 38 #[.pointer (some ⟨gx, 0, none⟩), .int .i64 h] w fun e w' => e = .returned (.int .i64 (loadQ s h)) ∧ w = w' := by
  have c0 := X.cT
  have cr := X.cR hh
  obtain ⟨A, c, _, cn, _⟩ := X.form hh
  have hhi : (h : Int) < s.H := by omega
  have hf := o.small.few h (by have := o.h8; omega)
  have hr0 := (o.wr h).1
  clear X o
  unfold loadQ
  by_cases h0 : s.r h = 0
  · rw [if_neg (by simp [h0])]
    rw [h0] at cr
    go_enter Try.func38, Try.ntmps38
    go_wp2
    go_ret
    exact ⟨rfl, rfl⟩
  · rw [if_pos h0]
    have hp : 0 < s.r h := by omega
    have e1 : IntKind.i64.wrap (((s.n h).length : Int) + 1) = ((s.n h).length : Int) + 1 := by rw [IntKind.wrap_i64]; omega
    go_enter Try.func38, Try.ntmps38
    go_wp2
    go_ret
    exact ⟨rfl, rfl⟩
theorem xRunning_is (X : IsX w gx hx s xs) (h : Int) : Calls Try.prog 28 #[.pointer (some ⟨gx, 0, none⟩), .int .i64 h] w fun e w' => e = .returned (.int .i64 (runningF s h)) ∧ w = w' := by
  have HH := hide (xhart_is X h)
  unfold runningF
  by_cases hb : hasQ s h = true
  · obtain ⟨k, rfl, hk⟩ := hasQ_nat hb
    have c0 := X.cT
    have cr := X.cR hk
    have hhi : (k : Int) < s.H := by omega
    rw [hb] at HH
    rw [if_pos hb, Int.toNat_natCast]
    clear X hb
    go_enter Try.func28, Try.ntmps28
    go_wp2_with (go_at_call 35; refine HH.out.mono ?_; rintro e w' ⟨rfl, rfl⟩)
    go_ret
    exact ⟨rfl, rfl⟩
  · rw [if_neg hb]
    have hb' : hasQ s h = false := by simpa using hb
    rw [hb'] at HH
    clear X hb hb'
    go_enter Try.func28, Try.ntmps28
    go_wp2_with (go_at_call 35; refine HH.out.mono ?_; rintro e w' ⟨rfl, rfl⟩)
    go_ret
    exact ⟨rfl, rfl⟩
/-- The queue itself is told. -/
theorem xQueue_is (X : IsX w gx hx s xs) (h : Int) : Calls Try.prog 26 #[.pointer (some ⟨gx, 0, none⟩), .int .i64 h] w fun e w' => ∃ v, e = .returned v ∧ IRow w v (queueQ s h) ∧ (∀ q, v.ownBlock = some q → q ∈ footX gx hx xs s.H) ∧ w = w' := by
  have HH := hide (xhart_is X h)
  unfold queueQ
  by_cases hb : hasQ s h = true
  · obtain ⟨k, rfl, hk⟩ := hasQ_nat hb
    have c0 := X.cT
    obtain ⟨A, c, hv, cn, _⟩ := X.form hk
    have hhi : (k : Int) < s.H := by omega
    rw [hb] at HH
    rw [if_pos hb, Int.toNat_natCast]
    have HF := hide (show IRow w (.slice A (s.n k).length c) (s.n k) ∧ ∀ q, (Value.slice A (s.n k).length c).ownBlock = some q → q ∈ footX gx hx xs s.H from ⟨hv ▸ X.row k hk, fun q hq => mem_footX.2 (.inr (.inr ⟨k, hk, hv ▸ hq⟩))⟩)
    clear X hb hv
    go_enter Try.func26, Try.ntmps26
    go_wp2_with (go_at_call 35; refine HH.out.mono ?_; rintro e w' ⟨rfl, rfl⟩)
    go_ret
    exact ⟨_, rfl, HF.out.1, HF.out.2, rfl⟩
  · rw [if_neg hb]
    have hb' : hasQ s h = false := by simpa using hb
    rw [hb'] at HH
    clear X hb hb'
    go_enter Try.func26, Try.ntmps26
    go_wp2_with (go_at_call 35; refine HH.out.mono ?_; rintro e w' ⟨rfl, rfl⟩)
    go_ret
    exact ⟨_, rfl, KRow.nil _ _ _ _, by simp [Value.ownBlock], rfl⟩

/-- The threads of the first k harts. -/
def flatQ (s : RQ) : Nat → List Int
  | 0 => []
  | k + 1 => flatQ s k ++ ((if s.r k = 0 then [] else [s.r k]) ++ s.n k)
theorem mem_flatQ {s : RQ} (o : OkQ s) {t : Int} : ∀ k, t ∈ flatQ s k ↔ ∃ h, h < k ∧ atQ s t h
  | 0 => by simp [flatQ]
  | k + 1 => by
    have ih := mem_flatQ o (t := t) k
    unfold flatQ
    rw [List.mem_append, ih, List.mem_append]
    constructor
    · rintro (⟨h, h1, h2⟩ | h1 | h1)
      · exact ⟨h, by omega, h2⟩
      · by_cases e : s.r k = 0
        · rw [if_pos e] at h1; cases h1
        · rw [if_neg e] at h1
          have := List.mem_singleton.1 h1
          have := (o.wr k).1
          exact ⟨k, by omega, by omega, .inl (by omega)⟩
      · exact ⟨k, by omega, (o.wn k t h1).1, .inr h1⟩
    · rintro ⟨h, h1, h2⟩
      by_cases e : h = k
      · subst e
        rcases h2.2 with h3 | h3
        · right; left
          rw [if_neg (by have := h2.1; omega)]
          simp [h3]
        · exact .inr (.inr h3)
      · exact .inl ⟨h, by omega, h2⟩
theorem nodup_flatQ {s : RQ} (o : OkQ s) : ∀ k, (flatQ s k).Nodup
  | 0 => List.nodup_nil
  | k + 1 => by
    have ih := nodup_flatQ o k
    unfold flatQ
    refine List.nodup_append.2 ⟨ih, List.nodup_append.2 ⟨?_, o.nd k, ?_⟩, ?_⟩
    · split <;> simp
    · intro a ha b hb e
      split at ha
      · cases ha
      · rw [List.mem_singleton.1 ha] at e
        exact o.dis k (e ▸ hb)
    · intro a ha b hb e
      subst e
      obtain ⟨h, h1, h2⟩ := (mem_flatQ o k).1 ha
      have hk : atQ s a k := by
        rcases List.mem_append.1 hb with hb | hb
        · split at hb
          · cases hb
          · exact ⟨h2.1, .inl (List.mem_singleton.1 hb).symm⟩
        · exact ⟨h2.1, .inr hb⟩
      have := o.uniq _ _ _ h2 hk
      omega
theorem flatQ_len {s : RQ} (o : OkQ s) : (flatQ s s.H).length = s.O.length := by
  have h1 := nodup_sub _ (keysQ s) (nodup_flatQ o s.H) fun t ht => by
    obtain ⟨h, _, ha⟩ := (mem_flatQ o _).1 ht
    exact o.key.2 ⟨h, ha⟩
  have h2 := nodup_sub (keysQ s) (flatQ s s.H) o.ond fun t ht => by
    obtain ⟨h, ha⟩ := o.key.1 ht
    exact (mem_flatQ o _).2 ⟨h, o.lt ha, ha⟩
  simp only [List.length_map] at h1 h2
  omega
theorem flatQ_succ {s : RQ} (k : Nat) : ((flatQ s (k + 1)).length : Int) = (flatQ s k).length + loadQ s k := by
  unfold loadQ
  simp only [flatQ, List.length_append]
  by_cases e : s.r k = 0
  · rw [if_pos e, if_neg (by simp [e])]; simp
  · rw [if_neg e, if_pos e]; simp; omega
theorem flatQ_le {s : RQ} (o : OkQ s) {k : Nat} (hk : k ≤ s.H) : (flatQ s k).length ≤ 64 := by
  have h1 := nodup_sub _ (keysQ s) (nodup_flatQ o k) fun t ht => by
    obtain ⟨h, _, ha⟩ := (mem_flatQ o _).1 ht
    exact o.key.2 ⟨h, ha⟩
  have := o.few
  simp only [List.length_map] at h1
  omega
theorem xall_is (X : IsX w gx hx s xs) (o : OkQ s) : Calls Try.prog 36 #[.pointer (some ⟨gx, 0, none⟩)] w fun e w' => e = .returned (.int .i64 s.O.length) ∧ w = w' := by
  have c0 := X.cT
  have HL := hide (fun h hh => xlong_is X o h hh)
  have HO := hide o
  have H8 := hide o.h8
  clear X
  go_enter Try.func36, Try.ntmps36
  go_wp2_with fail
  go_loopw [3, 4] (fun nv iv wr => ∃ i : Nat, i ≤ s.H ∧ iv = .int .i64 i ∧ nv = .int .i64 ((flatQ s i).length : Nat) ∧ wr = w) (fun _ iv _ => s.H - (intOf iv).toNat)
  case atStart => exact ⟨0, Nat.zero_le _, rfl, rfl, rfl⟩
  case round =>
    obtain ⟨i, hi, rfl, rfl, rfl⟩ := hrel
    by_cases hlt : i < s.H
    · have hltI : (i : Int) < s.H := by omega
      have h8 := H8.out
      have hs := flatQ_succ (s := s) i
      have hl := flatQ_le HO.out (k := i + 1) (by omega)
      have hw1 : wrap64 (((flatQ s i).length : Int) + loadQ s i) = ((flatQ s (i + 1)).length : Nat) := by rw [wrap64_in _ (by omega)]; omega
      have hw2 : IntKind.i64.wrap (((flatQ s i).length : Int) + loadQ s i) = ((flatQ s (i + 1)).length : Nat) := by rw [IntKind.wrap_i64]; omega
      clear hs hl o
      go_wp2_with (go_at_call 38; refine (HL.out _ (by assumption)).mono ?_; rintro e w' ⟨rfl, rfl⟩)
      go_roundw
      case rel => exact ⟨i + 1, hlt, by go_num, by first | rfl | rw [hw1] | rw [hw2], trivial⟩
      case measure => simp [intOf]; omega
    · obtain rfl : i = s.H := by omega
      have hfl := flatQ_len HO.out
      go_wp2
      go_ret
      exact ⟨by rw [hfl]; rfl, rfl⟩
theorem xIdle_is (X : IsX w gx hx s xs) (o : OkQ s) : Calls Try.prog 25 #[.pointer (some ⟨gx, 0, none⟩)] w fun e w' => e = .returned (.bool ((s.O.length : Int) == 0)) ∧ w = w' := by
  have HA := hide (xall_is X o)
  clear X
  go_enter Try.func25, Try.ntmps25
  go_wp2_with (go_at_call 36; refine HA.out.mono ?_; rintro e w' ⟨rfl, rfl⟩)
  go_ret
  exact ⟨rfl, rfl⟩
theorem whereF_no {s : RQ} (o : OkQ s) {t : Int} (h : ∀ k, k < s.H → ¬ atQ s t k) : whereF s t = (0, false) := by
  unfold whereF
  rw [if_neg]
  intro hm
  obtain ⟨k, ha⟩ := o.key.1 hm
  exact h k (o.lt ha) ha
theorem whereF_at {s : RQ} (o : OkQ s) {t : Int} {k : Nat} (ha : atQ s t k) : whereF s t = ((k : Int), true) := by
  unfold whereF
  rw [if_pos (o.key.2 ⟨k, ha⟩), whereQ_is o ha]
set_option maxHeartbeats 1500000 in
theorem xWhere_is (X : IsX w gx hx s xs) (o : OkQ s) (t : Int) : Calls Try.prog 23 #[.pointer (some ⟨gx, 0, none⟩), .int .i64 t] w fun e w' => e = .returned (.tuple #[.int .i64 (whereF s t).1, .bool (whereF s t).2]) ∧ w = w' := by
  have c0 := X.cT
  have HX := hide X
  have HO := hide o
  have H8 := hide o.h8
  by_cases ht : 1 ≤ t
  · clear X o
    go_enter Try.func23, Try.ntmps23
    go_wp2_with fail
    go_loopw [6] (fun iv wr => ∃ h : Nat, h ≤ s.H ∧ iv = .int .i64 h ∧ (∀ k, k < h → ¬ atQ s t k) ∧ wr = w) (fun iv _ => s.H - (intOf iv).toNat)
    case atStart => exact ⟨0, Nat.zero_le _, rfl, fun k hk => absurd hk (by omega), rfl⟩
    case round =>
      obtain ⟨h, hh, rfl, hn, rfl⟩ := hrel
      have HN := hide hn
      clear hn
      by_cases hlt : h < s.H
      · have hhI : (h : Int) < s.H := by omega
        have h8 := H8.out
        have cr := HX.out.cR hlt
        obtain ⟨A, c, hv, cn, hA, _, _, hc⟩ := HX.out.form hlt
        have hf := HO.out.small.few h (by have := H8.out; omega)
        by_cases hr : s.r h = t
        · have hb : (s.r h == t) = true := by simp [hr]
          have HF := hide (whereF_at HO.out ⟨ht, .inl hr⟩)
          clear hr hA hc hv
          go_wp2_with fail
          go_ret2
          exact ⟨by rw [HF.out]; first | done | rfl, rfl⟩
        · have hb : (s.r h == t) = false := by simp [hr]
          have HA := hide hA
          have HC := hide hc
          clear hA hc hv
          go_wp2_with fail
          go_loopw [7] (fun iv wr' => ∃ i : Nat, i ≤ (s.n h).length ∧ iv = .int .i64 i ∧ t ∉ (s.n h).take i ∧ wr' = wr) (fun iv _ => (s.n h).length - (intOf iv).toNat)
          case atStart => exact ⟨0, Nat.zero_le _, rfl, by simp, rfl⟩
          case round =>
            obtain ⟨i, hi, rfl, hni, rfl⟩ := hrel
            by_cases hil : i < (s.n h).length
            · have hiI : (i : Int) < (s.n h).length := by omega
              obtain ⟨ad, rfl⟩ : ∃ ad, A = some ad := by
                rcases A with _ | ad
                · have := (HA.out rfl).1; omega
                · exact ⟨ad, rfl⟩
              obtain ⟨b, rfl, _, hcell⟩ := HC.out ad rfl
              have ci := hcell i (.int .i64 (s.n h)[i]) (by simp [i64l, hil])
              have HM := hide (show (s.n h)[i] ∈ s.n h from List.getElem_mem hil)
              have HTK := hide (show (s.n h).take (i + 1) = (s.n h).take i ++ [(s.n h)[i]] by rw [List.take_add_one]; simp [hil])
              have HNI := hide hni
              generalize (s.n h)[i] = y at *
              clear hcell hni
              by_cases he : y = t
              · have hyb : (y == t) = true := by simp [he]
                have HF := hide (whereF_at HO.out ⟨ht, .inr (he ▸ HM.out)⟩)
                clear he
                go_wp2_with fail
                go_ret2
                exact ⟨by rw [HF.out]; first | done | rfl, rfl⟩
              · have hyb : (y == t) = false := by simp [he]
                have HE := hide he
                clear he
                go_wp2_with fail
                go_roundw
                case rel => exact ⟨i + 1, hil, by go_num, by rw [HTK.out]; simp [HNI.out, Ne.symm HE.out], trivial⟩
                case measure => simp [intOf]; omega
            · obtain rfl : i = (s.n h).length := by omega
              rw [List.take_of_length_le (Nat.le_refl _)] at hni
              have HNI := hide hni
              have HR := hide hr
              clear hni hr
              go_wp2_with fail
              go_roundw
              case rel =>
                refine ⟨h + 1, hlt, by go_num, fun k hk ha => ?_, trivial⟩
                by_cases e : k = h
                · subst e
                  rcases ha.2 with h2 | h2
                  · exact HR.out h2
                  · exact HNI.out h2
                · exact HN.out k (by omega) ha
              case measure => simp [intOf]; omega
      · obtain rfl : h = s.H := by omega
        have HF := hide (whereF_no HO.out HN.out)
        go_wp2_with fail
        go_ret2
        exact ⟨by rw [HF.out]; first | done | rfl, rfl⟩
  · have hd : decide (1 ≤ t) = false := by simp [ht]
    have HF := hide (whereF_no o (t := t) (fun k _ ha => ht ha.1))
    have h1 := o.h1
    have hpos : (0 : Int) < s.H := by omega
    clear X o
    go_enter Try.func23, Try.ntmps23
    go_wp2_with fail
    go_loopw [6] (fun iv wr => iv = .int .i64 0 ∧ wr = w) (fun iv _ => 0)
    case atStart => exact ⟨rfl, rfl⟩
    case round =>
      obtain ⟨rfl, rfl⟩ := hrel
      go_wp2_with fail
      go_ret2
      exact ⟨by rw [HF.out]; first | done | rfl, rfl⟩
end
end Go.Proofs.Ytdinndpeoankdaa
