/-
  'RunqAll', plainly: whoever waits moves ahead by one in each round, or runs.
-/
import Derived.Test.YtdinndpeoankdaaRqFindsWalk
namespace Go.Proofs.Ytdinndpeoankdaa
open Go.ChangeShapes Go.WideShapes Go.ChangeAt Go.RowKit Go.Deep
set_option linter.unusedVariables false

theorem len_upto : ∀ (n : Nat) (L : List Int), L.Nodup → (∀ x ∈ L, 1 ≤ x ∧ x ≤ n) → L.length ≤ n
  | 0, L, _, h => by
    cases L with
    | nil => simp
    | cons x r => have := h x (by simp); omega
  | n + 1, L, hd, h => by
    by_cases hm : ((n + 1 : Nat) : Int) ∈ L
    · have h1 := len_upto n (L.erase ((n + 1 : Nat) : Int)) (hd.erase _) fun x hx => by
        obtain ⟨hne, hx⟩ := (hd.mem_erase_iff).1 hx
        have := h x hx
        omega
      have h2 := List.length_erase_of_mem hm
      have h3 := List.length_pos_of_mem hm
      omega
    · have h1 := len_upto n L hd fun x hx => by
        have := h x hx
        have hne : x ≠ ((n + 1 : Nat) : Int) := fun e => hm (e ▸ hx)
        omega
      omega
/-- Ahead of hart h's turn in round ρ: who has not run stands in a queue, near enough. -/
structure JQ (s : RQ) (f : Nat → Bool) (n ρ h : Nat) : Prop where
  keys : ∀ t ∈ keysQ s, 1 ≤ t ∧ t ≤ n
  run : ∀ k, s.r k ≠ 0 → s.n k = []
  ahead : ∀ t : Nat, 1 ≤ t → t ≤ n → f t = true ∨ ∃ k p : Nat, (s.n k)[p]? = some (t : Int) ∧ p + (ρ + if k < h then 1 else 0) ≤ n
theorem JQ.first {s : RQ} (o : OkQ s) {n : Nat} (hr : ∀ k, s.r k = 0) (hk : ∀ t, t ∈ keysQ s ↔ 1 ≤ t ∧ t ≤ (n : Int)) (f : Nat → Bool) : JQ s f n 0 0 := by
  refine ⟨fun t ht => (hk t).1 ht, fun k h => absurd (hr k) h, fun t h1 h2 => .inr ?_⟩
  obtain ⟨k, h3, h4⟩ := o.key.1 ((hk t).2 ⟨by omega, by omega⟩)
  rw [hr k] at h4
  have h5 := h4.resolve_left (by omega)
  obtain ⟨p, hp, e⟩ := List.mem_iff_getElem.1 h5
  refine ⟨k, p, by rw [List.getElem?_eq_getElem hp, e], ?_⟩
  have := len_upto n (s.n k) (o.nd k) fun x hx => (hk x).1 (o.key.2 ⟨k, (o.wn k x hx).1, .inr hx⟩)
  rw [if_neg (by omega)]
  omega
theorem JQ.round {s : RQ} (o : OkQ s) {f : Nat → Bool} {n ρ : Nat} (h : JQ s f n ρ s.H) : JQ s f n (ρ + 1) 0 := by
  refine ⟨h.keys, h.run, fun t h1 h2 => (h.ahead t h1 h2).imp id ?_⟩
  rintro ⟨k, p, h3, h4⟩
  have hk : k < s.H := by
    rcases Nat.lt_or_ge k s.H with hl | hg
    · exact hl
    · rw [(o.out k hg).2] at h3; simp at h3
  rw [if_pos hk] at h4
  exact ⟨k, p, h3, by rw [if_neg (by omega)]; omega⟩
theorem JQ.all {s : RQ} {f : Nat → Bool} {n ρ h : Nat} (J : JQ s f n ρ h) (hp : n < ρ) {t : Nat} (h1 : 1 ≤ t) (h2 : t ≤ n) : f t = true := by
  rcases J.ahead t h1 h2 with e | ⟨k, p, _, h4⟩
  · exact e
  · omega
theorem bump {k h : Nat} (hne : k ≠ h) {p ρ n : Nat} (h4 : p + (ρ + if k < h then 1 else 0) ≤ n) : p + (ρ + if k < h + 1 then 1 else 0) ≤ n := by
  by_cases hk : k < h
  · rw [if_pos hk] at h4
    rw [if_pos (by omega)]
    exact h4
  · rw [if_neg hk] at h4
    rw [if_neg (by omega)]
    exact h4
theorem runS_keys (s : RQ) (h f i : Nat) : keysQ (runS s h f i) = keysQ s := setV_keys _ _ _
/-- A hart's turn: Next, what it runs, Tick. -/
theorem JQ.turn {s : RQ} (o : OkQ s) {f : Nat → Bool} {n ρ h : Nat} (hh : h < s.H) (J : JQ s f n ρ h) :
    ∃ x : Nat, runningF (nextF s h).1 h = x ∧ x ≤ n ∧ JQ (tickF (nextF s h).1 h).1 (upd f x true) n ρ (h + 1) := by
  have hb : hasQ s h = true := by simp [hasQ, hh]
  by_cases hr : s.r h = 0
  · by_cases hn : s.n h = []
    · by_cases hw : waitsQ s s.H = 0
      · rw [next_no o (.inr (.inr hw))]
        simp only []
        have e1 : runningF s h = 0 := by unfold runningF; rw [if_pos hb, Int.toNat_natCast, hr]
        have e2 : tickF s h = (s, false) := by unfold tickF; rw [if_pos (.inr (.inl (by rw [Int.toNat_natCast]; exact hr)))]
        rw [e1, e2]
        refine ⟨0, rfl, Nat.zero_le _, J.keys, J.run, fun t h1 h2 => .inl ?_⟩
        rw [upd_far _ _ (by omega)]
        rcases J.ahead t h1 h2 with e | ⟨k, p, h3, _⟩
        · exact e
        · rcases Nat.lt_or_ge k s.H with hl | hg
          · rw [(waitsQ_zero _).1 hw k hl] at h3; simp at h3
          · rw [(o.out k hg).2] at h3; simp at h3
      · -- it steals
        have hbz : s.n (busyQ s s.H) ≠ [] := fun e => hw ((busy_none o).1 e)
        have e0 : nextF s h = (runS s h (busyQ s s.H) ((s.n (busyQ s s.H)).length - 1), gb (s.n (busyQ s s.H)) ((s.n (busyQ s s.H)).length - 1), true) := by
          unfold nextF
          rw [hb, Int.toNat_natCast, if_neg (by simp [hr]), if_neg (by simp [hn]), if_neg hbz]
        rw [e0]
        simp only []
        generalize busyQ s s.H = b at *
        have hl := List.length_pos_iff.2 hbz
        have hi : (s.n b).length - 1 < (s.n b).length := by omega
        have hbh : b ≠ h := by rintro rfl; exact hbz hn
        have hy := o.wn b _ (gb_mem hi)
        have hkey := J.keys _ (o.key.2 ⟨b, hy.1, .inr (gb_mem hi)⟩)
        have hlast : (s.n b)[(s.n b).length - 1]? = some (gb (s.n b) ((s.n b).length - 1)) := by simp [gb, List.getD, List.getElem?_eq_getElem hi]
        have e1 : runningF (runS s h b ((s.n b).length - 1)) h = gb (s.n b) ((s.n b).length - 1) := (run_where o hh hr hi).1
        have hnh : (runS s h b ((s.n b).length - 1)).n h = [] := by
          show upd s.n b _ h = []
          rw [upd_far _ _ (Ne.symm hbh)]; exact hn
        have e2 : tickF (runS s h b ((s.n b).length - 1)) h = (runS s h b ((s.n b).length - 1), false) := by
          unfold tickF
          rw [if_pos (.inr (.inr (by rw [Int.toNat_natCast]; exact hnh)))]
        rw [e1, e2]
        simp only []
        refine ⟨(gb (s.n b) ((s.n b).length - 1)).toNat, by omega, by omega, ?_, fun k hk => ?_, fun t h1 h2 => ?_⟩
        · rw [runS_keys]; exact J.keys
        · by_cases e : k = h
          · subst e; exact hnh
          · have hk' : s.r k ≠ 0 := by
              have : (runS s h b ((s.n b).length - 1)).r k = s.r k := upd_far _ _ e
              rwa [this] at hk
            have hkn := J.run k hk'
            have hkb : k ≠ b := by rintro rfl; exact hbz hkn
            show upd s.n b _ k = []
            rw [upd_far _ _ hkb]; exact hkn
        · rcases J.ahead t h1 h2 with e | ⟨k, p, h3, h4⟩
          · left
            by_cases et : t = (gb (s.n b) ((s.n b).length - 1)).toNat
            · rw [et, upd_same]
            · rw [upd_far _ _ et]; exact e
          · have hkh : k ≠ h := by rintro rfl; rw [hn] at h3; simp at h3
            by_cases ek : k = b
            · subst ek
              by_cases ep : p = (s.n k).length - 1
              · left
                rw [ep, hlast] at h3
                injection h3 with h3
                have et : t = (gb (s.n k) ((s.n k).length - 1)).toNat := by rw [h3]; omega
                rw [← et, upd_same]
              · right
                refine ⟨k, p, ?_, bump hkh h4⟩
                show (upd s.n k ((s.n k).eraseIdx ((s.n k).length - 1)) k)[p]? = _
                have hpl := (List.getElem?_eq_some_iff.1 h3).1
                rw [upd_same, List.getElem?_eraseIdx_of_lt (by omega)]
                exact h3
            · right
              refine ⟨k, p, ?_, bump hkh h4⟩
              show (upd s.n b _ k)[p]? = _
              rw [upd_far _ _ ek]; exact h3
    · -- it runs its own first one
      obtain ⟨x, l, hxl⟩ : ∃ x l, s.n h = x :: l := by
        cases e : s.n h with
        | nil => exact absurd e hn
        | cons x l => exact ⟨x, l, rfl⟩
      have hg : gb (s.n h) 0 = x := by rw [hxl]; rfl
      have he : (s.n h).eraseIdx 0 = l := by rw [hxl]; rfl
      have hi : 0 < (s.n h).length := List.length_pos_iff.2 hn
      have e0 : nextF s h = (runS s h h 0, x, true) := by
        unfold nextF
        rw [hb, Int.toNat_natCast, if_neg (by simp [hr]), if_pos hn, hg]
      rw [e0]
      simp only []
      have hy := o.wn h _ (gb_mem hi)
      have hkey := J.keys _ (o.key.2 ⟨h, hy.1, .inr (gb_mem hi)⟩)
      rw [hg] at hy hkey
      have e1 : runningF (runS s h h 0) h = x := (run_where o hh hr hi).1.trans hg
      have hnh : (runS s h h 0).n h = l := by
        show upd s.n h _ h = l
        rw [upd_same]; exact he
      have hrh : (runS s h h 0).r h = x := by
        show upd s.r h _ h = x
        rw [upd_same]; exact hg
      have hnk : ∀ k, k ≠ h → (runS s h h 0).n k = s.n k := fun k hk => upd_far _ _ hk
      have hrk : ∀ k, k ≠ h → (runS s h h 0).r k = s.r k := fun k hk => upd_far _ _ hk
      have hkeys := runS_keys s h h 0
      have hbq : hasQ (runS s h h 0) h = true := hb
      revert e1 hnh hrh hnk hrk hkeys hbq
      generalize runS s h h 0 = s1
      intro e1 hnh hrh hnk hrk hkeys hbq
      rw [e1]
      have hold : ∀ t : Nat, 1 ≤ t → t ≤ n → upd f x.toNat true t = true ∨ (∃ k p : Nat, k ≠ h ∧ (s.n k)[p]? = some (t : Int) ∧ p + (ρ + if k < h + 1 then 1 else 0) ≤ n) ∨ ∃ p : Nat, l[p]? = some (t : Int) ∧ p + (ρ + 1) ≤ n := by
        intro t h1 h2
        rcases J.ahead t h1 h2 with e | ⟨k, p, h3, h4⟩
        · left
          by_cases et : t = x.toNat
          · rw [et, upd_same]
          · rw [upd_far _ _ et]; exact e
        · by_cases ek : k = h
          · subst ek
            rw [if_neg (by omega)] at h4
            rw [hxl] at h3
            cases p with
            | zero =>
              left
              simp at h3
              have et : t = x.toNat := by omega
              rw [et, upd_same]
            | succ p =>
              right; right
              simp at h3
              exact ⟨p, h3, by omega⟩
          · right; left
            exact ⟨k, p, ek, h3, bump ek h4⟩
      by_cases hl : l = []
      · have e2 : tickF s1 h = (s1, false) := by
          unfold tickF
          rw [if_pos (.inr (.inr (by rw [Int.toNat_natCast, hnh]; exact hl)))]
        rw [e2]
        refine ⟨x.toNat, by omega, by omega, ?_, fun k hk => ?_, fun t h1 h2 => ?_⟩
        · rw [hkeys]; exact J.keys
        · by_cases e : k = h
          · subst e; rw [hnh]; exact hl
          · rw [hrk k e] at hk; rw [hnk k e]; exact J.run k hk
        · rcases hold t h1 h2 with e | ⟨k, p, ek, h3, h4⟩ | ⟨p, h3, _⟩
          · exact .inl e
          · exact .inr ⟨k, p, by rw [hnk k ek]; exact h3, h4⟩
          · rw [hl] at h3; simp at h3
      · have e2 : tickF s1 h = (tickS s1 h, true) := by
          unfold tickF
          rw [if_neg]
          · rw [Int.toNat_natCast]
          · rw [hbq, Int.toNat_natCast, hrh, hnh]
            simp only [Bool.true_eq_false, false_or, not_or]
            exact ⟨by omega, hl⟩
        rw [e2]
        refine ⟨x.toNat, by omega, by omega, ?_, fun k hk => ?_, fun t h1 h2 => ?_⟩
        · show ∀ t ∈ keysQ s1, _
          rw [hkeys]; exact J.keys
        · by_cases e : k = h
          · subst e
            have : (tickS s1 k).r k = 0 := upd_same _ _ _
            exact absurd this hk
          · have h5 : (tickS s1 h).r k = s1.r k := upd_far _ _ e
            have h6 : (tickS s1 h).n k = s1.n k := upd_far _ _ e
            rw [h5, hrk k e] at hk
            show (tickS s1 h).n k = []
            rw [h6, hnk k e]; exact J.run k hk
        · rcases hold t h1 h2 with e | ⟨k, p, ek, h3, h4⟩ | ⟨p, h3, h4⟩
          · exact .inl e
          · have h6 : (tickS s1 h).n k = s1.n k := upd_far _ _ ek
            exact .inr ⟨k, p, by show ((tickS s1 h).n k)[p]? = _; rw [h6, hnk k ek]; exact h3, h4⟩
          · right
            refine ⟨h, p, ?_, by rw [if_pos (by omega)]; exact h4⟩
            have h6 : (tickS s1 h).n h = l ++ [x] := by
              show upd s1.n h _ h = _
              rw [upd_same, hnh, hrh]
            show ((tickS s1 h).n h)[p]? = _
            have hpl := (List.getElem?_eq_some_iff.1 h3).1
            rw [h6, List.getElem?_append_left hpl]
            exact h3
  · have e0 : nextF s h = (s, 0, false) := next_no o (.inr (.inl (by rw [Int.toNat_natCast]; exact hr)))
    have hn := J.run h hr
    have e1 : runningF s h = s.r h := by unfold runningF; rw [if_pos hb, Int.toNat_natCast]
    have e2 : tickF s h = (s, false) := by unfold tickF; rw [if_pos (.inr (.inr (by rw [Int.toNat_natCast]; exact hn)))]
    rw [e0]
    simp only []
    rw [e1, e2]
    have hw := (o.wr h).1
    have hkey := J.keys _ (o.key.2 ⟨h, by omega, .inl rfl⟩)
    refine ⟨(s.r h).toNat, by omega, by omega, J.keys, J.run, fun t h1 h2 => ?_⟩
    rcases J.ahead t h1 h2 with e | ⟨k, p, h3, h4⟩
    · left
      by_cases et : t = (s.r h).toNat
      · rw [et, upd_same]
      · rw [upd_far _ _ et]; exact e
    · have hkh : k ≠ h := by rintro rfl; rw [hn] at h3; simp at h3
      exact .inr ⟨k, p, h3, bump hkh h4⟩

/-- The next thread is put. -/
theorem put_next {s : RQ} (o : OkQ s) {k : Nat} (hk : k < 60) {x : Int} (hx : hasQ s x = true) (hr : ∀ h, s.r h = 0) (hl : s.O.length = k) (hks : ∀ t, t ∈ keysQ s ↔ 1 ≤ t ∧ t ≤ (k : Int)) :
    ∃ s', putF s x ((k : Int) + 1) = (s', 0) ∧ s'.H = s.H ∧ (∀ h, s'.r h = 0) ∧ s'.O.length = k + 1 ∧ ∀ t, t ∈ keysQ s' ↔ 1 ≤ t ∧ t ≤ ((k + 1 : Nat) : Int) := by
  have hn : (k : Int) + 1 ∉ keysQ s := fun hm => by have := (hks _).1 hm; omega
  refine ⟨putS s x.toNat ((k : Int) + 1), ?_, rfl, hr, ?_, fun t => ?_⟩
  · unfold putF
    rw [if_neg (by rw [hx]; simp; omega), if_neg hn, if_neg (by omega)]
  · show (s.O ++ [_]).length = k + 1
    rw [List.length_append, hl]; rfl
  · show t ∈ (s.O ++ [((k : Int) + 1, ((x.toNat : Nat) : Int))]).map (fun p : Int × Int => p.1) ↔ _
    rw [List.map_append, List.mem_append]
    simp only [List.map_cons, List.map_nil, List.mem_singleton]
    have := hks t
    unfold keysQ at this
    rw [this]
    omega
end Go.Proofs.Ytdinndpeoankdaa
