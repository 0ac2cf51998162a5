/-
  The document's own run queues (parapetref11): Tick whole; Remove whole.
-/
import Derived.Test.YtdinndpeoankdaaRq11Tick
namespace Go.Proofs.Ytdinndpeoankdaa
open Go.ChangeShapes Go.WideShapes Go.ChangeAt Go.RowKit Go.Maps
set_option linter.unusedVariables false
section
variable {w w' w1 w5 : World} {gx hx : Nat} {s s' s2 : RQ} {xs : Nat → Value} {S : List Nat} {v5 : Value} {zs : List Int}
theorem xTick_no (X : IsX w gx hx s xs) (o : OkQ s) (h : Int) (hn : hasQ s h = false ∨ s.r h.toNat = 0 ∨ s.n h.toNat = []) :
    Calls Try.prog 17 #[.pointer (some ⟨gx, 0, none⟩), .int .i64 h] w fun e w' => e = .returned (.bool false) ∧ DidX w w' gx hx s.H xs s := by
  have HH := hide (xhart_is X h)
  have HX := hide (X.sameX (Only.refl [] w))
  by_cases hb : hasQ s h = false
  · rw [hb] at HH
    clear X o hn hb
    go_enter Try.func17, Try.ntmps17
    go_wp2_with (go_at_call 35; refine HH.out.mono ?_; rintro e w' ⟨rfl, rfl⟩)
    go_ret
    exact ⟨rfl, HX.out⟩
  · have hb' : hasQ s h = true := by simpa using hb
    rw [hb'] at HH
    obtain ⟨k, rfl, hk⟩ := hasQ_nat hb'
    have c0 := X.cT
    have cr := X.cR hk
    obtain ⟨A, c, hv, cn, _⟩ := X.form hk
    have hhi : (k : Int) < s.H := by omega
    by_cases hr : s.r k = 0
    · rw [hr] at cr
      clear X o hn hb hb' hr hv
      go_enter Try.func17, Try.ntmps17
      go_wp2_with (go_at_call 35; refine HH.out.mono ?_; rintro e w' ⟨rfl, rfl⟩)
      go_ret
      exact ⟨rfl, HX.out⟩
    · have hne : s.n k = [] := by
        rcases hn with h | h | h
        · rw [hb'] at h; cases h
        · exact absurd (by simpa using h) hr
        · simpa using h
      have hx0 : (s.r k == 0) = false := by simp [hr]
      rw [show (s.n k).length = 0 by rw [hne]; rfl] at cn
      generalize s.r k = x at *
      clear X o hn hb hb' hr hv hne
      go_enter Try.func17, Try.ntmps17
      go_wp2_with (go_at_call 35; refine HH.out.mono ?_; rintro e w' ⟨rfl, rfl⟩)
      go_ret
      exact ⟨rfl, HX.out⟩
theorem xTick_is (X : IsX w gx hx s xs) (o : OkQ s) (h : Int) :
    Calls Try.prog 17 #[.pointer (some ⟨gx, 0, none⟩), .int .i64 h] w fun e w' => e = .returned (.bool (tickF s h).2) ∧ DidX w w' gx hx s.H xs (tickF s h).1 := by
  unfold tickF
  by_cases hn : hasQ s h = false ∨ s.r h.toNat = 0 ∨ s.n h.toNat = []
  · rw [if_pos hn]
    exact xTick_no X o h hn
  · rw [if_neg hn]
    have hb : hasQ s h = true := by
      cases e : hasQ s h with
      | true => rfl
      | false => exact absurd (.inl e) hn
    obtain ⟨k, rfl, hk⟩ := hasQ_nat hb
    exact xTick_ok X o k hk (fun e => hn (.inr (.inl e))) (fun e => hn (.inr (.inr e)))
theorem xRemove_is (X : IsX w gx hx s xs) (o : OkQ s) (t : Int) :
    Calls Try.prog 21 #[.pointer (some ⟨gx, 0, none⟩), .int .i64 t] w fun e w' => e = .returned (.bool (removeF s t).2) ∧ DidX w w' gx hx s.H xs (removeF s t).1 := by
  unfold removeF
  by_cases hk : t ∈ keysQ s
  · rw [if_pos hk]
    obtain ⟨k, ha⟩ := o.key.1 hk
    rw [whereQ_is o ha]
    by_cases hr : s.r k = t
    · exact xRemove_run X o k t ha hr
    · exact xRemove_queue X o k t ha hr
  · rw [if_neg hk]
    refine (xRemove_no X o t hk).mono ?_
    rintro e w' ⟨rfl, rfl⟩
    exact ⟨rfl, X.sameX (Only.refl _ _)⟩
end
end Go.Proofs.Ytdinndpeoankdaa
