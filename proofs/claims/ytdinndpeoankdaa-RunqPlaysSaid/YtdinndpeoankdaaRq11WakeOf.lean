/-
  The document's own run queues (parapetref11): Wake, given Put.
-/
import Derived.Test.YtdinndpeoankdaaRq11PutNo
namespace Go.Proofs.Ytdinndpeoankdaa
open Go.ChangeShapes Go.WideShapes Go.ChangeAt Go.RowKit Go.Maps
set_option linter.unusedVariables false
section
variable {w w' w1 w5 : World} {gx hx : Nat} {s s' : RQ} {xs : Nat → Value} {S : List Nat}
set_option maxHeartbeats 1000000 in
theorem xWake_of (X : IsX w gx hx s xs) (o : OkQ s) (t : Int)
    (hP : ∀ h : Int, Calls Try.prog 13 #[.pointer (some ⟨gx, 0, none⟩), .int .i64 h, .int .i64 t] w fun e w' => e = .returned (.int .i64 (putF s h t).2) ∧ DidX w w' gx hx s.H xs (putF s h t).1) :
    Calls Try.prog 15 #[.pointer (some ⟨gx, 0, none⟩), .int .i64 t] w fun e w' => e = .returned (.tuple #[.int .i64 (wakeF s t).2.1, .int .i64 (wakeF s t).2.2]) ∧ DidX w w' gx hx s.H xs (wakeF s t).1 := by
  have c0 := X.cT
  have HL := hide (fun h hh => xlong_is X o h hh)
  have H8 := hide o.h8
  have H1 := hide o.h1
  have HP := hide (hP (idleQ s s.H))
  have HE := hide (putF_err (s := s) (h := idleQ s s.H) (t := t))
  have hw1 : wakeF s t = if (putF s (idleQ s s.H) t).2 = 0 then ((putF s (idleQ s s.H) t).1, (idleQ s s.H : Int), 0) else (s, 0, (putF s (idleQ s s.H) t).2) := rfl
  have HR1 := hide (show (putF s (idleQ s s.H) t).2 = 0 → wakeF s t = ((putF s (idleQ s s.H) t).1, (idleQ s s.H : Int), 0) from fun h => by rw [hw1, if_pos h])
  have HR2 := hide (show (putF s (idleQ s s.H) t).2 ≠ 0 → wakeF s t = (s, 0, (putF s (idleQ s s.H) t).2) from fun h => by rw [hw1, if_neg h])
  clear hw1
  generalize wakeF s t = rr at *
  generalize putF s (idleQ s s.H) t = p at *
  clear X o hP
  go_enter Try.func15, Try.ntmps15
  go_wp2_with fail
  go_loopw [6, 7] (fun lv iv wr => ∃ i b : Nat, 1 ≤ i ∧ i ≤ s.H ∧ iv = .int .i64 i ∧ lv = .int .i64 b ∧ b = idleQ s i ∧ wr = w) (fun _ iv _ => s.H - (intOf iv).toNat)
  case atStart => exact ⟨1, 0, Nat.le_refl _, H1.out, rfl, rfl, by simp [idleQ], rfl⟩
  case round =>
    obtain ⟨i, b, hi1, hi, rfl, rfl, hB, rfl⟩ := hrel
    by_cases hlt : i < s.H
    · have hb := idleQ_lt s i
      rw [← hB] at hb
      have h8 := H8.out
      have hltI : (i : Int) < s.H := by omega
      have hbH : b < s.H := by omega
      have HEQ := hide (show idleQ s (i + 1) = if loadQ s i < loadQ s b then i else b from hB ▸ rfl)
      clear hb hB
      by_cases hc : loadQ s i < loadQ s b
      · rw [if_pos hc] at HEQ
        go_wp2_with (go_at_call 38; refine (HL.out _ (by assumption)).mono ?_; rintro e w' ⟨rfl, rfl⟩)
        go_roundw
        case rel => exact ⟨i + 1, i, by omega, hlt, by go_num, rfl, HEQ.out.symm, trivial⟩
        case measure => simp [intOf]; omega
      · rw [if_neg hc] at HEQ
        go_wp2_with (go_at_call 38; refine (HL.out _ (by assumption)).mono ?_; rintro e w' ⟨rfl, rfl⟩)
        go_roundw
        case rel => exact ⟨i + 1, b, by omega, hlt, by go_num, rfl, HEQ.out.symm, trivial⟩
        case measure => simp [intOf]; omega
    · obtain rfl : i = s.H := by omega
      subst hB
      obtain ⟨p1, p2⟩ := p
      by_cases hp : p2 = 0
      · subst hp
        clear HE HR2
        go_wp2_with (go_at_call 13; refine HP.out.mono ?_; rintro e w' ⟨rfl, hd⟩; have HD := hide hd; clear hd)
        go_ret2
        rw [HR1.out (by trivial)]
        exact ⟨rfl, HD.out⟩
      · have hs := HE.out hp
        have hr := HR2.out hp
        have HRR := hide hr
        clear hr HR1 HR2
        have hp2 : (p2 != 0) = true := by simpa using hp
        have HS := hide hs
        clear hs hp HE
        go_wp2_with (go_at_call 13; refine HP.out.mono ?_; rintro e w' ⟨rfl, hd⟩; have HD := hide hd; clear hd)
        go_ret2
        rw [HRR.out]
        refine ⟨rfl, ?_⟩
        have := HD.out
        rwa [show p1 = s from HS.out] at this
end
end Go.Proofs.Ytdinndpeoankdaa
