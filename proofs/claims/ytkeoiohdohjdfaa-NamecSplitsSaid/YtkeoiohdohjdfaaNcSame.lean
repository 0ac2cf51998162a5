/-
  The law's own comparison of two rows of texts (parapet/parapetlaw19): sameTexts; 'NamecSplits'.
-/
import Derived.Test.YtkeoiohdohjdfaaNcRef2
import Derived.Test.YtkeoiohdohjdfaaNcLives
namespace Go.Proofs.Ytkeoiohdohjdfaa
open Go.ChangeShapes Go.WideShapes Go.ChangeAt Go.RowKit
set_option linter.unusedVariables false
set_option linter.unusedSimpArgs false
section
variable {w w' : World} {B B' : Nat} {v v' : Value} {ss zs : List ByteArray} {S : List Nat}
set_option maxRecDepth 100000 in
/-- Two rows of the same texts. -/
theorem same_is (h : TRw w B v ss) (h' : TRw w B' v' ss) (hn : ss.length ≤ 1000000) : Calls Try.prog 9 #[v, v'] w fun e w' => e = .returned (.bool true) ∧ Only [] w w' := by
  obtain ⟨A, cap, rfl, hA⟩ := h.form
  obtain ⟨A', cap', rfl, hA'⟩ := h'.form
  have HA := hide hA
  have HA' := hide hA'
  clear hA hA' h h'
  go_enter Try.func9, Try.ntmps9
  go_wp2_with fail
  go_loopw [5] (fun iv wr => ∃ i : Nat, i ≤ ss.length ∧ iv = .int .i64 i ∧ Only [] w wr) (fun iv _ => ss.length - (intOf iv).toNat)
  case atStart => exact ⟨0, Nat.zero_le _, rfl, by repeat (first | exact Only.refl _ _ | apply Only.drew | apply Only.drewN)⟩
  case round =>
    obtain ⟨i, hi, rfl, ho⟩ := hrel
    have HO := hide ho
    clear ho
    by_cases hlt : i < ss.length
    · have hltI : (i : Int) < ss.length := by omega
      obtain ⟨x, hx⟩ : ∃ x, ss[i]? = some x := ⟨_, List.getElem?_eq_getElem hlt⟩
      obtain ⟨b, rfl, _, hb, hc⟩ := HA.out (by omega)
      obtain ⟨b', rfl, _, hb', hc'⟩ := HA'.out (by omega)
      have c1 : wr.cell? ⟨b, i, none⟩ = some (.string x) := (HO.out.cell hb (by simp)).trans (hc i x hx)
      have c2 : wr.cell? ⟨b', i, none⟩ = some (.string x) := (HO.out.cell hb' (by simp)).trans (hc' i x hx)
      clear hc hc' hb hb' hx
      go_wp2_with fail
      go_region
      go_wp2
      go_roundw
      case rel => exact ⟨i + 1, hlt, by go_num, HO.out.trans (by repeat (first | exact Only.refl _ _ | apply Only.drew | apply Only.drewN))⟩
      case measure => simp [intOf]; omega
    · go_wp2
      go_ret
      exact ⟨rfl, HO.out⟩
set_option maxRecDepth 100000 in
set_option maxHeartbeats 1000000 in
/-- 'NamecSplits', walked. -/
theorem namecSplits_walk (s : ByteArray) (w : World) : Calls Try.prog 3 #[.string s] w fun e w' => e = .returned (.bool true) ∧ Below w.heap.size w w' := by
  have HS := hide (fun W => ncSplit_is s W)
  have HX := hide (fun W => xSplit_is s W)
  have HL := hide (fun W => lives_is W)
  cases hs : splitP s with
  | none =>
    have HS1 := hide (fun W => show Calls Try.prog 6 #[.string s] W fun e w' => e = .returned (.tuple #[.slice none 0 0, .int .i64 190]) ∧ Only [] W w' from (HS.out W).mono (fun e w' h => by unfold SplitR at h; rw [hs] at h; exact h))
    have HX1 := hide (fun W => show Calls Try.prog 7 #[.string s] W fun e w' => e = .returned (.tuple #[.slice none 0 0, .int .i64 190]) ∧ Only [] W w' from (HX.out W).mono (fun e w' h => by unfold RefR at h; rw [← splitP_eq, hs] at h; exact h))
    have HM := hide (fun W => same_is (B := 0) (B' := 0) (TRw.nil W 0) (TRw.nil W 0) (by simp))
    clear HS HX hs
    go_enter Try.func3, Try.ntmps3
    go_wp2_with (first | (go_at_call 6; refine (HS1.out _).mono ?_; rintro e w1 ⟨rfl, ho1⟩; have HO1 := hide ho1; clear ho1) | (go_at_call 7; refine (HX1.out _).mono ?_; rintro e w2 ⟨rfl, ho2⟩; have HO2 := hide ho2; clear ho2) | (go_at_call 8; refine (HL.out _).mono ?_; rintro e w3 ⟨rfl, ho3⟩; have HO3 := hide ho3; clear ho3) | (go_at_call 9; refine (HM.out _).mono ?_; rintro e w4 ⟨rfl, ho4⟩; have HO4 := hide ho4; clear ho4))
    go_ret
    exact ⟨rfl, (HO1.out.trans (HO2.out.trans (HO3.out.trans HO4.out))).below (Nat.le_refl _) (by simp)⟩
  | some ns =>
    have HS1 := hide (fun W => show Calls Try.prog 6 #[.string s] W fun e w' => ∃ v, e = .returned (.tuple #[v, .int .i64 0]) ∧ TRw w' W.heap.size v ns ∧ Only [] W w' from (HS.out W).mono (fun e w' h => by unfold SplitR at h; rw [hs] at h; exact h))
    have HX1 := hide (fun W => show Calls Try.prog 7 #[.string s] W fun e w' => ∃ v, e = .returned (.tuple #[v, .int .i64 0]) ∧ TRw w' W.heap.size v ns ∧ Only [] W w' from (HX.out W).mono (fun e w' h => by unfold RefR at h; rw [← splitP_eq, hs] at h; exact h))
    have hlen : ns.length ≤ 1000000 := by
      have h1 := hs
      unfold splitP at h1
      split at h1
      · cases h1
      · split at h1
        · cases h1
        · rename_i h2 h3
          injection h1 with h1
          rw [← h1]
          omega
    have HM := hide (fun (W : World) (B B' : Nat) (v v' : Value) (h : TRw W B v ns) (h' : TRw W B' v' ns) => same_is h h' hlen)
    clear HS HX hs hlen
    go_enter Try.func3, Try.ntmps3
    go_wp2_with (first | (go_at_call 6; refine (HS1.out _).mono ?_; rintro e w1 ⟨v1, rfl, hv1, ho1⟩; have HO1 := hide ho1; have HV1 := hide hv1; clear ho1 hv1) | (go_at_call 7; refine (HX1.out _).mono ?_; rintro e w2 ⟨v2, rfl, hv2, ho2⟩; have HO2 := hide ho2; have HV2 := hide hv2; clear ho2 hv2) | (go_at_call 8; refine (HL.out _).mono ?_; rintro e w3 ⟨rfl, ho3⟩; have HO3 := hide ho3; clear ho3) | (go_at_call 9; refine (HM.out _ _ _ _ _ (HV1.out.only (HO2.out.trans HO3.out) (by simp)) (HV2.out.only HO3.out (by simp))).mono ?_; rintro e w4 ⟨rfl, ho4⟩; have HO4 := hide ho4; clear ho4))
    go_ret
    exact ⟨rfl, (HO1.out.trans (HO2.out.trans (HO3.out.trans HO4.out))).below (Nat.le_refl _) (by simp)⟩
end
end Go.Proofs.Ytkeoiohdohjdfaa
