/-
  Calls: Word of the program and of the document.
-/
import Derived.Test.YtccobbfinmlgdaaDoorCaWord
namespace Go.Proofs.YtccobbfinmlgdaaDoor
open Go.ChangeShapes Go.WideShapes Go.ChangeAt Go.RowKit
set_option linter.unusedVariables false
set_option linter.unusedSimpArgs false

/-- The letters of a number. -/
def wordF (n : Int) : ByteArray := ((wordL.find? (fun p => p.1 == n)).map (·.2)).getD ⟨#[]⟩
theorem wordF_at {i : Nat} {n : Int} {s : ByteArray} (h : wordL[i]? = some (n, s)) : wordF n = s := by
  have hx : ∀ i : Nat, i < 22 → wordF (wordL.getD i (0, ⟨#[]⟩)).1 = (wordL.getD i (0, ⟨#[]⟩)).2 := by decide +kernel
  have hi : i < wordL.length := (List.getElem?_eq_some_iff.1 h).1
  have := hx i hi
  simpa [List.getD, h] using this
theorem wordF_no {n : Int} (h : ∀ x ∈ wordL, x.1 ≠ n) : wordF n = ⟨#[]⟩ := by
  have : wordL.find? (fun p => p.1 == n) = none := List.find?_eq_none.2 (fun x hx => by simpa using h x hx)
  unfold wordF
  rw [this]
  rfl
section
variable {w : World} {n : Int} {bx b : Nat}
theorem cwf_is (m : Int) (s : ByteArray) (h : w.cell? ⟨bx, 0, none⟩ = some (.int .i64 n)) : Calls Tryd.prog 39 #[.agg #[.int .i64 m, .string s], .pointer (some ⟨bx, 0, none⟩)] w fun e w' => e = .returned (.bool (m == n)) ∧ Only [] w w' := by
  have hbl := World.block_lt_of_cell? w ⟨bx, 0, none⟩ h
  have HO := hide ((Only.refl [] w).alloc (.cells #[.int .i64 m, .string s] 66))
  have HB := hide (Blk.new w 66 #[.int .i64 m, .string s])
  have c0 : (w.alloc (.cells #[.int .i64 m, .string s] 66)).cell? ⟨bx, 0, none⟩ = some (.int .i64 n) := (HO.out.cell hbl (by simp)).trans h
  have b0 : (w.alloc (.cells #[.int .i64 m, .string s] 66)).cell? ⟨w.heap.size, 0, none⟩ = some (.int .i64 m) := HB.out.cell 0
  clear h
  go_enter Tryd.func39, Tryd.ntmps39
  go_wp2
  go_ret
  exact ⟨rfl, by have := HO.out; repeat (first | exact this | apply Only.drew | apply Only.drewN)⟩
set_option maxRecDepth 100000 in
set_option maxHeartbeats 1000000 in
/-- The first word of that number. -/
theorem idxWord_is (hB : Blk w b 66 (flatW wordL).toArray) (hc : w.cell? ⟨bx, 0, none⟩ = some (.int .i64 n)) :
    Calls Tryd.prog 37 #[.slice (some ⟨b, 0, none⟩) 22 22, .func (.func 39) #[] #[.pointer (some ⟨bx, 0, none⟩)]] w fun e w' => ((∃ i : Nat, ∃ s, i < 22 ∧ wordL[i]? = some (n, s) ∧ e = .returned (.int .i64 i)) ∨ ((∀ x ∈ wordL, x.1 ≠ n) ∧ e = .returned (.int .i64 (-1)))) ∧ Only [] w w' := by
  have hbl := World.block_lt_of_cell? w ⟨bx, 0, none⟩ hc
  have HL := hide (show wordL.length = 22 from rfl)
  have HA := hide (fun (W : World) (ho : Only [] w W) (i : Nat) (m : Int) (s : ByteArray) (hk : wordL[i]? = some (m, s)) => (show W.cell? ⟨b, i * 2, none⟩ = some (.int .i64 m) ∧ W.cell? ⟨b, i * 2 + 1, none⟩ = some (.string s) from by
    have hcc := flatW_get wordL i m s hk
    rw [Nat.mul_comm] at hcc
    exact ⟨(ho.cell hB.lt (by simp)).trans (by rw [hB.cell]; simpa using hcc.1), (ho.cell hB.lt (by simp)).trans (by rw [hB.cell]; simpa using hcc.2)⟩))
  have HC := hide (fun (W : World) (ho : Only [] w W) (m : Int) (s : ByteArray) => cwf_is (n := n) m s ((ho.cell hbl (by simp)).trans hc))
  clear hB hc hbl
  generalize wordL = O at *
  go_enter Tryd.func37, Tryd.ntmps37
  go_wp2_with fail
  go_loopw [8] (fun iv wr => ∃ i : Nat, i ≤ 22 ∧ iv = .int .i64 i ∧ Only [] w wr ∧ ∀ j x, j < i → O[j]? = some x → x.1 ≠ n) (fun iv _ => 22 - (intOf iv).toNat)
  case atStart => exact ⟨0, Nat.zero_le _, rfl, by repeat (first | exact Only.refl _ _ | apply Only.drew | apply Only.drewN), fun j x hj => absurd hj (by omega)⟩
  case round =>
    obtain ⟨i, hi, rfl, ho, hno⟩ := hrel
    have HO := hide ho
    have HNO := hide hno
    clear ho hno
    by_cases hlt : i < 22
    · obtain ⟨⟨m, s⟩, hk⟩ : ∃ k, O[i]? = some k := ⟨_, List.getElem?_eq_getElem (by rw [HL.out]; exact hlt)⟩
      have hltI : (i : Int) < 22 := by omega
      obtain ⟨c0, c1⟩ := HA.out wr HO.out i m s hk
      have HK := hide hk
      have HCK := hide (HC.out wr HO.out m s)
      have HLT := hide hlt
      clear hk
      by_cases hd : m = n
      · have hb : (m == n) = true := by simp [hd]
        rw [hb] at HCK
        have HD := hide hd
        clear hd hb
        go_wp2_with (go_at_call 39; refine HCK.out.mono ?_; rintro e w2 ⟨rfl, ho2⟩; have HO2 := hide ho2; clear ho2)
        go_ret
        exact ⟨.inl ⟨i, s, HLT.out, by rw [← HD.out]; exact HK.out, rfl⟩, HO.out.trans HO2.out⟩
      · have hb : (m == n) = false := beq_false_of_ne hd
        rw [hb] at HCK
        have HD := hide hd
        clear hd hb
        go_wp2_with (go_at_call 39; refine HCK.out.mono ?_; rintro e w2 ⟨rfl, ho2⟩; have HO2 := hide ho2; clear ho2)
        go_roundw
        case rel =>
          refine ⟨i + 1, hlt, by go_num, HO.out.trans HO2.out, fun j x hj hx => ?_⟩
          rcases Nat.lt_or_ge j i with e | e
          · exact HNO.out j x e hx
          · have : j = i := by omega
            subst this
            rw [HK.out] at hx
            injection hx with hx
            subst hx
            exact HD.out
        case measure => simp [intOf]; omega
    · obtain rfl : i = 22 := by omega
      go_wp2
      go_ret
      refine ⟨.inr ⟨fun x hx => ?_, rfl⟩, HO.out⟩
      obtain ⟨j, hj, e⟩ := List.mem_iff_getElem.1 hx
      exact HNO.out j x (by have := HL.out; omega) (by rw [List.getElem?_eq_getElem hj, e])
end
set_option maxRecDepth 100000 in
theorem cword_is (n : Int) (w : World) : Calls Tryd.prog 26 #[.int .i64 n] w fun e w' => e = .returned (.string (wordF n)) ∧ Only [] w w' := by
  have HI := hide (fun (W : World) (b : Nat) (hB : Blk W b 66 (flatW wordL).toArray) (hc : W.cell? ⟨w.heap.size, 0, none⟩ = some (.int .i64 n)) => idxWord_is hB hc)
  go_enter Tryd.func26, Tryd.ntmps26
  go_wp2_with fail
  refine (cwords_is _).mono ?_
  rintro e w1 ⟨b, rfl, hb, hB, ho⟩
  have HB := hide hB
  have HX := hide (((Blk.new w 3 #[.int .i64 n]).only ho (by simp)))
  have HO := hide (((Only.refl [] w).alloc _).trans ho)
  clear hb hB ho
  go_wp2_with fail
  refine (HI.out w1 b HB.out (HX.out.cell 0)).mono ?_
  rintro e w2 ⟨⟨i, s, hi, hw, rfl⟩ | ⟨hno, rfl⟩, ho⟩
  · have HO2 := hide (HO.out.trans ho)
    have HW := hide hw
    have HI := hide hi
    have hi0 : ¬ (i : Int) < 0 := by omega
    clear ho hw
    go_wp2_with fail
    refine (cwords_is _).mono ?_
    rintro e w3 ⟨b2, rfl, hb2, hB2, ho2⟩
    have hc := (flatW_get wordL i n s HW.out).2
    have c1 : w3.cell? ⟨b2, i * 2 + 1, none⟩ = some (.string s) := by rw [hB2.cell, Nat.mul_comm]; simpa using hc
    have hiI : (i : Int) < 22 := by omega
    have HO3 := hide (HO2.out.trans ho2)
    clear hb2 hB2 ho2 hc hi
    go_wp2
    go_ret
    exact ⟨by rw [wordF_at HW.out]; rfl, HO3.out⟩
  · have HO2 := hide (HO.out.trans ho)
    have HN := hide (wordF_no hno)
    clear ho hno
    go_wp2
    go_ret
    exact ⟨by rw [HN.out]; rfl, HO2.out⟩
theorem word_cases (n : Int) : (n = 2 ∨ n = 3 ∨ n = 8 ∨ n = 9 ∨ n = 10 ∨ n = 11 ∨ n = 12 ∨ n = 14 ∨ n = 16 ∨ n = 17 ∨ n = 20 ∨ n = 21 ∨ n = 22 ∨ n = 23 ∨ n = 24 ∨ n = 27 ∨ n = 28 ∨ n = 31 ∨ n = 32 ∨ n = 36 ∨ n = 38 ∨ n = 39) ∨ ((∀ x ∈ wordL, x.1 ≠ n) ∧ (n == 2) = false ∧ (n == 3) = false ∧ (n == 8) = false ∧ (n == 9) = false ∧ (n == 10) = false ∧ (n == 11) = false ∧ (n == 12) = false ∧ (n == 14) = false ∧ (n == 16) = false ∧ (n == 17) = false ∧ (n == 20) = false ∧ (n == 21) = false ∧ (n == 22) = false ∧ (n == 23) = false ∧ (n == 24) = false ∧ (n == 27) = false ∧ (n == 28) = false ∧ (n == 31) = false ∧ (n == 32) = false ∧ (n == 36) = false ∧ (n == 38) = false ∧ (n == 39) = false) := by
  by_cases h : n = 2 ∨ n = 3 ∨ n = 8 ∨ n = 9 ∨ n = 10 ∨ n = 11 ∨ n = 12 ∨ n = 14 ∨ n = 16 ∨ n = 17 ∨ n = 20 ∨ n = 21 ∨ n = 22 ∨ n = 23 ∨ n = 24 ∨ n = 27 ∨ n = 28 ∨ n = 31 ∨ n = 32 ∨ n = 36 ∨ n = 38 ∨ n = 39
  · exact .inl h
  · refine .inr ⟨fun x hx => ?_, ?_⟩
    · simp only [wordL, List.mem_cons, List.not_mem_nil, or_false] at hx
      rcases hx with rfl | rfl | rfl | rfl | rfl | rfl | rfl | rfl | rfl | rfl | rfl | rfl | rfl | rfl | rfl | rfl | rfl | rfl | rfl | rfl | rfl | rfl <;> (simp only; omega)
    · simp only [not_or] at h
      obtain ⟨h2, h3, h8, h9, h10, h11, h12, h14, h16, h17, h20, h21, h22, h23, h24, h27, h28, h31, h32, h36, h38, h39⟩ := h
      exact ⟨by simpa using h2, by simpa using h3, by simpa using h8, by simpa using h9, by simpa using h10, by simpa using h11, by simpa using h12, by simpa using h14, by simpa using h16, by simpa using h17, by simpa using h20, by simpa using h21, by simpa using h22, by simpa using h23, by simpa using h24, by simpa using h27, by simpa using h28, by simpa using h31, by simpa using h32, by simpa using h36, by simpa using h38, by simpa using h39⟩
set_option maxRecDepth 100000 in
set_option maxHeartbeats 4000000 in
theorem xword_is (n : Int) (w : World) : Calls Tryd.prog 29 #[.int .i64 n] w fun e w' => e = .returned (.string (wordF n)) ∧ w = w' := by
  rcases word_cases n with h | ⟨hno, e2, e3, e8, e9, e10, e11, e12, e14, e16, e17, e20, e21, e22, e23, e24, e27, e28, e31, e32, e36, e38, e39⟩
  · rcases h with rfl | rfl | rfl | rfl | rfl | rfl | rfl | rfl | rfl | rfl | rfl | rfl | rfl | rfl | rfl | rfl | rfl | rfl | rfl | rfl | rfl | rfl <;> (
      go_enter Tryd.func29, Tryd.ntmps29
      go_wp2
      go_ret
      exact ⟨rfl, rfl⟩)
  · rw [wordF_no hno]
    clear hno
    go_enter Tryd.func29, Tryd.ntmps29
    go_wp2
    go_ret
    exact ⟨rfl, rfl⟩
end Go.Proofs.YtccobbfinmlgdaaDoor
