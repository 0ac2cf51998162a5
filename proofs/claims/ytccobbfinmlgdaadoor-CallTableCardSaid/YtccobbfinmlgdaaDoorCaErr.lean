/-
  Calls: Errno of the program and of the document; the walk of 'CallErrors'.
-/
import Derived.Test.YtccobbfinmlgdaaDoorCaTells
namespace Go.Proofs.YtccobbfinmlgdaaDoor
open Go.ChangeShapes Go.WideShapes Go.ChangeAt Go.RowKit
set_option linter.unusedVariables false
set_option linter.unusedSimpArgs false

def errL : List (Int × Int) := [(0, 0), (4, 2), (240, 3), (241, 3), (230, 8), (220, 9), (221, 9), (2, 12), (51, 14), (5, 16), (181, 17), (191, 20), (200, 21), (173, 27), (172, 28), (201, 31), (210, 32), (3, 36), (260, 38), (202, 39), (211, 11)]
/-- The number by which an error is told. -/
def errF (e : Int) : Int := ((errL.find? (fun p => p.1 == e)).map (·.2)).getD 22
theorem errF_at {i : Nat} {e n : Int} (h : errL[i]? = some (e, n)) : errF e = n := by
  have hx : ∀ i : Nat, i < 21 → errF (errL.getD i (0, 0)).1 = (errL.getD i (0, 0)).2 := by decide +kernel
  have hi : i < errL.length := (List.getElem?_eq_some_iff.1 h).1
  have := hx i hi
  simpa [List.getD, h] using this
theorem errF_no {e : Int} (h : ∀ x ∈ errL, x.1 ≠ e) : errF e = 22 := by
  have : errL.find? (fun p => p.1 == e) = none := List.find?_eq_none.2 (fun x hx => by simpa using h x hx)
  unfold errF
  rw [this]
  rfl
def flatP : List (Int × Int) → List Value
  | [] => []
  | (n, s) :: l => .int .i64 n :: .int .i64 s :: flatP l
def partsP : Nat → List (Int × Int) → List (Nat × Value)
  | _, [] => []
  | i, (n, s) :: l => (i, .agg #[.int .i64 n, .int .i64 s]) :: partsP (i + 1) l
theorem fillP : ∀ (l : List (Int × Int)) (i : Nat) (pre suf : List Value), pre.length = 2 * i → suf.length = 2 * l.length →
    Instr.fill (fun i => some (i * 2, 2)) (pre ++ suf).toArray (partsP i l) = some (pre ++ flatP l).toArray
  | [], i, pre, suf, h2, h3 => by
    have : suf = [] := List.eq_nil_of_length_eq_zero (by simpa using h3)
    subst this
    simp [partsP, Instr.fill, flatP]
  | (n, s) :: l, i, pre, suf, h2, h3 => by
    match suf, h3 with
    | a :: b :: suf, h3 =>
      have ih := fillP l (i + 1) (pre ++ [Value.int .i64 n, Value.int .i64 s]) suf (by simp; omega) (by simp at h3; omega)
      have e1 : ¬ (pre.length + (suf.length + 1 + 1) < i * 2 + 2) := by omega
      simp only [partsP, Instr.fill, Value.cells]
      have e2 : ((pre ++ a :: b :: suf).toArray.setIfInBounds (i * 2 + 0) (Value.int .i64 n)).setIfInBounds (i * 2 + 1) (Value.int .i64 s) = (pre ++ [Value.int .i64 n, Value.int .i64 s] ++ suf).toArray := by
        have hp : i * 2 = pre.length := by omega
        rw [hp]
        simp [List.setIfInBounds_toArray]
      simp [e1]
      simp at e2
      rw [e2]
      simpa [flatP] using ih
    | [], h3 => simp at h3
    | [a], h3 => simp at h3; omega
theorem info_pair : (Tryd.prog.info? 70).map (fun i => (i.zero, i.size, i.bytes)) = some (some (.agg #[.int .i64 0, .int .i64 0]), 2, 16) := by kernel_rfl
theorem run_buildP (l : List (Int × Int)) (n : Nat) (hn : l.length = n) (h0 : 0 < n) (h1 : n ≤ 1000) (u : World) :
    (Instr.buildSlice 71 n (partsP 0 l).toArray).run Tryd.prog u = .ok (.slice (some ⟨u.heap.size, 0, none⟩) n n) (u.alloc (.cells (flatP l).toArray 70)) := by
  obtain ⟨i0, hi, hz, hs, -⟩ := info_parts info_pair
  have hf : ∀ cells : Array Value, cells.size = 2 * n → Instr.fill (fun i => some (i * 2, 2)) cells (partsP 0 l) = some (flatP l).toArray := by
    intro cells hc
    have := fillP l 0 [] cells.toList rfl (by simp; omega)
    simpa using this
  have n1 : ¬ (16777216 < n * 2) := by omega
  have n2 : ¬ n * 2 = 0 := by omega
  simp only [Instr.buildSlice]
  simp [run_underlying Tryd.underlying71, sizeOf, typeInfo, hi, hs, n1]
  rw [if_neg n2]
  try simp [zeroValue, typeInfo, hi, hz]
  rw [hf _ (by simp; omega)]
  simp [newRow]
theorem flatP_get : ∀ (l : List (Int × Int)) (i : Nat) (n : Int) (s : Int), l[i]? = some (n, s) → (flatP l)[2 * i]? = some (.int .i64 n) ∧ (flatP l)[2 * i + 1]? = some (.int .i64 s)
  | [], i, n, s, h => by simp at h
  | a :: l, 0, n, s, h => by simp at h; subst h; simp [flatP]
  | (m, t) :: l, i + 1, n, s, h => by
    have := flatP_get l i n s (by simpa using h)
    simpa [flatP, Nat.mul_add, Nat.add_assoc] using this
theorem err_cases (e : Int) : (e = 0 ∨ e = 4 ∨ e = 240 ∨ e = 241 ∨ e = 230 ∨ e = 220 ∨ e = 221 ∨ e = 2 ∨ e = 51 ∨ e = 5 ∨ e = 181 ∨ e = 191 ∨ e = 200 ∨ e = 173 ∨ e = 172 ∨ e = 201 ∨ e = 210 ∨ e = 3 ∨ e = 260 ∨ e = 202 ∨ e = 211) ∨ ((∀ x ∈ errL, x.1 ≠ e) ∧ (e == 0) = false ∧ (e == 4) = false ∧ (e == 240) = false ∧ (e == 241) = false ∧ (e == 230) = false ∧ (e == 220) = false ∧ (e == 221) = false ∧ (e == 2) = false ∧ (e == 51) = false ∧ (e == 5) = false ∧ (e == 181) = false ∧ (e == 191) = false ∧ (e == 200) = false ∧ (e == 173) = false ∧ (e == 172) = false ∧ (e == 201) = false ∧ (e == 210) = false ∧ (e == 3) = false ∧ (e == 260) = false ∧ (e == 202) = false ∧ (e == 211) = false) := by
  by_cases h : e = 0 ∨ e = 4 ∨ e = 240 ∨ e = 241 ∨ e = 230 ∨ e = 220 ∨ e = 221 ∨ e = 2 ∨ e = 51 ∨ e = 5 ∨ e = 181 ∨ e = 191 ∨ e = 200 ∨ e = 173 ∨ e = 172 ∨ e = 201 ∨ e = 210 ∨ e = 3 ∨ e = 260 ∨ e = 202 ∨ e = 211
  · exact .inl h
  · refine .inr ⟨fun x hx => ?_, ?_⟩
    · simp only [errL, List.mem_cons, List.not_mem_nil, or_false] at hx
      rcases hx with rfl | rfl | rfl | rfl | rfl | rfl | rfl | rfl | rfl | rfl | rfl | rfl | rfl | rfl | rfl | rfl | rfl | rfl | rfl | rfl | rfl <;> (simp only; omega)
    · simp only [not_or] at h
      obtain ⟨h0, h4, h240, h241, h230, h220, h221, h2, h51, h5, h181, h191, h200, h173, h172, h201, h210, h3, h260, h202, h211⟩ := h
      exact ⟨by simpa using h0, by simpa using h4, by simpa using h240, by simpa using h241, by simpa using h230, by simpa using h220, by simpa using h221, by simpa using h2, by simpa using h51, by simpa using h5, by simpa using h181, by simpa using h191, by simpa using h200, by simpa using h173, by simpa using h172, by simpa using h201, by simpa using h210, by simpa using h3, by simpa using h260, by simpa using h202, by simpa using h211⟩
set_option maxRecDepth 100000 in
set_option maxHeartbeats 4000000 in
theorem cerrno_is (e : Int) (w : World) : Calls Tryd.prog 27 #[.int .i64 e] w fun x w' => x = .returned (.int .i64 (errF e)) ∧ w = w' := by
  rcases err_cases e with h | ⟨hno, e0, e4, e240, e241, e230, e220, e221, e2, e51, e5, e181, e191, e200, e173, e172, e201, e210, e3, e260, e202, e211⟩
  · rcases h with rfl | rfl | rfl | rfl | rfl | rfl | rfl | rfl | rfl | rfl | rfl | rfl | rfl | rfl | rfl | rfl | rfl | rfl | rfl | rfl | rfl <;> (
      go_enter Tryd.func27, Tryd.ntmps27
      go_wp2
      go_ret
      exact ⟨rfl, rfl⟩)
  · rw [errF_no hno]
    clear hno
    go_enter Tryd.func27, Tryd.ntmps27
    go_wp2
    go_ret
    exact ⟨rfl, rfl⟩
set_option maxRecDepth 100000 in
set_option maxHeartbeats 2000000 in
theorem xerrno_is (e : Int) (w : World) : Calls Tryd.prog 28 #[.int .i64 e] w fun x w' => x = .returned (.int .i64 (errF e)) ∧ Only [] w w' := by
  have HL := hide (show errL.length = 21 from rfl)
  go_enter Tryd.func28, Tryd.ntmps28
  go_wp2_with (refine wpList_buildSlice rfl 71 21 _ rfl _ (by simp [partsP, errL, Act.eval]) _ _ (run_buildP errL 21 rfl (by decide) (by decide) _) ?_)
  have HB := hide (Blk.new w 70 (flatP errL).toArray)
  generalize hW1 : w.alloc (.cells (flatP errL).toArray 70) = w1 at *
  have HO := hide (show Only [] w w1 from hW1 ▸ (Only.refl [] w).alloc _)
  have HA := hide (fun (W : World) (ho : Only [] w1 W) (i : Nat) (m s : Int) (hk : errL[i]? = some (m, s)) => (show W.cell? ⟨w.heap.size, i * 2, none⟩ = some (.int .i64 m) ∧ W.cell? ⟨w.heap.size, i * 2 + 1, none⟩ = some (.int .i64 s) from by
    have hcc := flatP_get errL i m s hk
    rw [Nat.mul_comm] at hcc
    exact ⟨(ho.cell HB.out.lt (by simp)).trans (by rw [HB.out.cell]; simpa using hcc.1), (ho.cell HB.out.lt (by simp)).trans (by rw [HB.out.cell]; simpa using hcc.2)⟩))
  have HF := hide (fun (i : Nat) (m s : Int) (hk : errL[i]? = some (m, s)) => errF_at hk)
  have HN := hide (fun (h : ∀ x ∈ errL, x.1 ≠ e) => errF_no h)
  clear hW1 HB
  generalize errL = O at *
  go_loopw [28] (fun iv wr => ∃ i : Nat, i ≤ 21 ∧ iv = .int .i64 i ∧ Only [] w1 wr ∧ ∀ j x, j < i → O[j]? = some x → x.1 ≠ e) (fun iv _ => 21 - (intOf iv).toNat)
  case atStart => exact ⟨0, Nat.zero_le _, rfl, Only.refl _ _, fun j x hj => absurd hj (by omega)⟩
  case round =>
    obtain ⟨i, hi, rfl, ho, hno⟩ := hrel
    have HOr := hide ho
    have HNO := hide hno
    clear ho hno
    by_cases hlt : i < 21
    · obtain ⟨⟨m, s⟩, hk⟩ : ∃ k, O[i]? = some k := ⟨_, List.getElem?_eq_getElem (by rw [HL.out]; exact hlt)⟩
      have hltI : (i : Int) < 21 := by omega
      obtain ⟨c0, c1⟩ := HA.out wr HOr.out i m s hk
      have HK := hide hk
      have HOx := hide (fun o => HO.out.trans (HOr.out.alloc o))
      have HOy := hide (fun o => HOr.out.alloc o)
      clear hk
      by_cases hd : m = e
      · have hb : (m == e) = true := by simp [hd]
        have HD := hide hd
        clear hd
        go_wp2
        go_ret
        exact ⟨by rw [← HD.out, HF.out i m s HK.out]; rfl, HOx.out _⟩
      · have hb : (m == e) = false := beq_false_of_ne hd
        have HD := hide hd
        clear hd
        go_wp2
        go_roundw
        case rel =>
          refine ⟨i + 1, hlt, by go_num, HOy.out _, fun j x hj hx => ?_⟩
          rcases Nat.lt_or_ge j i with e | e
          · exact HNO.out j x e hx
          · have : j = i := by omega
            subst this
            rw [HK.out] at hx
            injection hx with hx
            subst hx
            exact HD.out
        case measure => simp [intOf]; omega
    · obtain rfl : i = 21 := by omega
      go_wp2
      go_ret
      have h22 := HN.out (fun x hx => by
        obtain ⟨j, hj, e⟩ := List.mem_iff_getElem.1 hx
        exact HNO.out j x (by have := HL.out; omega) (by rw [List.getElem?_eq_getElem hj, e]))
      exact ⟨by rw [h22]; rfl, HO.out.trans HOr.out⟩
theorem errF_some {e : Int} (h : e ≠ 0) : errF e ≠ 0 ∧ wordF (errF e) ≠ ⟨#[]⟩ := by
  rcases err_cases e with hc | ⟨hno, -⟩
  · rcases hc with rfl | rfl | rfl | rfl | rfl | rfl | rfl | rfl | rfl | rfl | rfl | rfl | rfl | rfl | rfl | rfl | rfl | rfl | rfl | rfl | rfl <;> first | exact absurd rfl h | decide +kernel
  · rw [errF_no hno]
    decide +kernel
theorem str_eqb (a : ByteArray) : (a.toList == a.toList) = true := by simp
set_option maxRecDepth 100000 in
set_option maxHeartbeats 2000000 in
theorem callErrors_walk (e n : Int) (w : World) (hT : TabS w) : Calls Tryd.prog 7 #[.int .i64 e, .int .i64 n] w fun x w' => x = .returned (.bool true) ∧ Below w.heap.size w w' := by
  have HA := hide (awake26 w hT)
  have HC := hide (fun w => cerrno_is e w)
  have HX := hide (fun w => xerrno_is e w)
  have HW := hide (fun w => cword_is n w)
  have HV := hide (fun w => xword_is n w)
  have HE := hide (fun w => cword_is (errF e) w)
  by_cases he : e = 0
  · subst he
    have h0 : errF 0 = 0 := by rfl
    rw [h0] at HC HX
    generalize wordF n = wd at *
    clear HE h0 hT
    go_enter Tryd.func7, Tryd.ntmps7
    go_wp2_with fail
    refine HA.out.mono ?_
    rintro x w1 ⟨rfl, o1⟩
    go_wp2_with fail
    refine (HC.out _).mono ?_
    rintro x w2 ⟨rfl, rfl⟩
    go_wp2_with fail
    refine (HX.out _).mono ?_
    rintro x w2 ⟨rfl, o2⟩
    go_wp2_with fail
    refine (HW.out _).mono ?_
    rintro x w3 ⟨rfl, o3⟩
    have HO := hide ((o1.trans o2).trans o3)
    clear o1 o2 o3
    go_wp2_with fail
    refine (HV.out _).mono ?_
    rintro x w4 ⟨rfl, rfl⟩
    go_wp2_with fail
    refine (HC.out _).mono ?_
    rintro x w4 ⟨rfl, rfl⟩
    go_wp2
    go_ret
    exact ⟨rfl, HO.out.below (Nat.le_refl _) (by simp)⟩
  · obtain ⟨h1, h2⟩ := errF_some he
    have b1 : (errF e == 0) = false := beq_false_of_ne h1
    have b2 : (e == 0) = false := beq_false_of_ne he
    have b3 := str_some h2
    generalize wordF (errF e) = we at *
    generalize errF e = q at *
    generalize wordF n = wd at *
    clear he h1 h2 hT
    go_enter Tryd.func7, Tryd.ntmps7
    go_wp2_with fail
    refine HA.out.mono ?_
    rintro x w1 ⟨rfl, o1⟩
    go_wp2_with fail
    refine (HC.out _).mono ?_
    rintro x w2 ⟨rfl, rfl⟩
    go_wp2_with fail
    refine (HX.out _).mono ?_
    rintro x w2 ⟨rfl, o2⟩
    go_wp2_with fail
    refine (HW.out _).mono ?_
    rintro x w3 ⟨rfl, o3⟩
    have O3 := (o1.trans o2).trans o3
    clear o1 o2 o3
    go_wp2_with fail
    refine (HV.out _).mono ?_
    rintro x w4 ⟨rfl, rfl⟩
    go_wp2_with fail
    refine (HC.out _).mono ?_
    rintro x w4 ⟨rfl, rfl⟩
    go_wp2_with fail
    refine (HC.out _).mono ?_
    rintro x w4 ⟨rfl, rfl⟩
    go_wp2_with fail
    refine (HE.out _).mono ?_
    rintro x w5 ⟨rfl, o5⟩
    have HO := hide (O3.trans o5)
    clear O3 o5
    go_wp2
    go_ret
    exact ⟨rfl, HO.out.below (Nat.le_refl _) (by simp)⟩
end Go.Proofs.YtccobbfinmlgdaaDoor
