/-
  Calls: the document's Number.
-/
import Derived.Test.YtccobbfinmlgdaaDoorCaNumber
namespace Go.Proofs.YtccobbfinmlgdaaDoor
open Go.ChangeShapes Go.WideShapes Go.ChangeAt Go.RowKit
set_option linter.unusedVariables false
set_option linter.unusedSimpArgs false

theorem xnumF_at {s : ByteArray} {i : Nat} {e : EN} (h : xentL[i]? = some e) (hi : 0 < i) (he : e.nm = s) (hno : ∀ (j : Nat) (x : EN), j < i → 0 < j → xentL[j]? = some x → x.nm ≠ s) : numF s = (i : Int) := by
  obtain ⟨k, rfl⟩ : ∃ k, i = k + 1 := ⟨i - 1, by omega⟩
  have := numF_at (s := s) (i := k) (e := e) h he (fun j x hj hx => hno (j + 1) x (by omega) (by omega) hx)
  rw [this]
  simp
theorem xnumF_no {s : ByteArray} (hno : ∀ (j : Nat) (x : EN), j < 31 → 0 < j → xentL[j]? = some x → x.nm ≠ s) : numF s = 0 := by
  refine numF_no (fun x hx => ?_)
  obtain ⟨j, hj, e⟩ := List.mem_iff_getElem.1 hx
  have hl : entL.length = 30 := rfl
  exact hno (j + 1) x (by omega) (by omega) (by show entL[j]? = some x; rw [List.getElem?_eq_getElem hj, e])
set_option maxRecDepth 100000 in
set_option maxHeartbeats 2000000 in
theorem xnumber_is (s : ByteArray) (w : World) : Calls Tryd.prog 19 #[.string s] w fun e w' => e = .returned (.tuple #[.int .i64 (numF s), .bool (decide (1 ≤ numF s))]) ∧ Only [] w w' := by
  have HL := hide (show xentL.length = 31 from rfl)
  have HF := hide (fun (i : Nat) (e : EN) (h : xentL[i]? = some e) (hi : 0 < i) (he : e.nm = s) (hno) => xnumF_at h hi he hno)
  have HN := hide (fun hno => xnumF_no (s := s) hno)
  go_enter Tryd.func19, Tryd.ntmps19
  go_wp2_with fail
  refine (xcalls_is _).mono ?_
  rintro e w1 ⟨t, rfl, ht, ho⟩
  obtain ⟨tb, rfl, hB, htb, hg⟩ := ht.get
  rw [HL.out]
  have HO1 := hide ho
  have HA := hide (fun (W : World) (ho : Only [] w1 W) (i : Nat) (e : EN) (hk : xentL[i]? = some e) => (show ∃ A c, W.cell? ⟨tb, i * 3, none⟩ = some (.string e.nm) ∧ W.cell? ⟨tb, i * 3 + 1, none⟩ = some (.int .i64 e.cnt) ∧ W.cell? ⟨tb, i * 3 + 2, none⟩ = some (.slice A e.ks.length c) from by
    obtain ⟨v, c0, c1, c2, hv⟩ := hg i e hk
    obtain ⟨A, c, rfl, -⟩ := KRow.form hv
    rw [Nat.mul_comm] at c0 c1 c2
    exact ⟨A, c, (ho.cell htb (by simp)).trans c0, (ho.cell htb (by simp)).trans c1, (ho.cell htb (by simp)).trans c2⟩))
  clear ht ho hB htb hg
  generalize xentL = O at *
  go_wp2_with fail
  go_loopw [8] (fun iv wr => ∃ i : Nat, i ≤ 31 ∧ iv = .int .i64 i ∧ Only [] w1 wr ∧ ∀ (j : Nat) (x : EN), j < i → 0 < j → O[j]? = some x → x.nm ≠ s) (fun iv _ => 31 - (intOf iv).toNat)
  case atStart => exact ⟨0, Nat.zero_le _, rfl, Only.refl _ _, fun j x hj => absurd hj (by omega)⟩
  case round =>
    obtain ⟨i, hi, rfl, ho, hno⟩ := hrel
    have HO := hide ho
    have HNO := hide hno
    clear ho hno
    by_cases hlt : i < 31
    · obtain ⟨e, hk⟩ : ∃ k, O[i]? = some k := ⟨_, List.getElem?_eq_getElem (by rw [HL.out]; exact hlt)⟩
      have hltI : (i : Int) < 31 := by omega
      obtain ⟨A, c, c0, c1, c2⟩ := HA.out wr HO.out i e hk
      have HK := hide hk
      have HOx := hide (fun o => HO.out.alloc o)
      clear hk
      by_cases h0 : 0 < i
      · have hb0 : 0 < (i : Int) := by omega
        by_cases hd : e.nm = s
        · have hs := str_beqD e.nm s (r := true) (by simp [hd])
          have HI := hide (HF.out i e HK.out h0 hd HNO.out)
          clear hd h0
          generalize e.cnt = ct at *
          generalize e.ks.length = kl at *
          generalize e.nm = nm at *
          go_wp2
          go_ret2
          exact ⟨by rw [HI.out, decide_eq_true (show 1 ≤ (i : Int) by omega)]; rfl, HO1.out.trans (HOx.out _)⟩
        · have hs := str_beqD e.nm s (r := false) (by simp [hd])
          have HD := hide hd
          clear hd h0
          generalize e.cnt = ct at *
          generalize e.ks.length = kl at *
          generalize hnm : e.nm = nm at *
          have HM := hide hnm
          clear hnm
          go_wp2
          go_roundw
          case rel =>
            refine ⟨i + 1, hlt, by go_num, HOx.out _, fun j x hj hj0 hx => ?_⟩
            rcases Nat.lt_or_ge j i with e' | e'
            · exact HNO.out j x e' hj0 hx
            · have : j = i := by omega
              subst this
              rw [HK.out] at hx
              injection hx with hx
              subst hx
              rw [HM.out]
              exact HD.out
          case measure => simp [intOf]; omega
      · have hb0 : decide (0 < (i : Int)) = false := by simp; omega
        have H0 := hide h0
        clear h0
        generalize e.cnt = ct at *
        generalize e.ks.length = kl at *
        generalize e.nm = nm at *
        go_wp2
        go_roundw
        case rel =>
          refine ⟨i + 1, hlt, by go_num, HOx.out _, fun j x hj hj0 hx => absurd hj0 (by have := H0.out; omega)⟩
        case measure => simp [intOf]; omega
    · obtain rfl : i = 31 := by omega
      have HI := hide (HN.out HNO.out)
      go_wp2
      go_ret2
      exact ⟨by rw [HI.out]; rfl, HO1.out.trans HO.out⟩
end Go.Proofs.YtccobbfinmlgdaaDoor
