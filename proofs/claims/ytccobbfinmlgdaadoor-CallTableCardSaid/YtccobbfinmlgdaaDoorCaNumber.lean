/-
  Calls: Number of the program and of the document.
-/
import Derived.Test.YtccobbfinmlgdaaDoorCaErr
namespace Go.Proofs.YtccobbfinmlgdaaDoor
open Go.ChangeShapes Go.WideShapes Go.ChangeAt Go.RowKit
set_option linter.unusedVariables false
set_option linter.unusedSimpArgs false

/-- The first call of a name, from 1 on; 0: none. -/
def numF (s : ByteArray) : Int := ((entL.findIdx? (fun e => decide (e.nm = s))).map (fun i => (i : Int) + 1)).getD 0
theorem numF_no {s : ByteArray} (h : ∀ x ∈ entL, x.nm ≠ s) : numF s = 0 := by
  have : entL.findIdx? (fun e => decide (e.nm = s)) = none := List.findIdx?_eq_none_iff.2 (fun x hx => by simpa using h x hx)
  unfold numF
  rw [this]
  rfl
theorem numF_at {s : ByteArray} {i : Nat} {e : EN} (h : entL[i]? = some e) (he : e.nm = s) (hno : ∀ (j : Nat) (x : EN), j < i → entL[j]? = some x → x.nm ≠ s) : numF s = (i : Int) + 1 := by
  have hi : i < entL.length := (List.getElem?_eq_some_iff.1 h).1
  have : entL.findIdx? (fun e => decide (e.nm = s)) = some i := by
    rw [List.findIdx?_eq_some_iff_getElem]
    refine ⟨hi, by rw [(List.getElem?_eq_some_iff.1 h).2]; simpa using he, fun j hj => ?_⟩
    have := hno j (entL[j]'(by omega)) hj (List.getElem?_eq_getElem (by omega))
    simpa using this
  unfold numF
  rw [this]
  rfl
theorem str_beqD (a b : ByteArray) {r : Bool} (h : decide (a = b) = r) : (a.toList == b.toList) = r := by rw [str_beqC, h]
section
variable {w : World} {s : ByteArray} {bx : Nat}
theorem cnf_is (m : ByteArray) (ct : Int) (A : Option Addr) (n c : Nat) (h : w.cell? ⟨bx, 0, none⟩ = some (.string s)) {r : Bool} (hr : decide (m = s) = r) : Calls Tryd.prog 35 #[.agg #[.string m, .int .i64 ct, .slice A n c], .pointer (some ⟨bx, 0, none⟩)] w fun e w' => e = .returned (.bool r) ∧ Only [] w w' := by
  have hbl := World.block_lt_of_cell? w ⟨bx, 0, none⟩ h
  have HO := hide ((Only.refl [] w).alloc (.cells #[.string m, .int .i64 ct, .slice A n c] 54))
  have HB := hide (Blk.new w 54 #[.string m, .int .i64 ct, .slice A n c])
  have c0 : (w.alloc (.cells #[.string m, .int .i64 ct, .slice A n c] 54)).cell? ⟨bx, 0, none⟩ = some (.string s) := (HO.out.cell hbl (by simp)).trans h
  have b0 : (w.alloc (.cells #[.string m, .int .i64 ct, .slice A n c] 54)).cell? ⟨w.heap.size, 0, none⟩ = some (.string m) := HB.out.cell 0
  have hs := str_beqD m s hr
  clear h hr
  go_enter Tryd.func35, Tryd.ntmps35
  go_wp2
  go_ret
  exact ⟨rfl, by have := HO.out; repeat (first | exact this | apply Only.drew | apply Only.drewN)⟩
set_option maxRecDepth 100000 in
set_option maxHeartbeats 1000000 in
/-- The first call of that name. -/
theorem idxEntry_is {t : Value} {B : Nat} (hT : Tab 54 w B t entL) (hc : w.cell? ⟨bx, 0, none⟩ = some (.string s)) :
    Calls Tryd.prog 34 #[t, .func (.func 35) #[] #[.pointer (some ⟨bx, 0, none⟩)]] w fun e w' => e = .returned (.int .i64 (numF s - 1)) ∧ Only [] w w' := by
  have hbl := World.block_lt_of_cell? w ⟨bx, 0, none⟩ hc
  have HL := hide (show entL.length = 30 from rfl)
  obtain ⟨tb, rfl, hB, htb, hg⟩ := hT.get
  rw [HL.out]
  have HA := hide (fun (W : World) (ho : Only [] w W) (i : Nat) (e : EN) (hk : entL[i]? = some e) => (show ∃ A c, W.cell? ⟨tb, i * 3, none⟩ = some (.string e.nm) ∧ W.cell? ⟨tb, i * 3 + 1, none⟩ = some (.int .i64 e.cnt) ∧ W.cell? ⟨tb, i * 3 + 2, none⟩ = some (.slice A e.ks.length c) from by
    obtain ⟨v, c0, c1, c2, hv⟩ := hg i e hk
    obtain ⟨A, c, rfl, -⟩ := KRow.form hv
    rw [Nat.mul_comm] at c0 c1 c2
    exact ⟨A, c, (ho.cell htb (by simp)).trans c0, (ho.cell htb (by simp)).trans c1, (ho.cell htb (by simp)).trans c2⟩))
  have HC := hide (fun (W : World) (ho : Only [] w W) (m : ByteArray) (ct : Int) (A : Option Addr) (n c : Nat) (r : Bool) (hr : decide (m = s) = r) => cnf_is (s := s) m ct A n c ((ho.cell hbl (by simp)).trans hc) hr)
  have HF := hide (fun (i : Nat) (e : EN) (h : entL[i]? = some e) (he : e.nm = s) (hno) => numF_at h he hno)
  have HN := hide (fun (h : ∀ x ∈ entL, x.nm ≠ s) => numF_no h)
  clear hT hc hbl hB htb hg
  generalize entL = O at *
  go_enter Tryd.func34, Tryd.ntmps34
  go_wp2_with fail
  go_loopw [8] (fun iv wr => ∃ i : Nat, i ≤ 30 ∧ iv = .int .i64 i ∧ Only [] w wr ∧ ∀ (j : Nat) (x : EN), j < i → O[j]? = some x → x.nm ≠ s) (fun iv _ => 30 - (intOf iv).toNat)
  case atStart => exact ⟨0, Nat.zero_le _, rfl, by repeat (first | exact Only.refl _ _ | apply Only.drew | apply Only.drewN), fun j x hj => absurd hj (by omega)⟩
  case round =>
    obtain ⟨i, hi, rfl, ho, hno⟩ := hrel
    have HO := hide ho
    have HNO := hide hno
    clear ho hno
    by_cases hlt : i < 30
    · obtain ⟨e, hk⟩ : ∃ k, O[i]? = some k := ⟨_, List.getElem?_eq_getElem (by rw [HL.out]; exact hlt)⟩
      have hltI : (i : Int) < 30 := by omega
      obtain ⟨A, c, c0, c1, c2⟩ := HA.out wr HO.out i e hk
      have HK := hide hk
      clear hk
      by_cases hd : e.nm = s
      · have HCK := hide (HC.out wr HO.out e.nm e.cnt A e.ks.length c true (by simp [hd]))
        have HD := hide hd
        clear hd
        generalize e.cnt = ct at *
        generalize e.ks.length = kl at *
        go_wp2_with (go_at_call 35; refine HCK.out.mono ?_; rintro e w2 ⟨rfl, ho2⟩; have HO2 := hide ho2; clear ho2)
        go_ret
        exact ⟨by rw [HF.out i e HK.out HD.out HNO.out, show (i : Int) + 1 - 1 = i by omega]; rfl, HO.out.trans HO2.out⟩
      · have HCK := hide (HC.out wr HO.out e.nm e.cnt A e.ks.length c false (by simp [hd]))
        have HD := hide hd
        clear hd
        generalize e.cnt = ct at *
        generalize e.ks.length = kl at *
        go_wp2_with (go_at_call 35; refine HCK.out.mono ?_; rintro e w2 ⟨rfl, ho2⟩; have HO2 := hide ho2; clear ho2)
        go_roundw
        case rel =>
          refine ⟨i + 1, hlt, by go_num, HO.out.trans HO2.out, fun j x hj hx => ?_⟩
          rcases Nat.lt_or_ge j i with e | e
          · exact HNO.out j x e hx
          · have : j = i := by omega
            subst this
            rw [HK.out] at hx
            injection hx with hx
            subst hx
            exact HD.out
        case measure => simp [intOf]; omega
    · obtain rfl : i = 30 := by omega
      have h22 := HN.out (fun x hx => by
        obtain ⟨j, hj, e⟩ := List.mem_iff_getElem.1 hx
        exact HNO.out j x (by have := HL.out; omega) (by rw [List.getElem?_eq_getElem hj, e]))
      have HH := hide h22
      clear h22
      go_wp2
      go_ret
      exact ⟨by rw [HH.out]; rfl, HO.out⟩
end
theorem numF_bd (s : ByteArray) : 0 ≤ numF s ∧ numF s ≤ 30 := by
  unfold numF
  cases h : entL.findIdx? (fun e => decide (e.nm = s)) with
  | none => simp
  | some i =>
    have := (List.findIdx?_eq_some_iff_getElem.1 h).1
    have e : entL.length = 30 := rfl
    simp
    omega
set_option maxRecDepth 100000 in
theorem cnumber_is (s : ByteArray) (w : World) : Calls Tryd.prog 18 #[.string s] w fun e w' => e = .returned (.tuple #[.int .i64 (numF s), .bool (decide (1 ≤ numF s))]) ∧ Only [] w w' := by
  have HI := hide (fun (W : World) (t : Value) (hT : Tab 54 W (w.heap.size + 1) t entL) (hc : W.cell? ⟨w.heap.size, 0, none⟩ = some (.string s)) => idxEntry_is hT hc)
  have hb := numF_bd s
  generalize numF s = k at *
  have e1 : IntKind.i64.wrap (k - 1 + 1) = k := by rw [IntKind.wrap_i64]; omega
  have HE := hide (show decide (0 ≤ k - 1) = decide (1 ≤ k) by congr 1; apply propext; omega)
  go_enter Tryd.func18, Tryd.ntmps18
  go_wp2_with fail
  refine (ctable_is _).mono ?_
  rintro e w1 ⟨t, rfl, ht, ho⟩
  have hsz : (w.alloc (.cells #[.string s] 9)).heap.size = w.heap.size + 1 := by simp
  rw [hsz] at ht
  have HT := hide ht
  have HX := hide (((Blk.new w 9 #[.string s]).only ho (by simp)))
  have HO := hide (((Only.refl [] w).alloc _).trans ho)
  clear ht ho hsz
  go_wp2_with fail
  refine (HI.out w1 t HT.out (HX.out.cell 0)).mono ?_
  rintro e w2 ⟨rfl, o2⟩
  have HO2 := hide (HO.out.trans o2)
  clear o2
  go_wp2
  go_ret2
  exact ⟨by rw [← HE.out]; rfl, HO2.out⟩
end Go.Proofs.YtccobbfinmlgdaaDoor
