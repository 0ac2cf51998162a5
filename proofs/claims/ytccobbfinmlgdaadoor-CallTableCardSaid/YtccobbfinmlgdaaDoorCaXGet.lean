/-
  The document's calls (parapet/parapetref26): Get, Bound, Most.
-/
import Derived.Test.YtccobbfinmlgdaaDoorCaMost
namespace Go.Proofs.YtccobbfinmlgdaaDoor
open Go.ChangeShapes Go.WideShapes Go.ChangeAt Go.RowKit
set_option linter.unusedVariables false

set_option maxRecDepth 100000 in
theorem xget_is (n : Int) (w : World) : Calls Tryd.prog 9 #[.int .i64 n] w fun e w' => ∃ v, e = .returned (.agg #[.string (entF n).nm, .int .i64 (entF n).cnt, v]) ∧ KR w' w.heap.size v (entF n).ks ∧ Only [] w w' := by
  go_enter Tryd.func9, Tryd.ntmps9
  go_wp2_with fail
  have HB := hide (Blk.new w 25 #[.string .empty, .int .i64 0, .slice none 0 0])
  have HO := hide ((Only.refl [] w).alloc (.cells #[.string .empty, .int .i64 0, .slice none 0 0] 25))
  refine (xcalls_is _).mono ?_
  rintro e w1 ⟨t, rfl, ht, ho⟩
  obtain ⟨tb, rfl, hB, htb, hg⟩ := ht.get
  have X := hide (HB.out.only ho (by simp))
  have HO1 := hide (HO.out.trans ho)
  have e0 : xentL.length = 31 := rfl
  rw [e0]
  by_cases h : 1 ≤ n ∧ n ≤ 30
  · obtain ⟨v, c0, c1, c2, hv⟩ := hg _ _ (xentF_yes h)
    obtain ⟨A, c, rfl, -⟩ := KRow.form hv
    generalize hks : (entF n).ks = ks at *
    generalize hkl : ks.length = kl at *
    have HV := hide (hv.low (show w.heap.size ≤ _ from ((Only.refl [] w).alloc _).size))
    have HV2 := hide (fun q (hq : (Value.slice A kl c).ownBlock = some q) => show w.heap.size < q by
      have h := (hv.at_ hq).1
      simp at h
      omega)
    rw [Nat.mul_comm] at c0 c1 c2
    generalize hnm : (entF n).nm = nm at *
    generalize hct : (entF n).cnt = ct at *
    have HNM := hide hnm
    have HCT := hide hct
    have HKS := hide hks
    have f1 : decide (n < 1) = false := by simp; omega
    have f2 : n < 31 := by omega
    have f3 : 0 ≤ n := by omega
    have f4 : decide (31 ≤ n) = false := by simp; omega
    clear ht ho hB htb hg hv e0 h hnm hct hks hkl
    go_wp2_with (refine e3_store T3.xcall _ _ nm ct _ rfl (by rfl) X.out rfl rfl ?_)
    refine bodyPost_ret (e3_results T3.xcall rfl rfl (X.out.row _)) rfl ?_
    rw [HNM.out, HCT.out, HKS.out]
    exact ⟨_, rfl, HV.out.only ((Only.refl [w.heap.size] w1).setRow (g := w.heap.size) _ (by simp)) (fun q hq hm => by
      have := HV2.out q hq
      simp at hm
      omega), HO1.out.setRow _ (fun hm => by omega)⟩
  · have HE := hide (entF_no h)
    by_cases h1 : n < 1
    · clear ht ho hB htb hg e0 h
      go_wp2_with (refine e3_store T3.xcall _ _ ⟨#[]⟩ 0 _ rfl (by rfl) X.out rfl rfl ?_)
      refine bodyPost_ret (e3_results T3.xcall rfl rfl (X.out.row _)) rfl ?_
      rw [HE.out]
      exact ⟨_, rfl, KR.nil _ _, HO1.out.setRow _ (fun hm => by omega)⟩
    · have f1 : decide (n < 1) = false := by simpa using h1
      have f4 : 31 ≤ n := by omega
      clear ht ho hB htb hg e0 h h1
      go_wp2_with (refine e3_store T3.xcall _ _ ⟨#[]⟩ 0 _ rfl (by rfl) X.out rfl rfl ?_)
      refine bodyPost_ret (e3_results T3.xcall rfl rfl (X.out.row _)) rfl ?_
      rw [HE.out]
      exact ⟨_, rfl, KR.nil _ _, HO1.out.setRow _ (fun hm => by omega)⟩
theorem fieldX0 (nm : ByteArray) (cnt : Int) (A : Option Addr) (n c : Nat) (u : World) : (Instr.field 25 (.agg #[.string nm, .int .i64 cnt, .slice A n c]) 0).run Tryd.prog u = .ok (.string nm) u := by kernel_rfl
theorem fieldX2 (nm : ByteArray) (cnt : Int) (A : Option Addr) (n c : Nat) (u : World) : (Instr.field 25 (.agg #[.string nm, .int .i64 cnt, .slice A n c]) 2).run Tryd.prog u = .ok (.slice A n c) u := by kernel_rfl
set_option maxRecDepth 100000 in
theorem xbound_is (n : Int) (w : World) : Calls Tryd.prog 14 #[.int .i64 n] w fun e w' => e = .returned (.int .i64 (bytesF (entF n).ks)) ∧ Only [] w w' := by
  have HF := hide (fun w => xget_is n w)
  have HL := hide (entF_len n)
  have hf := fieldX2
  generalize (entF n).ks = ks at *
  generalize (entF n).nm = nm at *
  generalize (entF n).cnt = ct at *
  go_enter Tryd.func14, Tryd.ntmps14
  go_wp2_with (go_at_call 9; refine (HF.out _).mono ?_; rintro e w1 ⟨v, rfl, h1, h2⟩; obtain ⟨A, c, rfl, hc⟩ := KRow.form h1; have HC := hide hc; have HO := hide h2; clear h1 h2 hc)
  rename_i A c w1
  clear HF hf
  go_loopw [10, 3] (fun iv sv wr => ∃ i : Nat, i ≤ ks.length ∧ iv = .int .i64 i ∧ sv = .int .i64 (bytesF (ks.take i)) ∧ Only [] w1 wr) (fun iv _ _ => ks.length - (intOf iv).toNat)
  case atStart => exact ⟨0, Nat.zero_le _, rfl, rfl, Only.refl _ _⟩
  case round =>
    obtain ⟨i, hi, rfl, rfl, ho⟩ := hrel
    have HOr := hide ho
    by_cases hlt : i < ks.length
    · have hltI : (i : Int) < ks.length := by omega
      obtain ⟨b, rfl, hB, hb, hcell⟩ := HC.out (by omega)
      have hcl := (ho.cell hb (by simp)).trans (hcell i hlt)
      have HS := hide (fun w => xsize_is (gb ks i) w)
      have hbd := bytesF_bd (ks.take i)
      have hsz := szF_bd (gb ks i)
      have hlen := HL.out
      have hll : (ks.take i).length ≤ 19 := by rw [List.length_take]; omega
      have hw : IntKind.i64.wrap (bytesF (ks.take i) + szF (gb ks i)) = bytesF (ks.take i) + szF (gb ks i) := by rw [IntKind.wrap_i64]; omega
      have HE := hide (show bytesF (ks.take (i + 1)) = bytesF (ks.take i) + szF (gb ks i) by
        rw [List.take_add_one, List.getElem?_eq_getElem hlt]
        have : gb ks i = ks[i] := by simp [gb, List.getD, List.getElem?_eq_getElem hlt]
        rw [this]
        exact bytesF_snoc _ _)
      generalize bytesF (ks.take i) = S at *
      generalize szF (gb ks i) = Z at *
      generalize gb ks i = K at *
      have hi19 : (i : Int) ≤ 19 := by omega
      clear hcell hB hb hbd hsz hlen hll ho
      go_wp2_with (go_at_call 32; refine (HS.out _).mono ?_; rintro e w' ⟨rfl, h2⟩; have HO2 := hide (HOr.out.trans h2); clear h2)
      go_roundw
      case rel => exact ⟨i + 1, hlt, by go_num, by rw [HE.out], HO2.out⟩
      case measure => simp [intOf]; omega
    · obtain rfl : i = ks.length := by omega
      rw [List.take_length]
      clear ho
      go_wp2
      go_ret
      exact ⟨rfl, HO.out.trans HOr.out⟩
set_option maxRecDepth 100000 in
theorem xmost_is (w : World) : Calls Tryd.prog 16 #[] w fun e w' => e = .returned (.int .i64 (mostN 30)) ∧ Only [] w w' := by
  have HB := hide (fun n w => xbound_is n w)
  go_enter Tryd.func16, Tryd.ntmps16
  go_wp2_with fail
  go_loopw [2, 1] (fun iv sv wr => ∃ i : Nat, i ≤ 30 ∧ iv = .int .i64 ((i : Int) + 1) ∧ sv = .int .i64 (mostN i) ∧ Only [] w wr) (fun iv _ _ => 31 - (intOf iv).toNat)
  case atStart => exact ⟨0, Nat.zero_le _, rfl, rfl, Only.refl _ _⟩
  case round =>
    obtain ⟨i, hi, rfl, rfl, ho⟩ := hrel
    have HOr := hide ho
    by_cases hlt : i < 30
    · have hltI : (i : Int) + 1 ≤ 30 := by omega
      have hw : IntKind.i64.wrap ((i : Int) + 1 + 1) = ((i + 1 : Nat) : Int) + 1 := by rw [IntKind.wrap_i64]; omega
      have HS := hide (fun w => HB.out ((i : Int) + 1) w)
      have HE := hide (show mostN (i + 1) = max (mostN i) (bytesF (entF ((i : Int) + 1)).ks) from rfl)
      generalize bytesF (entF ((i : Int) + 1)).ks = Z at *
      generalize mostN i = S at *
      clear ho
      go_wp2_with (go_at_call 14; refine (HS.out _).mono ?_; rintro e w2 ⟨rfl, h2⟩; have HO2 := hide (HOr.out.trans h2); clear h2)
      go_roundw
      case rel => exact ⟨i + 1, hlt, (by first | rfl | go_num | simp), by rw [HE.out], HO2.out⟩
      case measure => simp [intOf]; omega
    · obtain rfl : i = 30 := by omega
      have f : ¬ ((30 : Nat) : Int) + 1 ≤ 30 := by omega
      clear ho
      go_wp2
      go_ret
      exact ⟨rfl, HOr.out⟩
end Go.Proofs.YtccobbfinmlgdaaDoor
