/-
  Calls (parapet/call): find, Name, Count, Kinds, Bound, Most; the document's Get, Bound, Most.
-/
import Derived.Test.YtccobbfinmlgdaaDoorCaTab
import Derived.Test.YtccobbfinmlgdaaDoorCaXTab
import Derived.Test.YtccobbfinmlgdaaDoorCaBase
namespace Go.Proofs.YtccobbfinmlgdaaDoor
open Go.ChangeShapes Go.WideShapes Go.ChangeAt Go.RowKit
set_option linter.unusedVariables false

/-- The call of a number; one without a name, if there is none. -/
def entF (n : Int) : EN := if 1 ≤ n ∧ n ≤ 30 then entL.getD (n - 1).toNat ⟨⟨#[]⟩, 0, []⟩ else ⟨⟨#[]⟩, 0, []⟩
theorem entF_no {n : Int} (h : ¬ (1 ≤ n ∧ n ≤ 30)) : entF n = ⟨⟨#[]⟩, 0, []⟩ := if_neg h
theorem entF_yes {n : Int} (h : 1 ≤ n ∧ n ≤ 30) : entL[(n - 1).toNat]? = some (entF n) := by
  unfold entF
  rw [if_pos h]
  have hl : (n - 1).toNat < entL.length := by have : entL.length = 30 := rfl; omega
  generalize (n - 1).toNat = i at *
  simp [List.getD, List.getElem?_eq_getElem hl]
theorem xentF_yes {n : Int} (h : 1 ≤ n ∧ n ≤ 30) : xentL[n.toNat]? = some (entF n) := by
  have e : n.toNat = (n - 1).toNat + 1 := by omega
  rw [e]
  show entL[(n - 1).toNat]? = _
  exact entF_yes h
/-- A record of the table. -/
theorem Tab.get {T : TypeId} {w : World} {B : Nat} {t : Value} {l : List EN} (h : Tab T w B t l) : ∃ tb, t = .slice (some ⟨tb, 0, none⟩) l.length l.length ∧ B ≤ tb ∧ tb < w.heap.size ∧ ∀ (i : Nat) (e : EN), l[i]? = some e → ∃ v,
    w.cell? ⟨tb, 3 * i, none⟩ = some (.string e.nm) ∧ w.cell? ⟨tb, 3 * i + 1, none⟩ = some (.int .i64 e.cnt) ∧ w.cell? ⟨tb, 3 * i + 2, none⟩ = some v ∧ KR w B v e.ks := by
  obtain ⟨tb, vs, rfl, hB, hb, hl, hr⟩ := h
  refine ⟨tb, rfl, hB, hb.lt, fun i e he => ?_⟩
  have hi : i < l.length := (List.getElem?_eq_some_iff.1 he).1
  have hv : vs[i]? = some vs[i] := List.getElem?_eq_getElem (by omega)
  obtain ⟨h0, h1, h2⟩ := flatE_get l vs i e _ he hv
  refine ⟨vs[i], ?_, ?_, ?_, hr (vs[i], e.ks) ?_⟩
  · rw [hb.cell]; simpa using h0
  · rw [hb.cell]; simpa using h1
  · rw [hb.cell]; simpa using h2
  · refine List.mem_of_getElem? (i := i) ?_
    rw [List.getElem?_zip_eq_some]
    exact ⟨hv, by simp [he]⟩
set_option maxRecDepth 100000 in
theorem cfind_is (n : Int) (w : World) : Calls Tryd.prog 31 #[.int .i64 n] w fun e w' => ∃ v, e = .returned (.agg #[.string (entF n).nm, .int .i64 (entF n).cnt, v]) ∧ KR w' w.heap.size v (entF n).ks ∧ Only [] w w' := by
  by_cases h : 1 ≤ n ∧ n ≤ 30
  · obtain ⟨h1, h2⟩ := h
    have HY := hide (fun w => cisCall_yes (w := w) n h1 h2)
    have HE := hide (entF_yes ⟨h1, h2⟩)
    have hw : IntKind.i64.wrap (n - 1) = n - 1 := by rw [IntKind.wrap_i64]; omega
    go_enter Tryd.func31, Tryd.ntmps31
    go_wp2_with (first | (go_at_call 36; refine (HY.out _).mono ?_; rintro e w' ⟨rfl, rfl⟩))
    have HB := hide (Blk.new w 54 #[.string .empty, .int .i64 0, .slice none 0 0])
    have HO := hide ((Only.refl [] w).alloc (.cells #[.string .empty, .int .i64 0, .slice none 0 0] 54))
    refine (ctable_is _).mono ?_
    rintro e w1 ⟨t, rfl, ht, ho⟩
    obtain ⟨tb, rfl, hB, htb, hg⟩ := ht.get
    obtain ⟨v, c0, c1, c2, hv⟩ := hg _ _ HE.out
    obtain ⟨A, c, rfl, -⟩ := KRow.form hv
    generalize hks : (entF n).ks = ks at *
    generalize hkl : ks.length = kl at *
    have HV := hide (hv.low (show w.heap.size ≤ _ from ((Only.refl [] w).alloc _).size))
    have HV2 := hide (fun q (hq : (Value.slice A kl c).ownBlock = some q) => show w.heap.size < q by
      have h := (hv.at_ hq).1
      simp at h
      omega)
    have X := hide (HB.out.only ho (by simp))
    have HO1 := hide (HO.out.trans ho)
    rw [Nat.mul_comm, show (n - 1).toNat = n.toNat - 1 by omega] at c0 c1 c2
    generalize hnm : (entF n).nm = nm at *
    generalize hct : (entF n).cnt = ct at *
    have HNM := hide hnm
    have HCT := hide hct
    have HKS := hide hks
    have e0 : entL.length = 30 := rfl
    rw [e0]
    have f1 : 0 ≤ n - 1 := by omega
    have f2 : n - 1 < 30 := by omega
    have hne : tb ≠ w.heap.size := by have := hB; simp at this; omega
    clear ht ho hB htb hg hv e0 h1 h2 hnm hct hks hkl
    go_wp2_with (refine e3_store T3.entry _ _ nm ct _ rfl (by rfl) X.out rfl rfl ?_)
    refine bodyPost_ret (e3_results T3.entry rfl rfl (X.out.row _)) rfl ?_
    rw [HNM.out, HCT.out, HKS.out]
    exact ⟨_, rfl, HV.out.only ((Only.refl [w.heap.size] w1).setRow (g := w.heap.size) _ (by simp)) (fun q hq hm => by
      have := HV2.out q hq
      simp at hm
      omega), HO1.out.setRow _ (fun hm => by omega)⟩
  · have HY := hide (fun w => cisCall_no (w := w) n h)
    have HE := hide (entF_no h)
    clear h
    go_enter Tryd.func31, Tryd.ntmps31
    go_wp2_with (first | (go_at_call 36; refine (HY.out _).mono ?_; rintro e w' ⟨rfl, rfl⟩))
    refine bodyPost_ret (e3_results T3.entry rfl rfl (Blk.new w 54 #[.string .empty, .int .i64 0, .slice none 0 0])) rfl ?_
    rw [HE.out]
    exact ⟨.slice none 0 0, rfl, KR.nil _ _, (Only.refl [] w).alloc _⟩
theorem fieldE0 (nm : ByteArray) (cnt : Int) (A : Option Addr) (n c : Nat) (u : World) : (Instr.field 54 (.agg #[.string nm, .int .i64 cnt, .slice A n c]) 0).run Tryd.prog u = .ok (.string nm) u := by kernel_rfl
theorem fieldE1 (nm : ByteArray) (cnt : Int) (A : Option Addr) (n c : Nat) (u : World) : (Instr.field 54 (.agg #[.string nm, .int .i64 cnt, .slice A n c]) 1).run Tryd.prog u = .ok (.int .i64 cnt) u := by kernel_rfl
theorem fieldE2 (nm : ByteArray) (cnt : Int) (A : Option Addr) (n c : Nat) (u : World) : (Instr.field 54 (.agg #[.string nm, .int .i64 cnt, .slice A n c]) 2).run Tryd.prog u = .ok (.slice A n c) u := by kernel_rfl
set_option maxRecDepth 100000 in
theorem cname_is (n : Int) (w : World) : Calls Tryd.prog 11 #[.int .i64 n] w fun e w' => e = .returned (.string (entF n).nm) ∧ Only [] w w' := by
  have HF := hide (fun w => cfind_is n w)
  have hf := fieldE0
  generalize (entF n).nm = nm at *
  generalize (entF n).cnt = ct at *
  go_enter Tryd.func11, Tryd.ntmps11
  go_wp2_with (go_at_call 31; refine (HF.out _).mono ?_; rintro e w1 ⟨v, rfl, h1, h2⟩; obtain ⟨A, c, rfl, -⟩ := KRow.form h1; have HO := hide h2; clear h1 h2)
  go_ret
  exact ⟨rfl, HO.out⟩
set_option maxRecDepth 100000 in
theorem ccount_is (n : Int) (w : World) : Calls Tryd.prog 12 #[.int .i64 n] w fun e w' => e = .returned (.int .i64 (entF n).cnt) ∧ Only [] w w' := by
  have HF := hide (fun w => cfind_is n w)
  have hf := fieldE1
  generalize (entF n).nm = nm at *
  generalize (entF n).cnt = ct at *
  go_enter Tryd.func12, Tryd.ntmps12
  go_wp2_with (go_at_call 31; refine (HF.out _).mono ?_; rintro e w1 ⟨v, rfl, h1, h2⟩; obtain ⟨A, c, rfl, -⟩ := KRow.form h1; have HO := hide h2; clear h1 h2)
  go_ret
  exact ⟨rfl, HO.out⟩
set_option maxRecDepth 100000 in
theorem ckinds_is (n : Int) (w : World) : Calls Tryd.prog 10 #[.int .i64 n] w fun e w' => ∃ v, e = .returned v ∧ KR w' w.heap.size v (entF n).ks ∧ Only [] w w' := by
  have HF := hide (fun w => cfind_is n w)
  have hf := fieldE2
  generalize (entF n).ks = ks at *
  generalize (entF n).nm = nm at *
  generalize (entF n).cnt = ct at *
  go_enter Tryd.func10, Tryd.ntmps10
  go_wp2_with (go_at_call 31; refine (HF.out _).mono ?_; rintro e w1 ⟨v, rfl, h1, h2⟩; obtain ⟨A, c, rfl, -⟩ := KRow.form h1; have HO := hide h2; have HV := hide h1; clear h1 h2)
  go_ret
  exact ⟨_, rfl, HV.out, HO.out⟩
/-- The bytes of the kinds. -/
def bytesF (ks : List Int) : Int := (ks.map szF).sum
theorem szF_bd (k : Int) : 0 ≤ szF k ∧ szF k ≤ 576 := by
  unfold szF
  split
  · rename_i h
    have hx : ∀ n : Nat, n < 11 → 0 ≤ szL.getD n 0 ∧ szL.getD n 0 ≤ 576 := by decide +kernel
    exact hx k.toNat (by omega)
  · omega
theorem bytesF_bd (ks : List Int) : 0 ≤ bytesF ks ∧ bytesF ks ≤ 576 * ks.length := by
  induction ks with
  | nil => simp [bytesF]
  | cons k l ih =>
    have := szF_bd k
    simp only [bytesF, List.map_cons, List.sum_cons, List.length_cons] at ih ⊢
    omega
theorem bytesF_snoc (l : List Int) (k : Int) : bytesF (l ++ [k]) = bytesF l + szF k := by simp [bytesF]
theorem entF_len (n : Int) : (entF n).ks.length ≤ 19 := by
  by_cases h : 1 ≤ n ∧ n ≤ 30
  · have hx : ∀ i : Nat, i < 30 → (entL.getD i ⟨⟨#[]⟩, 0, []⟩).ks.length ≤ 19 := by decide +kernel
    unfold entF
    rw [if_pos h]
    exact hx _ (by omega)
  · rw [entF_no h]; simp
set_option maxRecDepth 100000 in
theorem cbound_is (n : Int) (w : World) (hT : TabS w) : Calls Tryd.prog 13 #[.int .i64 n] w fun e w' => e = .returned (.int .i64 (bytesF (entF n).ks)) ∧ Only [] w w' := by
  have HF := hide (fun w => ckinds_is n w)
  have HL := hide (entF_len n)
  generalize (entF n).ks = ks at *
  go_enter Tryd.func13, Tryd.ntmps13
  go_wp2_with (go_at_call 10; refine (HF.out _).mono ?_; rintro e w1 ⟨v, rfl, h1, h2⟩; obtain ⟨A, c, rfl, hc⟩ := KRow.form h1; have HC := hide hc; have HO := hide h2; clear h1 h2 hc)
  rename_i A c w1
  have HTT := hide hT
  clear hT HF
  go_loopw [9, 3] (fun iv sv wr => ∃ i : Nat, i ≤ ks.length ∧ iv = .int .i64 i ∧ sv = .int .i64 (bytesF (ks.take i)) ∧ wr = w1) (fun iv _ _ => ks.length - (intOf iv).toNat)
  case atStart => exact ⟨0, Nat.zero_le _, rfl, rfl, rfl⟩
  case round =>
    obtain ⟨i, hi, rfl, rfl, rfl⟩ := hrel
    by_cases hlt : i < ks.length
    · have hltI : (i : Int) < ks.length := by omega
      obtain ⟨b, rfl, hB, hb, hcell⟩ := HC.out (by omega)
      have hcl := hcell i hlt
      have HS := hide (hSize_is (HTT.out.only HO.out (by simp)) (gb ks i))
      have hbd := bytesF_bd (ks.take i)
      have hsz := szF_bd (gb ks i)
      have hlen := HL.out
      have hll : (ks.take i).length ≤ 19 := by rw [List.length_take]; omega
      have hw : IntKind.i64.wrap (bytesF (ks.take i) + szF (gb ks i)) = bytesF (ks.take i) + szF (gb ks i) := by rw [IntKind.wrap_i64]; omega
      have HE := hide (show bytesF (ks.take (i + 1)) = bytesF (ks.take i) + szF (gb ks i) by
        rw [List.take_add_one, List.getElem?_eq_getElem hlt]
        have : gb ks i = ks[i] := by simp [gb, List.getD, List.getElem?_eq_getElem hlt]
        rw [this]
        exact bytesF_snoc _ _)
      generalize bytesF (ks.take i) = S at *
      generalize szF (gb ks i) = Z at *
      generalize gb ks i = K at *
      have hi19 : (i : Int) ≤ 19 := by omega
      clear hcell hB hb hbd hsz hlen hll
      go_wp2_with (go_at_call 17; refine HS.out.mono ?_; rintro e w' ⟨rfl, rfl⟩)
      go_roundw
      case rel => exact ⟨i + 1, hlt, by go_num, by rw [HE.out], by trivial⟩
      case measure => simp [intOf]; omega
    · obtain rfl : i = ks.length := by omega
      rw [List.take_length]
      go_wp2
      go_ret
      exact ⟨rfl, HO.out⟩
end Go.Proofs.YtccobbfinmlgdaaDoor
