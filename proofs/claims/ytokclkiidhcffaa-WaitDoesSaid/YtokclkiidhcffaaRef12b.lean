/-
  The document's sleepers (parapetref12): Cancel, Wake.
-/
import Derived.Test.YtokclkiidhcffaaRef12a
namespace Go.Proofs.Ytokclkiidhcffaa
open Go.ChangeShapes Go.WideShapes Go.ChangeAt Go.RowKit Go.Maps
set_option linter.unusedVariables false
theorem seats_new (w : World) (l : List SE) (hl : 0 < l.length) : SeatsAt (w.alloc (.cells (flatE l).toArray 40)) (.slice (some ⟨w.heap.size, 0, none⟩) l.length l.length) l :=
  .inr ⟨w.heap.size, 0, l.length, rfl, fun _ => by simp, fun j u hu => by rw [Nat.zero_add, (Blk.new w 40 _).cell, List.getElem?_toArray]; exact hu⟩
def canR (R : List SE) (t : Int) : List SE := R.filter fun x => decide (x.tid ≠ t)
theorem canR_snoc (R : List SE) (x : SE) (t : Int) : canR (R ++ [x]) t = if x.tid = t then canR R t else canR R t ++ [x] := by
  unfold canR
  rw [List.filter_append]
  by_cases h : x.tid = t
  · rw [if_pos h, List.filter_cons_of_neg (by simpa using h)]
    simp
  · rw [if_neg h, List.filter_cons_of_pos (by simpa using h)]
    simp
theorem canR_le (R : List SE) (t : Int) : (canR R t).length ≤ R.length := List.length_filter_le _ _
section
variable {w w' w1 : World} {r : Nat} {R R' : List SE} {F S : List Nat}
/-- The seats are set anew: a row of one's own. -/
theorem Rf.set_ (h : Rf w r R F) {W : World} (ho : Only [] w W) {v : Value} (hr : ERw W v R') (hf : ∀ q, v.ownBlock = some q → w.heap.size ≤ q) : DidF w (W.setCell ⟨r, 0, none⟩ v) r F R' := by
  obtain ⟨v0, hb, hr0, rfl⟩ := h
  have hb2 := (hb.only ho (by simp)).set_ 0 v
  have hlt := hb.lt
  have o1 : Only [r] W (W.setCell ⟨r, 0, none⟩ v) := (Only.refl [r] W).setCell v (fun _ => by simp)
  refine ⟨r :: v.ownBlock.toList, ⟨v, hb2, hr.only o1 (fun k hk => by simp; have := hf k hk; omega), rfl⟩, (ho.mono (by simp)).trans' (S := r :: v0.ownBlock.toList) o1 (fun k _ hk => by simp at hk; simp [hk]), fun k hk => ?_⟩
  rcases List.mem_cons.1 hk with rfl | hk
  · exact .inl (by simp)
  · simp only [Option.mem_toList] at hk
    exact .inr (hf k hk)
theorem Rf.cell (h : Rf w r R F) : ∃ A cap, (∀ W, Only [] w W → W.cell? ⟨r, 0, none⟩ = some (.slice A R.length cap) ∧ W.frozen? ⟨r, 0, none⟩ = false ∧ ERw W (.slice A R.length cap) R) ∧ (0 < R.length → ∃ b, A = some ⟨b, 0, none⟩ ∧ b < w.heap.size) := by
  obtain ⟨v, hb, hr, rfl⟩ := h
  obtain ⟨A, cap, rfl, hA⟩ := hr.form
  exact ⟨A, cap, fun W hW => ⟨(hb.only hW (by simp)).cell 0, (hb.only hW (by simp)).frozen 0, hr.only hW (by simp)⟩, hA⟩
set_option maxHeartbeats 1000000 in
set_option maxRecDepth 100000 in
theorem xcan_is (h : Rf w r R F) (hn : R.length ≤ 1024) (t : Int) : Calls Try.prog 26 #[.pointer (some ⟨r, 0, none⟩), .int .i64 t] w fun e w' => e = .returned (.bool (decide ((canR R t).length < R.length))) ∧ DidF w w' r F (canR R t) := by
  obtain ⟨A, cap, hc, hA⟩ := h.cell
  have HA := hide hA
  have HC := hide hc
  have H := hide h
  have HN := hide hn
  obtain ⟨c0, _, _⟩ := hc w (Only.refl _ _)
  clear hA hc h hn
  go_enter Try.func26, Try.ntmps26
  go_wp2
  go_loopw [5, 14] (fun ov iv wr => ∃ i : Nat, i ≤ R.length ∧ iv = .int .i64 i ∧ ERw wr ov (canR (R.take i) t) ∧ (∀ q, ov.ownBlock = some q → w.heap.size ≤ q) ∧ Only [] w wr) (fun ov iv _ => R.length - (intOf iv).toNat)
  case atStart => exact ⟨0, Nat.zero_le _, rfl, ERw.nil _, by simp [Value.ownBlock], Only.refl _ _⟩
  case round =>
    rename_i ov iv
    obtain ⟨i, hi, rfl, hrow, hfr, hw⟩ := hrel
    obtain ⟨Ao, co, hov, _⟩ := hrow.form
    subst hov
    by_cases hlt : i < R.length
    · have hltI : (i : Int) < R.length := by omega
      obtain ⟨b, rfl, _⟩ := HA.out (by omega)
      obtain ⟨e0, e1, e2, e3, e4⟩ := (HC.out wr hw).2.2.cell rfl rfl (show R[i]? = some R[i] by simp [hlt])
      have HTK := hide (show canR (R.take (i + 1)) t = if (R[i]).tid = t then canR (R.take i) t else canR (R.take i) t ++ [R[i]] by rw [List.take_add_one, show R[i]?.toList = [R[i]] by simp [hlt], canR_snoc])
      have hsl := canR_le (R.take i) t
      rw [List.length_take] at hsl
      generalize R[i] = x at *
      have HW := hide hw
      have HFR := hide hfr
      have E5 := hide (show wrap64 ((i : Int) + 1) = ((i + 1 : Nat) : Int) by have := HN.out; rw [wrap64]; omega)
      by_cases hx : x.tid = t
      · have HX := hide hx
        have p1 : (x.tid != t) = false := by simp [hx]
        have HROW := hide (hrow.only ((Only.refl [] wr).alloc (.cells x.cells.toArray 40)) (by simp))
        have HWA := hide (hw.alloc (.cells x.cells.toArray 40))
        unfold SE.cells at HROW HWA
        clear hrow hfr hw hsl hx
        go_wp2
        rw [E5.out]
        refine ⟨⟨i + 1, hlt, rfl, ?_, HFR.out, HWA.out⟩, ?_⟩
        · rw [HTK.out, if_pos HX.out]
          exact HROW.out
        · simp [intOf]
          omega
      · have HX := hide hx
        have p1 : (x.tid != t) = true := by simpa using hx
        have HROW := hide ((hrow.only ((Only.refl [] wr).alloc (.cells x.cells.toArray 40)) (by simp)).only ((Only.refl [] _).alloc (.cells x.cells.toArray 40)) (by simp))
        have HNW := hide (seats_new (wr.alloc (.cells x.cells.toArray 40)) [x] (by simp))
        rw [show (wr.alloc (.cells x.cells.toArray 40)).heap.size = wr.heap.size + 1 by simp, show (flatE [x]).toArray = x.cells.toArray from rfl, show ([x] : List SE).length = 1 from rfl] at HNW
        have HBIG := hide (show (canR (R.take i) t).length + [x].length < 1000000 by simp only [List.length_cons, List.length_nil]; have := HN.out; omega)
        have HW5 := hide ((hw.alloc (.cells x.cells.toArray 40)).alloc (.cells x.cells.toArray 40))
        unfold SE.cells at HROW HNW HW5
        clear hrow hfr hw hsl hx
        go_wp2_with (at_builtin; refine wpList_append_seats12 (v := .slice Ao (canR (R.take i) t).length co) rfl _ _ rfl rfl HROW.out rfl HNW.out HBIG.out ?_; rintro v5 w5 h1 h2 h3 ⟨A5, c5, rfl⟩; have H5 := hide h1; have HO5 := hide h2; have HF5 := hide h3; clear h1 h2 h3)
        rw [E5.out, show (canR (R.take i) t).length + 1 = (canR (R.take i) t ++ [x]).length by simp]
        refine ⟨⟨i + 1, hlt, rfl, ?_, fun q hq => ?_, HW5.out.trans' HO5.out (fun k hk hm => ?_)⟩, ?_⟩
        · rw [HTK.out, if_neg HX.out]
          exact H5.out
        · rcases HF5.out q hq with h | h
          · exact HFR.out q h
          · have := HW.out.size
            simp at h this
            omega
        · have := HFR.out k (by simpa only [Option.mem_toList] using hm)
          omega
        · simp [intOf]
          omega
    · obtain rfl : i = R.length := by omega
      rw [List.take_length] at hrow hfr ⊢
      obtain ⟨c1, f1, _⟩ := HC.out wr hw
      have HD := hide (H.out.set_ hw hrow hfr)
      clear hrow hfr hw
      go_wp2
      go_ret
      exact ⟨rfl, HD.out⟩
/-- The first ones. -/
theorem wakeF_first (l : List Int) (n : Int) : ∀ i, i ≤ l.length → (l.take (min n.toNat i)).length = min n.toNat i := fun i hi => by rw [List.length_take]; omega
def canAll (R : List SE) (ts : List Int) : List SE := ts.foldl canR R
theorem canAll_snoc (R : List SE) (ts : List Int) (t : Int) : canAll R (ts ++ [t]) = canR (canAll R ts) t := by simp [canAll]
theorem canAll_le : ∀ (ts : List Int) (R : List SE), (canAll R ts).length ≤ R.length
  | [], R => Nat.le_refl _
  | t :: r, R => Nat.le_trans (canAll_le r (canR R t)) (canR_le R t)
set_option maxHeartbeats 1000000 in
set_option maxRecDepth 100000 in
theorem xwake_is (h : Rf w r R F) (hn : R.length ≤ 1024) (c : CH) (n : Int) : Calls Try.prog 25 #[.pointer (some ⟨r, 0, none⟩), kV c, .int .i64 n] w fun e w' => ∃ v', e = .returned v' ∧ IRow w' v' ((slpR R c).take (min n.toNat (slpR R c).length)) ∧ ∃ F', Rf w' r (canAll R ((slpR R c).take (min n.toNat (slpR R c).length))) F' ∧ TurnW w w' F F' ∧ ∀ q, v'.ownBlock = some q → w.heap.size ≤ q ∧ q ∉ F' := by
  have HO0 := hide ((Only.refl [] w).alloc (.cells (cC c) 32))
  have HS := hide (xslp_is (h.quiet ((Only.refl [] w).alloc (.cells (cC c) 32))) hn c)
  have hle := slpR_le R c
  have H := hide h
  have HN := hide hn
  generalize slpR R c = l at *
  have HL := hide (show l.length ≤ 1024 by omega)
  clear h hn hle
  go_enter Try.func25, Try.ntmps25
  go_wp2_with fail
  with_reducible refine HS.out.mono ?_
  rintro e w1 ⟨v1, rfl, hr, _, ho⟩
  obtain ⟨A1, c1, rfl, _⟩ := hr.form2
  have HR := hide hr
  have HO1 := hide (HO0.out.trans ho)
  clear hr ho
  simp only []
  go_wp2_with fail
  go_loopw [7, 16] (fun ov iv wr => ∃ i : Nat, i ≤ l.length ∧ iv = .int .i64 i ∧ IRow wr ov (l.take (min n.toNat i)) ∧ (∀ q, ov.ownBlock = some q → w1.heap.size ≤ q) ∧ Only [] w1 wr) (fun ov iv _ => l.length - (intOf iv).toNat)
  case atStart => exact ⟨0, Nat.zero_le _, rfl, by simpa using KRow.nil _ _ _ _, by simp [Value.ownBlock], Only.refl _ _⟩
  case round =>
    rename_i ov iv
    obtain ⟨i, hi, rfl, hrow, hfr, hw⟩ := hrel
    have hlk := wakeF_first l n i hi
    obtain ⟨Ao, co, hov, _⟩ := hrow.form2
    rw [hlk] at hov
    subst hov
    have HW := hide hw
    have HFR := hide hfr
    by_cases hlt : i < l.length
    · have hltI : (i : Int) < l.length := by omega
      obtain ⟨b, o, rfl, c0⟩ := (HR.out.sees.quiet hw).cell hlt
      have E5 := hide (show wrap64 ((i : Int) + 1) = ((i + 1 : Nat) : Int) by have := HL.out; rw [wrap64]; omega)
      by_cases hx : (i : Int) < n
      · have hmi : min n.toNat i = i := by omega
        have hm2 : min n.toNat (i + 1) = i + 1 := by omega
        rw [hmi] at hrow hfr hlk ⊢
        have HFR := hide hfr
        have p1 : decide (((i : Nat) : Int) < n) = true := by simpa using hx
        have HX := hide hx
        have HTK := hide (show l.take (min n.toNat (i + 1)) = l.take i ++ [l[i]] by rw [hm2, List.take_add_one]; simp [hlt])
        generalize l[i] = x at *
        have HROW := hide (hrow.only ((Only.refl [] wr).alloc (.cells #[.int .i64 x] 3)) (by simp))
        have HNW := hide (i64l_one_at wr x)
        have HBIG := hide (show (l.take i).length + 1 < 4000000000000 by rw [hlk]; have := HL.out; omega)
        have HW5 := hide (hw.alloc (.cells #[.int .i64 x] 3))
        have HLK := hide hlk
        clear hrow hfr hw hlk hmi hm2
        go_wp2_with (at_builtin; refine wpList_append_any rfl _ _ rfl (.slice Ao i co) (l.take i) rfl HROW.out (some ⟨wr.heap.size, 0, none⟩) 1 1 rfl (fun e => by cases e) [x] rfl HNW.out HBIG.out ?_; intro v5 w5 h1 h2 h3; have H5 := hide h1; have HO5 := hide h2; have HF5 := hide h3; clear h1 h2 h3)
        rw [E5.out]
        refine ⟨⟨i + 1, hlt, rfl, ?_, fun q hq => ?_, HW5.out.trans' HO5.out (fun k hk hm => ?_)⟩, ?_⟩
        · rw [HTK.out]
          exact H5.out
        · rcases HF5.out q hq with h | h
          · exact HFR.out q h
          · have := HW.out.size
            simp at h this
            omega
        · have := HFR.out k (by simpa only [Option.mem_toList] using hm)
          omega
        · simp [intOf]
          omega
      · have hmi : min n.toNat (i + 1) = min n.toNat i := by omega
        have p1 : ¬ ((min n.toNat i : Nat) : Int) < n := by omega
        have HX := hide hx
        have HROW := hide hrow
        clear hrow hfr hw hx
        go_wp2
        rw [E5.out]
        refine ⟨⟨i + 1, hlt, rfl, ?_, HFR.out, HW.out⟩, ?_⟩
        · rw [show min n.toNat (i + 1) = min n.toNat i by have := HX.out; omega]
          exact HROW.out
        · simp [intOf]
          omega
    · obtain rfl : i = l.length := by omega
      have hq := H.out.quiet (HO1.out.trans hw)
      generalize hk : min n.toNat l.length = k at *
      have HKK := hide hk
      have hzk : (l.take k).length = k := hlk
      have hk64 : k ≤ 1024 := by have := HL.out; omega
      have hapart : ∀ q, (Value.slice Ao k co).ownBlock = some q → w.heap.size ≤ q ∧ q < wr.heap.size ∧ q ∉ F := fun q hq => ⟨Nat.le_trans HO1.out.size (hfr q hq), (KRow.at_ hrow hq).2.1, fun hf => by have := H.out.lt hf; have := hfr q hq; have := HO1.out.size; omega⟩
      generalize hzz : l.take k = zs at *
      have HZZ := hide hzz
      have HQ := hide hq
      have HZ := hide (fun (W : World) (hW : Only F wr W) => show IRow W (.slice Ao k co) zs from KRow.only hrow hW (fun q hq => (hapart q hq).2.2))
      have HAP := hide hapart
      have HZK := hide hzk
      have HK64 := hide hk64
      have HW1 := hide (HO1.out.trans hw)
      clear hq hapart hrow hfr hw hlk hzk hk64 hk hzz
      go_wp2
      go_loopw [31] (fun jv wr2 => ∃ j : Nat, j ≤ k ∧ jv = .int .i64 j ∧ ∃ F', Rf wr2 r (canAll R (zs.take j)) F' ∧ TurnW wr wr2 F F') (fun jv _ => k - (intOf jv).toNat)
      case atStart => exact ⟨0, Nat.zero_le _, rfl, F, HQ.out, TurnW.refl _ _⟩
      case round =>
        obtain ⟨j, hj, rfl, F2, hf2, hT⟩ := hrel
        have HT := hide hT
        by_cases hlt2 : j < k
        · have hltI2 : (j : Int) < k := by omega
          have hlz : j < zs.length := by rw [HZK.out]; exact hlt2
          obtain ⟨b4, o4, rfl, cz⟩ := (HZ.out wr hT.only).sees.cell hlz
          have HCN := hide (xcan_is hf2 (Nat.le_trans (canAll_le _ R) HN.out) zs[j])
          have HTK := hide (show canAll R (zs.take (j + 1)) = canR (canAll R (zs.take j)) zs[j] by rw [List.take_add_one, show zs[j]?.toList = [zs[j]] by simp [hlz], canAll_snoc])
          clear hf2 hT
          generalize zs[j] = z at *
          go_wp2_with (go_at_call 26; refine HCN.out.mono ?_; rintro e w5 ⟨rfl, F5, q1, q2⟩; have HQ1 := hide q1; have HQ2 := hide q2; clear q1 q2)
          rw [show wrap64 ((j : Int) + 1) = ((j + 1 : Nat) : Int) by have := HK64.out; rw [wrap64]; omega]
          refine ⟨⟨j + 1, hlt2, rfl, F5, ?_, HT.out.trans HQ2.out⟩, ?_⟩
          · rw [HTK.out]
            exact HQ1.out
          · simp [intOf]
            omega
        · obtain rfl : j = k := by omega
          rw [show zs.take j = zs from List.take_of_length_le (by rw [HZK.out]; exact Nat.le_refl _)] at hf2
          have HF2 := hide hf2
          clear hf2 hT
          go_wp2
          go_ret
          rw [HKK.out, HZZ.out]
          refine ⟨.slice Ao j co, rfl, HZ.out _ HT.out.only, F2, HF2.out, (TurnW.same F HW1.out).trans HT.out, fun q hq => ?_⟩
          obtain ⟨h0, h1, h2⟩ := HAP.out q hq
          refine ⟨h0, fun hf => ?_⟩
          rcases HT.out.foot q hf with h | h
          · exact h2 h
          · omega
end
end Go.Proofs.Ytokclkiidhcffaa
