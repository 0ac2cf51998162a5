/-
  The document's sleepers (parapetref12): the struct; Sleepers, On.
-/
import Derived.Test.YtokclkiidhcffaaRef12
namespace Go.Proofs.Ytokclkiidhcffaa
open Go.ChangeShapes Go.WideShapes Go.ChangeAt Go.RowKit Go.Maps
set_option linter.unusedVariables false

/-- The document's queue r: its seats, its blocks. -/
def Rf (w : World) (r : Nat) (R : List SE) (F : List Nat) : Prop := ∃ v, Blk w r 29 #[v] ∧ ERw w v R ∧ F = r :: v.ownBlock.toList
def DidF (w w' : World) (r : Nat) (F : List Nat) (R : List SE) : Prop := ∃ F', Rf w' r R F' ∧ TurnW w w' F F'
section
variable {w w' w1 : World} {r : Nat} {R : List SE} {F S : List Nat}
theorem Rf.only (h : Rf w r R F) (ho : Only S w w') (hs : ∀ k, k ∈ F → k ∉ S) : Rf w' r R F := by
  obtain ⟨v, h1, h2, rfl⟩ := h
  exact ⟨v, h1.only ho (hs r (by simp)), h2.only ho (fun k hk => hs k (by simp [hk])), rfl⟩
theorem Rf.quiet (h : Rf w r R F) (ho : Only [] w w') : Rf w' r R F := h.only ho (by simp)
theorem Rf.lt (h : Rf w r R F) {k : Nat} (hk : k ∈ F) : k < w.heap.size := by
  obtain ⟨v, h1, h2, rfl⟩ := h
  rcases List.mem_cons.1 hk with rfl | hk
  · exact h1.lt
  · simp only [Option.mem_toList] at hk
    exact (h2.at_ hk).1
theorem i64l_one_at (w : World) (t : Int) : ∀ ad, some (⟨w.heap.size, 0, none⟩ : Addr) = some ad → ∀ j u, (i64l [t])[j]? = some u → (w.alloc (.cells #[.int .i64 t] 3)).cell? (ad.add j) = some u := fun ad e j u hu => by
  injection e with e
  subst e
  match j with
  | 0 =>
    injection hu with hu
    subst hu
    exact (Blk.new w 3 #[.int .i64 t]).cell 0
  | j + 1 => simp [i64l] at hu
theorem slpR_snoc (R : List SE) (x : SE) (c : CH) : slpR (R ++ [x]) c = if x.on = c then slpR R c ++ [x.tid] else slpR R c := by
  unfold slpR
  rw [List.filter_append]
  by_cases h : x.on = c
  · rw [if_pos h, List.filter_cons_of_pos (by simpa using h)]
    simp
  · rw [if_neg h, List.filter_cons_of_neg (by simpa using h)]
    simp
theorem slpR_le (R : List SE) (c : CH) : (slpR R c).length ≤ R.length := by
  unfold slpR
  rw [List.length_map]
  exact List.length_filter_le _ _
set_option maxHeartbeats 1000000 in
set_option maxRecDepth 100000 in
theorem xslp_is (h : Rf w r R F) (hn : R.length ≤ 1024) (c : CH) : Calls Try.prog 29 #[.pointer (some ⟨r, 0, none⟩), kV c] w fun e w' => ∃ v', e = .returned v' ∧ IRow w' v' (slpR R c) ∧ (∀ q, v'.ownBlock = some q → w.heap.size ≤ q) ∧ Only [] w w' := by
  obtain ⟨v, hb, hr, rfl⟩ := h
  obtain ⟨A, cap, rfl, hA⟩ := hr.form
  have HA := hide hA
  have HO0 := hide ((Only.refl [] w).alloc (.cells (cC c) 32))
  have HB := hide hb
  have HR := hide hr
  have HN := hide hn
  have c0 := (hb.only ((Only.refl [] w).alloc (.cells (cC c) 32)) (by simp)).cell 0
  rw [show (#[Value.slice A R.length cap] : Array Value)[0]? = some (.slice A R.length cap) from rfl] at c0
  have HBX := hide (fun (W : World) (hw : Only [] (w.alloc (.cells (cC c) 32)) W) => (show W.cell? ⟨w.heap.size, 0, none⟩ = some (.int .i64 c.kind) ∧ W.cell? ⟨w.heap.size, 1, none⟩ = some (.int .i64 c.a) ∧ W.cell? ⟨w.heap.size, 2, none⟩ = some (.int .i64 c.b) from by
    have k := (Blk.new w 32 (cC c)).only hw (by simp)
    exact ⟨k.cell 0, k.cell 1, k.cell 2⟩))
  clear hA hb hr hn
  go_enter Try.func29, Try.ntmps29
  go_wp2
  go_loopw [5, 13] (fun ov iv wr => ∃ i : Nat, i ≤ R.length ∧ iv = .int .i64 i ∧ IRow wr ov (slpR (R.take i) c) ∧ (∀ q, ov.ownBlock = some q → w.heap.size + 1 ≤ q) ∧ Only [] (w.alloc (.cells (cC c) 32)) wr) (fun ov iv _ => R.length - (intOf iv).toNat)
  case atStart => exact ⟨0, Nat.zero_le _, rfl, KRow.nil _ _ _ _, by simp [Value.ownBlock], Only.refl _ _⟩
  case round =>
    rename_i ov iv
    obtain ⟨i, hi, rfl, hrow, hfr, hw⟩ := hrel
    by_cases hlt : i < R.length
    · have hltI : (i : Int) < R.length := by omega
      obtain ⟨b, rfl, _⟩ := HA.out (by omega)
      obtain ⟨e0, e1, e2, e3, e4⟩ := (HR.out.only (HO0.out.trans hw) (by simp)).cell rfl rfl (show R[i]? = some R[i] by simp [hlt])
      obtain ⟨k0, k1, k2⟩ := HBX.out _ (hw.alloc (.cells (R[i]).cells.toArray 40))
      have HTK := hide (show slpR (R.take (i + 1)) c = if (R[i]).on = c then slpR (R.take i) c ++ [(R[i]).tid] else slpR (R.take i) c by rw [List.take_add_one, show R[i]?.toList = [R[i]] by simp [hlt], slpR_snoc])
      have hsl := slpR_le (R.take i) c
      rw [List.length_take] at hsl
      have hheq := fun w => chan_eql (a := (R[i]).on) (b := c) rfl w
      obtain ⟨Ao, co, hov, _⟩ := hrow.form2
      subst hov
      generalize R[i] = x at *
      unfold SE.cells at k0 k1 k2
      have HW := hide hw
      have HFR := hide hfr
      have e5 : ∀ j : Nat, (j : Int) = i → wrap64 ((i : Int) + 1) = ((i + 1 : Nat) : Int) := fun _ _ => by have := HN.out; rw [wrap64]; omega
      have E5 := hide e5
      clear e5
      by_cases hx : x.on = c
      · have HROW := hide ((hrow.only ((Only.refl [] wr).alloc (.cells x.cells.toArray 40)) (by simp)).only ((Only.refl [] _).alloc (.cells #[.int .i64 x.tid] 3)) (by simp))
        have HNW := hide (i64l_one_at (wr.alloc (.cells x.cells.toArray 40)) x.tid)
        have HBIG := hide (show (slpR (R.take i) c).length + 1 < 4000000000000 by have := HN.out; omega)
        have HLT := hide (show ∀ q, (Value.slice Ao (slpR (R.take i) c).length co).ownBlock = some q → q < wr.heap.size from fun q hq => (KRow.at_ hrow hq).2.1)
        have hw5 := (hw.alloc (.cells x.cells.toArray 40)).alloc (.cells #[.int .i64 x.tid] 3)
        have HW5 := hide hw5
        have hheq2 : ∀ w : World, (binOp .eql 32 (.agg (cC x.on)) (.agg (cC c))).run Try.prog w = .ok (.bool true) w := fun w => by rw [hheq, show decide (x.on = c) = true by simpa using hx]
        unfold SE.cells at HROW HNW HW5
        have HX := hide hx
        clear hrow hfr hw hw5 hsl hheq hx
        go_wp2_with (at_builtin; refine wpList_append_any rfl _ _ rfl (.slice Ao (slpR (R.take i) c).length co) (slpR (R.take i) c) rfl HROW.out (some ⟨wr.heap.size + 1, 0, none⟩) 1 1 rfl (fun e => by cases e) [x.tid] rfl (by simpa using HNW.out) HBIG.out ?_; intro v5 w5 h1 h2 h3; have H5 := hide h1; have HO5 := hide h2; have HF5 := hide h3; clear h1 h2 h3)
        go_wp2
        rw [E5.out i rfl]
        refine ⟨⟨i + 1, hlt, rfl, ?_, fun q hq => ?_, HW5.out.trans' HO5.out (fun k hk hm => ?_)⟩, ?_⟩
        · rw [HTK.out, if_pos HX.out]
          exact H5.out
        · rcases HF5.out q hq with h | h
          · exact HFR.out q h
          · have := HW.out.size
            simp at h this
            omega
        · have := HFR.out k (by simpa using hm)
          simp at hk
          omega
        · simp [intOf]
          omega
      · have hheq2 : ∀ w : World, (binOp .eql 32 (.agg (cC x.on)) (.agg (cC c))).run Try.prog w = .ok (.bool false) w := fun w => by rw [hheq, show decide (x.on = c) = false by simpa using hx]
        have HROW := hide (hrow.only ((Only.refl [] wr).alloc (.cells x.cells.toArray 40)) (by simp))
        have HWA := hide (hw.alloc (.cells x.cells.toArray 40))
        unfold SE.cells at HROW HWA
        have HX := hide hx
        clear hrow hfr hw hsl hheq hx
        go_wp2
        rw [E5.out i rfl]
        refine ⟨⟨i + 1, hlt, rfl, ?_, HFR.out, HWA.out⟩, ?_⟩
        · rw [HTK.out, if_neg HX.out]
          exact HROW.out
        · simp [intOf]
          omega
    · obtain rfl : i = R.length := by omega
      rw [List.take_length] at hrow
      have HROW := hide hrow
      have HFR := hide hfr
      have HW := hide hw
      clear hrow hfr hw
      go_wp2
      go_ret
      exact ⟨_, rfl, HROW.out, fun q hq => by have := HFR.out q hq; omega, HO0.out.trans HW.out⟩
theorem onN_snoc (R : List SE) (x : SE) (t : Int) (n : Nat) : onN (R ++ [x]) t n = if x.tid = t ∧ x.nth = (n : Int) then onN R t n ++ [x.on] else onN R t n := by
  unfold onN
  rw [List.filter_append]
  by_cases h : x.tid = t ∧ x.nth = (n : Int)
  · rw [if_pos h, List.filter_cons_of_pos (by simpa using h)]
    simp
  · rw [if_neg h, List.filter_cons_of_neg (by simpa using h)]
    simp
def onPre (R : List SE) (t : Int) (n : Nat) : List CH := (List.range n).flatMap fun n => onN R t n
theorem onPre_succ (R : List SE) (t : Int) (n : Nat) : onPre R t (n + 1) = onPre R t n ++ onN R t n := by
  unfold onPre
  rw [List.range_succ, List.flatMap_append]
  simp
theorem onN_le (R : List SE) (t : Int) (n : Nat) : (onN R t n).length ≤ R.length := by
  unfold onN
  rw [List.length_map]
  exact List.length_filter_le _ _
theorem onPre_le (R : List SE) (t : Int) : ∀ n, (onPre R t n).length ≤ n * R.length
  | 0 => by simp [onPre]
  | n + 1 => by
    rw [onPre_succ, List.length_append]
    have := onPre_le R t n
    have := onN_le R t n
    rw [Nat.add_mul]
    omega
set_option maxHeartbeats 1000000 in
set_option maxRecDepth 100000 in
theorem xon_is (h : Rf w r R F) (hn : R.length ≤ 1024) (t : Int) : Calls Try.prog 31 #[.pointer (some ⟨r, 0, none⟩), .int .i64 t] w fun e w' => ∃ v', e = .returned v' ∧ CRw w' v' (onR R t) ∧ (∀ q, v'.ownBlock = some q → w.heap.size ≤ q) ∧ Only [] w w' := by
  obtain ⟨v, hb, hr, rfl⟩ := h
  obtain ⟨A, cap, rfl, hA⟩ := hr.form
  have HA := hide hA
  have HB := hide hb
  have HR := hide hr
  have HN := hide hn
  clear hA hb hr hn
  go_enter Try.func31, Try.ntmps31
  go_wp2
  go_loopw [5, 6] (fun ov nv wr => ∃ n : Nat, n ≤ 16 ∧ nv = .int .i64 n ∧ CRw wr ov (onPre R t n) ∧ (∀ q, ov.ownBlock = some q → w.heap.size ≤ q) ∧ Only [] w wr) (fun ov nv _ => 16 - (intOf nv).toNat)
  case atStart => exact ⟨0, Nat.zero_le _, rfl, CRw.nil _, by simp [Value.ownBlock], Only.refl _ _⟩
  case round =>
    rename_i ov nv
    obtain ⟨n, hn, rfl, hrow, hfr, hw⟩ := hrel
    by_cases hn16 : n < 16
    · have hnI : (n : Int) < 16 := by omega
      have c0 := (HB.out.only hw (by simp)).cell 0
      rw [show (#[Value.slice A R.length cap] : Array Value)[0]? = some (.slice A R.length cap) from rfl] at c0
      have HROW := hide hrow
      have HFR := hide hfr
      have HW := hide hw
      clear hrow hfr hw
      go_wp2
      go_loopw [5, 18] (fun ov2 iv wr2 => ∃ i : Nat, i ≤ R.length ∧ iv = .int .i64 i ∧ CRw wr2 ov2 (onPre R t n ++ onN (R.take i) t n) ∧ (∀ q, ov2.ownBlock = some q → w.heap.size ≤ q) ∧ Only [] w wr2) (fun ov2 iv _ => R.length - (intOf iv).toNat)
      case atStart => exact ⟨0, Nat.zero_le _, rfl, by simpa [onN] using HROW.out, HFR.out, HW.out⟩
      case round =>
        rename_i ov2 iv
        obtain ⟨i, hi, rfl, hrow, hfr, hw⟩ := hrel
        by_cases hlt : i < R.length
        · have hltI : (i : Int) < R.length := by omega
          obtain ⟨b, rfl, _⟩ := HA.out (by omega)
          obtain ⟨e0, e1, e2, e3, e4⟩ := (HR.out.only hw (by simp)).cell rfl rfl (show R[i]? = some R[i] by simp [hlt])
          have HTK := hide (show onN (R.take (i + 1)) t n = if (R[i]).tid = t ∧ (R[i]).nth = (n : Int) then onN (R.take i) t n ++ [(R[i]).on] else onN (R.take i) t n by rw [List.take_add_one, show R[i]?.toList = [R[i]] by simp [hlt], onN_snoc])
          have hbig : (onPre R t n ++ onN (R.take i) t n).length ≤ 20000 := by
            have h1 := onN_le (R.take i) t n
            have h2 := onPre_le R t n
            have h3 : n * R.length ≤ 16 * 1024 := Nat.mul_le_mul (by omega) HN.out
            rw [List.length_take] at h1
            have := HN.out
            rw [List.length_append]
            omega
          obtain ⟨Ao, co, hov, _⟩ := hrow.form
          subst hov
          generalize R[i] = x at *
          have HW := hide hw
          have HFR := hide hfr
          have E5 := hide (show wrap64 ((i : Int) + 1) = ((i + 1 : Nat) : Int) by have := HN.out; rw [wrap64]; omega)
          by_cases hx : x.tid = t ∧ x.nth = (n : Int)
          · have HX := hide hx
            have p1 : (x.tid == t) = true := by simp [hx.1]
            have p2 : (x.nth == (n : Int)) = true := by simp [hx.2]
            have HROW := hide ((hrow.only ((Only.refl [] wr).alloc (.cells x.cells.toArray 40)) (by simp)).only ((Only.refl [] _).alloc (.cells (cC x.on) 32)) (by simp))
            have HNW := hide (chans_new (wr.alloc (.cells x.cells.toArray 40)) [x.on] (by simp))
            rw [show (wr.alloc (.cells x.cells.toArray 40)).heap.size = wr.heap.size + 1 by simp, show (flatC [x.on]).toArray = cC x.on from rfl, show ([x.on] : List CH).length = 1 from rfl] at HNW
            have HBIG := hide (show (onPre R t n ++ onN (R.take i) t n).length + [x.on].length < 1000000 by simp only [List.length_cons, List.length_nil]; omega)
            have HW5 := hide ((hw.alloc (.cells x.cells.toArray 40)).alloc (.cells (cC x.on) 32))
            unfold SE.cells at HROW HNW HW5
            clear hrow hfr hw hbig hx
            go_wp2_with (at_builtin; refine wpList_append_chans (v := .slice Ao (onPre R t n ++ onN (R.take i) t n).length co) rfl _ _ rfl rfl HROW.out rfl HNW.out HBIG.out ?_; rintro v5 w5 h1 h2 h3 ⟨A5, c5, rfl⟩; have H5 := hide h1; have HO5 := hide h2; have HF5 := hide h3; clear h1 h2 h3)
            rw [E5.out, show (onPre R t n).length + ((onN (R.take i) t n).length + 1) = (onPre R t n ++ onN (R.take i) t n ++ [x.on]).length by simp]
            refine ⟨⟨i + 1, hlt, rfl, ?_, fun q hq => ?_, HW5.out.trans' HO5.out (fun k hk hm => ?_)⟩, ?_⟩
            · rw [HTK.out, if_pos HX.out, ← List.append_assoc]
              exact H5.out
            · rcases HF5.out q hq with h | h
              · exact HFR.out q h
              · have := HW.out.size
                simp at h this
                omega
            · have := HFR.out k (by simpa only [Option.mem_toList] using hm)
              omega
            · simp [intOf]
              omega
          · have HX := hide hx
            have HROW := hide (hrow.only ((Only.refl [] wr).alloc (.cells x.cells.toArray 40)) (by simp))
            have HWA := hide (hw.alloc (.cells x.cells.toArray 40))
            unfold SE.cells at HROW HWA
            clear hrow hfr hw hbig
            by_cases hx1 : x.tid = t
            · have p1 : (x.tid == t) = true := by simp [hx1]
              have p2 : (x.nth == (n : Int)) = false := by
                have : ¬ x.nth = (n : Int) := fun e => hx ⟨hx1, e⟩
                simpa using this
              clear hx hx1
              go_wp2
              rw [E5.out]
              refine ⟨⟨i + 1, hlt, rfl, ?_, HFR.out, HWA.out⟩, ?_⟩
              · rw [HTK.out, if_neg HX.out]
                exact HROW.out
              · simp [intOf]
                omega
            · have p1 : (x.tid == t) = false := by simpa using hx1
              clear hx hx1
              go_wp2
              rw [E5.out]
              refine ⟨⟨i + 1, hlt, rfl, ?_, HFR.out, HWA.out⟩, ?_⟩
              · rw [HTK.out, if_neg HX.out]
                exact HROW.out
              · simp [intOf]
                omega
        · obtain rfl : i = R.length := by omega
          rw [List.take_length] at hrow
          have HROW := hide hrow
          have HFR := hide hfr
          have HW := hide hw
          clear hrow hfr hw
          go_wp2
          first | rw [show wrap64 ((n : Int) + 1) = ((n + 1 : Nat) : Int) by rw [wrap64]; omega] | rw [show (n : Int) + 1 = ((n + 1 : Nat) : Int) by omega]
          refine ⟨⟨n + 1, hn16, rfl, ?_, HFR.out, HW.out⟩, ?_⟩
          · rw [onPre_succ]
            exact HROW.out
          · simp [intOf]
            omega
    · obtain rfl : n = 16 := by omega
      have HROW := hide hrow
      have HFR := hide hfr
      have HW := hide hw
      clear hrow hfr hw
      go_wp2
      go_ret
      exact ⟨_, rfl, HROW.out, HFR.out, HW.out⟩
end
end Go.Proofs.Ytokclkiidhcffaa
