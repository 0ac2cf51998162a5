/-
  Frames (parapet/frame): Incr, Decr, give (of a list that does not grow too long), Free, Used.
-/
import Derived.Test.YtfbegickdnjfcaaFrTake
namespace Go.Proofs.Ytfbegickdnjfcaa
open Go.ChangeShapes Go.WideShapes Go.ChangeAt Go.RowKit
set_option linter.unusedVariables false

/-- append of some numbers, or none, behind a row. -/
theorem wp_append_any {o : Oper} {a : Act} {w : World} {K : Act → World → Prop} {Q : Exit → Act → World → Prop} (s x : Operand)
    (ho : o.op = .call { callee := .builtin .append, args := #[s, x], argTypes := #[46, 46] }) (v : Value) (ns : List Int) (hs : a.eval s = v) (hr : IRow w v ns)
    (A : Option Addr) (m c : Nat) (hx : a.eval x = .slice A m c) (hA : A = none → m = 0 ∧ c = 0) (zs : List Int) (hz : zs.length = m) (hnews : ∀ ad, A = some ad → ∀ j u, (i64l zs)[j]? = some u → w.cell? (ad.add j) = some u) (hbig : ns.length + m < 4000000000000)
    (hK : ∀ v' w2, IRow w2 v' (ns ++ zs) → Only v.ownBlock.toList w w2 → (∀ k, v'.ownBlock = some k → v.ownBlock = some k ∨ w.heap.size ≤ k) → K (a.put o.dst v') w2) : Oper.wp Try.prog o a w K Q := by
  obtain ⟨i0, hi0, hz0, hz1, hz2⟩ := info_parts info_int
  rcases A with _ | ad
  · obtain ⟨rfl, rfl⟩ := hA rfl
    have hzs : zs = [] := List.eq_nil_of_length_eq_zero hz
    subst hzs
    have hrun := run_append_owned_none (P := Try.prog) (w := w) 0 46 o.type 3 i0 1 Try.underlying46 hi0 v ns.length (i64l ns) hr
    unfold Oper.wp
    simp [execOp, ho, resolve, invoke, builtin, hs, hx, hrun, Result.andThen]
    exact hK v w (by simpa using hr) (Only.refl _ _) (fun k hk => .inl hk)
  · obtain ⟨v', w', hrun, h2, h3, _, h5⟩ := run_append_own_at (P := Try.prog) w 0 46 o.type 3 i0 _ 1 8 Try.underlying46 hi0 hz0 hz1 hz2 rfl (by decide) v ns.length (i64l ns) hr ad m c (i64l zs) (by rw [i64l_length, hz, Nat.mul_one]) (hnews ad rfl) (i64l_one _) (by unfold maxLen; omega) (by omega) (Nat.zero_le _)
    unfold Oper.wp
    simp [execOp, ho, resolve, invoke, builtin, hs, hx, hrun, Result.andThen]
    refine hK v' w' ?_ (only_grown' h3) (fun k hk => ?_)
    · unfold IRow KRow
      rw [List.length_append, List.map_append, hz]
      exact h2
    · rcases h5 with h5 | h5
      · exact .inl (h5 ▸ hk)
      · rw [h5] at hk
        injection hk with hk
        exact .inr (Nat.le_of_eq hk)
theorem wpList_append_any {ops : Array Oper} {rest : List Oper} {o : Oper} {a : Act} {w : World} {Q : Exit → Act → World → Prop} (hgd : o.guard = none) (s x : Operand)
    (ho : o.op = .call { callee := .builtin .append, args := #[s, x], argTypes := #[46, 46] }) (v : Value) (ns : List Int) (hs : a.eval s = v) (hr : IRow w v ns)
    (A : Option Addr) (m c : Nat) (hx : a.eval x = .slice A m c) (hA : A = none → m = 0 ∧ c = 0) (zs : List Int) (hz : zs.length = m) (hnews : ∀ ad, A = some ad → ∀ j u, (i64l zs)[j]? = some u → w.cell? (ad.add j) = some u) (hbig : ns.length + m < 4000000000000)
    (hK : ∀ v' w2, IRow w2 v' (ns ++ zs) → Only v.ownBlock.toList w w2 → (∀ k, v'.ownBlock = some k → v.ownBlock = some k ∨ w.heap.size ≤ k) → wpList Try.prog ops Q rest (a.put o.dst v') w2) : wpList Try.prog ops Q (o :: rest) a w :=
  wpList_plain hgd fun _ hK' => wp_append_any s x ho v ns hs hr A m c hx hA zs hz hnews hbig fun v' w2 h1 h2 h3 => hK' _ _ (hK v' w2 h1 h2 h3)

section
variable {w w' : World} {t g d cap : Nat} {xs : List Int} {r : List Value} {first harts : Nat} {v : Nat → Value} {ns ns' : Nat → List Int} {S : List Nat}

theorem IsFr.small (F : IsFr w t g d cap xs r first harts v ns) : first + (ns 2).length ≤ 4096 := by have := F.fit; have := F.mem.big; omega
theorem cntF_at {k : Nat} {x : Int} (hxk : x = first + k) (hk : k < (ns 2).length) : cntF first ns x = gb (ns 2) k := by
  unfold cntF
  rw [if_pos (by omega), show (x - (first : Int)).toNat = k by omega]

theorem incr_no (F : IsFr w t g d cap xs r first harts v ns) (x : Int) (hx : x ≤ 9223372036854775807) (h0 : cntF first ns x = 0) : Calls Try.prog 24 #[.pointer (some ⟨t, 0, none⟩), .int .i64 x] w fun e w' => e = .returned (.int .i64 60) ∧ ∃ n, w' = w.drewN n := by
  have HC := hide (fclosed_is F)
  have HN := hide (fCount_is F x hx)
  rw [h0] at HN
  clear F h0
  go_enter Try.func24, Try.ntmps24
  go_wp2_with (first | (go_at_call 33; refine HC.out.mono ?_; rintro e w' ⟨rfl, rfl⟩) | (go_at_call 26; refine HN.out.mono ?_; rintro e w' ⟨rfl, n, rfl⟩))
  go_ret
  exact ⟨rfl, _, rfl⟩

theorem incr_full (F : IsFr w t g d cap xs r first harts v ns) (x : Int) (hx : x ≤ 9223372036854775807) (h0 : cntF first ns x = 1048576) : Calls Try.prog 24 #[.pointer (some ⟨t, 0, none⟩), .int .i64 x] w fun e w' => e = .returned (.int .i64 2) ∧ ∃ n, w' = w.drewN n := by
  have HC := hide (fclosed_is F)
  have HN := hide (fCount_is F x hx)
  rw [h0] at HN
  clear F h0
  go_enter Try.func24, Try.ntmps24
  go_wp2_with (first | (go_at_call 33; refine HC.out.mono ?_; rintro e w' ⟨rfl, rfl⟩) | (go_at_call 26; refine HN.out.mono ?_; rintro e w' ⟨rfl, n, rfl⟩))
  go_ret
  exact ⟨rfl, _, rfl⟩

set_option maxHeartbeats 1000000 in
theorem incr_ok (F : IsFr w t g d cap xs r first harts v ns) (x : Int) (k : Nat) (hxk : x = first + k) (hk : k < (ns 2).length) (c : Int) (hcv : gb (ns 2) k = c) (c0 : 0 < c) (c1 : c < 1048576) :
    Calls Try.prog 24 #[.pointer (some ⟨t, 0, none⟩), .int .i64 x] w fun e w' => e = .returned (.int .i64 0) ∧ FrDid w w' t g d cap xs r first harts v (upd ns 2 ((ns 2).set k (c + 1))) := by
  have HC := hide (fclosed_is F)
  have hsm := F.small
  have HN := hide (fCount_is F x (by omega))
  rw [cntF_at hxk hk, hcv] at HN
  obtain ⟨b2, c2, cur2, hv2, hb2, hl2, hm2⟩ := (F.rows.row 2 (.inl rfl)).blk (by omega)
  have hd1 := F.cell 1 (by decide)
  rw [F.v1] at hd1
  have hd2 := F.cell 2 (by decide)
  rw [hv2] at hd2
  have hd3 : w.cell? ⟨b2, k, none⟩ = some (.int .i64 c) := by rw [hb2.cell, ← hcv]; exact i64l_get _ _ _ hk
  have hd4 := hb2.frozen k
  have HD := hide (fun n => (show FrDid w ((w.drewN n).setCell ⟨b2, k, none⟩ (.int .i64 (c + 1))) t g d cap xs r first harts v (upd ns 2 ((ns 2).set k (c + 1))) from by
    obtain ⟨R3, T3⟩ := (F.drewN n).rows.setAt (i := 2) (.inl rfl) hv2 (k := k) hk (c + 1)
    have F3 := (F.drewN n).moved R3 T3 (fun _ _ => rfl) (by rw [upd_same, List.length_set])
    exact ⟨_, F3, ((Turn.refl w (d :: footL t v)).dr n).trans (T3.more d)⟩))
  have hw1 : IntKind.i64.wrap (x - (first : Int)) = k := by rw [IntKind.wrap_i64]; omega
  have hw2 : x - (first : Int) = k := by omega
  have hw3 : (k : Int) < (ns 2).length := by omega
  have e0 : (c == 0) = false := beq_eq_false_iff_ne.2 (by omega)
  have e1 : (c == 1048576) = false := beq_eq_false_iff_ne.2 (by omega)
  clear F hv2 hb2 hl2 hm2 hxk hcv hk
  go_enter Try.func24, Try.ntmps24
  go_wp2_with (first | (go_at_call 33; refine HC.out.mono ?_; rintro e w' ⟨rfl, rfl⟩) | (go_at_call 26; refine HN.out.mono ?_; rintro e w' ⟨rfl, n, rfl⟩))
  go_region
  go_wp2
  go_ret
  exact ⟨rfl, HD.out _⟩

theorem decr_arg (F : IsFr w t g d cap xs r first harts v ns) (h x : Int) (hh : ¬ (0 ≤ h ∧ h < harts)) :
    Calls Try.prog 14 #[.pointer (some ⟨t, 0, none⟩), .int .i64 h, .int .i64 x] w fun e w' => e = .returned (.tuple #[.bool false, .int .i64 1]) ∧ w = w' := by
  have HC := hide (fclosed_is F)
  have HH := hide (fhasHart_is F h)
  rw [show (decide (0 ≤ h) && decide (h < (harts : Int))) = false by rw [← Bool.decide_and]; exact decide_eq_false hh] at HH
  clear F hh
  go_enter Try.func14, Try.ntmps14
  go_wp2_with (first | (go_at_call 33; refine HC.out.mono ?_; rintro e w' ⟨rfl, rfl⟩) | (go_at_call 35; refine HH.out.mono ?_; rintro e w' ⟨rfl, rfl⟩))
  go_ret2
  exact ⟨rfl, rfl⟩

theorem decr_no (F : IsFr w t g d cap xs r first harts v ns) (h : Nat) (hh : h < harts) (x : Int) (hx : x ≤ 9223372036854775807) (h0 : cntF first ns x = 0) :
    Calls Try.prog 14 #[.pointer (some ⟨t, 0, none⟩), .int .i64 h, .int .i64 x] w fun e w' => e = .returned (.tuple #[.bool false, .int .i64 60]) ∧ ∃ n, w' = w.drewN n := by
  have HC := hide (fclosed_is F)
  have HH := hide (fhasHart_is F h)
  rw [show (decide (0 ≤ (h : Int)) && decide ((h : Int) < (harts : Int))) = true by simp; omega] at HH
  have HN := hide (fCount_is F x hx)
  rw [h0] at HN
  clear F hh h0
  go_enter Try.func14, Try.ntmps14
  go_wp2_with (first | (go_at_call 33; refine HC.out.mono ?_; rintro e w' ⟨rfl, rfl⟩) | (go_at_call 35; refine HH.out.mono ?_; rintro e w' ⟨rfl, rfl⟩) | (go_at_call 26; refine HN.out.mono ?_; rintro e w' ⟨rfl, n, rfl⟩))
  go_ret2
  exact ⟨rfl, _, rfl⟩

set_option maxHeartbeats 1000000 in
theorem decr_less (F : IsFr w t g d cap xs r first harts v ns) (h : Nat) (hh : h < harts) (x : Int) (k : Nat) (hxk : x = first + k) (hk : k < (ns 2).length) (c : Int) (hcv : gb (ns 2) k = c) (c0 : 1 < c) (c1 : c ≤ 1048576) :
    Calls Try.prog 14 #[.pointer (some ⟨t, 0, none⟩), .int .i64 h, .int .i64 x] w fun e w' => e = .returned (.tuple #[.bool false, .int .i64 0]) ∧ FrDid w w' t g d cap xs r first harts v (upd ns 2 ((ns 2).set k (c - 1))) := by
  have HC := hide (fclosed_is F)
  have HH := hide (fhasHart_is F h)
  rw [show (decide (0 ≤ (h : Int)) && decide ((h : Int) < (harts : Int))) = true by simp; omega] at HH
  have hsm := F.small
  have HN := hide (fCount_is F x (by omega))
  rw [cntF_at hxk hk, hcv] at HN
  obtain ⟨b2, c2, cur2, hv2, hb2, hl2, hm2⟩ := (F.rows.row 2 (.inl rfl)).blk (by omega)
  have hd1 := F.cell 1 (by decide)
  rw [F.v1] at hd1
  have hd2 := F.cell 2 (by decide)
  rw [hv2] at hd2
  have hd3 : w.cell? ⟨b2, k, none⟩ = some (.int .i64 c) := by rw [hb2.cell, ← hcv]; exact i64l_get _ _ _ hk
  have hd4 := hb2.frozen k
  have HD := hide (fun n => (show FrDid w ((w.drewN n).setCell ⟨b2, k, none⟩ (.int .i64 (c - 1))) t g d cap xs r first harts v (upd ns 2 ((ns 2).set k (c - 1))) from by
    obtain ⟨R3, T3⟩ := (F.drewN n).rows.setAt (i := 2) (.inl rfl) hv2 (k := k) hk (c - 1)
    have F3 := (F.drewN n).moved R3 T3 (fun _ _ => rfl) (by rw [upd_same, List.length_set])
    exact ⟨_, F3, ((Turn.refl w (d :: footL t v)).dr n).trans (T3.more d)⟩))
  have hw1 : IntKind.i64.wrap (x - (first : Int)) = k := by rw [IntKind.wrap_i64]; omega
  have hw2 : x - (first : Int) = k := by omega
  have hw3 : (k : Int) < (ns 2).length := by omega
  have e0 : (c == 0) = false := beq_eq_false_iff_ne.2 (by omega)
  clear F hv2 hb2 hl2 hm2 hxk hcv hk hh
  go_enter Try.func14, Try.ntmps14
  go_wp2_with (first | (go_at_call 33; refine HC.out.mono ?_; rintro e w' ⟨rfl, rfl⟩) | (go_at_call 35; refine HH.out.mono ?_; rintro e w' ⟨rfl, rfl⟩) | (go_at_call 26; refine HN.out.mono ?_; rintro e w' ⟨rfl, n, rfl⟩))
  go_region
  go_wp2
  go_ret2
  exact ⟨rfl, HD.out _⟩

/-- What give does to the rows, as a premise. -/
def GiveOk (t g d cap : Nat) (xs : List Int) (r : List Value) (first harts : Nat) (n1 n2 : Nat → List Int) (h : Nat) (x : Int) : Prop :=
  ∀ (w1 : World) (v1 : Nat → Value), IsFr w1 t g d cap xs r first harts v1 n1 → Calls Try.prog 37 #[.pointer (some ⟨t, 0, none⟩), .int .i64 h, .int .i64 x] w1 fun e w' => e = .returned (.tuple #[]) ∧ Moved w1 w' t v1 n2

set_option maxHeartbeats 1000000 in
theorem decr_free (F : IsFr w t g d cap xs r first harts v ns) (h : Nat) (hh : h < harts) (x : Int) (k : Nat) (hxk : x = first + k) (hk : k < (ns 2).length) (hcv : gb (ns 2) k = 1) {n2 : Nat → List Int} (hG : GiveOk t g d cap (zeroF xs (first + k)) r first harts (upd ns 2 ((ns 2).set k 0)) n2 h x) (hn2 : (n2 2).length = (ns 2).length) :
    Calls Try.prog 14 #[.pointer (some ⟨t, 0, none⟩), .int .i64 h, .int .i64 x] w fun e w' => e = .returned (.tuple #[.bool true, .int .i64 0]) ∧ FrDid w w' t g d cap (zeroF xs (first + k)) r first harts v n2 := by
  have HC := hide (fclosed_is F)
  have HH := hide (fhasHart_is F h)
  rw [show (decide (0 ≤ (h : Int)) && decide ((h : Int) < (harts : Int))) = true by simp; omega] at HH
  have hsm := F.small
  have HN := hide (fCount_is F x (by omega))
  rw [cntF_at hxk hk, hcv] at HN
  obtain ⟨b2, c2, cur2, hv2, hb2, hl2, hm2⟩ := (F.rows.row 2 (.inl rfl)).blk (by omega)
  have hd1 := F.cell 1 (by decide)
  rw [F.v1] at hd1
  have hd2 := F.cell 2 (by decide)
  rw [hv2] at hd2
  have hd3 : w.cell? ⟨b2, k, none⟩ = some (.int .i64 1) := by rw [hb2.cell, ← hcv]; exact i64l_get _ _ _ hk
  have hd4 := hb2.frozen k
  have HFIT := hide (show 256 * (first + k) + 256 ≤ xs.length by have := F.fit; omega)
  have HD : Hid (∀ n, FrDid w ((w.drewN n).setCell ⟨b2, k, none⟩ (.int .i64 0)) t g d cap xs r first harts v (upd ns 2 ((ns 2).set k 0))) := hide (fun n => by
    obtain ⟨R3, T3⟩ := (F.drewN n).rows.setAt (i := 2) (.inl rfl) hv2 (k := k) hk 0
    have F3 := (F.drewN n).moved R3 T3 (fun _ _ => rfl) (by rw [upd_same, List.length_set])
    exact ⟨_, F3, ((Turn.refl w (d :: footL t v)).dr n).trans (T3.more d)⟩)
  have hw1 : IntKind.i64.wrap (x - (first : Int)) = k := by rw [IntKind.wrap_i64]; omega
  have hw2 : x - (first : Int) = k := by omega
  have hw3 : (k : Int) < (ns 2).length := by omega
  have HXK := hide hxk
  have HG := hide hG
  have HN2 := hide hn2
  have hx0 : (first : Int) ≤ x := by omega
  have hx1 : x ≤ 4096 := by omega
  clear F hv2 hb2 hl2 hm2 hxk hcv hk hh hG hn2
  go_enter Try.func14, Try.ntmps14
  go_wp2_with (first | (go_at_call 33; refine HC.out.mono ?_; rintro e w' ⟨rfl, rfl⟩) | (go_at_call 35; refine HH.out.mono ?_; rintro e w' ⟨rfl, rfl⟩) | (go_at_call 26; refine HN.out.mono ?_; rintro e w' ⟨rfl, n, rfl⟩))
  go_region
  have hdid := HD.out (n + 1)
  clear HD hd1 hd2 hd3 hd4 HC HH HN hw1 hw2 hw3
  revert hdid
  generalize (w.drewN (n + 1)).setCell ⟨b2, k, none⟩ (.int .i64 0) = w2
  intro hdid
  obtain ⟨v1, F1, T1⟩ := hdid
  have hc0 := F1.cell 0 (by decide)
  rw [F1.v0] at hc0
  have HZ := hide (zero_ok F1.mem x (by omega) (by have := HFIT.out; have := HXK.out; omega))
  rw [show x.toNat = first + k by have := HXK.out; omega] at HZ
  have HF1 := hide F1
  have HT1 := hide T1
  clear F1 T1
  go_wp2_with (go_at_call 18; refine HZ.out.mono ?_; rintro e w3 ⟨rfl, ho3, hm3⟩; have HF3 := hide (HF1.out.zeroed ho3 hm3 (zeroF_u8 HF1.out.u8 _) (zeroF_len HFIT.out)); have HT3 := hide (HT1.out.trans (Turn.self (F := footL t v1) ho3)); clear ho3 hm3)
  refine (HG.out _ _ HF3.out).mono ?_
  rintro e w4 ⟨rfl, v4, R4, T4, k4⟩
  have HD := hide (show FrDid w w4 t g d cap (zeroF xs (first + k)) r first harts v n2 from ⟨v4, HF3.out.moved R4 T4 k4 (by rw [upd_same, List.length_set]; exact HN2.out), HT3.out.trans (T4.more d)⟩)
  clear R4 T4 k4 HF3 HT3 HG
  go_wp2
  go_ret2
  exact ⟨rfl, HD.out⟩

set_option maxHeartbeats 1000000 in
theorem give_short (F : IsFr w t g d cap xs r first harts v ns) (h : Nat) (hh : h < 8) (x : Int) (hl : (ns (4 + h)).length < 16) :
    Calls Try.prog 37 #[.pointer (some ⟨t, 0, none⟩), .int .i64 h, .int .i64 x] w fun e w' => e = .returned (.tuple #[]) ∧ Moved w w' t v (upd ns (4 + h) (ns (4 + h) ++ [x])) := by
  have hsl : Slot (4 + h) := by unfold Slot; omega
  have hhi : (h : Int) < 8 := by omega
  obtain ⟨A, c, hv, -⟩ := (F.rows.row (4 + h) hsl).form
  have hc := F.cell (4 + h) (by omega)
  have hf := F.rows.free (4 + h)
  rw [hv] at hc
  have hl1 : ((ns (4 + h)).length : Int) + 1 ≤ 16 := by omega
  have HRA := hide (show IRow (w.alloc (.cells #[.int .i64 x] 3)) (.slice A (ns (4 + h)).length c) (ns (4 + h)) from by
    have := F.rows.row (4 + h) hsl
    rw [hv] at this
    exact KRow.only this ((Only.refl [] w).alloc _) (by simp))
  have HNW := hide (show ∀ ad, some (⟨w.heap.size, 0, none⟩ : Addr) = some ad → ∀ j u, (i64l [x])[j]? = some u → (w.alloc (.cells #[.int .i64 x] 3)).cell? (ad.add j) = some u from by
    rintro ad e j u hu
    injection e with e
    subst e
    have h0 : j = 0 := by
      have := (List.getElem?_eq_some_iff.1 hu).1
      simp [i64l] at this
      exact this
    subst h0
    rw [add_at, (Blk.new w 3 #[.int .i64 x]).cell]
    exact hu)
  have HBIG := hide (show (ns (4 + h)).length + 1 < 4000000000000 by omega)
  have HP := hide (fun (v5 : Value) (w5 : World) (h1 : IRow w5 v5 (ns (4 + h) ++ [x])) (h2 : Only (Value.slice A (ns (4 + h)).length c).ownBlock.toList (w.alloc (.cells #[.int .i64 x] 3)) w5)
      (h3 : ∀ k, v5.ownBlock = some k → (Value.slice A (ns (4 + h)).length c).ownBlock = some k ∨ (w.alloc (.cells #[.int .i64 x] 3)).heap.size ≤ k) =>
    (show w5.cell? ⟨t, 4 + h, none⟩ = some (.slice A (ns (4 + h)).length c) ∧ w5.frozen? ⟨t, 4 + h, none⟩ = false ∧ (∃ A5 c5, v5 = .slice A5 ((ns (4 + h)).length + 1) c5) ∧ Moved w (w5.setCell ⟨t, 4 + h, none⟩ v5) t v (upd ns (4 + h) (ns (4 + h) ++ [x])) from by
      have ho : Only (v (4 + h)).ownBlock.toList w w5 := by rw [hv]; exact (((Only.refl [] w).alloc _).mono (by simp)).trans h2
      have hb5 := F.rows.blk.only ho (fun hm => F.rows.ne hsl.lt (mem_own.1 hm) rfl)
      obtain ⟨A5, c5, e5, -⟩ := h1.form
      obtain ⟨R2, T2⟩ := F.rows.put hsl ho h1 (fun k hk => by
        rw [hv]
        exact (h3 k hk).imp id (fun h => by simp at h; omega))
      refine ⟨(hb5.cell _).trans ((cells13_get _ _ hsl.lt).trans (by rw [hv])), hb5.frozen _, ⟨A5, c5, by rw [e5, List.length_append]; rfl⟩, _, R2, T2, fun o ho => upd_far _ _ (fun e => ho (by rw [e]; exact hsl))⟩))
  clear F hv
  go_enter Try.func37, Try.ntmps37
  go_wp2_with (at_builtin; refine wpList_append_any rfl _ _ rfl (.slice A (ns (4 + h)).length c) (ns (4 + h)) rfl HRA.out (some ⟨w.heap.size, 0, none⟩) 1 1 rfl (fun e => by cases e) [x] rfl HNW.out HBIG.out ?_; intro v5 w5 h1 h2 h3; obtain ⟨k1, k2, ⟨A5, c5, rfl⟩, k4⟩ := HP.out v5 w5 h1 h2 h3; have HM := hide k4; clear h1 h2 h3 k4)
  go_end0
  exact ⟨rfl, HM.out⟩
end
end Go.Proofs.Ytfbegickdnjfcaa
