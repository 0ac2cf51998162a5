/-
  The document's own frames (parapetref06): copies of rows; fill.
-/
import Derived.Test.YtfbegickdnjfcaaRef06
namespace Go.Proofs.Ytfbegickdnjfcaa
open Go.ChangeShapes Go.WideShapes Go.ChangeAt Go.RowKit
set_option linter.unusedVariables false

/-- A new row, a copy of some numbers. -/
structure Copied (w w5 : World) (v5 : Value) (zs : List Int) : Prop where
  row : IRow w5 v5 zs
  only : Only [] w w5
  new : ∀ q, v5.ownBlock = some q → w.heap.size ≤ q
theorem copied_of {w V w5 : World} {H : Nat} {v5 : Value} {zs : List Int} (hV : Only [] w V) (hs : w.heap.size ≤ H) (h1 : IRow w5 v5 ([] ++ zs)) (h2 : Only (Value.slice (some ⟨H, 0, none⟩) 0 0).ownBlock.toList V w5)
    (h3 : ∀ k, v5.ownBlock = some k → (Value.slice (some ⟨H, 0, none⟩) 0 0).ownBlock = some k ∨ V.heap.size ≤ k) : Copied w w5 v5 zs := by
  refine ⟨h1, hV.trans' h2 (fun k hk hm => ?_), fun q hq => ?_⟩
  · simp [Value.ownBlock] at hm; omega
  · rcases h3 q hq with h | h
    · simp [Value.ownBlock] at h; omega
    · exact Nat.le_trans hV.size h
theorem row_empty {w : World} {H : Nat} (hb : Blk w H 3 #[]) : IRow w (.slice (some ⟨H, 0, none⟩) 0 0) [] :=
  ⟨by simp, .inr ⟨H, 0, #[], rfl, Nat.zero_le _, hb, Nat.le_refl _, Nat.zero_le _, rfl, by simp⟩⟩

theorem step_copy {ops : Array Oper} {o : Oper} {a : Act} {w : World} {K : Act → World → Prop} {Q : Exit → Act → World → Prop} {E : Prop} (hgd : o.guard = none) (s x : Operand)
    (ho : o.op = .call { callee := .builtin .append, args := #[s, x], argTypes := #[46, 46] }) (H : Nat) (hs : a.eval s = .slice (some ⟨H, 0, none⟩) 0 0) (hb : Blk w H 3 #[])
    (A : Option Addr) (m c : Nat) (hx : a.eval x = .slice A m c) (hA : A = none → m = 0 ∧ c = 0) (zs : List Int) (hz : zs.length = m) (hnews : ∀ ad, A = some ad → ∀ j u, (i64l zs)[j]? = some u → w.cell? (ad.add j) = some u) (hbig : m ≤ 100000)
    (w0 : World) (hw0 : Only [] w0 w) (hH : w0.heap.size ≤ H)
    (hK : ∀ A' c' w2, Copied w0 w2 (.slice A' m c') zs → K (a.put o.dst (.slice A' m c')) w2) :
    if Region.wanted o (yielded ops a.tmps) = true then Oper.wp Try.prog o a w K Q else E :=
  step_append_any hgd s x ho _ [] hs (row_empty hb) A m c hx hA zs hz hnews (by simp; omega) fun v' w2 h1 h2 h3 => by
    have hc := copied_of hw0 hH h1 h2 h3
    obtain ⟨A', c', e, -⟩ := hc.row.form
    rw [hz] at e
    subst e
    exact hK A' c' w2 hc
theorem wpList_copy {ops : Array Oper} {rest : List Oper} {o : Oper} {a : Act} {w : World} {Q : Exit → Act → World → Prop} (hgd : o.guard = none) (s x : Operand)
    (ho : o.op = .call { callee := .builtin .append, args := #[s, x], argTypes := #[46, 46] }) (H : Nat) (hs : a.eval s = .slice (some ⟨H, 0, none⟩) 0 0) (hb : Blk w H 3 #[])
    (A : Option Addr) (m c : Nat) (hx : a.eval x = .slice A m c) (hA : A = none → m = 0 ∧ c = 0) (zs : List Int) (hz : zs.length = m) (hnews : ∀ ad, A = some ad → ∀ j u, (i64l zs)[j]? = some u → w.cell? (ad.add j) = some u) (hbig : m ≤ 100000)
    (w0 : World) (hw0 : Only [] w0 w) (hH : w0.heap.size ≤ H)
    (hK : ∀ A' c' w2, Copied w0 w2 (.slice A' m c') zs → wpList Try.prog ops Q rest (a.put o.dst (.slice A' m c')) w2) : wpList Try.prog ops Q (o :: rest) a w :=
  wpList_append_any hgd s x ho _ [] hs (row_empty hb) A m c hx hA zs hz hnews (by simp; omega) fun v' w2 h1 h2 h3 => by
    have hc := copied_of hw0 hH h1 h2 h3
    obtain ⟨A', c', e, -⟩ := hc.row.form
    rw [hz] at e
    subst e
    exact hK A' c' w2 hc

section
variable {w w' w1 w5 : World} {a cC bL : Nat} {vs : Nat → Value} {Z Z1 : List Nat} {first harts : Nat} {ns ns1 ns2 : Nat → List Int} {S : List Nat} {v5 : Value} {zs : List Int}
theorem DidR.trans (h : DidR w w1 a cC bL Z first harts ns1) (h2 : ∀ vs1 Z1, R6 w1 a cC bL vs1 Z1 first harts ns1 → DidR w1 w' a cC bL Z1 first harts ns2) : DidR w w' a cC bL Z first harts ns2 := by
  obtain ⟨vs1, Z1, R1, T1, O1⟩ := h
  obtain ⟨vs2, Z2, R2, T2, O2⟩ := h2 vs1 Z1 R1
  exact ⟨vs2, Z2, R2, T1.trans T2, O1.trans O2⟩
theorem DidR.drewN (h : DidR w w1 a cC bL Z first harts ns1) (n : Nat) : DidR w (w1.drewN n) a cC bL Z first harts ns1 := by
  obtain ⟨vs1, Z1, R1, T1, O1⟩ := h
  exact ⟨vs1, Z1, R1.drewN n, T1.dr n, O1.drewN n⟩
theorem R6.copyList (R : R6 w a cC bL vs Z first harts ns) {h : Nat} (hh : h < harts) (hc : Copied w w5 v5 zs) (hf : zs.length ≤ 4096) : DidR w (w5.setCell ⟨bL, h, none⟩ v5) a cC bL Z first harts (upd ns (4 + h) zs) := by
  obtain ⟨R', T'⟩ := R.setList (Z' := v5.ownBlock.toList ++ Z) hh hc.only ((SeesZ.of_row hc.row).more (fun k hk => List.mem_append.2 (.inl hk))) (fun k hk => List.mem_append.2 (.inr hk))
    (fun k hk => (List.mem_append.1 hk).elim (fun h => .inr (hc.new k (mem_own.1 h))) .inl) (fun k hk => (List.mem_append.1 hk).elim (fun h => (KRow.at_ hc.row (mem_own.1 h)).2.1) (fun h => Nat.lt_of_lt_of_le (R.zlt k h) hc.only.size)) hf
  exact ⟨_, _, R', T', (hc.only.mono (by simp)).trans ((Only.refl _ _).setCell _ (by simp))⟩
theorem R6.copyCommon (R : R6 w a cC bL vs Z first harts ns) (hc : Copied w w5 v5 zs) (hf : zs.length ≤ 4096) : DidR w (w5.setCell ⟨a, 3, none⟩ v5) a cC bL Z first harts (upd ns 12 zs) := by
  obtain ⟨R', T'⟩ := R.setCommon (Z' := v5.ownBlock.toList ++ Z) hc.only ((SeesZ.of_row hc.row).more (fun k hk => List.mem_append.2 (.inl hk))) (fun k hk => List.mem_append.2 (.inr hk))
    (fun k hk => (List.mem_append.1 hk).elim (fun h => .inr (hc.new k (mem_own.1 h))) .inl) (fun k hk => (List.mem_append.1 hk).elim (fun h => (KRow.at_ hc.row (mem_own.1 h)).2.1) (fun h => Nat.lt_of_lt_of_le (R.zlt k h) hc.only.size)) hf
  exact ⟨_, _, R', T', (hc.only.mono (by simp)).trans ((Only.refl _ _).setCell _ (by simp))⟩
/-- A row as one may cut it. -/
theorem R6.form (R : R6 w a cC bL vs Z first harts ns) {o : Nat} (h : RSlot harts o) : ∃ A c, vs o = .slice A (ns o).length c ∧ (A = none → (ns o).length = 0 ∧ c = 0) ∧ (ns o).length ≤ c ∧ c ≤ maxLen ∧ ∀ W, Only [a, cC, bL] w W → SeesZ W (.slice A (ns o).length c) (ns o) Z := by
  obtain ⟨A, c, e, h1, h2, h3, _⟩ := R.see o h
  refine ⟨A, c, e, h3, h1, h2, fun W ho => ?_⟩
  have := (R.see o h).only ho (fun k hk hm => by
    simp at hm
    rcases hm with rfl | rfl | rfl
    · exact R.az hk
    · exact R.cz hk
    · exact R.bz hk)
  rwa [e] at this
/-- The tail of a slice, as the walk writes it. -/
theorem SeesZ.tail {A : Option Addr} {n c m : Nat} {zs : List Int} {Z S : List Nat} (hs : ∀ W, Only S w W → SeesZ W (.slice A n c) zs Z) (hn : zs.length = n) (hm : m ≤ n) (hp : 0 < n) :
    ∃ b o A', A = some ⟨b, o, none⟩ ∧ (if c = m then (some ⟨b, o, none⟩ : Option Addr) else some ⟨b, o + m, none⟩) = some A' ∧ ∀ W, Only S w W → ∀ ad, some A' = some ad → ∀ j u, (i64l (zs.drop m))[j]? = some u → W.cell? (ad.add j) = some u := by
  obtain ⟨A0, c0, e, h1, h2, h3, hA⟩ := hs w (Only.refl _ _)
  injection e with e1 e2 e3
  subst e1; subst e3
  obtain ⟨b, o, eb, _, _, _⟩ := hA (by omega)
  subst eb
  by_cases hcm : c = m
  · refine ⟨b, o, ⟨b, o, none⟩, rfl, by rw [if_pos hcm], fun W _ ad _ j u hu => ?_⟩
    have h0 : zs.drop m = [] := by apply List.eq_nil_of_length_eq_zero; rw [List.length_drop]; omega
    rw [h0] at hu
    simp [i64l] at hu
  · refine ⟨b, o, ⟨b, o + m, none⟩, rfl, by rw [if_neg hcm], fun W ho ad e j u hu => ?_⟩
    injection e with e
    subst e
    have := SeesZ.news (hs W ho) ⟨b, o, none⟩ rfl (m + j) u (by rw [← hu]; simp [i64l])
    rw [add_at] at this ⊢
    rw [Nat.add_assoc]
    exact this
/-- The head of a slice. -/
theorem SeesZ.head {A : Option Addr} {n c m : Nat} {zs : List Int} {Z S : List Nat} (hs : ∀ W, Only S w W → SeesZ W (.slice A n c) zs Z) : ∀ W, Only S w W → ∀ ad, A = some ad → ∀ j u, (i64l (zs.take m))[j]? = some u → W.cell? (ad.add j) = some u := by
  intro W ho ad e j u hu
  refine SeesZ.news (hs W ho) ad e j u ?_
  have hj : j < m := by
    have := (List.getElem?_eq_some_iff.1 hu).1
    rw [i64l_length, List.length_take] at this
    omega
  rw [← hu]
  simp [i64l, hj]

theorem richN_stop (ns : Nat → List Int) (m : Nat) (hm : 1 ≤ m) (he : ∀ o, 4 + m ≤ o → o ≤ 11 → ns o = []) : ∀ k, m + k ≤ 8 → richN ns (m + k) = richN ns m
  | 0, _ => rfl
  | k + 1, h => by
    rw [show m + (k + 1) = (m + k) + 1 by omega, richN, if_neg ?_]
    · exact richN_stop ns m hm he k (by omega)
    · rw [he (4 + (m + k)) (by omega) (by omega)]
      simp
theorem richN_lt' (ns : Nat → List Int) : ∀ k, 1 ≤ k → richN ns k < k
  | 0, h => by omega
  | k + 1, _ => by
    unfold richN
    split
    · omega
    · by_cases h : k = 0
      · subst h; unfold richN; omega
      · have := richN_lt' ns k (by omega); omega

set_option maxRecDepth 100000 in
set_option maxHeartbeats 2000000 in
theorem rfill_common (R : R6 w a cC bL vs Z first harts ns) (h : Nat) (hh : h < harts) (he : (ns (4 + h)).length = 0) (h0 : 0 < (ns 12).length) :
    Calls Try.prog 45 #[.pointer (some ⟨a, 0, none⟩), .int .i64 h] w fun e w' => e = .returned (.tuple #[]) ∧ DidR w w' a cC bL Z first harts (refillN ns h) := by
  have h8 := R.hh
  have HE := hide (show refillN ns h = upd (upd ns (4 + h) ((ns 12).take (min 8 (ns 12).length))) 12 ((ns 12).drop (min 8 (ns 12).length)) from by
    unfold refillN moveN
    rw [if_pos h0, List.eq_nil_of_length_eq_zero he, List.nil_append])
  rw [HE.out]
  obtain ⟨m, hm⟩ : ∃ m, min 8 (ns 12).length = m := ⟨_, rfl⟩
  rw [hm]
  have hm0 : 0 < m := by omega
  have hml : m ≤ (ns 12).length := by omega
  have hm8 : m ≤ 8 := by omega
  have hmin : min (8 : Int) ((ns 12).length : Int) = (m : Int) := by omega
  have h12 := R.few 12
  obtain ⟨A, c, hv, hA, q1, q2, hsee⟩ := R.form (.inl rfl)
  have c2 := R.c2
  have c3 := R.c3
  rw [hv] at c3
  have HR := hide R
  have HA := hide (show A = none → m = 0 ∧ c = 0 from fun e => by have := (hA e).1; omega)
  have HTK := hide (show ((ns 12).take m).length = m by rw [List.length_take]; omega)
  have HNW := hide (SeesZ.head (m := m) hsee)
  have HMB := hide (show m ≤ 100000 by omega)
  have HP := hide (fun A5 c5 w5 (hcp : Copied w w5 (.slice A5 m c5) ((ns 12).take m)) => (show (w5.cell? ⟨a, 2, none⟩ = some (.slice (some ⟨bL, 0, none⟩) harts harts) ∧ w5.cell? ⟨bL, h, none⟩ = some (vs (4 + h)) ∧ w5.frozen? ⟨bL, h, none⟩ = false) ∧
      DidR w (w5.setCell ⟨bL, h, none⟩ (.slice A5 m c5)) a cC bL Z first harts (upd ns (4 + h) ((ns 12).take m)) from by
    have R5 := HR.out.only hcp.only (by simp)
    exact ⟨⟨R5.c2, R5.cl h hh, R5.lst.frozen _⟩, R.copyList hh hcp (by rw [List.length_take]; omega)⟩))
  have c2a : ∀ o, (w.alloc o).cell? ⟨a, 2, none⟩ = some (.slice (some ⟨bL, 0, none⟩) harts harts) := fun o => Lib.cell?_alloc_some _ c2
  have c3a : ∀ o, (w.alloc o).cell? ⟨a, 3, none⟩ = some (.slice A (ns 12).length c) := fun o => Lib.cell?_alloc_some _ c3
  have hmc : m ≤ c := by omega
  have hcm : (c : Int) ≤ 9223372036854775807 := by unfold maxLen at q2; omega
  have hhi : (h : Int) < harts := by omega
  clear R hA hsee hv he HE hm
  go_enter Try.func45, Try.ntmps45
  go_wp2
  go_region_law (refine step_copy rfl _ _ rfl w.heap.size (by simp [Act.eval, Act.put]) (Blk.new w 3 #[]) A m c (by simp [Act.eval, Act.put]) HA.out ((ns 12).take m) HTK.out (HNW.out _ (by repeat (first | exact Only.refl _ _ | apply Only.drew | apply Only.alloc))) HMB.out w (by repeat (first | exact Only.refl _ _ | apply Only.drew | apply Only.alloc)) (Nat.le_refl _) ?_; intro A5 c5 w5 hcp; obtain ⟨⟨k1, k2, k3⟩, k4⟩ := HP.out A5 c5 w5 hcp; have HD5 := hide k4; clear hcp k4)
  all_goals
    obtain ⟨vs1, Z1, R1, T1, O1⟩ := HD5.out
    clear HD5 k1 k2 k3 c2 c3 c2a c3a HP HNW HA HTK hmin
    revert R1 T1 O1
    generalize w5.setCell ⟨bL, h, none⟩ (.slice A5 m c5) = w6
    intro R1 T1 O1
    have hn1 : upd ns (4 + h) ((ns 12).take m) 12 = ns 12 := upd_far _ _ (by omega)
    obtain ⟨A1, c1, hv1, hA1, p1, p2, hsee1⟩ := R1.form (.inl rfl)
    have d3 := R1.c3
    rw [hv1] at d3
    rw [hn1] at d3 hA1 p1 hsee1
    have d3a : ∀ o, (w6.alloc o).cell? ⟨a, 3, none⟩ = some (.slice A1 (ns 12).length c1) := fun o => Lib.cell?_alloc_some _ d3
    obtain ⟨b12, o12, A', rfl, hA', hnw2⟩ := SeesZ.tail hsee1 rfl hml h0
    have HNW2 := hide hnw2
    have HTD := hide (show ((ns 12).drop m).length = (ns 12).length - m by rw [List.length_drop])
    have HMB2 := hide (show (ns 12).length - m ≤ 100000 by omega)
    have HP2 := hide (fun A7 c7 w7 (hcp : Copied w6 w7 (.slice A7 ((ns 12).length - m) c7) ((ns 12).drop m)) => (show (w7.cell? ⟨a, 3, none⟩ = some (vs1 12) ∧ w7.frozen? ⟨a, 3, none⟩ = false) ∧
        DidR w (w7.setCell ⟨a, 3, none⟩ (.slice A7 ((ns 12).length - m) c7)) a cC bL Z first harts (upd (upd ns (4 + h) ((ns 12).take m)) 12 ((ns 12).drop m)) from by
      have R7 := R1.only hcp.only (by simp)
      refine ⟨⟨R7.c3, R7.blk.frozen _⟩, ?_⟩
      obtain ⟨vs2, Z2, R2, T2, O2⟩ := R1.copyCommon hcp (by rw [List.length_drop]; omega)
      exact ⟨vs2, Z2, R2, T1.trans T2, O1.trans O2⟩))
    have hm9 : (m : Int) ≤ (ns 12).length := by omega
    have hc9 : ((ns 12).length : Int) ≤ c1 := by omega
    have hcm9 : (c1 : Int) ≤ 9223372036854775807 := by unfold maxLen at p2; omega
    clear R1 T1 O1 hnw2 hsee1 hA1 hv1 hn1
    go_wp2_with (at_builtin; refine wpList_copy rfl _ _ rfl w6.heap.size rfl (Blk.new w6 3 #[]) (some A') ((ns 12).length - m) (c1 - m) rfl (fun e => by cases e) ((ns 12).drop m) HTD.out (HNW2.out _ (by repeat (first | exact Only.refl _ _ | apply Only.drew | apply Only.alloc))) HMB2.out w6 (by repeat (first | exact Only.refl _ _ | apply Only.drew | apply Only.alloc)) (Nat.le_refl _) ?_; intro A7 c7 w7 hcp; obtain ⟨⟨k1, k2⟩, k3⟩ := HP2.out A7 c7 w7 hcp; have HD7 := hide k3; clear hcp k3)
    refine bodyPost_ret (results_none rfl _ _ _) rfl ?_
    exact ⟨rfl, HD7.out⟩

end
end Go.Proofs.Ytfbegickdnjfcaa
