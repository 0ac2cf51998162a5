/-
  The document's own frames (parapetref06): Decr.
-/
import Derived.Test.YtfbegickdnjfcaaRef06e
import Derived.Test.YtfbegickdnjfcaaFrShP
namespace Go.Proofs.Ytfbegickdnjfcaa
open Go.ChangeShapes Go.WideShapes Go.ChangeAt Go.RowKit
set_option linter.unusedVariables false
set_option linter.unusedSimpArgs false
section
variable {w w' w1 w5 w9 : World} {a cC bL q : Nat} {vs : Nat → Value} {Z Z1 : List Nat} {first harts : Nat} {ns ns1 ns2 : Nat → List Int} {S : List Nat} {v5 : Value} {zs : List Int}
/-- Numbers that rise. -/
def Rises (l : List Int) : Prop := l.Pairwise fun x y => x ≤ y
theorem put_perm (zs : List Int) (x : Int) (k : Nat) : (zs.take k ++ [x] ++ zs.drop k).Perm (zs ++ [x]) := by
  have h1 : (zs.take k ++ [x] ++ zs.drop k).Perm (zs.take k ++ (zs.drop k ++ [x])) := by
    rw [List.append_assoc]
    exact List.Perm.append_left _ List.perm_append_comm
  rw [← List.append_assoc, List.take_append_drop] at h1
  exact h1
theorem put_rises {zs : List Int} {x : Int} {k : Nat} (hr : Rises zs) (h : AtN zs x k) : Rises (zs.take k ++ [x] ++ zs.drop k) := by
  obtain ⟨hk, h1, h2⟩ := h
  have hx : ∀ y ∈ zs.take k, y ≤ x := by
    intro y hy
    obtain ⟨i, hi, e⟩ := List.getElem_of_mem hy
    rw [List.length_take] at hi
    rw [List.getElem_take] at e
    have := h1 i (by omega)
    unfold gb at this
    rw [List.getD_eq_getElem?_getD, List.getElem?_eq_getElem (by omega), Option.getD_some, e] at this
    omega
  have hy : ∀ y ∈ zs.drop k, x ≤ y := by
    intro y hy
    obtain ⟨i, hi, e⟩ := List.getElem_of_mem hy
    rw [List.length_drop] at hi
    rw [List.getElem_drop] at e
    have h3 := h2 (by omega)
    unfold gb at h3
    rw [List.getD_eq_getElem?_getD, List.getElem?_eq_getElem (by omega), Option.getD_some] at h3
    by_cases e0 : i = 0
    · subst e0; rw [← e]; exact h3
    · have := (List.pairwise_iff_getElem.1 hr) k (k + i) (by omega) (by omega) (by omega)
      rw [e] at this
      omega
  have hp := hr
  unfold Rises at hp ⊢
  rw [← List.take_append_drop k zs, List.pairwise_append] at hp
  rw [List.pairwise_append, List.pairwise_append]
  refine ⟨⟨hp.1, List.pairwise_singleton _ _, fun y hy z hz => ?_⟩, hp.2.1, fun y hy' z hz => ?_⟩
  · rw [List.mem_singleton.1 hz]; exact hx y hy
  · rcases List.mem_append.1 hy' with h | h
    · exact hp.2.2 y h z hz
    · rw [List.mem_singleton.1 h]; exact hy z hz
theorem sortI_rises (l : List Int) : Rises (sortI l) := by
  have := List.pairwise_mergeSort (le := fun x y : Int => decide (x ≤ y)) (fun a b c h1 h2 => by simp only [decide_eq_true_eq] at *; omega) (fun a b => by simp only [Bool.or_eq_true, decide_eq_true_eq]; omega) l
  exact this.imp fun h => by simpa using h
theorem sortI_is {l m : List Int} (hr : Rises l) (hp : l.Perm m) : l = sortI m :=
  List.Perm.eq_of_pairwise (le := fun x y : Int => x ≤ y) (fun a b _ _ h1 h2 => by omega) hr (sortI_rises m) (hp.trans (List.mergeSort_perm _ _).symm)

/-- One block more counts as its own. -/
theorem R6.add (R : R6 w a cC bL vs Z first harts ns) (h1 : q ≠ a) (h2 : q ≠ cC) (h3 : q ≠ bL) (h4 : q < w.heap.size) : R6 w a cC bL vs (q :: Z) first harts ns :=
  ⟨R.blk, R.cnt, R.lst, fun o h => (R.see o h).more (fun k hk => List.mem_cons_of_mem _ hk), by simp [Ne.symm h1, R.az], by simp [Ne.symm h2, R.cz], by simp [Ne.symm h3, R.bz], R.hh, R.emp, R.small, R.few, fun k hk => by
    rcases List.mem_cons.1 hk with rfl | h
    · exact h4
    · exact R.zlt k h⟩
theorem R6.copyCommonZ (R : R6 w a cC bL vs Z first harts ns) (hc : Copied w w5 v5 zs) (hf : zs.length ≤ 4096) : ∃ vs' Z', R6 (w5.setCell ⟨a, 3, none⟩ v5) a cC bL vs' Z' first harts (upd ns 12 zs) ∧ (∀ k, k ∈ Z → k ∈ Z') ∧ Turn w (w5.setCell ⟨a, 3, none⟩ v5) (a :: cC :: bL :: Z) (a :: cC :: bL :: Z') ∧ Only [a, cC, bL] w (w5.setCell ⟨a, 3, none⟩ v5) := by
  obtain ⟨R', T'⟩ := R.setCommon (Z' := v5.ownBlock.toList ++ Z) hc.only ((SeesZ.of_row hc.row).more (fun k hk => List.mem_append.2 (.inl hk))) (fun k hk => List.mem_append.2 (.inr hk))
    (fun k hk => (List.mem_append.1 hk).elim (fun h => .inr (hc.new k (mem_own.1 h))) .inl) (fun k hk => (List.mem_append.1 hk).elim (fun h => (KRow.at_ hc.row (mem_own.1 h)).2.1) (fun h => Nat.lt_of_lt_of_le (R.zlt k h) hc.only.size)) hf
  exact ⟨_, _, R', fun k hk => List.mem_append.2 (.inr hk), T', (hc.only.mono (by simp)).trans ((Only.refl _ _).setCell _ (by simp))⟩
theorem upd_upd {α : Type} (f : Nat → α) (i : Nat) (x y : α) : upd (upd f i x) i y = upd f i y := by
  funext k
  by_cases h : k = i
  · subst h; rw [upd_same, upd_same]
  · rw [upd_far _ _ h, upd_far _ _ h, upd_far _ _ h]

/-- A list is set to a piece of a block that counts as its own. -/
theorem R6.setPiece (R : R6 w a cC bL vs Z first harts ns) {h : Nat} (hh : h < harts) {v' : Value} (hs : SeesZ w v' zs Z) (hf : zs.length ≤ 4096) : DidR w (w.setCell ⟨bL, h, none⟩ v') a cC bL Z first harts (upd ns (4 + h) zs) := by
  obtain ⟨R', T'⟩ := R.setList (Z' := Z) hh (Only.refl [] w) hs (fun k hk => hk) (fun k hk => .inl hk) R.zlt hf
  exact ⟨_, _, R', T', (Only.refl _ _).setCell _ (by simp)⟩

theorem rdecr_arg (R : R6 w a cC bL vs Z first harts ns) (h x : Int) (hh : ¬ (0 ≤ h ∧ h < harts)) :
    Calls Try.prog 23 #[.pointer (some ⟨a, 0, none⟩), .int .i64 h, .int .i64 x] w fun e w' => e = .returned (.tuple #[.bool false, .int .i64 1]) ∧ w = w' := by
  have c2 := R.c2
  by_cases h0 : h < 0
  · clear R
    go_enter Try.func23, Try.ntmps23
    go_wp2_with fail
    go_ret2
    exact ⟨rfl, rfl⟩
  · have h1 : (harts : Int) ≤ h := by omega
    have h2 : ¬ h < 0 := h0
    clear R
    go_enter Try.func23, Try.ntmps23
    go_wp2_with fail
    go_ret2
    exact ⟨rfl, rfl⟩

theorem rdecr_no (R : R6 w a cC bL vs Z first harts ns) (h : Nat) (hh : h < harts) (x : Int) (hx : x ≤ 9223372036854775807) (h0 : cntF first ns x = 0) :
    Calls Try.prog 23 #[.pointer (some ⟨a, 0, none⟩), .int .i64 h, .int .i64 x] w fun e w' => e = .returned (.tuple #[.bool false, .int .i64 60]) ∧ ∃ n, w' = w.drewN n := by
  have c2 := R.c2
  have hhi : (h : Int) < harts := by omega
  have h00 : ¬ ((h : Int) < 0) := by omega
  have HN := hide (rcount_is R x hx)
  rw [h0] at HN
  clear R h0
  go_enter Try.func23, Try.ntmps23
  go_wp2_with (go_at_call 27; refine HN.out.mono ?_; rintro e w' ⟨rfl, n, rfl⟩)
  go_ret2
  exact ⟨rfl, _, rfl⟩

/-- What stands behind the count's own turn. -/
theorem DidR.cut (h : DidR w w1 a cC bL Z first harts ns1) : ∃ vs1 Z1, R6 w1 a cC bL vs1 Z1 first harts ns1 ∧ ∀ w' ns2, DidR w1 w' a cC bL Z1 first harts ns2 → DidR w w' a cC bL Z first harts ns2 := by
  obtain ⟨vs1, Z1, R1, T1, O1⟩ := h
  refine ⟨vs1, Z1, R1, fun w' ns2 h2 => ?_⟩
  obtain ⟨vs2, Z2, R2, T2, O2⟩ := h2
  exact ⟨vs2, Z2, R2, T1.trans T2, O1.trans O2⟩


/-- Decr's way back, behind k rounds: the common ones hold k of the list's first. -/
def DecrI (w7 w8 wr : World) (a cC bL : Nat) (Z : List Nat) (first harts : Nat) (ns1 : Nat → List Int) (b6 : Nat) (l : List Int) (k : Nat) : Prop :=
  ∃ vsr Zr L, R6 wr a cC bL vsr Zr first harts (upd ns1 12 L) ∧ b6 ∈ Zr ∧ Turn w7 wr (a :: cC :: bL :: Z) (a :: cC :: bL :: Zr) ∧ Only [a, cC, bL] w7 wr ∧ Only [a, cC, bL] w8 wr ∧ L.Perm (ns1 12 ++ l.take k) ∧ Rises L
section
variable {w7 w8 wr : World} {h : Nat} {x : Int} {b6 c6 : Nat} {l cur : List Int} {cur' : List Value} {k : Nat}
theorem new_apart (R : R6 w7 a cC bL vs Z first harts ns1) (h4 : Copied w7 w8 (.slice (some ⟨b6, 0, none⟩) l.length c6) l) : w7.heap.size ≤ b6 ∧ b6 ≠ a ∧ b6 ≠ cC ∧ b6 ≠ bL := by
  have h0 := h4.new b6 rfl
  have h1 := R.alt a (by simp)
  have h2 := R.alt cC (by simp)
  have h3 := R.alt bL (by simp)
  omega
theorem DecrI.start (R : R6 w7 a cC bL vs Z first harts ns1) (h4 : Copied w7 w8 (.slice (some ⟨b6, 0, none⟩) l.length c6) l) (hb6 : Blk w8 b6 3 (i64l l ++ cur').toArray) (hr : Rises (ns1 12)) : DecrI w7 w8 w8 a cC bL Z first harts ns1 b6 l 0 := by
  obtain ⟨h0, n1, n2, n3⟩ := new_apart R h4
  refine ⟨vs, b6 :: Z, ns1 12, ?_, by simp, ⟨h4.only.mono (by simp), fun q hq => ?_⟩, h4.only.mono (by simp), Only.refl _ _, by simp, hr⟩
  · rw [upd_self]
    exact (R.only h4.only (by simp)).add n1 n2 n3 hb6.lt
  · simp only [List.mem_cons] at hq ⊢
    rcases hq with rfl | rfl | rfl | rfl | hq
    · simp
    · simp
    · simp
    · exact .inr h0
    · simp [hq]
theorem DecrI.look (H : DecrI w7 w8 wr a cC bL Z first harts ns1 b6 l k) (hk : k < l.length) (hb6 : Blk w8 b6 3 (i64l l ++ cur').toArray) (n1 : b6 ≠ a) (n2 : b6 ≠ cC) (n3 : b6 ≠ bL) (hsz : (ns1 12).length + l.length ≤ 4096) :
    ∃ A3 n3 c3, wr.cell? ⟨b6, k, none⟩ = some (.int .i64 (gb l k)) ∧ wr.cell? ⟨a, 3, none⟩ = some (.slice A3 n3 c3) ∧
      Calls Try.prog 47 #[.slice A3 n3 c3, .int .i64 (gb l k)] wr fun e w' => ∃ A5 n5 c5, e = .returned (.slice A5 n5 c5) ∧ (w'.cell? ⟨a, 3, none⟩ = some (.slice A3 n3 c3) ∧ w'.frozen? ⟨a, 3, none⟩ = false) ∧ DecrI w7 w8 (w'.setCell ⟨a, 3, none⟩ (.slice A5 n5 c5)) a cC bL Z first harts ns1 b6 l (k + 1) := by
  obtain ⟨vsr, Zr, L, R, hz, T, O7, O8, hp, hr⟩ := H
  obtain ⟨A3, c3, hv, -⟩ := R.form (.inl rfl)
  have hL : L.length ≤ 4096 := by
    have := hp.length_eq
    rw [List.length_append, List.length_take] at this
    omega
  have hL1 : L.length + 1 ≤ 4096 := by
    have := hp.length_eq
    rw [List.length_append, List.length_take] at this
    omega
  have d3 := R.c3
  have hs := R.see 12 (.inl rfl)
  rw [hv] at d3 hs
  rw [upd_same] at hs d3
  refine ⟨A3, L.length, c3, ?_, d3, ?_⟩
  · have := (hb6.only O8 (by simp; exact ⟨n1, n2, n3⟩)).cell k
    rw [this]
    exact i64l_get l cur' k hk
  · refine (rwith_is _ hs hL (gb l k)).mono ?_
    rintro e w' ⟨v', j, rfl, hat, hcp⟩
    obtain ⟨A5, c5, e5, -⟩ := hcp.row.form2
    subst e5
    have R5 := R.only hcp.only (by simp)
    have d5 := R5.c3
    rw [hv, upd_same] at d5
    refine ⟨_, _, _, rfl, ⟨d5, R5.blk.frozen _⟩, ?_⟩
    obtain ⟨vs2, Z2, R2, hz2, T2, O2⟩ := R.copyCommonZ hcp (by rw [(put_perm L (gb l k) j).length_eq, List.length_append, List.length_singleton]; exact hL1)
    rw [upd_upd] at R2
    refine ⟨vs2, Z2, _, R2, hz2 _ hz, T.trans T2, O7.trans O2, O8.trans O2, ?_, put_rises hr hat⟩
    refine (put_perm L (gb l k) j).trans ?_
    rw [List.take_add_one, List.getElem?_eq_getElem hk, Option.toList_some, ← List.append_assoc]
    have e : gb l k = l[k] := by unfold gb; rw [List.getD_eq_getElem?_getD, List.getElem?_eq_getElem hk, Option.getD_some]
    rw [e]
    exact hp.append_right _
theorem DecrI.fin (H : DecrI w7 w8 wr a cC bL Z first harts ns1 b6 (ns1 (4 + h) ++ [x]) 8) (hh : h < harts) (hl : ¬ (ns1 (4 + h)).length < 16) (hb6 : Blk w8 b6 3 (i64l (ns1 (4 + h) ++ [x]) ++ cur').toArray) (n1 : b6 ≠ a) (n2 : b6 ≠ cC) (n3 : b6 ≠ bL) (hc : (ns1 (4 + h)).length + 1 ≤ c6) (hm : c6 ≤ maxLen) (hf : (ns1 (4 + h)).length ≤ 4096) :
    ∃ vh, wr.cell? ⟨a, 2, none⟩ = some (.slice (some ⟨bL, 0, none⟩) harts harts) ∧ wr.cell? ⟨bL, h, none⟩ = some vh ∧ wr.frozen? ⟨bL, h, none⟩ = false ∧
      DidR w7 (wr.setCell ⟨bL, h, none⟩ (.slice (some ⟨b6, 8, none⟩) ((ns1 (4 + h)).length + 1 - 8) (c6 - 8))) a cC bL Z first harts (giveN ns1 h x) := by
  obtain ⟨vsr, Zr, L, R, hz, T, O7, O8, hp, hr⟩ := H
  have h8 := R.hh
  have hb := hb6.only O8 (by simp; exact ⟨n1, n2, n3⟩)
  have hL := sortI_is hr hp
  refine ⟨_, R.c2, R.cl h hh, R.lst.frozen _, ?_⟩
  have hlen : ((ns1 (4 + h) ++ [x]).drop 8).length = (ns1 (4 + h)).length + 1 - 8 := by rw [List.length_drop, List.length_append, List.length_singleton]
  have hsee : SeesZ wr (.slice (some ⟨b6, 8, none⟩) ((ns1 (4 + h)).length + 1 - 8) (c6 - 8)) ((ns1 (4 + h) ++ [x]).drop 8) Zr := by
    refine ⟨_, _, by rw [hlen], by rw [hlen]; omega, by omega, (fun e => by cases e), fun _ => ⟨b6, 8, rfl, hz, hb.lt, fun i hi => ?_⟩⟩
    rw [hlen] at hi
    rw [hb.cell, show gb ((ns1 (4 + h) ++ [x]).drop 8) i = gb (ns1 (4 + h) ++ [x]) (8 + i) by unfold gb; simp [List.getD_eq_getElem?_getD, List.getElem?_drop]]
    exact i64l_get _ cur' (8 + i) (by rw [List.length_append, List.length_singleton]; omega)
  obtain ⟨vs2, Z2, R2, T2, O2⟩ := R.setPiece hh hsee (by rw [hlen]; omega)
  have e : upd (upd ns1 12 L) (4 + h) ((ns1 (4 + h) ++ [x]).drop 8) = giveN ns1 h x := by
    have hne : (12 : Nat) ≠ 4 + h := by omega
    unfold giveN
    rw [if_neg hl]
    have e12 : moveN (upd ns1 (4 + h) (ns1 (4 + h) ++ [x])) 12 (4 + h) 8 12 = ns1 12 ++ (ns1 (4 + h) ++ [x]).take 8 := by
      unfold moveN
      rw [upd_far _ _ hne, upd_same, upd_same, upd_far _ _ hne]
    rw [e12, ← hL]
    unfold moveN
    funext o
    by_cases e1 : o = 12
    · subst e1
      rw [upd_far _ _ hne, upd_same, upd_same]
    · rw [upd_far _ _ e1]
      by_cases e2 : o = 4 + h
      · subst e2
        rw [upd_same, upd_same, upd_same]
      · rw [upd_far _ _ e2, upd_far _ _ e1, upd_far _ _ e2, upd_far _ _ e1, upd_far _ _ e2]
  rw [e] at R2
  exact ⟨vs2, Z2, R2, T.trans T2, O7.trans O2⟩
end

set_option maxHeartbeats 1000000 in
theorem rdecr_less (R : R6 w a cC bL vs Z first harts ns) (h : Nat) (hh : h < harts) (x : Int) (k : Nat) (hxk : x = first + k) (hk : k < (ns 2).length) (c : Int) (hcv : gb (ns 2) k = c) (c0 : 1 < c) (c1 : c ≤ 1048576) :
    Calls Try.prog 23 #[.pointer (some ⟨a, 0, none⟩), .int .i64 h, .int .i64 x] w fun e w' => e = .returned (.tuple #[.bool false, .int .i64 0]) ∧ DidR w w' a cC bL Z first harts (upd ns 2 ((ns 2).set k (c - 1))) := by
  have hsm := R.small
  have c2 := R.c2
  have hhi : (h : Int) < harts := by omega
  have h00 : ¬ ((h : Int) < 0) := by omega
  have HN := hide (rcount_is R x (by omega))
  rw [cntF_at hxk hk, hcv] at HN
  have hd0 := R.c0
  have hd1 := R.c1
  have hd3 : w.cell? ⟨cC, k, none⟩ = some (.int .i64 c) := by rw [R.cc k hk, hcv]
  have hd4 := R.cnt.frozen k
  have HD := hide (fun n => (show DidR w ((w.drewN n).setCell ⟨cC, k, none⟩ (.int .i64 (c - 1))) a cC bL Z first harts (upd ns 2 ((ns 2).set k (c - 1))) from by
    have ho : Only [] w (w.drewN n) := (Only.refl [] w).drewN n
    obtain ⟨R3, T3⟩ := R.setCount hk (c - 1) ho
    exact ⟨_, _, R3, T3, (ho.mono (by simp)).trans ((Only.refl _ _).setCell _ (by simp))⟩))
  have hw1 : IntKind.i64.wrap (x - (first : Int)) = k := by rw [IntKind.wrap_i64]; omega
  have hw2 : x - (first : Int) = k := by omega
  have hw3 : (k : Int) < (ns 2).length := by omega
  have HCN := hide (show cntF first (upd ns 2 ((ns 2).set k (c - 1))) x = c - 1 by
    rw [cntF_at (ns := upd ns 2 ((ns 2).set k (c - 1))) hxk (by rw [upd_same, List.length_set]; exact hk), upd_same]
    simp [gb, hk])
  have hxb : x ≤ 9223372036854775807 := by omega
  have e0 : (c == 0) = false := beq_eq_false_iff_ne.2 (by omega)
  have hgt : 0 < c - 1 := by omega
  clear R hxk hcv hk
  go_enter Try.func23, Try.ntmps23
  go_wp2_with (go_at_call 27; refine HN.out.mono ?_; rintro e w' ⟨rfl, n, rfl⟩)
  go_region
  go_wp2_with fail
  have HD1 := HD.out (n + 1)
  generalize (w.drewN (n + 1)).setCell ⟨cC, k, none⟩ (.int .i64 (c - 1)) = w6 at HD1 ⊢
  obtain ⟨vs6, Z6, R6', hup⟩ := HD1.cut
  have HN6 := rcount_is R6' x hxb
  rw [HCN.out] at HN6
  refine HN6.mono ?_
  rintro e w' ⟨rfl, m, rfl⟩
  have HF := hide (HD1.drewN m)
  clear HN6 R6' hup HD1
  go_wp2
  go_ret2
  exact ⟨rfl, HF.out⟩

set_option maxRecDepth 100000 in
set_option maxHeartbeats 2000000 in
theorem rdecr_free (R : R6 w a cC bL vs Z first harts ns) (h : Nat) (hh : h < harts) (x : Int) (k : Nat) (hxk : x = first + k) (hk : k < (ns 2).length) (hcv : gb (ns 2) k = 1) (hfr : (ns 12).length + (ns (4 + h)).length < 4096) (hri : Rises (ns 12)) :
    Calls Try.prog 23 #[.pointer (some ⟨a, 0, none⟩), .int .i64 h, .int .i64 x] w fun e w' => e = .returned (.tuple #[.bool true, .int .i64 0]) ∧ DidR w w' a cC bL Z first harts (giveN (upd ns 2 ((ns 2).set k 0)) h x) := by
  have hsm := R.small
  have c2 := R.c2
  have hhi : (h : Int) < harts := by omega
  have h00 : ¬ ((h : Int) < 0) := by omega
  have HN := hide (rcount_is R x (by omega))
  rw [cntF_at hxk hk, hcv] at HN
  have hd0 := R.c0
  have hd1 := R.c1
  have hd3 : w.cell? ⟨cC, k, none⟩ = some (.int .i64 1) := by rw [R.cc k hk, hcv]
  have hd4 := R.cnt.frozen k
  have HD := hide (fun n => (show DidR w ((w.drewN n).setCell ⟨cC, k, none⟩ (.int .i64 (0))) a cC bL Z first harts (upd ns 2 ((ns 2).set k (0))) from by
    have ho : Only [] w (w.drewN n) := (Only.refl [] w).drewN n
    obtain ⟨R3, T3⟩ := R.setCount hk (0) ho
    exact ⟨_, _, R3, T3, (ho.mono (by simp)).trans ((Only.refl _ _).setCell _ (by simp))⟩))
  have hw1 : IntKind.i64.wrap (x - (first : Int)) = k := by rw [IntKind.wrap_i64]; omega
  have hw2 : x - (first : Int) = k := by omega
  have hw3 : (k : Int) < (ns 2).length := by omega
  have HCN := hide (show cntF first (upd ns 2 ((ns 2).set k (0))) x = 0 by
    rw [cntF_at (ns := upd ns 2 ((ns 2).set k (0))) hxk (by rw [upd_same, List.length_set]; exact hk), upd_same]
    simp [gb, hk])
  have hxb : x ≤ 9223372036854775807 := by omega
  clear R hxk hcv hk
  go_enter Try.func23, Try.ntmps23
  go_wp2_with (go_at_call 27; refine HN.out.mono ?_; rintro e w' ⟨rfl, n, rfl⟩)
  go_region
  go_wp2_with fail
  have HD1 := HD.out (n + 1)
  generalize (w.drewN (n + 1)).setCell ⟨cC, k, none⟩ (.int .i64 (0)) = w6 at HD1 ⊢
  obtain ⟨vs6, Z6, R6', hup⟩ := HD1.cut
  have HN6 := rcount_is R6' x hxb
  rw [HCN.out] at HN6
  refine HN6.mono ?_
  rintro e w' ⟨rfl, m, rfl⟩
  have HUP := hide hup
  have R7 := R6'.drewN m
  have HUP7 := hide (fun w' ns2 (h2 : DidR (w6.drewN m) w' a cC bL Z6 first harts ns2) => (show DidR w w' a cC bL Z first harts ns2 from by
    refine hup w' ns2 ?_
    obtain ⟨vs2, Z2, R2, T2, O2⟩ := h2
    have ho : Only [] w6 (w6.drewN m) := (Only.refl [] w6).drewN m
    exact ⟨vs2, Z2, R2, T2.pre ho, (ho.mono (by simp)).trans O2⟩))
  clear HN6 R6' hup HUP HD1 HD HN HCN hd0 hd1 hd3 hd4 c2
  generalize w6.drewN m = w7 at R7 HUP7 ⊢
  have h8 := R7.hh
  have hne2 : upd ns 2 ((ns 2).set k 0) (4 + h) = ns (4 + h) := upd_far _ _ (by omega)
  have d2 := R7.c2
  have dl := R7.cl h hh
  obtain ⟨A, c, hv, hA, p1, p2, hsee⟩ := R7.form (o := 4 + h) (.inr ⟨by omega, by omega⟩)
  rw [hv] at dl
  rw [hne2] at hA p1 hsee dl
  have hl4 : (ns (4 + h)).length ≤ 4096 := by omega
  have d2a : ∀ o, (w7.alloc o).cell? ⟨a, 2, none⟩ = some (.slice (some ⟨bL, 0, none⟩) harts harts) := fun o => Lib.cell?_alloc_some _ d2
  have dla : ∀ o, (w7.alloc o).cell? ⟨bL, h, none⟩ = some (.slice A (ns (4 + h)).length c) := fun o => Lib.cell?_alloc_some _ dl
  have HA := hide hA
  have HNW := hide (fun W (ho : Only [] w7 W) => SeesZ.news (hsee W (ho.mono (by simp))))
  have HMB := hide (show (ns (4 + h)).length ≤ 100000 by omega)
  have HB1 := hide (show (ns (4 + h)).length + 1 < 4000000000000 by omega)
  have HP5 := hide (fun (A5 : Option Addr) (c5 : Nat) (w5 : World) (hcp : Copied w7 w5 (.slice A5 (ns (4 + h)).length c5) (ns (4 + h))) => (show (∀ W, Only [] w5 W → IRow W (.slice A5 (ns (4 + h)).length c5) (ns (4 + h))) ∧
      (∀ W, Only [] (w5.alloc (.cells #[.int .i64 x] 3)) W → ∀ ad, some (⟨w5.heap.size, 0, none⟩ : Addr) = some ad → ∀ j u, (i64l [x])[j]? = some u → W.cell? (ad.add j) = some u) ∧
      (∀ W v6 w6, Only [] w5 W → IRow w6 v6 (ns (4 + h) ++ [x]) → Only (Value.slice A5 (ns (4 + h)).length c5).ownBlock.toList W w6 → (∀ q, v6.ownBlock = some q → (Value.slice A5 (ns (4 + h)).length c5).ownBlock = some q ∨ W.heap.size ≤ q) → Copied w7 w6 v6 (ns (4 + h) ++ [x])) from
    ⟨fun W ho => KRow.only hcp.row ho (by simp), fun W ho => news_one w5 x W ho, fun W v6 w6 ho h1 h2 h3 => copied_more hcp ho h1 h2 h3⟩))
  have HR7 := hide R7
  clear hsee hA hv R7
  have HP6 := hide (fun (w8 : World) (v6 : Value) (h4 : Copied w7 w8 v6 (ns (4 + h) ++ [x])) => (show w8.cell? ⟨a, 2, none⟩ = some (.slice (some ⟨bL, 0, none⟩) harts harts) ∧ w8.cell? ⟨bL, h, none⟩ = some (vs6 (4 + h)) ∧ w8.frozen? ⟨bL, h, none⟩ = false from by
    have R8 := HR7.out.only h4.only (by simp)
    exact ⟨R8.c2, R8.cl h hh, R8.lst.frozen _⟩))
  have hn12 : upd ns 2 ((ns 2).set k 0) 12 = ns 12 := upd_far _ _ (by decide)
  by_cases hl : (ns (4 + h)).length < 16
  · have HE := hide (show giveN (upd ns 2 ((ns 2).set k 0)) h x = upd (upd ns 2 ((ns 2).set k 0)) (4 + h) (ns (4 + h) ++ [x]) by unfold giveN; rw [hne2, if_pos hl])
    have hgt : decide (16 < ((ns (4 + h)).length : Int) + 1) = false := by simp; omega
    go_wp2_with (first | (at_builtin; refine wpList_copy rfl _ _ rfl w7.heap.size rfl (Blk.new w7 3 #[]) A (ns (4 + h)).length c rfl HA.out (ns (4 + h)) rfl (HNW.out _ (by repeat (first | exact Only.refl _ _ | apply Only.drew | apply Only.alloc))) HMB.out w7 (by repeat (first | exact Only.refl _ _ | apply Only.drew | apply Only.alloc)) (Nat.le_refl _) ?_; intro A5 c5 w5 hcp; obtain ⟨q1, q3, q4⟩ := HP5.out A5 c5 w5 hcp; have HQ1 := hide q1; have HQ3 := hide q3; have HQ4 := hide q4; clear hcp q1 q3 q4) | (at_builtin; (refine wpList_append_any rfl _ _ rfl (.slice A5 (ns (4 + h)).length c5) (ns (4 + h)) rfl (HQ1.out _ (by repeat (first | exact Only.refl _ _ | apply Only.drew | apply Only.alloc))) (some ⟨w5.heap.size, 0, none⟩) 1 1 rfl (fun e => by cases e) [x] rfl (HQ3.out _ (by repeat (first | exact Only.refl _ _ | apply Only.drew | apply Only.alloc))) HB1.out ?_; intro v6 w8 h1 h2 h3; have h4 := HQ4.out _ v6 w8 (by repeat (first | exact Only.refl _ _ | apply Only.drew | apply Only.alloc)) h1 h2 h3; clear h1 h2 h3; obtain ⟨A6, c6, e6, -⟩ := h4.row.form2; rw [List.length_append, List.length_singleton] at e6; subst e6; obtain ⟨k1, k2, k3⟩ := HP6.out w8 _ h4; have HC6 := hide h4; clear h4)))
    go_ret2
    refine ⟨rfl, ?_⟩
    rw [HE.out]
    exact HUP7.out _ _ (by have := HR7.out.copyList hh HC6.out (by rw [List.length_append, List.length_singleton]; omega); exact this)
  · have hgt : decide (16 < ((ns (4 + h)).length : Int) + 1) = true := by simp; omega
    have HP8 := hide (fun (w8 : World) (v6 : Value) (h4 : Copied w7 w8 v6 (ns (4 + h) ++ [x])) => (show ∃ b6 c6 cur6, v6 = .slice (some ⟨b6, 0, none⟩) ((ns (4 + h)).length + 1) c6 ∧ (8 ≤ c6 ∧ (8 : Int) ≤ c6 ∧ (c6 : Int) ≤ 9223372036854775807) ∧
        DecrI w7 w8 w8 a cC bL Z6 first harts (upd ns 2 ((ns 2).set k 0)) b6 (ns (4 + h) ++ [x]) 0 ∧ Blk w8 b6 3 (i64l (ns (4 + h) ++ [x]) ++ cur6).toArray ∧ (b6 ≠ a ∧ b6 ≠ cC ∧ b6 ≠ bL) ∧ (ns (4 + h)).length + 1 ≤ c6 ∧ c6 ≤ maxLen from by
      obtain ⟨b6, c6, cur6, e6, hb6, hcl6, hm6⟩ := h4.row.blk (by simp)
      subst e6
      have hi := DecrI.start HR7.out h4 hb6 (by rw [hn12]; exact hri)
      have hna := (new_apart HR7.out h4).2
      rw [List.length_append, List.length_singleton] at hcl6
      refine ⟨b6, c6, cur6, by rw [List.length_append, List.length_singleton], ⟨by omega, by omega, ?_⟩, hi, hb6, hna, by omega, hm6⟩
      unfold maxLen at hm6
      omega))
    go_wp2_with (first | (at_builtin; refine wpList_copy rfl _ _ rfl w7.heap.size rfl (Blk.new w7 3 #[]) A (ns (4 + h)).length c rfl HA.out (ns (4 + h)) rfl (HNW.out _ (by repeat (first | exact Only.refl _ _ | apply Only.drew | apply Only.alloc))) HMB.out w7 (by repeat (first | exact Only.refl _ _ | apply Only.drew | apply Only.alloc)) (Nat.le_refl _) ?_; intro A5 c5 w5 hcp; obtain ⟨q1, q3, q4⟩ := HP5.out A5 c5 w5 hcp; have HQ1 := hide q1; have HQ3 := hide q3; have HQ4 := hide q4; clear hcp q1 q3 q4) | (at_builtin; (refine wpList_append_any rfl _ _ rfl (.slice A5 (ns (4 + h)).length c5) (ns (4 + h)) rfl (HQ1.out _ (by repeat (first | exact Only.refl _ _ | apply Only.drew | apply Only.alloc))) (some ⟨w5.heap.size, 0, none⟩) 1 1 rfl (fun e => by cases e) [x] rfl (HQ3.out _ (by repeat (first | exact Only.refl _ _ | apply Only.drew | apply Only.alloc))) HB1.out ?_; intro v6 w8 h1 h2 h3; have h4 := HQ4.out _ v6 w8 (by repeat (first | exact Only.refl _ _ | apply Only.drew | apply Only.alloc)) h1 h2 h3; clear h1 h2 h3; obtain ⟨b6, c6, cur6, rfl, ⟨g8, g9, g10⟩, k4⟩ := HP8.out w8 _ h4; have HL := hide k4; clear h4 k4)))
    have g11 : ¬ c6 = 8 := by have := HL.out.2.2.2.1; omega
    have hl9 : ((ns (4 + h)).length : Int) ≤ 4096 := by omega
    have g12 : ((ns (4 + h)).length : Int) + 1 ≤ c6 := by have := HL.out.2.2.2.1; omega
    have g13 : (8 : Int) ≤ ((ns (4 + h)).length : Int) + 1 := by omega
    have g14 : 8 ≤ (ns (4 + h)).length + 1 := by omega
    clear HP8 HP6 HP5 HQ1 HQ3 HQ4 HB1 HNW HA HMB dl dla d2 d2a
    go_loopw [62] (fun iv wr => ∃ j : Nat, j ≤ 8 ∧ iv = .int .i64 j ∧ DecrI w7 w8 wr a cC bL Z6 first harts (upd ns 2 ((ns 2).set k 0)) b6 (ns (4 + h) ++ [x]) j) (fun iv _ => 8 - (intOf iv).toNat)
    case atStart => exact ⟨0, by omega, rfl, HL.out.1⟩
    case round =>
      obtain ⟨j, hj, rfl, hI⟩ := hrel
      by_cases hlt : j < 8
      · obtain ⟨A3, n3, c3, f1, f2, f3⟩ := hI.look (by rw [List.length_append, List.length_singleton]; omega) HL.out.2.1 HL.out.2.2.1.1 HL.out.2.2.1.2.1 HL.out.2.2.1.2.2 (by rw [hn12, List.length_append, List.length_singleton]; omega)
        have HW := hide f3
        have hji : (j : Int) < 8 := by omega
        clear hI f3
        generalize gb (ns (4 + h) ++ [x]) j = y at f1 HW
        go_wp2_with (go_at_call 47; refine HW.out.mono ?_; rintro e w' ⟨A5, n5, c5, rfl, ⟨k1, k2⟩, hI⟩; have HI := hide hI; clear hI)
        go_roundw
        case rel => exact ⟨j + 1, by omega, by go_num, HI.out⟩
        case measure => simp [intOf]; omega
      · obtain rfl : j = 8 := by omega
        have hI' : DecrI w7 w8 wr a cC bL Z6 first harts (upd ns 2 ((ns 2).set k 0)) b6 (upd ns 2 ((ns 2).set k 0) (4 + h) ++ [x]) 8 := by rw [hne2]; exact hI
        obtain ⟨vh, f1, f2, f3, f4⟩ := hI'.fin hh (by rw [hne2]; exact hl) (by rw [hne2]; exact HL.out.2.1) HL.out.2.2.1.1 HL.out.2.2.1.2.1 HL.out.2.2.1.2.2 (by rw [hne2]; exact HL.out.2.2.2.1) HL.out.2.2.2.2 (by rw [hne2]; exact hl4)
        rw [hne2] at f4
        have HF := hide f4
        clear hI hI' f4
        go_wp2
        go_ret2
        exact ⟨rfl, HUP7.out _ _ HF.out⟩
end
end Go.Proofs.Ytfbegickdnjfcaa
