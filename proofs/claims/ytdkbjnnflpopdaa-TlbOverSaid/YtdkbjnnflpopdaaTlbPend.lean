/-
  Translations (parapet/tlb): Pending.
-/
import Derived.Test.YtdkbjnnflpopdaaTlbPut
import Derived.Test.YtdkbjnnflpopdaaSortRow
namespace Go.Proofs.Ytdkbjnnflpopdaa
open Go.ChangeShapes Go.WideShapes Go.ChangeAt Go.RowKit Go.Maps
set_option linter.unusedVariables false

theorem filter_one {α : Type} {p : α} {g g' : α → Bool} (h0 : g p = false) : ∀ (l : List α), l.Nodup → p ∈ l → (∀ q ∈ l, q ≠ p → g' q = g q) → (l.filter g').Perm (if g' p then l.filter g ++ [p] else l.filter g)
  | [], _, h, _ => by simp at h
  | x :: r, hnd, h, hg => by
    obtain ⟨hx, hr⟩ := List.nodup_cons.1 hnd
    by_cases e : x = p
    · subst e
      have hc : r.filter g' = r.filter g := List.filter_congr fun q hq => hg q (by simp [hq]) (fun e => hx (e ▸ hq))
      rw [List.filter_cons, List.filter_cons, hc, h0]
      by_cases hp : g' x = true
      · simp only [hp, if_true, Bool.false_eq_true, if_false]
        exact (List.perm_append_singleton x _).symm
      · simp only [hp, if_false, Bool.false_eq_true]
        exact List.Perm.refl _
    · have hm : p ∈ r := by
        rcases List.mem_cons.1 h with e1 | e1
        · exact absurd e1.symm e
        · exact e1
      have ih := filter_one h0 r hr hm (fun q hq => hg q (by simp [hq]))
      rw [List.filter_cons, List.filter_cons, hg x (by simp) e]
      by_cases hp : g' p = true
      · rw [if_pos hp] at ih ⊢
        split
        · exact ih.cons x
        · exact ih
      · rw [if_neg hp] at ih ⊢
        split
        · exact ih.cons x
        · exact ih

/-- The shootdowns whose interrupt is pending at hart h. -/
def pend (O : List (Int × Sh)) (h : Nat) : List Int := (O.filter fun p => p.2.2.getD h false).map (·.1)
def PendR (w : World) (ob : Nat) (D : DataW Unit) (O : List (Int × Sh)) (h : Nat) (lv : Value) (wr : World) : Prop :=
  ∃ (left : Lit → Bool) (cnt : Nat) (acc : List Int), KRow .i64 3 wr (w.heap.size + 1) lv acc ∧ wr.ranges Try.prog 3 elemS ob w.heap.size O.length D left cnt ∧
    acc.Perm ((O.filter fun p => !left (encS.kl p.1) && p.2.2.getD h false).map (·.1)) ∧ Only [] w wr

section
variable {w w' : World} {t hb ob n size : Nat} {begun : Int} {bs : Nat → Nat} {ls : Nat → List (K2 × K2)} {nx : Nat → Int} {O : List (Int × Sh)} {S : List Nat}
theorem sV_inj {s s' : Sh} (h : sV s = sV s') : s = s' := by
  have h2 : ∀ (a b : List Bool), a.map Value.bool = b.map Value.bool → a = b := by
    intro a
    induction a with
    | nil => intro b h; cases b with
      | nil => rfl
      | cons x b => simp at h
    | cons x a ih => intro b h; cases b with
      | nil => simp at h
      | cons y b =>
        simp only [List.map_cons, List.cons.injEq] at h
        obtain ⟨h1, h2⟩ := h
        injection h1 with h1
        rw [h1, ih b h2]
  injection h with h
  have h3 := congrArg Array.toList h
  simp only [List.cons.injEq] at h3
  obtain ⟨h4, h5⟩ := h3
  injection h4 with _ h4
  exact Prod.ext h4 (h2 _ _ h5)
theorem comeS {D : DataW Unit} {W : World} {b m : Nat} (H : MHolds encS D O) (hown : W.ownsMap Try.prog 3 elemS b m D) {x : Int} {s : Sh} {kl : Lit} {y : DataW Unit × List MemPlace} (hk : keyOf Try.prog 3 (.int .i64 x) = some kl) (hR : elemS (sV s) = some y) (hat : ∀ z, D.atKey kl z = y.1) : kl = encS.kl x ∧ (Lit.int .i64 x).wf = true ∧ (x, s) ∈ O ∧ s.2.length = 8 := by
  obtain ⟨x', e, rfl, hw⟩ := Maps.keyOf_int_inv Try.underlying3 hk
  injection e with _ e
  subst e
  obtain ⟨p, hp, ep⟩ := (H.has _).1 (Maps.has_true_of_atKey hat)
  have e1 : p.1 = x := encS.inj (H.wf p hp) hw ep
  have e2 := H.at_ p hp .nil
  rw [ep, hat] at e2
  obtain ⟨s', h8, es, ey⟩ := elemS_inv hR
  have hs : s = s' := sV_inj es
  subst hs
  rw [ey] at e2
  have e3 : s = p.2 := encS.dinj e2
  refine ⟨rfl, hw, ?_, h8⟩
  rw [← e1, e3]
  exact hp

set_option maxRecDepth 100000 in
theorem bPending_is (T : IsTlb w t hb ob n size begun bs ls nx O) (h : Nat) (hh : h < n) (hl : O.length < 4000000000) :
    Calls Try.prog 15 #[.pointer (some ⟨t, 0, none⟩), .int .i64 h] w fun e w' => ∃ v', e = .returned v' ∧ KRow .i64 3 w' (w.heap.size + 1) v' (sortK (pend O h)) ∧ Only [] w w' := by
  have hn8 := T.n1
  have HH := hide (show Calls Try.prog 32 #[.pointer (some ⟨t, 0, none⟩), .int .i64 h] w fun e w' => e = .returned (.bool true) ∧ w = w' from by
    have := bhas_is T h
    rwa [decide_eq_true (by omega)] at this)
  have hc3 : w.cell? ⟨t, 3, none⟩ = some (.map (some ob)) := T.blk.cell 3
  obtain ⟨D, hown, H⟩ := T.opn
  have hobl := hown.lt
  have HM := hide H
  have HOW := hide hown
  clear T H
  go_enter Try.func15, Try.ntmps15
  go_wp2_with (first | (go_at_call 32; refine HH.out.mono ?_; rintro e w' ⟨rfl, rfl⟩) | (at_range; refine wpList_range_own _ rfl _ 56 rfl 3 72 lawInt Try.underlying56 _ ob _ _ rfl hown ?_; intro w0 hrg0 hg0 hs0) | go_in)
  go_frame
  have hA0 : PendR w ob D O h (.slice none 0 0) w0 := by
    refine ⟨_, _, [], KRow.nil _ _ _ _, hrg0, ?_, Only.of_grown hg0 (by simp)⟩
    rw [List.filter_eq_nil_iff.2]
    · exact List.Perm.refl _
    · intro p hp
      rw [HM.out.some_ (k := p.1) (f := p.2) hp]
      simp
  have HA0 := hide hA0
  clear hA0 hrg0 hg0 hs0 hown hc3
  go_loopw [5] (fun lv wr => PendR w ob D O h lv wr) (fun _ wr => wr.rangeLeft ob w.heap.size)
  case atStart => exact HA0.out
  case round =>
    clear HA0
    obtain ⟨left, cnt, acc, hrow, hrg, hperm, ho⟩ := hrel
    go_wp2_with (first | (at_next; refine wpList_next_ranges _ rfl _ rfl 3 lawInt elemS (Value.int .i64) sV (fun key kl h => let ⟨k, e, _⟩ := Maps.keyOf_int_inv Try.underlying3 h; ⟨k, e⟩) (fun v y h => let ⟨f, _, e, _⟩ := elemS_inv h; ⟨f, e⟩) ob w.heap.size _ D left cnt rfl hrg ?_ ?_) | go_in)
    · intro _ hl0
      have hpd : acc.Perm (pend O h) := by
        have e : (O.filter fun p => !left (encS.kl p.1) && p.2.2.getD h false) = O.filter fun p => p.2.2.getD h false := List.filter_congr fun p _ => by rw [hl0]; rfl
        rw [e] at hperm
        exact hperm
      have hlen : acc.length ≤ 4000000000000 := by
        have h1 := hpd.length_eq
        have h2 : (pend O h).length ≤ O.length := by unfold pend; rw [List.length_map]; exact List.length_filter_le _ _
        omega
      have HSO := hide (sort_k hrow hlen)
      have HSC := hide (sortK_congr hpd)
      have HO := hide ho
      have HOWN := hide (fun q (hq : u5.ownBlock = some q) => (hrow.at_ hq).1)
      clear hrow hrg hperm ho hl0 hpd hlen
      go_wp2_with (go_at_call 35; refine HSO.out.mono ?_; rintro e w2 ⟨rfl, hr2, ho2⟩; have HR2 := hide hr2; have HO2 := hide ho2; clear hr2 ho2)
      go_ret
      refine ⟨u5, rfl, by rw [← HSC.out]; exact HR2.out, HO.out.trans' HO2.out (fun q h1 h2 => ?_)⟩
      have := HOWN.out q (by simpa using h2)
      omega
    · intro x s1 ws kl y1 y2 w1 cnt1 hkx hlx hRy hat hrg1 hlt hg1 hs1 hen
      obtain ⟨rfl, hxw, hxs, h8⟩ := comeS HM.out hrg.owns (x := x) (s := (s1, ws)) hkx hRy hat
      have hstep := filter_one (g := fun p : Int × Sh => !left (encS.kl p.1) && p.2.2.getD h false) (g' := fun p => !(left (encS.kl p.1) && !(encS.kl p.1).sameKey (encS.kl x)) && p.2.2.getD h false) (p := (x, (s1, ws))) (by simp only; rw [hlx]; rfl) O ((List.pairwise_map.1 HM.out.nd).imp (fun h e => h (congrArg _ e))) hxs (fun q hq hne => by
        have : (encS.kl q.1).sameKey (encS.kl x) = false := Maps.sameKey_ne (fun e => hne (HM.out.uniq hq hxs (encS.inj (HM.out.wf q hq) hxw e)))
        try dsimp only
        rw [this]
        simp)
      have hgp : (!(left (encS.kl x) && !(encS.kl x).sameKey (encS.kl x)) && ws.getD h false) = ws.getD h false := by
        rw [WideAt.sameKey_self (encS.key x)]
        simp
      dsimp only at hstep
      rw [hgp] at hstep
      have ho1 : Only [] w w1 := by
        have h2 : Only [w.heap.size] wr w1 := Only.of_grown hg1 (fun q hq _ => by injection hq with hq; simp [hq])
        exact ho.trans' h2 (fun q h3 h4 => by simp at h4; omega)
      have hrow1 := KRow.only hrow (Only.of_grown (S := [w.heap.size]) hg1 (fun q hq _ => by injection hq with hq; simp [hq])) (fun q hq hm => by
        simp at hm
        have := (hrow.at_ hq).1
        omega)
      obtain ⟨b0, b1, b2, b3, b4, b5, b6, b7, rfl⟩ := eight h8
      simp only [sV, List.map_cons, List.map_nil] at hen
      simp only [sV, List.map_cons, List.map_nil]
      clear hkx hRy hat hg1 hlx hgp hxs h8 hxw
      obtain ⟨wv, hwv⟩ : ∃ wv : Bool, [b0, b1, b2, b3, b4, b5, b6, b7].getD h false = wv := ⟨_, rfl⟩
      rw [hwv] at hstep
      have hld : (w1.alloc (.cells #[.int .i64 s1, .bool b0, .bool b1, .bool b2, .bool b3, .bool b4, .bool b5, .bool b6, .bool b7] 72)).cell? ⟨wr.heap.size, 1 + h, none⟩ = some (.bool wv) := by
        rw [← hs1, (Blk.new w1 72 _).cell, ← hwv]
        have : h = 0 ∨ h = 1 ∨ h = 2 ∨ h = 3 ∨ h = 4 ∨ h = 5 ∨ h = 6 ∨ h = 7 := by omega
        rcases this with rfl | rfl | rfl | rfl | rfl | rfl | rfl | rfl <;> rfl
      have hh8 : (h : Int) < 8 := by omega
      have hrgA := hrg1.alloc (.cells #[.int .i64 s1, .bool b0, .bool b1, .bool b2, .bool b3, .bool b4, .bool b5, .bool b6, .bool b7] 72)
      have hrowA := KRow.only hrow1 ((Only.refl [] w1).alloc (.cells #[.int .i64 s1, .bool b0, .bool b1, .bool b2, .bool b3, .bool b4, .bool b5, .bool b6, .bool b7] 72)) (by simp)
      have hoA := ho1.alloc (.cells #[.int .i64 s1, .bool b0, .bool b1, .bool b2, .bool b3, .bool b4, .bool b5, .bool b6, .bool b7] 72)
      have HLE := hide hrg.left_eq
      have hsA : (w1.alloc (.cells #[.int .i64 s1, .bool b0, .bool b1, .bool b2, .bool b3, .bool b4, .bool b5, .bool b6, .bool b7] 72)).heap.size = wr.heap.size + 1 := by simp [hs1]
      have hwsz : w.heap.size + 1 ≤ wr.heap.size := hrg.lt
      cases wv
      · have HE := hide (show PendR w ob D O h u5 (w1.alloc (.cells #[.int .i64 s1, .bool b0, .bool b1, .bool b2, .bool b3, .bool b4, .bool b5, .bool b6, .bool b7] 72)) ∧ (w1.alloc (.cells #[.int .i64 s1, .bool b0, .bool b1, .bool b2, .bool b3, .bool b4, .bool b5, .bool b6, .bool b7] 72)).rangeLeft ob w.heap.size < wr.rangeLeft ob w.heap.size from
          ⟨⟨_, cnt1, acc, hrowA, hrgA, by
            have := hstep.map (·.1)
            simp only [Bool.false_eq_true, if_false] at this
            exact hperm.trans this.symm, hoA⟩, by rw [hrgA.left_eq, HLE.out]; exact hlt⟩)
        clear hrow hrow1 hrg hrg1 hrgA hrowA hoA ho ho1 hperm hstep hlt
        go_wp2
        exact HE.out
      · have HRW := hide hrowA
        have HRG := hide hrgA
        have HOA := hide hoA
        have HPM := hide (show (acc ++ [x]).Perm ((O.filter fun p => !(left (encS.kl p.1) && !(encS.kl p.1).sameKey (encS.kl x)) && p.2.2.getD h false).map (·.1)) from by
          have := hstep.map (·.1)
          simp only [if_true, List.map_append, List.map_cons, List.map_nil] at this
          exact (hperm.append_right _).trans this.symm)
        have HOB := hide (fun q (hq : some q = u5.ownBlock) => (hrow.at_ hq.symm).1)
        have HCN := hide (show ∀ W : World, W.heap.size = wr.heap.size + 1 → (W.alloc (.cells #[.int .i64 x] 3)).cell? ⟨wr.heap.size + 1, 0, none⟩ = some (.int .i64 x) from fun W e => by
          rw [← e]; exact (Blk.new W 3 #[.int .i64 x]).cell 0)
        have HLN := hide (show acc.length < 4000000000000 from by
          have h1 := hperm.length_eq
          rw [List.length_map] at h1
          have h2 := List.length_filter_le (fun p : Int × Sh => !left (encS.kl p.1) && p.2.2.getD h false) O
          omega)
        have HBD := hide (show w.heap.size + 1 ≤ wr.heap.size + 1 + 1 by omega)
        have HLT := hide hlt
        have HW1 := hide hsA
        clear hrow hrow1 hrg hrg1 hrgA hrowA hoA ho ho1 hperm hstep hlt
        go_wp2_with (at_builtin; refine wpList_append_k (k := .i64) (e := 3) (T := 35) (bytes := 8) Try.underlying35 info_int (by decide) rfl _ _ rfl _ rfl (HRW.out.only ((Only.refl [] _).alloc _) (by simp)) (wr.heap.size + 1) x rfl (HCN.out _ HW1.out) HLN.out (by have := HBD.out; have := HW1.out; simp at this ⊢; omega) ?_; intro v' w2 hr2 hg2)
        have hrg2 := (HRG.out.alloc (.cells #[.int .i64 x] 3)).kept hg2 (fun e => by have := HOB.out _ e; omega) (fun e => by have := HOB.out _ e; omega)
        have ho2 := (HOA.out.alloc (.cells #[.int .i64 x] 3)).trans' (Only.of_grown (S := u5.ownBlock.toList) hg2 (fun q hq _ => by have hq' : u5.ownBlock = some q := hq; simp [hq'])) (fun q h1 h2 => by have := HOB.out q (by simp at h2; exact h2.symm); omega)
        exact ⟨⟨_, cnt1, _, hr2, hrg2, HPM.out, ho2⟩, by rw [hrg2.left_eq, HLE.out]; exact HLT.out⟩
end
end Go.Proofs.Ytdkbjnnflpopdaa
