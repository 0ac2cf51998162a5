/-
  The document's pipe (parapetref21): New, Open, Close, Ready, takes, Read, Write.
-/
import Derived.Test.YteljjngmhldfbaaPiRow
namespace Go.Proofs.Yteljjngmhldfbaa
open Go.ChangeShapes Go.WideShapes Go.ChangeAt Go.RowKit
set_option linter.unusedVariables false
set_option linter.unusedSimpArgs false
theorem wp_append_new {o : Oper} {a : Act} {w : World} {K : Act → World → Prop} {Q : Exit → Act → World → Prop} (s x : Operand)
    (ho : o.op = .call { callee := .builtin .append, args := #[s, x], argTypes := #[29, 29] }) (B k : Nat) (hs : a.eval s = .slice (some ⟨k, 0, none⟩) 0 0) (hB : B ≤ k) (hk : Blk w k 5 #[])
    (A : Option Addr) (n c : Nat) (hx : a.eval x = .slice A n c) (hA : A = none → n = 0 ∧ c = 0) (xs : List Int) (hy : Sees w A n xs) (hbig : n ≤ 140737488355328)
    (h : ∀ v' w1, Fresh w1 B v' xs → Only [k] w w1 → (∀ d, v'.ownBlock = some d → d = k ∨ w.heap.size ≤ d) → BRow w1 B v' xs → K (a.put o.dst v') w1) : Oper.wp Try.prog o a w K Q := by
  obtain ⟨i0, hi0, hz0, hz1, hz2⟩ := info_parts info_u8
  have hl := hy.1
  have hr : BRow w B (.slice (some ⟨k, 0, none⟩) 0 0) [] := ⟨by simp, .inr ⟨k, 0, #[], rfl, hB, hk, Nat.le_refl _, Nat.zero_le _, rfl, by simp⟩⟩
  rcases A with _ | ad
  · obtain ⟨rfl, rfl⟩ := hA rfl
    have hzs : xs = [] := List.eq_nil_of_length_eq_zero hl
    subst hzs
    have hrun := run_append_owned_none (P := Try.prog) (w := w) B 29 o.type 5 i0 1 Try.underlying29 hi0 _ 0 [] hr
    unfold Oper.wp
    simp [execOp, ho, resolve, invoke, builtin, hs, hx, hrun, Result.andThen]
    exact h _ w ⟨k, 0, [], rfl, hB, by simpa [u8l] using hk, rfl⟩ (Only.refl _ _) (fun d hd => .inl (by simpa [Value.ownBlock] using hd.symm)) hr
  · obtain ⟨v', w', hrun, h2, h3, h4, h5⟩ := run_append_own_at (P := Try.prog) w B 29 o.type 5 i0 _ 1 1 Try.underlying29 hi0 hz0 hz1 hz2 rfl (by decide) _ 0 [] hr ad n c (u8l xs) (by rw [u8l_length, hl, Nat.mul_one]) (by
      intro j u hj
      have hjn : j < xs.length := by
        have := (List.getElem?_eq_some_iff.1 hj).1
        rw [u8l_length] at this
        exact this
      obtain ⟨b, q, e, _, hc⟩ := hy.2 (by omega)
      injection e with e
      subst e
      rw [add_at, hc j (by omega)]
      have e : (u8l xs)[j]? = some (Value.int .u8 (gb xs j)) := by simp [u8l, gb, List.getD, List.getElem?_eq_getElem hjn]
      rw [e] at hj
      exact hj) (u8l_one _) (by unfold maxLen; omega) (by omega) (Nat.le_trans hB (Nat.le_of_lt hk.lt))
    unfold Oper.wp
    simp [execOp, ho, resolve, invoke, builtin, hs, hx, hrun, Result.andThen]
    refine h v' w' (Fresh.of_own (n := n) (by simpa using h2) (fun e => ?_)) (Only.of_grown h3 (fun q hq _ => ?_)) ?_ ?_
    · exact absurd (h4.1 e).1 (by simp)
    · simp [Value.ownBlock] at hq; simp [hq]
    · intro d hd
      rcases h5 with h5 | h5
      · rw [h5] at hd; exact .inl (by simpa [Value.ownBlock] using hd.symm)
      · rw [h5] at hd; injection hd with hd; exact .inr (Nat.le_of_eq hd)
    · unfold BRow KRow
      rw [hl]
      simpa [u8l] using h2
theorem step_append_new {ops : Array Oper} {o : Oper} {a : Act} {w : World} {K : Act → World → Prop} {Q : Exit → Act → World → Prop} {E : Prop} (hgd : o.guard = none) (s x : Operand)
    (ho : o.op = .call { callee := .builtin .append, args := #[s, x], argTypes := #[29, 29] }) (B k : Nat) (hs : a.eval s = .slice (some ⟨k, 0, none⟩) 0 0) (hB : B ≤ k) (hk : Blk w k 5 #[])
    (A : Option Addr) (n c : Nat) (hx : a.eval x = .slice A n c) (hA : A = none → n = 0 ∧ c = 0) (xs : List Int) (hy : Sees w A n xs) (hbig : n ≤ 140737488355328)
    (h : ∀ v' w1, Fresh w1 B v' xs → Only [k] w w1 → (∀ d, v'.ownBlock = some d → d = k ∨ w.heap.size ≤ d) → BRow w1 B v' xs → K (a.put o.dst v') w1) : if Region.wanted o (yielded ops a.tmps) = true then Oper.wp Try.prog o a w K Q else E := by
  have hw : Region.wanted o (yielded ops a.tmps) = true := by simp [Region.wanted, hgd]
  rw [if_pos hw]
  exact wp_append_new s x ho B k hs hB hk A n c hx hA xs hy hbig h
theorem step_append_b {ops : Array Oper} {o : Oper} {a : Act} {w : World} {v : Value} {ns zs : List Int} {B : Nat} {K : Act → World → Prop} {Q : Exit → Act → World → Prop} {E : Prop} (hgd : o.guard = none) (s x : Operand)
    (ho : o.op = .call { callee := .builtin .append, args := #[s, x], argTypes := #[29, 29] }) (hs : a.eval s = v) (hr : BRow w B v ns)
    (A : Option Addr) (m c : Nat) (hx : a.eval x = .slice A m c) (hA : A = none → m = 0 ∧ c = 0) (hz : Sees w A m zs) (hbig : ns.length + m ≤ 140737488355328) (hB : B ≤ w.heap.size)
    (hK : ∀ v' w2, BRow w2 B v' (ns ++ zs) → Only v.ownBlock.toList w w2 → (∀ k, v'.ownBlock = some k → v.ownBlock = some k ∨ w.heap.size ≤ k) → K (a.put o.dst v') w2) : if Region.wanted o (yielded ops a.tmps) = true then Oper.wp Try.prog o a w K Q else E := by
  have hw : Region.wanted o (yielded ops a.tmps) = true := by simp [Region.wanted, hgd]
  rw [if_pos hw]
  exact wp_append_b s x ho hs hr A m c hx hA hz hbig hB hK

section
variable {w w' : World} {g B0 : Nat} {v : Value} {B : List Int} {r q : Int} {S : List Nat}
/-- A first part and what is left, as new slices. -/
def Took (w w' : World) (e : Ending) (X Y : List Int) : Prop :=
  ∃ v1 v2, e = .returned (.tuple #[v1, v2]) ∧ Fresh w' w.heap.size v1 X ∧ BRow w' w.heap.size v2 Y ∧ v1.ownBlock ≠ v2.ownBlock ∧ Only [] w w'
theorem Fresh.own {w : World} {B : Nat} {v : Value} {xs : List Int} (h : Fresh w B v xs) : ∃ d, v.ownBlock = some d ∧ B ≤ d ∧ d < w.heap.size := by
  obtain ⟨d, c, r, rfl, hB, hb, -⟩ := h
  exact ⟨d, rfl, hB, hb.lt⟩
theorem Fresh.only {w w' : World} {B : Nat} {v : Value} {xs : List Int} {S : List Nat} (h : Fresh w B v xs) (ho : Only S w w') (hs : ∀ d, v.ownBlock = some d → d ∉ S) : Fresh w' B v xs := by
  obtain ⟨d, c, r, rfl, hB, hb, hl⟩ := h
  exact ⟨d, c, r, rfl, hB, hb.only ho (hs d rfl), hl⟩
theorem took_end {w5 W w6 : World} {k : Nat} {v5 v6 : Value} {X Y : List Int} (hf5 : Fresh w5 w.heap.size v5 X) (hW : Only [] w5 W) (hk : w.heap.size ≤ k) (hne : v5.ownBlock ≠ some k) (hf6 : BRow w6 w.heap.size v6 Y) (ho6 : Only [k] W w6)
    (hd6 : ∀ d, v6.ownBlock = some d → d = k ∨ W.heap.size ≤ d) (ho5 : Only [] w w5) : Fresh w6 w.heap.size v5 X ∧ BRow w6 w.heap.size v6 Y ∧ v5.ownBlock ≠ v6.ownBlock ∧ Only [] w w6 := by
  obtain ⟨d, e1, hd, hlt⟩ := hf5.own
  have hdk : d ≠ k := fun e => hne (by rw [e1, e])
  refine ⟨(hf5.only hW (by simp)).only ho6 (fun d' e => by rw [e1] at e; injection e with e; simp; omega), hf6, fun e => ?_, (ho5.trans hW).trans' ho6 (fun q hq hm => by simp at hm; omega)⟩
  rcases hd6 d (by rw [← e, e1]) with h | h
  · exact hdk h
  · have := hW.size; omega
set_option maxRecDepth 100000 in
set_option maxHeartbeats 1000000 in
theorem takes_at {b c m : Nat} (hm : B.length = m) (hpos : 0 < m) (hbig : m ≤ 65536) (hc : m ≤ c) (hs : Sees w (some ⟨b, 0, none⟩) m B) (hbl : b < w.heap.size) (k : Nat) (hk : k ≤ m) (n : Int) (hnk : (n ≤ m ∧ n = k) ∨ ((m : Int) < n ∧ k = m)) :
    Calls Try.prog 48 #[.slice (some ⟨b, 0, none⟩) m c, .int .i64 n] w fun e w' => Took w w' e (B.take k) (B.drop k) := by
  have HL1 := hide (show (B.take k).length = k by rw [List.length_take]; omega)
  have HL2 := hide (show (B.drop k).length = m - k by rw [List.length_drop]; omega)
  obtain ⟨A, hA⟩ : ∃ A : Option Addr, (if c = k then some (⟨b, 0, none⟩ : Addr) else some ⟨b, k, none⟩) = A := ⟨_, rfl⟩
  have HA0 := hide (show A ≠ none by rw [← hA]; split <;> simp)
  have HA := hide (show 0 < m - k → A = some ⟨b, k, none⟩ by intro h; rw [← hA, if_neg (by omega)])
  have HS1 := hide (fun W (hW : Only [] w W) => (show Sees W (some ⟨b, 0, none⟩) k (B.take k) from ⟨HL1.out, fun h0 => ⟨b, 0, rfl, Nat.lt_of_lt_of_le hbl hW.size, fun i hi => by
    obtain ⟨b', o', e, hb, hcc⟩ := hs.2 hpos
    injection e with e; injection e with e1 e2; subst e1 e2
    rw [hW.cell hb (by simp), gb_take hi]
    exact hcc i (by omega)⟩⟩))
  have HS2 := hide (fun W (hW : Only [] w W) => (show Sees W A (m - k) (B.drop k) from ⟨HL2.out, fun h0 => ⟨b, k, HA.out h0, Nat.lt_of_lt_of_le hbl hW.size, fun i hi => by
    obtain ⟨b', o', e, hb, hcc⟩ := hs.2 hpos
    injection e with e; injection e with e1 e2; subst e1 e2
    rw [hW.cell hb (by simp), gb_drop]
    have := hcc (k + i) (by omega)
    rw [Nat.zero_add] at this
    exact this⟩⟩))
  have hkI : (k : Int) ≤ m := by omega
  have hkc : (k : Int) ≤ c := by omega
  have hmc : (m : Int) ≤ c := by omega
  have HB1 := hide (show k ≤ 140737488355328 by omega)
  have HB2 := hide (show m - k ≤ 140737488355328 by omega)
  have HF := hide (fun W (hW : Only [] (w.alloc (.cells #[] 5)) W) => (Blk.new w 5 #[]).only hW (by simp))
  have HFb := hide (fun W (hW : Only [] ((w.alloc (.cells #[] 5)).alloc (.cells #[] 5)) W) => (show Blk W (w.heap.size + 1) 5 #[] from by
    have := (Blk.new (w.alloc (.cells #[] 5)) 5 #[]).only hW (by simp)
    simpa using this))
  have HFc := hide (fun W (hW : Only [] ((w.alloc (.cells #[] 5)).alloc (.cells #[] 5)) W) => ((Blk.new w 5 #[]).alloc (.cells #[] 5)).only hW (by simp))
  clear hs
  rcases hnk with ⟨h1, h2⟩ | ⟨h1, h2⟩
  · subst h2
    have hd : decide ((m : Int) < k) = false := decide_eq_false (by omega)
    have hd2 : decide (m < k) = false := decide_eq_false (by omega)
    clear h1
    go_enter Try.func48, Try.ntmps48
    go_wp2_with fail
    go_region_law (first | (refine step_append_new rfl (.tmp 12) (.tmp 15) rfl w.heap.size (w.heap.size) ?_ ?_ (HF.out _ ?_) (some ⟨b, 0, none⟩) k c ?_ ?_ (B.take k) (HS1.out _ ?_) HB1.out ?_; (· simp [Act.eval, Act.put]); (· omega); (· repeat (first | (with_reducible exact Only.refl _ _) | (with_reducible apply Only.drew) | (with_reducible apply Only.alloc))); (· simp [Act.eval, Act.put]); (· simp); (· repeat (first | (with_reducible exact Only.refl _ _) | (with_reducible apply Only.drew) | (with_reducible apply Only.alloc))); intro v5 w5 hf5 ho5 hd5 hb5; have HO5 := hide ho5; have H5 := hide (And.intro hf5 (And.intro hd5 (Only.trans' ((by repeat (first | (with_reducible exact Only.refl _ _) | (with_reducible apply Only.drew) | (with_reducible apply Only.alloc))) : Only [] w _) ho5 (fun q hq hm => by simp at hm; omega)))); clear hf5 ho5 hd5 hb5) | (refine step_append_new rfl (.tmp 12) (.tmp 15) rfl w.heap.size (w.heap.size + 1) ?_ ?_ (HFb.out _ ?_) (some ⟨b, 0, none⟩) k c ?_ ?_ (B.take k) (HS1.out _ ?_) HB1.out ?_; (· simp [Act.eval, Act.put]); (· omega); (· repeat (first | (with_reducible exact Only.refl _ _) | (with_reducible apply Only.drew) | (with_reducible apply Only.alloc))); (· simp [Act.eval, Act.put]); (· simp); (· repeat (first | (with_reducible exact Only.refl _ _) | (with_reducible apply Only.drew) | (with_reducible apply Only.alloc))); intro v5 w5 hf5 ho5 hd5 hb5; have HO5 := hide ho5; have H5 := hide (And.intro hf5 (And.intro hd5 (Only.trans' ((by repeat (first | (with_reducible exact Only.refl _ _) | (with_reducible apply Only.drew) | (with_reducible apply Only.alloc))) : Only [] w _) ho5 (fun q hq hm => by simp at hm; omega)))); clear hf5 ho5 hd5 hb5) | (refine step_append_new rfl (.tmp 17) (.tmp 20) rfl w.heap.size (w5.heap.size) ?_ ?_ (?_) A (m - k) (c - k) ?_ (fun e => absurd e HA0.out) (B.drop k) (HS2.out _ (H5.out.2.2.trans ?_)) HB2.out ?_; (· simp [Act.eval, Act.put]); (· have := H5.out.2.2.size; omega); (· repeat (first | (with_reducible exact Blk.new _ _ _) | (with_reducible apply Blk.drew))); (· simp [Act.eval, Act.put]); (· repeat (first | (with_reducible exact Only.refl _ _) | (with_reducible apply Only.drew) | (with_reducible apply Only.alloc))); intro v6 w6 hf6 ho6 hd6 hb6; have HT := hide (took_end H5.out.1 (show Only [] w5 _ from (by repeat (first | (with_reducible exact Only.refl _ _) | (with_reducible apply Only.drew) | (with_reducible apply Only.alloc)))) (by have := H5.out.2.2.size; omega) (fun e => by obtain ⟨d, e1, _, h⟩ := H5.out.1.own; rw [e] at e1; injection e1 with e1; omega) hb6 ho6 hd6 H5.out.2.2); clear hf6 ho6 hd6 hb6) | (refine step_append_new rfl (.tmp 17) (.tmp 20) rfl w.heap.size (w.heap.size + 1) ?_ ?_ (Blk.only (HFb.out _ ?_) HO5.out (by simp)) A (m - k) (c - k) ?_ (fun e => absurd e HA0.out) (B.drop k) (HS2.out _ (H5.out.2.2.trans ?_)) HB2.out ?_; (· simp [Act.eval, Act.put]); (· have := H5.out.2.2.size; omega); (· repeat (first | (with_reducible exact Only.refl _ _) | (with_reducible apply Only.drew) | (with_reducible apply Only.alloc))); (· simp [Act.eval, Act.put]); (· repeat (first | (with_reducible exact Only.refl _ _) | (with_reducible apply Only.drew) | (with_reducible apply Only.alloc))); intro v6 w6 hf6 ho6 hd6 hb6; have HT := hide (took_end H5.out.1 (show Only [] w5 _ from (by repeat (first | (with_reducible exact Only.refl _ _) | (with_reducible apply Only.drew) | (with_reducible apply Only.alloc)))) (by have := H5.out.2.2.size; omega) (fun e => by have h1 := H5.out.2.1 _ e; first | omega | (simp at h1; done) | (simp at h1; omega)) hb6 ho6 hd6 H5.out.2.2); clear hf6 ho6 hd6 hb6) | (refine step_append_new rfl (.tmp 17) (.tmp 20) rfl w.heap.size (w.heap.size) ?_ ?_ (Blk.only (HFc.out _ ?_) HO5.out (by simp)) A (m - k) (c - k) ?_ (fun e => absurd e HA0.out) (B.drop k) (HS2.out _ (H5.out.2.2.trans ?_)) HB2.out ?_; (· simp [Act.eval, Act.put]); (· have := H5.out.2.2.size; omega); (· repeat (first | (with_reducible exact Only.refl _ _) | (with_reducible apply Only.drew) | (with_reducible apply Only.alloc))); (· simp [Act.eval, Act.put]); (· repeat (first | (with_reducible exact Only.refl _ _) | (with_reducible apply Only.drew) | (with_reducible apply Only.alloc))); intro v6 w6 hf6 ho6 hd6 hb6; have HT := hide (took_end H5.out.1 (show Only [] w5 _ from (by repeat (first | (with_reducible exact Only.refl _ _) | (with_reducible apply Only.drew) | (with_reducible apply Only.alloc)))) (by have := H5.out.2.2.size; omega) (fun e => by have h1 := H5.out.2.1 _ e; first | omega | (simp at h1; done) | (simp at h1; omega)) hb6 ho6 hd6 H5.out.2.2); clear hf6 ho6 hd6 hb6))
    all_goals
      go_wp2
      go_ret2
      obtain ⟨t1, t2, t3, t4⟩ := HT.out
      exact ⟨_, _, rfl, t1, t2, t3, t4⟩
  · subst h2
    have hd : decide ((k : Int) < n) = true := decide_eq_true h1
    have HS0 := hide (fun W (hW : Only [] w W) => (show Sees W A 0 (B.drop k) from by have := HS2.out W hW; rw [Nat.sub_self] at this; exact this))
    clear h1
    go_enter Try.func48, Try.ntmps48
    go_wp2_with fail
    go_region_law (first | (refine step_append_new rfl (.tmp 12) (.tmp 15) rfl w.heap.size (w.heap.size) ?_ ?_ (HF.out _ ?_) (some ⟨b, 0, none⟩) k c ?_ ?_ (B.take k) (HS1.out _ ?_) HB1.out ?_; (· simp [Act.eval, Act.put]); (· omega); (· repeat (first | (with_reducible exact Only.refl _ _) | (with_reducible apply Only.drew) | (with_reducible apply Only.alloc))); (· simp [Act.eval, Act.put]); (· simp); (· repeat (first | (with_reducible exact Only.refl _ _) | (with_reducible apply Only.drew) | (with_reducible apply Only.alloc))); intro v5 w5 hf5 ho5 hd5 hb5; have HO5 := hide ho5; have H5 := hide (And.intro hf5 (And.intro hd5 (Only.trans' ((by repeat (first | (with_reducible exact Only.refl _ _) | (with_reducible apply Only.drew) | (with_reducible apply Only.alloc))) : Only [] w _) ho5 (fun q hq hm => by simp at hm; omega)))); clear hf5 ho5 hd5 hb5) | (refine step_append_new rfl (.tmp 12) (.tmp 15) rfl w.heap.size (w.heap.size + 1) ?_ ?_ (HFb.out _ ?_) (some ⟨b, 0, none⟩) k c ?_ ?_ (B.take k) (HS1.out _ ?_) HB1.out ?_; (· simp [Act.eval, Act.put]); (· omega); (· repeat (first | (with_reducible exact Only.refl _ _) | (with_reducible apply Only.drew) | (with_reducible apply Only.alloc))); (· simp [Act.eval, Act.put]); (· simp); (· repeat (first | (with_reducible exact Only.refl _ _) | (with_reducible apply Only.drew) | (with_reducible apply Only.alloc))); intro v5 w5 hf5 ho5 hd5 hb5; have HO5 := hide ho5; have H5 := hide (And.intro hf5 (And.intro hd5 (Only.trans' ((by repeat (first | (with_reducible exact Only.refl _ _) | (with_reducible apply Only.drew) | (with_reducible apply Only.alloc))) : Only [] w _) ho5 (fun q hq hm => by simp at hm; omega)))); clear hf5 ho5 hd5 hb5) | (refine step_append_new rfl (.tmp 17) (.tmp 20) rfl w.heap.size (w5.heap.size) ?_ ?_ (?_) A 0 (c - k) ?_ (fun e => absurd e HA0.out) (B.drop k) (HS0.out _ (H5.out.2.2.trans ?_)) (Nat.zero_le _) ?_; (· simp [Act.eval, Act.put]); (· have := H5.out.2.2.size; omega); (· repeat (first | (with_reducible exact Blk.new _ _ _) | (with_reducible apply Blk.drew))); (· simp [Act.eval, Act.put]); (· repeat (first | (with_reducible exact Only.refl _ _) | (with_reducible apply Only.drew) | (with_reducible apply Only.alloc))); intro v6 w6 hf6 ho6 hd6 hb6; have HT := hide (took_end H5.out.1 (show Only [] w5 _ from (by repeat (first | (with_reducible exact Only.refl _ _) | (with_reducible apply Only.drew) | (with_reducible apply Only.alloc)))) (by have := H5.out.2.2.size; omega) (fun e => by obtain ⟨d, e1, _, h⟩ := H5.out.1.own; rw [e] at e1; injection e1 with e1; omega) hb6 ho6 hd6 H5.out.2.2); clear hf6 ho6 hd6 hb6) | (refine step_append_new rfl (.tmp 17) (.tmp 20) rfl w.heap.size (w.heap.size + 1) ?_ ?_ (Blk.only (HFb.out _ ?_) HO5.out (by simp)) A 0 (c - k) ?_ (fun e => absurd e HA0.out) (B.drop k) (HS0.out _ (H5.out.2.2.trans ?_)) (Nat.zero_le _) ?_; (· simp [Act.eval, Act.put]); (· have := H5.out.2.2.size; omega); (· repeat (first | (with_reducible exact Only.refl _ _) | (with_reducible apply Only.drew) | (with_reducible apply Only.alloc))); (· simp [Act.eval, Act.put]); (· repeat (first | (with_reducible exact Only.refl _ _) | (with_reducible apply Only.drew) | (with_reducible apply Only.alloc))); intro v6 w6 hf6 ho6 hd6 hb6; have HT := hide (took_end H5.out.1 (show Only [] w5 _ from (by repeat (first | (with_reducible exact Only.refl _ _) | (with_reducible apply Only.drew) | (with_reducible apply Only.alloc)))) (by have := H5.out.2.2.size; omega) (fun e => by have h1 := H5.out.2.1 _ e; first | omega | (simp at h1; done) | (simp at h1; omega)) hb6 ho6 hd6 H5.out.2.2); clear hf6 ho6 hd6 hb6) | (refine step_append_new rfl (.tmp 17) (.tmp 20) rfl w.heap.size (w.heap.size) ?_ ?_ (Blk.only (HFc.out _ ?_) HO5.out (by simp)) A 0 (c - k) ?_ (fun e => absurd e HA0.out) (B.drop k) (HS0.out _ (H5.out.2.2.trans ?_)) (Nat.zero_le _) ?_; (· simp [Act.eval, Act.put]); (· have := H5.out.2.2.size; omega); (· repeat (first | (with_reducible exact Only.refl _ _) | (with_reducible apply Only.drew) | (with_reducible apply Only.alloc))); (· simp [Act.eval, Act.put]); (· repeat (first | (with_reducible exact Only.refl _ _) | (with_reducible apply Only.drew) | (with_reducible apply Only.alloc))); intro v6 w6 hf6 ho6 hd6 hb6; have HT := hide (took_end H5.out.1 (show Only [] w5 _ from (by repeat (first | (with_reducible exact Only.refl _ _) | (with_reducible apply Only.drew) | (with_reducible apply Only.alloc)))) (by have := H5.out.2.2.size; omega) (fun e => by have h1 := H5.out.2.1 _ e; first | omega | (simp at h1; done) | (simp at h1; omega)) hb6 ho6 hd6 H5.out.2.2); clear hf6 ho6 hd6 hb6))
    all_goals
      go_wp2
      go_ret2
      obtain ⟨t1, t2, t3, t4⟩ := HT.out
      exact ⟨_, _, rfl, t1, t2, t3, t4⟩
theorem takes_is (h : BRow w B0 v B) (hpos : 0 < B.length) (hbig : B.length ≤ 65536) {n : Int} (hn : 0 < n) :
    Calls Try.prog 48 #[v, .int .i64 n] w fun e w' => Took w w' e (B.take n.toNat) (B.drop n.toNat) := by
  obtain ⟨A, c, rfl, hs, hA, hb⟩ := h.sees
  rcases A with _ | ad
  · have := (hA rfl).1; omega
  · obtain ⟨e1, e2, e3, e4⟩ := hb ad rfl
    have hc : B.length ≤ c := by
      rcases h.2 with ⟨e, h0⟩ | ⟨b', cap', cur', e, _, _, hn', _⟩
      · cases e
      · injection e with _ _ e; omega
    rw [e1] at hs ⊢
    by_cases hle : n ≤ B.length
    · exact takes_at rfl hpos hbig hc hs e4 n.toNat (by omega) n (.inl ⟨hle, by omega⟩)
    · have := takes_at rfl hpos hbig hc hs e4 B.length (Nat.le_refl _) n (.inr ⟨by omega, rfl⟩)
      rw [List.take_of_length_le (show B.length ≤ n.toNat by omega), List.drop_of_length_le (show B.length ≤ n.toNat by omega)]
      rwa [List.take_length, List.drop_length] at this
end
end Go.Proofs.Yteljjngmhldfbaa
