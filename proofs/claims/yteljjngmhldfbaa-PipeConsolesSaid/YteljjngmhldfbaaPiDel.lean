/-
  slices.Delete of a first part of a row of bytes.
-/
import Derived.Test.YteljjngmhldfbaaPiRow
import Derived.Deep.RegionLaw
import Derived.Deep.AppendLies
namespace Go.Proofs.Yteljjngmhldfbaa
open Go.ChangeShapes Go.WideShapes Go.ChangeAt Go.RowKit
set_option linter.unusedVariables false
theorem BRow.blk {w : World} {B : Nat} {v : Value} {ns : List Int} (h : BRow w B v ns) (hn : 0 < ns.length) :
    ∃ b cap cur, v = .slice (some ⟨b, 0, none⟩) ns.length cap ∧ Blk w b 5 (u8l ns ++ cur).toArray ∧ ns.length + cur.length = cap ∧ cap ≤ maxLen ∧ B ≤ b := by
  rcases h.2 with ⟨_, h0⟩ | ⟨b, cap, cur, e, hB, hg, hnc, hm, hs, ht⟩
  · omega
  · rw [Nat.mul_one] at ht hs
    refine ⟨b, cap, cur.toList.drop ns.length, e, ?_, ?_, hm, hB⟩
    · have : u8l ns ++ cur.toList.drop ns.length = cur.toList := by
        rw [show u8l ns = cur.toList.take ns.length from ht.symm, List.take_append_drop]
      rw [this]
      exact hg
    · simp [hs]; omega
theorem BRow.of_blk {w : World} {B : Nat} {ns : List Int} {b cap : Nat} {cur : List Value} (hb : Blk w b 5 (u8l ns ++ cur).toArray) (hl : ns.length + cur.length = cap) (hm : cap ≤ maxLen) (hB : B ≤ b) : BRow w B (.slice (some ⟨b, 0, none⟩) ns.length cap) ns := by
  refine ⟨by simp, .inr ⟨b, cap, _, rfl, hB, hb, by omega, hm, by simp [u8l]; omega, ?_⟩⟩
  simp [u8l]
theorem blk_setCells {b : Nat} {t : TypeId} : ∀ (vs : List Value) (o : Nat) (w : World) (cs : List Value), Blk w b t cs.toArray → o + vs.length ≤ cs.length → Blk (w.setCells b o vs) b t (cs.take o ++ vs ++ cs.drop (o + vs.length)).toArray
  | [], o, w, cs, h, _ => by simpa [World.setCells] using h
  | v :: vs, o, w, cs, h, hl => by
    have h1 := h.set_ o v
    rw [List.setIfInBounds_toArray] at h1
    have hlt : o < cs.length := by simp at hl; omega
    have h2 := blk_setCells vs (o + 1) _ _ h1 (by simp at hl ⊢; omega)
    have e : (cs.set o v).take (o + 1) ++ vs ++ (cs.set o v).drop (o + 1 + vs.length) = cs.take o ++ (v :: vs) ++ cs.drop (o + (v :: vs).length) := by
      have e1 : (cs.set o v).take (o + 1) = cs.take o ++ [v] := by
        rw [List.take_add_one, List.take_set_of_le (Nat.le_refl _)]
        simp [hlt]
      have e2 : (cs.set o v).drop (o + 1 + vs.length) = cs.drop (o + (v :: vs).length) := by
        rw [List.drop_set_of_lt (by omega)]
        congr 1
        simp; omega
      rw [e1, e2]
      simp
    rw [e] at h2
    exact h2
theorem only_setCells {b : Nat} : ∀ (vs : List Value) (o : Nat) (w : World), Only [b] w (w.setCells b o vs)
  | [], o, w => Only.refl _ _
  | v :: vs, o, w => ((Only.refl [b] w).setCell (p := ⟨b, o, none⟩) v (by simp)).trans (only_setCells vs (o + 1) _)

theorem u8_zero {P : Program} {t : TypeId} (h : (P.info? t).map (fun i => (i.zero, i.size, i.bytes)) = some (some (.int .u8 0), 1, 1)) : ∀ w, (zeroValue t).run P w = .ok (.int .u8 0) w := by
  intro w
  obtain ⟨i, hi, hz, _, _⟩ := info_parts h
  simp [zeroValue, typeInfo, hi, hz]

theorem run_clear_u8 {w : World} {b : Nat} {cur : List Value} (hb : Blk w b 5 cur.toArray) (i n c : Nat) (hn : 0 < n) (hi : i + n ≤ cur.length) :
    ∃ w1, (∀ ty, (Builtin.clear_ #[29] ty #[.slice (some ⟨b, i, none⟩) n c]).run Try.prog w = .ok (.tuple #[]) w1) ∧ Only [b] w w1 ∧
      Blk w1 b 5 (cur.take i ++ List.replicate n (Value.int .u8 0) ++ cur.drop (i + n)).toArray := by
  refine ⟨w.setCells b i (List.replicate n (Value.int .u8 0)), fun ty => ?_, only_setCells _ _ _, ?_⟩
  · refine Lib.run_clear_slice w 29 5 ty (.int .u8 0) Try.underlying29 (u8_zero info_u8) rfl rfl b i n c hn (fun j hj => ?_) (fun j hj => hb.frozen _)
    rw [hb.cell, List.getElem?_toArray, List.getElem?_eq_getElem (by omega)]
    rfl
  · have := blk_setCells (List.replicate n (Value.int .u8 0)) i w cur hb (by simpa using hi)
    simpa using this

/-- append onto the empty head of a row, there being room: as a step of a region that draws. -/
theorem step_delB {ops : Array Oper} {o : Oper} {a : Act} {w : World} {K : Act → World → Prop} {Q : Exit → Act → World → Prop} {E : Prop} (hgd : o.guard = none) (s x : Operand)
    (ho : o.op = .call { callee := .builtin .append, args := #[s, x], argTypes := #[29, 29] }) (b cap m c : Nat) (hs : a.eval s = .slice (some ⟨b, 0, none⟩) 0 cap) (A : Addr) (hx : a.eval x = .slice (some A) m c)
    (cur : List Value) (hb : Blk w b 5 cur.toArray) (news : List Value) (hnl : news.length = m) (hnews : ∀ j u, news[j]? = some u → w.cell? (A.add j) = some u) (h1 : ∀ u ∈ news, u.oneCell' = true) (hroom : m ≤ cap) (hcap : cap = cur.length)
    (hK : ∀ w2, Blk w2 b 5 (news ++ cur.drop m).toArray → Only [b] w w2 → K (a.put o.dst (.slice (some ⟨b, 0, none⟩) m cap)) w2) :
    if Region.wanted o (yielded ops a.tmps) = true then Oper.wp Try.prog o a w K Q else E := by
  obtain ⟨i0, hi0, hz0, hz1, hz2⟩ := info_parts info_u8
  subst hcap
  refine step_append_room hgd s x 29 ho 5 i0 1 Try.underlying29 hi0 hz1 b 0 0 cur.length hs A m c news hx (by rw [hnl, Nat.mul_one]) hnews h1 (by omega) (fun j hj => ⟨?_, hb.frozen _⟩) ?_
  · rw [hb.cell, List.getElem?_toArray, List.getElem?_eq_getElem (by omega)]
    rfl
  · rw [Nat.zero_add]
    refine hK _ ?_ (only_setCells _ _ _)
    have := blk_setCells news (0 + 0 * 1) w cur hb (by omega)
    simpa [hnl] using this

set_option maxHeartbeats 1000000 in
set_option maxRecDepth 100000 in
theorem deleteB_is {w : World} {B : Nat} {v : Value} {ns : List Int} (h : BRow w B v ns) (n : Nat) (hn : 0 < n) (hl : n ≤ ns.length) :
    Calls Try.prog 47 #[v, .int .i64 0, .int .i64 n] w fun e w' => ∃ v', e = .returned v' ∧ BRow w' B v' (ns.drop n) ∧ v'.ownBlock = v.ownBlock ∧ Only v.ownBlock.toList w w' := by
  obtain ⟨b, cap, cur, rfl, hb, hcl, hm, hBb⟩ := h.blk (by omega)
  have hm' := hm
  unfold maxLen at hm'
  obtain ⟨A, hA, hnews⟩ : ∃ A : Addr, (if cap = n then some (⟨b, 0, none⟩ : Addr) else some ⟨b, n, none⟩) = some A ∧ Hid (∀ j u, (u8l (ns.drop n))[j]? = some u → w.drew.cell? (A.add j) = some u) := by
    by_cases hcn : cap = n
    · refine ⟨⟨b, 0, none⟩, by rw [if_pos hcn], fun j u hu => ?_⟩
      have h0 : ns.drop n = [] := by apply List.eq_nil_of_length_eq_zero; rw [List.length_drop]; omega
      rw [h0] at hu
      simp [u8l] at hu
    · refine ⟨⟨b, n, none⟩, by rw [if_neg hcn], fun j u hu => ?_⟩
      rw [add_at]
      have hj : j < (ns.drop n).length := by
        have := (List.getElem?_eq_some_iff.1 hu).1
        rwa [u8l_length] at this
      rw [List.length_drop] at hj
      show w.cell? _ = _
      rw [hb.cell, ← hu, List.getElem?_toArray, List.getElem?_append_left (by rw [u8l_length]; omega)]
      simp [u8l]
  have HM := hide hm
  have HB := hide hb
  have HCL := hide hcl
  have hne : ¬ cap = ns.length - n := by omega
  have HD := hide (show (u8l (ns.drop n)).length = ns.length - n by rw [u8l_length, List.length_drop])
  have HC2 := hide fun (w2 : World) (hb2 : Blk w2 b 5 (u8l (ns.drop n) ++ (u8l ns ++ cur).drop (ns.length - n)).toArray) => run_clear_u8 hb2 (ns.length - n) n (cap - (ns.length - n)) hn (by
    rw [List.length_append, List.length_drop, List.length_append, u8l_length, u8l_length, List.length_drop]; omega)
  have h0n : ((0 : Int) == (n : Int)) = false := by simp only [beq_eq_false_iff_ne]; omega
  have hs1 : ((ns.length - n : Nat) : Int) ≤ ns.length := by omega
  have hs2 : ns.length - (ns.length - n) = n := by omega
  have hp0 : (0 : Int) ≤ n := by omega
  have hp1 : (n : Int) ≤ ns.length := by omega
  have hp3 : (ns.length : Int) ≤ cap := by omega
  have HLE := hide (show ns.length - n ≤ cap by omega)
  have HLQ := hide (show cap = (u8l ns ++ cur).length by rw [List.length_append, u8l_length]; omega)
  clear hb h hm hcl
  go_enter Try.func47, Try.ntmps47
  go_wp2_with fail
  go_region_law (refine step_delB rfl _ _ rfl b cap (ns.length - n) (cap - n) (by simp [Act.eval, Act.put]) A (by simp [Act.eval, Act.put]) (u8l ns ++ cur) HB.out (u8l (ns.drop n)) HD.out hnews.out (u8l_one _) HLE.out HLQ.out ?_; intro w2 hb2 ho2; obtain ⟨w3, hr3, ho3, hb3⟩ := HC2.out w2 hb2; have HR := hide hr3; clear hr3)
  have HB3 := hide hb3
  have HO := hide (show Only [b] w w3 from (show Only [b] w w2 from ((Only.refl [b] w).drew).trans ho2).trans ho3)
  clear hb2 ho2 ho3 hb3
  go_wp2_with (simp only [HR.out])
  go_ret
  have e1 : (u8l (ns.drop n) ++ (u8l ns ++ cur).drop (ns.length - n)).take (ns.length - n) = u8l (ns.drop n) := by
    rw [List.take_append_of_le_length (by rw [HD.out]; exact Nat.le_refl _), List.take_of_length_le (by rw [HD.out]; exact Nat.le_refl _)]
  have hB3 := HB3.out
  rw [e1, List.append_assoc] at hB3
  have hfin := BRow.of_blk (cap := cap) hB3 (by have := HCL.out; simp [u8l]; omega) HM.out hBb
  rw [List.length_drop] at hfin
  exact ⟨_, rfl, hfin, rfl, HO.out⟩
end Go.Proofs.Yteljjngmhldfbaa
