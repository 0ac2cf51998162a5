/-
  slices.Delete of a row's first numbers (FrRow's text over RqRow).
-/
import Derived.Test.YtjpojoflbjhjjaaRqRow
import Derived.Deep.RegionLaw
import Derived.Deep.AppendLies
namespace Go.Proofs.Ytjpojoflbjhjjaa
open Go.ChangeShapes Go.WideShapes Go.ChangeAt Go.RowKit
set_option linter.unusedVariables false
/-- append onto the empty head of a row, there being room: as a step of a region that draws. -/
theorem step_del {ops : Array Oper} {o : Oper} {a : Act} {w : World} {K : Act → World → Prop} {Q : Exit → Act → World → Prop} {E : Prop} (hgd : o.guard = none) (s x : Operand)
    (ho : o.op = .call { callee := .builtin .append, args := #[s, x], argTypes := #[38, 38] }) (b cap m c : Nat) (hs : a.eval s = .slice (some ⟨b, 0, none⟩) 0 cap) (A : Addr) (hx : a.eval x = .slice (some A) m c)
    (cur : List Value) (hb : Blk w b 3 cur.toArray) (news : List Value) (hnl : news.length = m) (hnews : ∀ j u, news[j]? = some u → w.cell? (A.add j) = some u) (h1 : ∀ u ∈ news, u.oneCell' = true) (hroom : m ≤ cap) (hcap : cap = cur.length)
    (hK : ∀ w2, Blk w2 b 3 (news ++ cur.drop m).toArray → Only [b] w w2 → K (a.put o.dst (.slice (some ⟨b, 0, none⟩) m cap)) w2) :
    if Region.wanted o (yielded ops a.tmps) = true then Oper.wp Try.prog o a w K Q else E := by
  obtain ⟨i0, hi0, hz0, hz1, hz2⟩ := info_parts info_int
  subst hcap
  refine step_append_room hgd s x 38 ho 3 i0 1 Try.underlying38 hi0 hz1 b 0 0 cur.length hs A m c news hx (by rw [hnl, Nat.mul_one]) hnews h1 (by omega) (fun j hj => ⟨?_, hb.frozen _⟩) ?_
  · rw [hb.cell, List.getElem?_toArray, List.getElem?_eq_getElem (by omega)]
    rfl
  · rw [Nat.zero_add]
    refine hK _ ?_ (only_setCells _ _ _)
    have := blk_setCells news (0 + 0 * 1) w cur hb (by omega)
    simpa [hnl] using this

theorem delete_nought (w : World) (A : Option Addr) (n c : Nat) (hA : A = none → n = 0 ∧ c = 0) (hn : n ≤ c) (hm : c ≤ maxLen) : Calls Try.prog 47 #[.slice A n c, .int .i64 0, .int .i64 0] w fun e w' => e = .returned (.slice A n c) ∧ w = w' := by
  unfold maxLen at hm
  rcases A with _ | ad
  · obtain ⟨rfl, rfl⟩ := hA rfl
    go_enter Try.func47, Try.ntmps47
    go_wp2
    go_ret
    exact ⟨rfl, rfl⟩
  · clear hA
    go_enter Try.func47, Try.ntmps47
    go_wp2
    go_ret
    exact ⟨rfl, rfl⟩

set_option maxHeartbeats 1000000 in
set_option maxRecDepth 100000 in
theorem delete_is {w : World} {v : Value} {ns : List Int} (h : IRow w v ns) (n : Nat) (hn : 0 < n) (hl : n ≤ ns.length) :
    Calls Try.prog 47 #[v, .int .i64 0, .int .i64 n] w fun e w' => ∃ v', e = .returned v' ∧ IRow w' v' (ns.drop n) ∧ v'.ownBlock = v.ownBlock ∧ Only v.ownBlock.toList w w' := by
  obtain ⟨b, cap, cur, rfl, hb, hcl, hm⟩ := h.blk (by omega)
  have hm' := hm
  unfold maxLen at hm'
  obtain ⟨A, hA, hnews⟩ : ∃ A : Addr, (if cap = n then some (⟨b, 0, none⟩ : Addr) else some ⟨b, n, none⟩) = some A ∧ Hid (∀ j u, (i64l (ns.drop n))[j]? = some u → w.drew.cell? (A.add j) = some u) := by
    by_cases hcn : cap = n
    · refine ⟨⟨b, 0, none⟩, by rw [if_pos hcn], fun j u hu => ?_⟩
      have h0 : ns.drop n = [] := by apply List.eq_nil_of_length_eq_zero; rw [List.length_drop]; omega
      rw [h0] at hu
      simp [i64l] at hu
    · refine ⟨⟨b, n, none⟩, by rw [if_neg hcn], fun j u hu => ?_⟩
      rw [add_at]
      have hj : j < (ns.drop n).length := by
        have := (List.getElem?_eq_some_iff.1 hu).1
        rwa [i64l_length] at this
      rw [List.length_drop] at hj
      show w.cell? _ = _
      rw [hb.cell, ← hu, List.getElem?_toArray, List.getElem?_append_left (by rw [i64l_length]; omega)]
      simp [i64l]
  have HM := hide hm
  have HB := hide hb
  have HCL := hide hcl
  have hne : ¬ cap = ns.length - n := by omega
  have HD := hide (show (i64l (ns.drop n)).length = ns.length - n by rw [i64l_length, List.length_drop])
  have HC2 := hide fun (w2 : World) (hb2 : Blk w2 b 3 (i64l (ns.drop n) ++ (i64l ns ++ cur).drop (ns.length - n)).toArray) => run_clear_int hb2 (ns.length - n) n (cap - (ns.length - n)) hn (by
    rw [List.length_append, List.length_drop, List.length_append, i64l_length, i64l_length, List.length_drop]; omega)
  have h0n : ((0 : Int) == (n : Int)) = false := by simp only [beq_eq_false_iff_ne]; omega
  have hs1 : ((ns.length - n : Nat) : Int) ≤ ns.length := by omega
  have hs2 : ns.length - (ns.length - n) = n := by omega
  have hp0 : (0 : Int) ≤ n := by omega
  have hp1 : (n : Int) ≤ ns.length := by omega
  have hp3 : (ns.length : Int) ≤ cap := by omega
  have HLE := hide (show ns.length - n ≤ cap by omega)
  have HLQ := hide (show cap = (i64l ns ++ cur).length by rw [List.length_append, i64l_length]; omega)
  clear hb h hm hcl
  go_enter Try.func47, Try.ntmps47
  go_wp2_with fail
  go_region_law (refine step_del rfl _ _ rfl b cap (ns.length - n) (cap - n) (by simp [Act.eval, Act.put]) A (by simp [Act.eval, Act.put]) (i64l ns ++ cur) HB.out (i64l (ns.drop n)) HD.out hnews.out (i64l_one _) HLE.out HLQ.out ?_; intro w2 hb2 ho2; obtain ⟨w3, hr3, ho3, hb3⟩ := HC2.out w2 hb2; have HR := hide hr3; clear hr3)
  have HB3 := hide hb3
  have HO := hide (show Only [b] w w3 from (show Only [b] w w2 from ((Only.refl [b] w).drew).trans ho2).trans ho3)
  clear hb2 ho2 ho3 hb3
  go_wp2_with (simp only [HR.out])
  go_ret
  have e1 : (i64l (ns.drop n) ++ (i64l ns ++ cur).drop (ns.length - n)).take (ns.length - n) = i64l (ns.drop n) := by
    rw [List.take_append_of_le_length (by rw [HD.out]; exact Nat.le_refl _), List.take_of_length_le (by rw [HD.out]; exact Nat.le_refl _)]
  have hB3 := HB3.out
  rw [e1, List.append_assoc] at hB3
  have hfin := IRow.of_blk (cap := cap) hB3 (by have := HCL.out; simp [i64l]; omega) HM.out
  rw [List.length_drop] at hfin
  exact ⟨_, rfl, hfin, rfl, HO.out⟩
end Go.Proofs.Ytjpojoflbjhjjaa
