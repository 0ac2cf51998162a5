/-
  Rows of ints of one's own: how their blocks look, slices.Delete of one of them (the texts of parapet/frame and parapet/resv have the same for their rows).
-/
import Derived.Test.YtjpojoflbjhjjaaAppAny
namespace Go.Proofs.Ytjpojoflbjhjjaa
open Go.ChangeShapes Go.WideShapes Go.ChangeAt Go.RowKit
set_option linter.unusedVariables false

theorem IRow.blk {w : World} {v : Value} {ns : List Int} (h : IRow w v ns) (hn : 0 < ns.length) :
    ∃ b cap cur, v = .slice (some ⟨b, 0, none⟩) ns.length cap ∧ Blk w b 3 (i64l ns ++ cur).toArray ∧ ns.length + cur.length = cap ∧ cap ≤ maxLen := by
  rcases h.2 with ⟨_, h0⟩ | ⟨b, cap, cur, e, hB, hg, hnc, hm, hs, ht⟩
  · omega
  · rw [Nat.mul_one] at ht hs
    refine ⟨b, cap, cur.toList.drop ns.length, e, ?_, ?_, hm⟩
    · have : i64l ns ++ cur.toList.drop ns.length = cur.toList := by
        rw [show i64l ns = cur.toList.take ns.length from ht.symm, List.take_append_drop]
      rw [this]
      exact hg
    · simp [hs]; omega
theorem IRow.of_blk {w : World} {ns : List Int} {b cap : Nat} {cur : List Value} (hb : Blk w b 3 (i64l ns ++ cur).toArray) (hl : ns.length + cur.length = cap) (hm : cap ≤ maxLen) : IRow w (.slice (some ⟨b, 0, none⟩) ns.length cap) ns := by
  refine ⟨by simp, .inr ⟨b, cap, _, rfl, Nat.zero_le _, hb, by omega, hm, by simp [i64l]; omega, ?_⟩⟩
  simp [i64l]
theorem i64l_append (a b : List Int) : i64l (a ++ b) = i64l a ++ i64l b := by simp [i64l]
theorem i64l_get (xs : List Int) (r : List Value) (i : Nat) (h : i < xs.length) : (i64l xs ++ r).toArray[i]? = some (.int .i64 (gb xs i)) := by
  have h' : i < (i64l xs).length := by simpa [i64l] using h
  rw [List.getElem?_toArray, List.getElem?_append_left h']
  simp [i64l, gb, List.getElem?_eq_getElem h, List.getD]
theorem IRow.form2 {w : World} {v : Value} {ns : List Int} (h : IRow w v ns) : ∃ A c, v = .slice A ns.length c ∧ (A = none → ns.length = 0 ∧ c = 0) ∧ ns.length ≤ c ∧ c ≤ maxLen ∧ (∀ ad, A = some ad → ∃ b, ad = ⟨b, 0, none⟩ ∧ b < w.heap.size ∧ ∀ j u, (i64l ns)[j]? = some u → w.cell? ⟨b, j, none⟩ = some u) := by
  rcases h.2 with ⟨e, h0⟩ | ⟨b, cap, cur, e, _, hg, h1, h2, hs, ht⟩
  · exact ⟨none, 0, by rw [e, h0], fun _ => ⟨h0, rfl⟩, by omega, Nat.zero_le _, fun ad e => by cases e⟩
  · refine ⟨_, cap, e, fun h => (by cases h), h1, h2, fun ad e => ?_⟩
    injection e with e
    refine ⟨b, e.symm, Blk.lt hg, fun j u hu => ?_⟩
    have hj : j < ns.length := by
      have := (List.getElem?_eq_some_iff.1 hu).1
      rwa [i64l_length] at this
    rw [Blk.cell hg, ← Array.getElem?_toList, ← hu, show i64l ns = cur.toList.take (ns.length * 1) from ht.symm, List.getElem?_take, if_pos (by omega)]

theorem blk_setCells {b : Nat} {t : TypeId} : ∀ (vs : List Value) (o : Nat) (w : World) (cs : List Value), Blk w b t cs.toArray → o + vs.length ≤ cs.length → Blk (w.setCells b o vs) b t (cs.take o ++ vs ++ cs.drop (o + vs.length)).toArray
  | [], o, w, cs, h, _ => by simpa [World.setCells] using h
  | v :: vs, o, w, cs, h, hl => by
    have h1 := h.set_ o v
    rw [List.setIfInBounds_toArray] at h1
    have hlt : o < cs.length := by simp at hl; omega
    have h2 := blk_setCells vs (o + 1) _ _ h1 (by simp at hl ⊢; omega)
    have e : (cs.set o v).take (o + 1) ++ vs ++ (cs.set o v).drop (o + 1 + vs.length) = cs.take o ++ (v :: vs) ++ cs.drop (o + (v :: vs).length) := by
      have e1 : (cs.set o v).take (o + 1) = cs.take o ++ [v] := by
        rw [List.take_add_one, List.take_set_of_le (Nat.le_refl _)]
        simp [hlt]
      have e2 : (cs.set o v).drop (o + 1 + vs.length) = cs.drop (o + (v :: vs).length) := by
        rw [List.drop_set_of_lt (by omega)]
        congr 1
        simp; omega
      rw [e1, e2]
      simp
    rw [e] at h2
    exact h2
theorem only_setCells {b : Nat} : ∀ (vs : List Value) (o : Nat) (w : World), Only [b] w (w.setCells b o vs)
  | [], o, w => Only.refl _ _
  | v :: vs, o, w => ((Only.refl [b] w).setCell (p := ⟨b, o, none⟩) v (by simp)).trans (only_setCells vs (o + 1) _)
theorem int_zero {P : Program} {t : TypeId} (h : (P.info? t).map (fun i => (i.zero, i.size, i.bytes)) = some (some (.int .i64 0), 1, 8)) : ∀ w, (zeroValue t).run P w = .ok (.int .i64 0) w := by
  intro w
  obtain ⟨i, hi, hz, _, _⟩ := info_parts h
  simp [zeroValue, typeInfo, hi, hz]
theorem run_clear_int {w : World} {b : Nat} {cur : List Value} (hb : Blk w b 3 cur.toArray) (i n c : Nat) (hn : 0 < n) (hi : i + n ≤ cur.length) :
    ∃ w1, (∀ ty, (Builtin.clear_ #[38] ty #[.slice (some ⟨b, i, none⟩) n c]).run Try.prog w = .ok (.tuple #[]) w1) ∧ Only [b] w w1 ∧
      Blk w1 b 3 (cur.take i ++ List.replicate n (Value.int .i64 0) ++ cur.drop (i + n)).toArray := by
  refine ⟨w.setCells b i (List.replicate n (Value.int .i64 0)), fun ty => ?_, only_setCells _ _ _, ?_⟩
  · refine Lib.run_clear_slice w 38 3 ty (.int .i64 0) Try.underlying38 (int_zero info_int) rfl rfl b i n c hn (fun j hj => ?_) (fun j hj => hb.frozen _)
    rw [hb.cell, List.getElem?_toArray, List.getElem?_eq_getElem (by omega)]
    rfl
  · have := blk_setCells (List.replicate n (Value.int .i64 0)) i w cur hb (by simpa using hi)
    simpa using this

/-- append of what stands behind a place onto what stands ahead of it, as a step of a region that draws. -/
theorem step_delI {ops : Array Oper} {o : Oper} {a : Act} {w : World} {K : Act → World → Prop} {Q : Exit → Act → World → Prop} {E : Prop} (hgd : o.guard = none) (s y : Operand)
    (ho : o.op = .call { callee := .builtin .append, args := #[s, y], argTypes := #[38, 38] }) (b i cap m c k : Nat) (hk : i + m = k) (hs : a.eval s = .slice (some ⟨b, 0, none⟩) i cap) (A : Addr) (hx : a.eval y = .slice (some A) m c)
    (cur : List Value) (hb : Blk w b 3 cur.toArray) (zs : List Int) (hzm : zs.length = m) (hnews : ∀ j u, (i64l zs)[j]? = some u → w.cell? (A.add j) = some u) (hroom : i + m ≤ cap) (hcap : cap = cur.length)
    (hK : ∀ w2, Blk w2 b 3 (cur.take i ++ i64l zs ++ cur.drop (i + m)).toArray → Only [b] w w2 → K (a.put o.dst (.slice (some ⟨b, 0, none⟩) k cap)) w2) :
    if Region.wanted o (yielded ops a.tmps) = true then Oper.wp Try.prog o a w K Q else E := by
  obtain ⟨i0, hi0, hz0, hz1, hz2⟩ := info_parts info_int
  subst hzm hk
  have hl := i64l_length zs
  refine step_append_room hgd s y 38 ho 3 i0 1 Try.underlying38 hi0 hz1 b 0 i cap hs A zs.length c (i64l zs) hx (by rw [hl, Nat.mul_one]) hnews (i64l_one _) hroom (fun j hj => ⟨?_, hb.frozen _⟩) ?_
  · rw [hb.cell, List.getElem?_toArray, List.getElem?_eq_getElem (by omega)]
    rfl
  · refine hK _ ?_ (only_setCells _ _ _)
    have := blk_setCells (i64l zs) i w cur hb (by omega)
    rw [hl] at this
    rw [Nat.zero_add, Nat.mul_one]
    exact this

set_option maxHeartbeats 1500000 in
set_option maxRecDepth 100000 in
/-- A row without one of its numbers. -/
theorem delete1_is {w : World} {v : Value} {ns : List Int} (h : IRow w v ns) (i : Nat) (hi : i < ns.length) :
    Calls Try.prog 47 #[v, .int .i64 i, .int .i64 ((i : Int) + 1)] w fun e w' => ∃ v', e = .returned v' ∧ IRow w' v' (ns.eraseIdx i) ∧ v'.ownBlock = v.ownBlock ∧ Only v.ownBlock.toList w w' := by
  obtain ⟨b, cap, cur, rfl, hb, hcl, hm⟩ := h.blk (by omega)
  have hm' := hm
  unfold maxLen at hm'
  obtain ⟨A, hA, hnews⟩ : ∃ A : Addr, (if cap = i + 1 then some (⟨b, 0, none⟩ : Addr) else some ⟨b, i + 1, none⟩) = some A ∧ Hid (∀ j u, (i64l (ns.drop (i + 1)))[j]? = some u → w.drew.cell? (A.add j) = some u) := by
    by_cases hcn : cap = i + 1
    · refine ⟨⟨b, 0, none⟩, by rw [if_pos hcn], fun j u hu => ?_⟩
      have h0 : ns.drop (i + 1) = [] := by apply List.eq_nil_of_length_eq_zero; rw [List.length_drop]; omega
      rw [h0] at hu
      simp [i64l] at hu
    · refine ⟨⟨b, i + 1, none⟩, by rw [if_neg hcn], fun j u hu => ?_⟩
      rw [add_at]
      have hj : j < (i64l (ns.drop (i + 1))).length := (List.getElem?_eq_some_iff.1 hu).1
      rw [i64l_length, List.length_drop] at hj
      show w.cell? _ = _
      rw [hb.cell, ← hu, List.getElem?_toArray, List.getElem?_append_left (by rw [i64l_length]; omega)]
      simp [i64l]
  have HM := hide hm
  have HB := hide hb
  have HCL := hide hcl
  have HE := hide (show ns.eraseIdx i = ns.take i ++ ns.drop (i + 1) from List.eraseIdx_eq_take_drop_succ _ _)
  have HD := hide (show (ns.drop (i + 1)).length = ns.length - (i + 1) by rw [List.length_drop])
  have HQ := hide (show cap = (i64l ns ++ cur).length by rw [List.length_append, i64l_length]; omega)
  have HX := hide (show (i64l ns ++ cur).take i = i64l (ns.take i) by rw [List.take_append_of_le_length (by rw [i64l_length]; omega)]; simp [i64l])
  have HL := hide (show (i64l (ns.take i) ++ i64l (ns.drop (i + 1))).length = ns.length - 1 by rw [List.length_append, i64l_length, i64l_length, List.length_take, List.length_drop]; omega)
  have HC2 := hide fun (w2 : World) (hb2 : Blk w2 b 3 ((i64l ns ++ cur).take i ++ i64l (ns.drop (i + 1)) ++ (i64l ns ++ cur).drop (i + (ns.length - (i + 1)))).toArray) => run_clear_int hb2 (ns.length - 1) 1 (cap - (ns.length - 1)) (by decide) (by
    rw [List.length_append, HX.out, HL.out, List.length_drop, List.length_append, i64l_length]; omega)
  have hne : ¬ cap = ns.length - 1 := by omega
  have hne1 : ((i : Int) == (i : Int) + 1) = false := by simp only [beq_eq_false_iff_ne]; omega
  have hs1 : ((ns.length - 1 : Nat) : Int) ≤ ns.length := by omega
  have hs2 : ns.length - (ns.length - 1) = 1 := by omega
  have hp1 : (i : Int) + 1 ≤ ns.length := by omega
  have hp2 : (i : Int) ≤ (i : Int) + 1 := by omega
  have hp3 : (ns.length : Int) ≤ cap := by omega
  have hp4 : (i : Int) ≤ cap := by omega
  have hp5 : (0 : Int) ≤ (i : Int) + 1 := by omega
  have hp6 : ((i : Int) + 1).toNat = i + 1 := by omega
  have HLE := hide (show i + (ns.length - (i + 1)) ≤ cap by omega)
  have HSU := hide (show i + (ns.length - (i + 1)) = ns.length - 1 by omega)
  clear hb h hm hcl
  go_enter Try.func47, Try.ntmps47
  go_wp2_with fail
  go_region_law (refine step_delI rfl _ _ rfl b i cap (ns.length - (i + 1)) (cap - (i + 1)) (ns.length - 1) HSU.out (by simp [Act.eval, Act.put]) A (by simp [Act.eval, Act.put]) (i64l ns ++ cur) HB.out (ns.drop (i + 1)) HD.out hnews.out HLE.out HQ.out ?_; intro w2 hb2 ho2; obtain ⟨w3, hr3, ho3, hb3⟩ := HC2.out w2 hb2; have HR := hide hr3; clear hr3)
  have HB3 := hide hb3
  have HO := hide (show Only [b] w w3 from (show Only [b] w w2 from ((Only.refl [b] w).drew).trans ho2).trans ho3)
  clear hb2 ho2 ho3 hb3
  go_wp2_with (simp only [HR.out])
  go_ret
  have hB3 := HB3.out
  have e1 : (i64l (ns.take i) ++ i64l (ns.drop (i + 1)) ++ (i64l ns ++ cur).drop (i + (ns.length - (i + 1)))).take (ns.length - 1) = i64l (ns.eraseIdx i) := by
    rw [List.take_append_of_le_length (by rw [HL.out]; exact Nat.le_refl _), List.take_of_length_le (by rw [HL.out]; exact Nat.le_refl _), HE.out, i64l_append]
  rw [HX.out, e1, List.append_assoc] at hB3
  have hlen : (ns.eraseIdx i).length = ns.length - 1 := List.length_eraseIdx_of_lt hi
  have hfin := IRow.of_blk (cap := cap) hB3 (by
    have h1 := HCL.out
    have h2 := HL.out
    rw [hlen]
    simp only [List.length_append, List.length_drop, i64l_length, List.length_take, List.length_replicate] at h2 ⊢
    omega) HM.out
  rw [hlen] at hfin
  exact ⟨_, rfl, hfin, rfl, HO.out⟩

/-- A new row of the same numbers. -/
theorem cloneI_is {w : World} {v : Value} {ns : List Int} (h : IRow w v ns) (hf : ns.length ≤ 1000000) : Calls Try.prog 43 #[v] w fun e w' => ∃ v', e = .returned v' ∧ IRow w' v' ns ∧ (∀ q, v'.ownBlock = some q → w.heap.size ≤ q) ∧ Only [] w w' := by
  have q22 : ∀ (w : World) (a : Option Addr) (n c n' c' : Nat), (binOp .eql 38 (.slice a n c) (.slice none n' c')).run Try.prog w = .ok (.bool a.isNone) w := fun w a n c n' c' => Lib.run_eql_slice_nil w _ _ a n c n' c' Try.underlying38
  obtain ⟨A, cap, rfl, hA, _, _, hc⟩ := h.form2
  rcases A with _ | ad
  · obtain ⟨h0, rfl⟩ := hA rfl
    obtain rfl : ns = [] := List.eq_nil_of_length_eq_zero h0
    clear hA hc
    go_enter Try.func43, Try.ntmps43
    go_wp2
    go_ret
    exact ⟨_, rfl, KRow.nil _ _ _ _, by simp [Value.ownBlock], Only.refl _ _⟩
  · obtain ⟨b, rfl, hbl, hcell⟩ := hc ad rfl
    have HS := hide (fun (o : Obj) (j : Nat) (u : Value) (hu : (i64l ns)[j]? = some u) => (((Only.refl [] w).alloc o).cell hbl (by simp)).trans (hcell j u hu))
    have HE := hide (irow_empty (Blk.new w 3 #[]))
    have HF := hide hf
    clear hA h hc hcell
    go_enter Try.func43, Try.ntmps43
    go_wp2_with (at_builtin; refine wpList_append_any rfl _ _ rfl (.slice (some ⟨w.heap.size, 0, none⟩) 0 0) [] rfl HE.out (some ⟨b, 0, none⟩) ns.length cap rfl (fun e => by cases e) ns rfl (fun ad e j u hu => by injection e with e; rw [← e, add_at, Nat.zero_add]; exact HS.out _ j u hu) (by have := HF.out; simp; omega) ?_; rintro v' w2 hr ho hk; obtain ⟨A', c', rfl, _⟩ := hr.form; have HR := hide hr; have HO := hide ho; have HK := hide hk; clear hr ho hk)
    go_ret
    refine ⟨_, rfl, by simpa using HR.out, fun q hq => ?_, (((Only.refl [] w).alloc _).trans' HO.out (fun k hk hm => ?_))⟩
    · rcases HK.out q hq with h | h
      · simp [Value.ownBlock] at h; omega
      · simp at h; omega
    · simp [Value.ownBlock] at hm; omega
end Go.Proofs.Ytjpojoflbjhjjaa
