/-
  Names: append of names to a row of one's own, slices.Clone, slices.Delete.
-/
import Derived.Test.YtjpojoflbjhjjaaNmRow
import Derived.Laws.AppendOwnNone
import Derived.Maps.AppendAt
namespace Go.Proofs.Ytjpojoflbjhjjaa
open Go.ChangeShapes Go.WideShapes Go.ChangeAt Go.RowKit
set_option linter.unusedVariables false

/-- The slice x shows the seats zs. -/
def NamesAt (w : World) (x : Value) (zs : List NM) : Prop :=
  (x = .slice none 0 0 ∧ zs = []) ∨ ∃ b o c, x = .slice (some ⟨b, o, none⟩) zs.length c ∧ (0 < zs.length → b < w.heap.size) ∧ ∀ j u, (flatN zs)[j]? = some u → w.cell? ⟨b, o + j, none⟩ = some u
def nameZero : Value := .agg #[.int .i64 0, .string ⟨#[]⟩]
theorem info_name2 : (Try.prog.info? 42).map (fun i => (i.zero, i.size, i.bytes)) = some (some nameZero, 2, 24) := by kernel_rfl
theorem flatN_one (ss : List NM) : ∀ u ∈ flatN ss, u.oneCell' = true := by
  intro u hu
  simp only [flatN, List.mem_flatMap] at hu
  obtain ⟨s, _, hs⟩ := hu
  simp only [NM.cells, List.mem_cons, List.not_mem_nil, or_false] at hs
  rcases hs with rfl | rfl <;> rfl
theorem name_zero : ∀ w, (zeroValue 42).run Try.prog w = .ok nameZero w := by
  intro w
  obtain ⟨i, hi, hz, _, _⟩ := info_parts info_name2
  simp [zeroValue, typeInfo, hi, hz]
theorem nblk_setCells {b : Nat} {t : TypeId} : ∀ (vs : List Value) (o : Nat) (w : World) (cs : List Value), Blk w b t cs.toArray → o + vs.length ≤ cs.length → Blk (w.setCells b o vs) b t (cs.take o ++ vs ++ cs.drop (o + vs.length)).toArray
  | [], o, w, cs, h, _ => by simpa [World.setCells] using h
  | v :: vs, o, w, cs, h, hl => by
    have h1 := h.set_ o v
    rw [List.setIfInBounds_toArray] at h1
    have hlt : o < cs.length := by simp at hl; omega
    have h2 := nblk_setCells vs (o + 1) _ _ h1 (by simp at hl ⊢; omega)
    have e : (cs.set o v).take (o + 1) ++ vs ++ (cs.set o v).drop (o + 1 + vs.length) = cs.take o ++ (v :: vs) ++ cs.drop (o + (v :: vs).length) := by
      have e1 : (cs.set o v).take (o + 1) = cs.take o ++ [v] := by
        rw [List.take_add_one, List.take_set_of_le (Nat.le_refl _)]
        simp [hlt]
      have e2 : (cs.set o v).drop (o + 1 + vs.length) = cs.drop (o + (v :: vs).length) := by
        rw [List.drop_set_of_lt (by omega)]
        congr 1
        simp; omega
      rw [e1, e2]
      simp
    rw [e] at h2
    exact h2
theorem nonly_setCells {b : Nat} : ∀ (vs : List Value) (o : Nat) (w : World), Only [b] w (w.setCells b o vs)
  | [], o, w => Only.refl _ _
  | v :: vs, o, w => ((Only.refl [b] w).setCell (p := ⟨b, o, none⟩) v (by simp)).trans (nonly_setCells vs (o + 1) _)

section
variable {w w' : World} {v x : Value} {ss zs : List NM} {S : List Nat}
theorem NamesAt.only (h : NamesAt w x zs) (ho : Only S w w') (hs : ∀ b o n c, x = .slice (some ⟨b, o, none⟩) n c → b < w.heap.size → b ∉ S) : NamesAt w' x zs := by
  rcases h with h | ⟨b, o, c, e, hb, hc⟩
  · exact .inl h
  · refine .inr ⟨b, o, c, e, fun hp => Nat.lt_of_lt_of_le (hb hp) ho.size, fun j u hu => ?_⟩
    have h1 := hc j u hu
    have hlt := World.block_lt_of_cell? w _ h1
    exact (ho.cell hlt (hs _ _ _ _ e hlt)).trans h1
theorem NRw.sees (h : NRw w v ss) : NamesAt w v ss := by
  rcases h.2 with ⟨e, h0⟩ | ⟨b, cap, cur, e, hB, hg, hnc, hm, hs, ht⟩
  · exact .inl ⟨e, List.eq_nil_of_length_eq_zero (by omega)⟩
  · refine .inr ⟨b, 0, cap, e, fun _ => Blk.lt (t := 42) hg, fun j u hu => ?_⟩
    have hj := (List.getElem?_eq_some_iff.1 hu).1
    rw [flatN_length] at hj
    rw [Nat.zero_add, Blk.cell (t := 42) hg, ← Array.getElem?_toList, ← hu, show flatN ss = cur.toList.take (ss.length * 2) from ht.symm, List.getElem?_take, if_pos hj]
theorem wp_append_names {o : Oper} {a : Act} {K : Act → World → Prop} {Q : Exit → Act → World → Prop} (s y : Operand)
    (ho : o.op = .call { callee := .builtin .append, args := #[s, y], argTypes := #[51, 51] }) (hs : a.eval s = v) (hr : NRw w v ss)
    (hx : a.eval y = x) (hz : NamesAt w x zs) (hbig : ss.length + zs.length < 1000000)
    (hK : ∀ v' w2, NRw w2 v' (ss ++ zs) → Only v.ownBlock.toList w w2 → (∀ k, v'.ownBlock = some k → v.ownBlock = some k ∨ w.heap.size ≤ k) → (∃ A c, v' = .slice A (ss ++ zs).length c) → K (a.put o.dst v') w2) : Oper.wp Try.prog o a w K Q := by
  obtain ⟨i0, hi0, hz0, hz1, hz2⟩ := info_parts info_name2
  rcases hz with ⟨rfl, rfl⟩ | ⟨b, q, c, rfl, _, hc⟩
  · have hrun := run_append_owned_none (P := Try.prog) (w := w) 0 51 o.type 42 i0 2 Try.underlying51 hi0 v ss.length (flatN ss) hr
    unfold Oper.wp
    simp [execOp, ho, resolve, invoke, builtin, hs, hx, hrun, Result.andThen]
    have hr' : NRw w v (ss ++ []) := by simpa using hr
    obtain ⟨A, c, e, _⟩ := hr'.form
    exact hK v w hr' (Only.refl _ _) (fun k hk => .inl hk) ⟨A, c, e⟩
  · obtain ⟨v', w', hrun, h2, h3, _, h5⟩ := run_append_own_at (P := Try.prog) w 0 51 o.type 42 i0 _ 2 24 Try.underlying51 hi0 hz0 hz1 hz2 rfl (by decide) v ss.length (flatN ss) hr ⟨b, q, none⟩ zs.length c (flatN zs) (flatN_length zs) (fun j u hj => by rw [add_at]; exact hc j u hj) (flatN_one _) (by unfold maxLen; omega) (by omega) (Nat.zero_le _)
    unfold Oper.wp
    simp [execOp, ho, resolve, invoke, builtin, hs, hx, hrun, Result.andThen]
    have hr' : NRw w' v' (ss ++ zs) := by
      unfold NRw
      rw [List.length_append, flatN_append]
      exact h2
    obtain ⟨A, c, e, _⟩ := hr'.form
    refine hK v' w' hr' (only_grown' h3) (fun k hk => ?_) ⟨A, c, e⟩
    rcases h5 with h5 | h5
    · exact .inl (h5 ▸ hk)
    · rw [h5] at hk
      injection hk with hk
      exact .inr (Nat.le_of_eq hk)
theorem wpList_append_names {ops : Array Oper} {rest : List Oper} {o : Oper} {a : Act} {Q : Exit → Act → World → Prop} (hgd : o.guard = none) (s y : Operand)
    (ho : o.op = .call { callee := .builtin .append, args := #[s, y], argTypes := #[51, 51] }) (hs : a.eval s = v) (hr : NRw w v ss)
    (hx : a.eval y = x) (hz : NamesAt w x zs) (hbig : ss.length + zs.length < 1000000)
    (hK : ∀ v' w2, NRw w2 v' (ss ++ zs) → Only v.ownBlock.toList w w2 → (∀ k, v'.ownBlock = some k → v.ownBlock = some k ∨ w.heap.size ≤ k) → (∃ A c, v' = .slice A (ss ++ zs).length c) → wpList Try.prog ops Q rest (a.put o.dst v') w2) : wpList Try.prog ops Q (o :: rest) a w :=
  wpList_plain hgd fun _ hK' => wp_append_names s y ho hs hr hx hz hbig fun v' w2 h1 h2 h3 h4 => hK' _ _ (hK v' w2 h1 h2 h3 h4)
theorem nrow_empty {k : Nat} (hb : Blk w k 42 #[]) : NRw w (.slice (some ⟨k, 0, none⟩) 0 0) [] :=
  ⟨by simp [flatN], .inr ⟨k, 0, #[], rfl, Nat.zero_le _, hb, Nat.le_refl _, Nat.zero_le _, rfl, by simp [flatN]⟩⟩

/-- A new row of the same seats. -/
theorem cloneN_is (h : NRw w v ss) (hf : ss.length ≤ 4096) : Calls Try.prog 44 #[v] w fun e w' => ∃ v', e = .returned v' ∧ NRw w' v' ss ∧ (∀ q, v'.ownBlock = some q → w.heap.size ≤ q) ∧ Only [] w w' := by
  have q22 : ∀ (w : World) (a : Option Addr) (n c n' c' : Nat), (binOp .eql 51 (.slice a n c) (.slice none n' c')).run Try.prog w = .ok (.bool a.isNone) w := fun w a n c n' c' => Lib.run_eql_slice_nil w _ _ a n c n' c' Try.underlying51
  obtain ⟨A, cap, rfl, hA⟩ := h.form
  rcases A with _ | ad
  · have h0 : ss.length = 0 := by
      rcases Nat.eq_zero_or_pos ss.length with h0 | h0
      · exact h0
      · obtain ⟨b, e, _⟩ := hA h0; cases e
    obtain rfl : ss = [] := List.eq_nil_of_length_eq_zero h0
    clear hA
    go_enter Try.func44, Try.ntmps44
    go_wp2
    go_ret
    exact ⟨_, rfl, NRw.nil _, by simp [Value.ownBlock], Only.refl _ _⟩
  · have HS := hide (fun o => h.sees.only ((Only.refl [] w).alloc o) (by simp))
    have HE := hide (nrow_empty (Blk.new w 42 #[]))
    have HF := hide hf
    clear hA h
    go_enter Try.func44, Try.ntmps44
    go_wp2_with (at_builtin; refine wpList_append_names (v := .slice (some ⟨w.heap.size, 0, none⟩) 0 0) rfl _ _ rfl rfl HE.out rfl (HS.out _) (by have := HF.out; simp; omega) ?_; rintro v' w2 hr ho hk ⟨A', c', rfl⟩; have HR := hide hr; have HO := hide ho; have HK := hide hk; clear hr ho hk)
    go_ret
    refine ⟨_, rfl, by simpa using HR.out, fun q hq => ?_, (((Only.refl [] w).alloc _).trans' HO.out (fun k hk hm => ?_))⟩
    · rcases HK.out q hq with h | h
      · simp [Value.ownBlock] at h; omega
      · simp at h; omega
    · simp [Value.ownBlock] at hm; omega
theorem run_clear_name {b : Nat} {cur : List Value} (hb : Blk w b 42 cur.toArray) (i c : Nat) (hi : i + 2 ≤ cur.length) :
    ∃ w1, (∀ ty, (Builtin.clear_ #[51] ty #[.slice (some ⟨b, i, none⟩) 1 c]).run Try.prog w = .ok (.tuple #[]) w1) ∧ Only [b] w w1 ∧
      Blk w1 b 42 (cur.take i ++ [Value.int .i64 0, .string ⟨#[]⟩] ++ cur.drop (i + 2)).toArray := by
  have hzc : (Builtin.zeroCells (Value.agg #[.int .i64 0, .string ⟨#[]⟩]).cells 1).toList = [Value.int .i64 0, .string ⟨#[]⟩] := by kernel_rfl
  refine ⟨w.setCells b i [Value.int .i64 0, .string ⟨#[]⟩], fun ty => ?_, nonly_setCells _ _ _, ?_⟩
  · have hst := run_storeCells_cells (P := Try.prog) b i [Value.int .i64 0, .string ⟨#[]⟩] 0 w (fun j hj => by
      rw [hb.cell, List.getElem?_toArray, List.getElem?_eq_getElem (by simp at hj; omega)]
      rfl) (fun j hj => hb.frozen _) (by intro v hv; simp at hv; rcases hv with rfl | rfl <;> rfl)
    simp only [Nat.add_zero] at hst
    have hz := name_zero
    unfold nameZero at hz
    simp [Builtin.clear_, run_underlying Try.underlying51, hz, hzc, hst]
  · have := nblk_setCells [Value.int .i64 0, .string ⟨#[]⟩] i w cur hb (by simpa using hi)
    simpa using this

/-- append of what stands behind a seat onto what stands ahead of it, as a step of a region that draws. -/
theorem step_delN {ops : Array Oper} {o : Oper} {a : Act} {K : Act → World → Prop} {Q : Exit → Act → World → Prop} {E : Prop} (hgd : o.guard = none) (s y : Operand)
    (ho : o.op = .call { callee := .builtin .append, args := #[s, y], argTypes := #[51, 51] }) (b i cap m c k : Nat) (hk : i + m = k) (hs : a.eval s = .slice (some ⟨b, 0, none⟩) i cap) (A : Addr) (hx : a.eval y = .slice (some A) m c)
    (cur : List Value) (hb : Blk w b 42 cur.toArray) (hzm : zs.length = m) (hnews : ∀ j u, (flatN zs)[j]? = some u → w.cell? (A.add j) = some u) (hroom : i + m ≤ cap) (hcap : cap * 2 = cur.length)
    (hK : ∀ w2, Blk w2 b 42 (cur.take (i * 2) ++ flatN zs ++ cur.drop (i * 2 + m * 2)).toArray → Only [b] w w2 → K (a.put o.dst (.slice (some ⟨b, 0, none⟩) k cap)) w2) :
    if Region.wanted o (yielded ops a.tmps) = true then Oper.wp Try.prog o a w K Q else E := by
  obtain ⟨i0, hi0, hz0, hz1, hz2⟩ := info_parts info_name2
  subst hzm hk
  have hl := flatN_length zs
  refine step_append_room hgd s y 51 ho 42 i0 2 Try.underlying51 hi0 hz1 b 0 i cap hs A zs.length c (flatN zs) hx hl hnews (flatN_one _) hroom (fun j hj => ⟨?_, hb.frozen _⟩) ?_
  · rw [hb.cell, List.getElem?_toArray, List.getElem?_eq_getElem (by omega)]
    rfl
  · refine hK _ ?_ (nonly_setCells _ _ _)
    have := nblk_setCells (flatN zs) (i * 2) w cur hb (by omega)
    rw [hl] at this
    rw [Nat.zero_add]
    exact this

set_option maxHeartbeats 1500000 in
set_option maxRecDepth 100000 in
/-- A row without one of its seats. -/
theorem deleteN_is (h : NRw w v ss) (hf : ss.length ≤ 4096) (i : Nat) (hi : i < ss.length) :
    Calls Try.prog 38 #[v, .int .i64 i, .int .i64 ((i : Int) + 1)] w fun e w' => ∃ v', e = .returned v' ∧ NRw w' v' (ss.eraseIdx i) ∧ v'.ownBlock = v.ownBlock ∧ Only v.ownBlock.toList w w' := by
  obtain ⟨b, cap, cur, rfl, hb, hcl, hlc, hm⟩ := h.blk (by omega)
  have hm' := hm
  unfold maxLen at hm'
  obtain ⟨A, hA, hnews⟩ : ∃ A : Addr, (if cap = i + 1 then some (⟨b, 0, none⟩ : Addr) else some ⟨b, (i + 1) * 2, none⟩) = some A ∧ Hid (∀ j u, (flatN (ss.drop (i + 1)))[j]? = some u → w.drew.cell? (A.add j) = some u) := by
    by_cases hcn : cap = i + 1
    · refine ⟨⟨b, 0, none⟩, by rw [if_pos hcn], fun j u hu => ?_⟩
      have h0 : ss.drop (i + 1) = [] := by apply List.eq_nil_of_length_eq_zero; rw [List.length_drop]; omega
      rw [h0] at hu
      simp [flatN] at hu
    · refine ⟨⟨b, (i + 1) * 2, none⟩, by rw [if_neg hcn], fun j u hu => ?_⟩
      rw [add_at]
      have hj : j < (flatN (ss.drop (i + 1))).length := (List.getElem?_eq_some_iff.1 hu).1
      rw [flatN_length, List.length_drop] at hj
      show w.cell? _ = _
      rw [hb.cell, ← hu, List.getElem?_toArray, List.getElem?_append_left (by rw [flatN_length]; omega), ← flatN_drop, List.getElem?_drop]
  have HM := hide hm
  have HB := hide hb
  have HCL := hide hcl
  have HE := hide (show ss.eraseIdx i = ss.take i ++ ss.drop (i + 1) from List.eraseIdx_eq_take_drop_succ _ _)
  have HD := hide (show (ss.drop (i + 1)).length = ss.length - (i + 1) by rw [List.length_drop])
  have HQ := hide (show cap * 2 = (flatN ss ++ cur).length by rw [List.length_append, flatN_length]; omega)
  have HX := hide (show (flatN ss ++ cur).take (i * 2) = flatN (ss.take i) by rw [List.take_append_of_le_length (by rw [flatN_length]; omega), flatN_take])
  have HL := hide (show (flatN (ss.take i) ++ flatN (ss.drop (i + 1))).length = (ss.length - 1) * 2 by rw [List.length_append, flatN_length, flatN_length, List.length_take, List.length_drop]; omega)
  have HC2 := hide fun (w2 : World) (hb2 : Blk w2 b 42 ((flatN ss ++ cur).take (i * 2) ++ flatN (ss.drop (i + 1)) ++ (flatN ss ++ cur).drop (i * 2 + (ss.length - (i + 1)) * 2)).toArray) => run_clear_name hb2 ((ss.length - 1) * 2) (cap - (ss.length - 1)) (by
    rw [List.length_append, HX.out, HL.out, List.length_drop, List.length_append, flatN_length]; omega)
  have hne : ¬ cap = ss.length - 1 := by omega
  have hne1 : ((i : Int) == (i : Int) + 1) = false := by simp only [beq_eq_false_iff_ne]; omega
  have hs1 : ((ss.length - 1 : Nat) : Int) ≤ ss.length := by omega
  have hs2 : ss.length - (ss.length - 1) = 1 := by omega
  have hp1 : (i : Int) + 1 ≤ ss.length := by omega
  have hp2 : (i : Int) ≤ (i : Int) + 1 := by omega
  have hp3 : (ss.length : Int) ≤ cap := by omega
  have hp4 : (i : Int) ≤ cap := by omega
  have hp5 : (0 : Int) ≤ (i : Int) + 1 := by omega
  have hp6 : ((i : Int) + 1).toNat = i + 1 := by omega
  have HLE := hide (show i + (ss.length - (i + 1)) ≤ cap by omega)
  have HSU := hide (show i + (ss.length - (i + 1)) = ss.length - 1 by omega)
  clear hb h hm hcl
  go_enter Try.func38, Try.ntmps38
  go_wp2_with fail
  go_region_law (refine step_delN rfl _ _ rfl b i cap (ss.length - (i + 1)) (cap - (i + 1)) (ss.length - 1) HSU.out (by simp [Act.eval, Act.put]) A (by simp [Act.eval, Act.put]) (flatN ss ++ cur) HB.out (zs := ss.drop (i + 1)) HD.out hnews.out HLE.out HQ.out ?_; intro w2 hb2 ho2; obtain ⟨w3, hr3, ho3, hb3⟩ := HC2.out w2 hb2; have HR := hide hr3; clear hr3)
  have HB3 := hide hb3
  have HO := hide (show Only [b] w w3 from (show Only [b] w w2 from ((Only.refl [b] w).drew).trans ho2).trans ho3)
  clear hb2 ho2 ho3 hb3
  go_wp2_with (simp only [HR.out])
  go_ret
  have hB3 := HB3.out
  have e1 : (flatN (ss.take i) ++ flatN (ss.drop (i + 1)) ++ (flatN ss ++ cur).drop (i * 2 + (ss.length - (i + 1)) * 2)).take ((ss.length - 1) * 2) = flatN (ss.eraseIdx i) := by
    rw [List.take_append_of_le_length (by rw [HL.out]; exact Nat.le_refl _), List.take_of_length_le (by rw [HL.out]; exact Nat.le_refl _), HE.out, flatN_append]
  rw [HX.out, e1, List.append_assoc] at hB3
  have hlen : (ss.eraseIdx i).length = ss.length - 1 := List.length_eraseIdx_of_lt hi
  have hfin := NRw.of_blk (cap := cap) hB3 (by
    have h1 := HCL.out
    have h2 := HL.out
    rw [hlen]
    simp only [List.length_append, List.length_drop, flatN_length, List.length_take, List.length_cons, List.length_nil] at h2 ⊢
    omega) HM.out
  rw [hlen] at hfin
  exact ⟨_, rfl, hfin, rfl, HO.out⟩
end
end Go.Proofs.Ytjpojoflbjhjjaa
