/-
  The gate (parapet/resv): append of seats to a row of one's own, slices.Clone and slices.Delete of one seat.
-/
import Derived.Test.YtflgcnlncljefaaResvAt
import Derived.Laws.AppendOwnNone
import Derived.Maps.AppendAt
namespace Go.Proofs.Ytflgcnlncljefaa
open Go.ChangeShapes Go.WideShapes Go.ChangeAt Go.RowKit
set_option linter.unusedVariables false

/-- The slice x shows the seats zs. -/
def SeatsAt (w : World) (x : Value) (zs : List ST) : Prop :=
  (x = .slice none 0 0 ∧ zs = []) ∨ ∃ b o c, x = .slice (some ⟨b, o, none⟩) zs.length c ∧ (0 < zs.length → b < w.heap.size) ∧ ∀ j u, (flatS zs)[j]? = some u → w.cell? ⟨b, o + j, none⟩ = some u
def seatZero : Value := .agg #[.int .i64 0, .int .i64 0, .int .i64 0, .bool false]
theorem info_seat4 : (Try.prog.info? 48).map (fun i => (i.zero, i.size, i.bytes)) = some (some seatZero, 4, 32) := by kernel_rfl
theorem flatS_one (ss : List ST) : ∀ u ∈ flatS ss, u.oneCell' = true := by
  intro u hu
  simp only [flatS, List.mem_flatMap] at hu
  obtain ⟨s, _, hs⟩ := hu
  simp only [ST.cells, List.mem_cons, List.not_mem_nil, or_false] at hs
  rcases hs with rfl | rfl | rfl | rfl <;> rfl
theorem seat_zero : ∀ w, (zeroValue 48).run Try.prog w = .ok seatZero w := by
  intro w
  obtain ⟨i, hi, hz, _, _⟩ := info_parts info_seat4
  simp [zeroValue, typeInfo, hi, hz]
theorem sblk_setCells {b : Nat} {t : TypeId} : ∀ (vs : List Value) (o : Nat) (w : World) (cs : List Value), Blk w b t cs.toArray → o + vs.length ≤ cs.length → Blk (w.setCells b o vs) b t (cs.take o ++ vs ++ cs.drop (o + vs.length)).toArray
  | [], o, w, cs, h, _ => by simpa [World.setCells] using h
  | v :: vs, o, w, cs, h, hl => by
    have h1 := h.set_ o v
    rw [List.setIfInBounds_toArray] at h1
    have hlt : o < cs.length := by simp at hl; omega
    have h2 := sblk_setCells vs (o + 1) _ _ h1 (by simp at hl ⊢; omega)
    have e : (cs.set o v).take (o + 1) ++ vs ++ (cs.set o v).drop (o + 1 + vs.length) = cs.take o ++ (v :: vs) ++ cs.drop (o + (v :: vs).length) := by
      have e1 : (cs.set o v).take (o + 1) = cs.take o ++ [v] := by
        rw [List.take_add_one, List.take_set_of_le (Nat.le_refl _)]
        simp [hlt]
      have e2 : (cs.set o v).drop (o + 1 + vs.length) = cs.drop (o + (v :: vs).length) := by
        rw [List.drop_set_of_lt (by omega)]
        congr 1
        simp; omega
      rw [e1, e2]
      simp
    rw [e] at h2
    exact h2
theorem sonly_setCells {b : Nat} : ∀ (vs : List Value) (o : Nat) (w : World), Only [b] w (w.setCells b o vs)
  | [], o, w => Only.refl _ _
  | v :: vs, o, w => ((Only.refl [b] w).setCell (p := ⟨b, o, none⟩) v (by simp)).trans (sonly_setCells vs (o + 1) _)

section
variable {w w' : World} {v x : Value} {ss zs : List ST} {S : List Nat}
theorem SeatsAt.only (h : SeatsAt w x zs) (ho : Only S w w') (hs : ∀ b o n c, x = .slice (some ⟨b, o, none⟩) n c → b < w.heap.size → b ∉ S) : SeatsAt w' x zs := by
  rcases h with h | ⟨b, o, c, e, hb, hc⟩
  · exact .inl h
  · refine .inr ⟨b, o, c, e, fun hp => Nat.lt_of_lt_of_le (hb hp) ho.size, fun j u hu => ?_⟩
    have h1 := hc j u hu
    have hlt := World.block_lt_of_cell? w _ h1
    exact (ho.cell hlt (hs _ _ _ _ e hlt)).trans h1
theorem SRw.sees (h : SRw w v ss) : SeatsAt w v ss := by
  rcases h.2 with ⟨e, h0⟩ | ⟨b, cap, cur, e, hB, hg, hnc, hm, hs, ht⟩
  · exact .inl ⟨e, List.eq_nil_of_length_eq_zero (by omega)⟩
  · refine .inr ⟨b, 0, cap, e, fun _ => Blk.lt (t := 48) hg, fun j u hu => ?_⟩
    have hj := (List.getElem?_eq_some_iff.1 hu).1
    rw [flatS_length] at hj
    rw [Nat.zero_add, Blk.cell (t := 48) hg, ← Array.getElem?_toList, ← hu, show flatS ss = cur.toList.take (ss.length * 4) from ht.symm, List.getElem?_take, if_pos hj]
theorem wp_append_seats {o : Oper} {a : Act} {K : Act → World → Prop} {Q : Exit → Act → World → Prop} (s y : Operand)
    (ho : o.op = .call { callee := .builtin .append, args := #[s, y], argTypes := #[45, 45] }) (hs : a.eval s = v) (hr : SRw w v ss)
    (hx : a.eval y = x) (hz : SeatsAt w x zs) (hbig : ss.length + zs.length < 1000000)
    (hK : ∀ v' w2, SRw w2 v' (ss ++ zs) → Only v.ownBlock.toList w w2 → (∀ k, v'.ownBlock = some k → v.ownBlock = some k ∨ w.heap.size ≤ k) → (∃ A c, v' = .slice A (ss ++ zs).length c) → K (a.put o.dst v') w2) : Oper.wp Try.prog o a w K Q := by
  obtain ⟨i0, hi0, hz0, hz1, hz2⟩ := info_parts info_seat4
  rcases hz with ⟨rfl, rfl⟩ | ⟨b, q, c, rfl, _, hc⟩
  · have hrun := run_append_owned_none (P := Try.prog) (w := w) 0 45 o.type 48 i0 4 Try.underlying45 hi0 v ss.length (flatS ss) hr
    unfold Oper.wp
    simp [execOp, ho, resolve, invoke, builtin, hs, hx, hrun, Result.andThen]
    have hr' : SRw w v (ss ++ []) := by simpa using hr
    obtain ⟨A, c, e, _⟩ := hr'.form
    exact hK v w hr' (Only.refl _ _) (fun k hk => .inl hk) ⟨A, c, e⟩
  · obtain ⟨v', w', hrun, h2, h3, _, h5⟩ := run_append_own_at (P := Try.prog) w 0 45 o.type 48 i0 _ 4 32 Try.underlying45 hi0 hz0 hz1 hz2 rfl (by decide) v ss.length (flatS ss) hr ⟨b, q, none⟩ zs.length c (flatS zs) (flatS_length zs) (fun j u hj => by rw [add_at]; exact hc j u hj) (flatS_one _) (by unfold maxLen; omega) (by omega) (Nat.zero_le _)
    unfold Oper.wp
    simp [execOp, ho, resolve, invoke, builtin, hs, hx, hrun, Result.andThen]
    have hr' : SRw w' v' (ss ++ zs) := by
      unfold SRw
      rw [List.length_append, flatS_append]
      exact h2
    obtain ⟨A, c, e, _⟩ := hr'.form
    refine hK v' w' hr' (only_grown' h3) (fun k hk => ?_) ⟨A, c, e⟩
    rcases h5 with h5 | h5
    · exact .inl (h5 ▸ hk)
    · rw [h5] at hk
      injection hk with hk
      exact .inr (Nat.le_of_eq hk)
theorem wpList_append_seats {ops : Array Oper} {rest : List Oper} {o : Oper} {a : Act} {Q : Exit → Act → World → Prop} (hgd : o.guard = none) (s y : Operand)
    (ho : o.op = .call { callee := .builtin .append, args := #[s, y], argTypes := #[45, 45] }) (hs : a.eval s = v) (hr : SRw w v ss)
    (hx : a.eval y = x) (hz : SeatsAt w x zs) (hbig : ss.length + zs.length < 1000000)
    (hK : ∀ v' w2, SRw w2 v' (ss ++ zs) → Only v.ownBlock.toList w w2 → (∀ k, v'.ownBlock = some k → v.ownBlock = some k ∨ w.heap.size ≤ k) → (∃ A c, v' = .slice A (ss ++ zs).length c) → wpList Try.prog ops Q rest (a.put o.dst v') w2) : wpList Try.prog ops Q (o :: rest) a w :=
  wpList_plain hgd fun _ hK' => wp_append_seats s y ho hs hr hx hz hbig fun v' w2 h1 h2 h3 h4 => hK' _ _ (hK v' w2 h1 h2 h3 h4)
theorem srow_empty {k : Nat} (hb : Blk w k 48 #[]) : SRw w (.slice (some ⟨k, 0, none⟩) 0 0) [] :=
  ⟨by simp [flatS], .inr ⟨k, 0, #[], rfl, Nat.zero_le _, hb, Nat.le_refl _, Nat.zero_le _, rfl, by simp [flatS]⟩⟩

/-- A new row of the same seats. -/
theorem cloneS_is (h : SRw w v ss) (hf : ss.length ≤ 64) : Calls Try.prog 35 #[v] w fun e w' => ∃ v', e = .returned v' ∧ SRw w' v' ss ∧ (∀ q, v'.ownBlock = some q → w.heap.size ≤ q) ∧ Only [] w w' := by
  have q22 : ∀ (w : World) (a : Option Addr) (n c n' c' : Nat), (binOp .eql 45 (.slice a n c) (.slice none n' c')).run Try.prog w = .ok (.bool a.isNone) w := fun w a n c n' c' => Lib.run_eql_slice_nil w _ _ a n c n' c' Try.underlying45
  obtain ⟨A, cap, rfl, hA⟩ := h.form
  rcases A with _ | ad
  · have h0 : ss.length = 0 := by
      rcases Nat.eq_zero_or_pos ss.length with h0 | h0
      · exact h0
      · obtain ⟨b, e, _⟩ := hA h0; cases e
    obtain rfl : ss = [] := List.eq_nil_of_length_eq_zero h0
    clear hA
    go_enter Try.func35, Try.ntmps35
    go_wp2
    go_ret
    exact ⟨_, rfl, SRw.nil _, by simp [Value.ownBlock], Only.refl _ _⟩
  · have HS := hide (fun o => h.sees.only ((Only.refl [] w).alloc o) (by simp))
    have HE := hide (srow_empty (Blk.new w 48 #[]))
    have HF := hide hf
    clear hA h
    go_enter Try.func35, Try.ntmps35
    go_wp2_with (at_builtin; refine wpList_append_seats (v := .slice (some ⟨w.heap.size, 0, none⟩) 0 0) rfl _ _ rfl rfl HE.out rfl (HS.out _) (by have := HF.out; simp; omega) ?_; rintro v' w2 hr ho hk ⟨A', c', rfl⟩; have HR := hide hr; have HO := hide ho; have HK := hide hk; clear hr ho hk)
    go_ret
    refine ⟨_, rfl, by simpa using HR.out, fun q hq => ?_, (((Only.refl [] w).alloc _).trans' HO.out (fun k hk hm => ?_))⟩
    · rcases HK.out q hq with h | h
      · simp [Value.ownBlock] at h; omega
      · simp at h; omega
    · simp [Value.ownBlock] at hm; omega

theorem run_clear_seat {b : Nat} {cur : List Value} (hb : Blk w b 48 cur.toArray) (i c : Nat) (hi : i + 4 ≤ cur.length) :
    ∃ w1, (∀ ty, (Builtin.clear_ #[45] ty #[.slice (some ⟨b, i, none⟩) 1 c]).run Try.prog w = .ok (.tuple #[]) w1) ∧ Only [b] w w1 ∧
      Blk w1 b 48 (cur.take i ++ [Value.int .i64 0, .int .i64 0, .int .i64 0, .bool false] ++ cur.drop (i + 4)).toArray := by
  have hzc : (Builtin.zeroCells (Value.agg #[.int .i64 0, .int .i64 0, .int .i64 0, .bool false]).cells 1).toList = [Value.int .i64 0, .int .i64 0, .int .i64 0, .bool false] := by kernel_rfl
  refine ⟨w.setCells b i [Value.int .i64 0, .int .i64 0, .int .i64 0, .bool false], fun ty => ?_, sonly_setCells _ _ _, ?_⟩
  · have hst := run_storeCells_cells (P := Try.prog) b i [Value.int .i64 0, .int .i64 0, .int .i64 0, .bool false] 0 w (fun j hj => by
      rw [hb.cell, List.getElem?_toArray, List.getElem?_eq_getElem (by simp at hj; omega)]
      rfl) (fun j hj => hb.frozen _) (by intro v hv; simp at hv; rcases hv with rfl | rfl | rfl | rfl <;> rfl)
    simp only [Nat.add_zero] at hst
    have hz := seat_zero
    unfold seatZero at hz
    simp [Builtin.clear_, run_underlying Try.underlying45, hz, hzc, hst]
  · have := sblk_setCells [Value.int .i64 0, .int .i64 0, .int .i64 0, .bool false] i w cur hb (by simpa using hi)
    simpa using this

/-- append of what stands behind a seat onto what stands ahead of it, as a step of a region that draws. -/
theorem step_delS {ops : Array Oper} {o : Oper} {a : Act} {K : Act → World → Prop} {Q : Exit → Act → World → Prop} {E : Prop} (hgd : o.guard = none) (s y : Operand)
    (ho : o.op = .call { callee := .builtin .append, args := #[s, y], argTypes := #[45, 45] }) (b i cap m c k : Nat) (hk : i + m = k) (hs : a.eval s = .slice (some ⟨b, 0, none⟩) i cap) (A : Addr) (hx : a.eval y = .slice (some A) m c)
    (cur : List Value) (hb : Blk w b 48 cur.toArray) (hzm : zs.length = m) (hnews : ∀ j u, (flatS zs)[j]? = some u → w.cell? (A.add j) = some u) (hroom : i + m ≤ cap) (hcap : cap * 4 = cur.length)
    (hK : ∀ w2, Blk w2 b 48 (cur.take (i * 4) ++ flatS zs ++ cur.drop (i * 4 + m * 4)).toArray → Only [b] w w2 → K (a.put o.dst (.slice (some ⟨b, 0, none⟩) k cap)) w2) :
    if Region.wanted o (yielded ops a.tmps) = true then Oper.wp Try.prog o a w K Q else E := by
  obtain ⟨i0, hi0, hz0, hz1, hz2⟩ := info_parts info_seat4
  subst hzm hk
  have hl := flatS_length zs
  refine step_append_room hgd s y 45 ho 48 i0 4 Try.underlying45 hi0 hz1 b 0 i cap hs A zs.length c (flatS zs) hx hl hnews (flatS_one _) hroom (fun j hj => ⟨?_, hb.frozen _⟩) ?_
  · rw [hb.cell, List.getElem?_toArray, List.getElem?_eq_getElem (by omega)]
    rfl
  · refine hK _ ?_ (sonly_setCells _ _ _)
    have := sblk_setCells (flatS zs) (i * 4) w cur hb (by omega)
    rw [hl] at this
    rw [Nat.zero_add]
    exact this

set_option maxHeartbeats 1500000 in
set_option maxRecDepth 100000 in
/-- A row without one of its seats. -/
theorem deleteS_is (h : SRw w v ss) (hf : ss.length ≤ 64) (i : Nat) (hi : i < ss.length) :
    Calls Try.prog 34 #[v, .int .i64 i, .int .i64 ((i : Int) + 1)] w fun e w' => ∃ v', e = .returned v' ∧ SRw w' v' (ss.eraseIdx i) ∧ v'.ownBlock = v.ownBlock ∧ Only v.ownBlock.toList w w' := by
  obtain ⟨b, cap, cur, rfl, hb, hcl, hlc, hm⟩ := h.blk (by omega)
  have hm' := hm
  unfold maxLen at hm'
  obtain ⟨A, hA, hnews⟩ : ∃ A : Addr, (if cap = i + 1 then some (⟨b, 0, none⟩ : Addr) else some ⟨b, (i + 1) * 4, none⟩) = some A ∧ Hid (∀ j u, (flatS (ss.drop (i + 1)))[j]? = some u → w.drew.cell? (A.add j) = some u) := by
    by_cases hcn : cap = i + 1
    · refine ⟨⟨b, 0, none⟩, by rw [if_pos hcn], fun j u hu => ?_⟩
      have h0 : ss.drop (i + 1) = [] := by apply List.eq_nil_of_length_eq_zero; rw [List.length_drop]; omega
      rw [h0] at hu
      simp [flatS] at hu
    · refine ⟨⟨b, (i + 1) * 4, none⟩, by rw [if_neg hcn], fun j u hu => ?_⟩
      rw [add_at]
      have hj : j < (flatS (ss.drop (i + 1))).length := (List.getElem?_eq_some_iff.1 hu).1
      rw [flatS_length, List.length_drop] at hj
      show w.cell? _ = _
      rw [hb.cell, ← hu, List.getElem?_toArray, List.getElem?_append_left (by rw [flatS_length]; omega), ← flatS_drop, List.getElem?_drop]
  have HM := hide hm
  have HB := hide hb
  have HCL := hide hcl
  have HE := hide (show ss.eraseIdx i = ss.take i ++ ss.drop (i + 1) from List.eraseIdx_eq_take_drop_succ _ _)
  have HD := hide (show (ss.drop (i + 1)).length = ss.length - (i + 1) by rw [List.length_drop])
  have HQ := hide (show cap * 4 = (flatS ss ++ cur).length by rw [List.length_append, flatS_length]; omega)
  have HX := hide (show (flatS ss ++ cur).take (i * 4) = flatS (ss.take i) by rw [List.take_append_of_le_length (by rw [flatS_length]; omega), flatS_take])
  have HL := hide (show (flatS (ss.take i) ++ flatS (ss.drop (i + 1))).length = (ss.length - 1) * 4 by rw [List.length_append, flatS_length, flatS_length, List.length_take, List.length_drop]; omega)
  have HC2 := hide fun (w2 : World) (hb2 : Blk w2 b 48 ((flatS ss ++ cur).take (i * 4) ++ flatS (ss.drop (i + 1)) ++ (flatS ss ++ cur).drop (i * 4 + (ss.length - (i + 1)) * 4)).toArray) => run_clear_seat hb2 ((ss.length - 1) * 4) (cap - (ss.length - 1)) (by
    rw [List.length_append, HX.out, HL.out, List.length_drop, List.length_append, flatS_length]; omega)
  have hne : ¬ cap = ss.length - 1 := by omega
  have hne1 : ((i : Int) == (i : Int) + 1) = false := by simp only [beq_eq_false_iff_ne]; omega
  have hs1 : ((ss.length - 1 : Nat) : Int) ≤ ss.length := by omega
  have hs2 : ss.length - (ss.length - 1) = 1 := by omega
  have hp1 : (i : Int) + 1 ≤ ss.length := by omega
  have hp2 : (i : Int) ≤ (i : Int) + 1 := by omega
  have hp3 : (ss.length : Int) ≤ cap := by omega
  have hp4 : (i : Int) ≤ cap := by omega
  have hp5 : (0 : Int) ≤ (i : Int) + 1 := by omega
  have hp6 : ((i : Int) + 1).toNat = i + 1 := by omega
  have HLE := hide (show i + (ss.length - (i + 1)) ≤ cap by omega)
  have HSU := hide (show i + (ss.length - (i + 1)) = ss.length - 1 by omega)
  clear hb h hm hcl
  go_enter Try.func34, Try.ntmps34
  go_wp2_with fail
  go_region_law (refine step_delS rfl _ _ rfl b i cap (ss.length - (i + 1)) (cap - (i + 1)) (ss.length - 1) HSU.out (by simp [Act.eval, Act.put]) A (by simp [Act.eval, Act.put]) (flatS ss ++ cur) HB.out (zs := ss.drop (i + 1)) HD.out hnews.out HLE.out HQ.out ?_; intro w2 hb2 ho2; obtain ⟨w3, hr3, ho3, hb3⟩ := HC2.out w2 hb2; have HR := hide hr3; clear hr3)
  have HB3 := hide hb3
  have HO := hide (show Only [b] w w3 from (show Only [b] w w2 from ((Only.refl [b] w).drew).trans ho2).trans ho3)
  clear hb2 ho2 ho3 hb3
  go_wp2_with (simp only [HR.out])
  go_ret
  have hB3 := HB3.out
  have e1 : (flatS (ss.take i) ++ flatS (ss.drop (i + 1)) ++ (flatS ss ++ cur).drop (i * 4 + (ss.length - (i + 1)) * 4)).take ((ss.length - 1) * 4) = flatS (ss.eraseIdx i) := by
    rw [List.take_append_of_le_length (by rw [HL.out]; exact Nat.le_refl _), List.take_of_length_le (by rw [HL.out]; exact Nat.le_refl _), HE.out, flatS_append]
  rw [HX.out, e1, List.append_assoc] at hB3
  have hlen : (ss.eraseIdx i).length = ss.length - 1 := List.length_eraseIdx_of_lt hi
  have hfin := SRw.of_blk (cap := cap) hB3 (by
    have h1 := HCL.out
    have h2 := HL.out
    rw [hlen]
    simp only [List.length_append, List.length_drop, flatS_length, List.length_take, List.length_cons, List.length_nil] at h2 ⊢
    omega) HM.out
  rw [hlen] at hfin
  exact ⟨_, rfl, hfin, rfl, HO.out⟩
end
end Go.Proofs.Ytflgcnlncljefaa
