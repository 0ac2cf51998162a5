/-
  A struct of parapet/frame whose cells hold rows of ints, no two of one block ('RowsAt'); move.
-/
import Derived.Test.YtfbegickdnjfcaaFrRow
namespace Go.Proofs.Ytfbegickdnjfcaa
open Go.ChangeShapes Go.WideShapes Go.ChangeAt Go.RowKit
set_option linter.unusedVariables false

def upd {α : Type} (f : Nat → α) (i : Nat) (x : α) : Nat → α := fun k => if k = i then x else f k
theorem upd_same {α : Type} (f : Nat → α) (i : Nat) (x : α) : upd f i x i = x := by simp [upd]
theorem upd_far {α : Type} (f : Nat → α) {i k : Nat} (x : α) (h : k ≠ i) : upd f i x k = f k := by simp [upd, h]
def cells13 (v : Nat → Value) : Array Value := ((List.range 13).map v).toArray
theorem cells13_get (v : Nat → Value) (o : Nat) (h : o < 13) : (cells13 v)[o]? = some (v o) := by
  simp [cells13, List.getElem?_map, List.getElem?_range h]
theorem cells13_set (v : Nat → Value) (o : Nat) (x : Value) : (cells13 v).setIfInBounds o x = cells13 (upd v o x) := by
  unfold cells13
  rw [List.setIfInBounds_toArray]
  congr 1
  apply List.ext_getElem
  · simp
  · intro i h1 h2
    rw [List.getElem_set]
    by_cases h : o = i
    · subst h; simp [upd]
    · rw [if_neg h]; simp [upd, Ne.symm h]

/-- The cells that hold rows: the counts (2), the harts' lists (4 to 11), the common ones (12). -/
def Slot (o : Nat) : Prop := o = 2 ∨ (4 ≤ o ∧ o ≤ 12)
theorem Slot.lt {o : Nat} (h : Slot o) : o < 13 := by unfold Slot at h; omega

structure RowsAt (w : World) (t : Nat) (v : Nat → Value) (ns : Nat → List Int) : Prop where
  blk : Blk w t 57 (cells13 v)
  row : ∀ o, Slot o → IRow w (v o) (ns o)
  apart : ∀ o p k, o < 13 → p < 13 → o ≠ p → (v o).ownBlock = some k → (v p).ownBlock ≠ some k
  old : ∀ o k, o < 13 → (v o).ownBlock = some k → Slot o

/-- The blocks of such a struct. -/
def footL (t : Nat) (v : Nat → Value) : List Nat := t :: (List.range 13).flatMap fun o => (v o).ownBlock.toList
theorem mem_footL {t : Nat} {v : Nat → Value} {k : Nat} : k ∈ footL t v ↔ k = t ∨ ∃ o, o < 13 ∧ (v o).ownBlock = some k := by
  simp [footL]
theorem mem_own {v : Value} {k : Nat} : k ∈ v.ownBlock.toList ↔ v.ownBlock = some k := by
  cases v.ownBlock with
  | none => simp
  | some q => simp [eq_comm]

/-- What a call did: only blocks of F turned; those of F' are F's, or new. -/
structure Turn (w w' : World) (F F' : List Nat) : Prop where
  only : Only F w w'
  foot : ∀ k, k ∈ F' → k ∈ F ∨ w.heap.size ≤ k
theorem Turn.refl (w : World) (F : List Nat) : Turn w w F F := ⟨Only.refl _ _, fun k h => .inl h⟩
theorem Turn.trans {w w1 w2 : World} {F F1 F2 : List Nat} (h : Turn w w1 F F1) (h2 : Turn w1 w2 F1 F2) : Turn w w2 F F2 :=
  ⟨h.only.trans' h2.only (fun k hk hk' => (h.foot k hk').resolve_right (by omega)), fun k hk => by
    rcases h2.foot k hk with h' | h'
    · exact h.foot k h'
    · exact .inr (Nat.le_trans h.only.size h')⟩
theorem Turn.dr {w w1 : World} {F F1 : List Nat} (h : Turn w w1 F F1) (n : Nat) : Turn w (w1.drewN n) F F1 := ⟨h.only.drewN n, h.foot⟩

section
variable {w w' w1 : World} {t : Nat} {v : Nat → Value} {ns : Nat → List Int} {S : List Nat}
theorem RowsAt.cell (R : RowsAt w t v ns) (o : Nat) (h : o < 13) : w.cell? ⟨t, o, none⟩ = some (v o) := by rw [R.blk.cell]; exact cells13_get v o h
theorem RowsAt.free (R : RowsAt w t v ns) (o : Nat) : w.frozen? ⟨t, o, none⟩ = false := R.blk.frozen o
theorem RowsAt.lt (R : RowsAt w t v ns) {o k : Nat} (ho : o < 13) (h : (v o).ownBlock = some k) : k < w.heap.size := ((R.row o (R.old o k ho h)).at_ h).2.1
theorem RowsAt.ne (R : RowsAt w t v ns) {o k : Nat} (ho : o < 13) (h : (v o).ownBlock = some k) : k ≠ t := (R.row o (R.old o k ho h)).apart R.blk (by decide) k h
theorem RowsAt.only (R : RowsAt w t v ns) (ho : Only S w w') (ht : t ∉ S) (hs : ∀ o k, o < 13 → (v o).ownBlock = some k → k ∉ S) : RowsAt w' t v ns :=
  ⟨R.blk.only ho ht, fun o h => (R.row o h).only ho (fun q hq => hs o q h.lt hq), R.apart, R.old⟩
theorem RowsAt.drewN (R : RowsAt w t v ns) (n : Nat) : RowsAt (w.drewN n) t v ns := ⟨R.blk.drewN n, R.row, R.apart, R.old⟩
theorem RowsAt.far (R : RowsAt w t v ns) (ho : Only S w w') (hs : ∀ k, k ∈ footL t v → k ∉ S) : RowsAt w' t v ns :=
  R.only ho (hs t (mem_footL.2 (.inl rfl))) (fun o k h hk => hs k (mem_footL.2 (.inr ⟨o, h, hk⟩)))

/-- A row turned, and its cell is set. -/
theorem RowsAt.put (R : RowsAt w t v ns) {i : Nat} (hi : Slot i) {x : Value} {xs : List Int} (ho : Only (v i).ownBlock.toList w w1) (hx : IRow w1 x xs) (hb : ∀ k, x.ownBlock = some k → (v i).ownBlock = some k ∨ w.heap.size ≤ k) :
    RowsAt (w1.setCell ⟨t, i, none⟩ x) t (upd v i x) (upd ns i xs) ∧ Turn w (w1.setCell ⟨t, i, none⟩ x) (footL t v) (footL t (upd v i x)) := by
  have htS : t ∉ (v i).ownBlock.toList := fun h => R.ne hi.lt (mem_own.1 h) rfl
  have hb1 : Blk w1 t 57 (cells13 v) := R.blk.only ho htS
  have hset : Only [t] w1 (w1.setCell ⟨t, i, none⟩ x) := (Only.refl _ _).setCell _ (by simp)
  have hxt : ∀ k, x.ownBlock = some k → k ≠ t := hx.apart hb1 (by decide)
  refine ⟨⟨?_, fun o h => ?_, fun o p k h1 h2 hne e1 e2 => ?_, fun o k h e => ?_⟩, ?_, fun k hk => ?_⟩
  · rw [← cells13_set]; exact hb1.set_ _ _
  · by_cases e : o = i
    · subst e
      rw [upd_same, upd_same]
      exact KRow.only hx hset (fun q hq hm => hxt q hq (by simpa using hm))
    · rw [upd_far _ _ e, upd_far _ _ e]
      refine KRow.only ((R.row o h).only ho (fun q hq hm => R.apart o i q h.lt hi.lt e hq (mem_own.1 hm))) hset (fun q hq hm => R.ne h.lt hq (by simpa using hm))
  · by_cases eo : o = i
    · have ep : p ≠ i := fun q => hne (eo.trans q.symm)
      rw [eo, upd_same] at e1
      rw [upd_far _ _ ep] at e2
      rcases hb k e1 with h | h
      · exact R.apart i p k hi.lt h2 (Ne.symm ep) h e2
      · have := R.lt h2 e2; omega
    · rw [upd_far _ _ eo] at e1
      by_cases ep : p = i
      · rw [ep, upd_same] at e2
        rcases hb k e2 with h | h
        · exact R.apart o i k h1 hi.lt eo e1 h
        · have := R.lt h1 e1; omega
      · rw [upd_far _ _ ep] at e2
        exact R.apart o p k h1 h2 hne e1 e2
  · by_cases eo : o = i
    · rw [eo]; exact hi
    · rw [upd_far _ _ eo] at e
      exact R.old o k h e
  · exact (ho.mono (fun k _ hk => mem_footL.2 (.inr ⟨i, hi.lt, mem_own.1 hk⟩))).trans (hset.mono (fun k _ hk => by simp at hk; exact mem_footL.2 (.inl hk)))
  · rcases mem_footL.1 hk with rfl | ⟨o, h, e⟩
    · exact .inl (mem_footL.2 (.inl rfl))
    · by_cases eo : o = i
      · rw [eo, upd_same] at e
        exact (hb k e).imp (fun h' => mem_footL.2 (.inr ⟨i, hi.lt, h'⟩)) id
      · rw [upd_far _ _ eo] at e
        exact .inl (mem_footL.2 (.inr ⟨o, h, e⟩))
end

/-- The first n of row j go behind row i. -/
def moveN (ns : Nat → List Int) (i j n : Nat) : Nat → List Int := upd (upd ns i (ns i ++ (ns j).take n)) j ((ns j).drop n)

/-- The struct, with other rows, behind a call. -/
def Moved (w w' : World) (t : Nat) (v : Nat → Value) (ns' : Nat → List Int) : Prop :=
  ∃ v', RowsAt w' t v' ns' ∧ Turn w w' (footL t v) (footL t v') ∧ ∀ o, ¬ Slot o → v' o = v o

set_option maxHeartbeats 1000000 in
set_option maxRecDepth 100000 in
theorem move_is {w : World} {t : Nat} {v : Nat → Value} {ns : Nat → List Int} (R : RowsAt w t v ns) (i j n : Nat) (hi : Slot i) (hj : Slot j) (hij : i ≠ j) (hn : 0 < n) (hl : n ≤ (ns j).length) (hbig : (ns i).length + n < 4000000000000) :
    Calls Try.prog 49 #[.pointer (some ⟨t, i, none⟩), .pointer (some ⟨t, j, none⟩), .int .i64 n] w fun e w' => e = .returned (.tuple #[]) ∧ Moved w w' t v (moveN ns i j n) := by
  obtain ⟨i0, hi0, hz0, hz1, hz2⟩ := info_parts info_int
  obtain ⟨b, cap, cur, hvj, hb, hcl, hm⟩ := (R.row j hj).blk (by omega)
  have hm' := hm
  unfold maxLen at hm'
  obtain ⟨A0, c0, hvi, -⟩ := (R.row i hi).form
  have hc1 := R.cell i hi.lt
  have hf1 := R.free i
  have hc2 := R.cell j hj.lt
  have hf2 := R.free j
  rw [hvi] at hc1
  rw [hvj] at hc2
  have HVI := hide hvi
  have HR := hide R
  have hci : t ∉ (v i).ownBlock.toList := fun h => R.ne hi.lt (mem_own.1 h) rfl
  have HCI := hide hci
  have HLT := hide R.blk.lt
  have HN := hide (show (i64l ((ns j).take n)).length = n by rw [i64l_length, List.length_take]; omega)
  have HNE := hide (fun (w1 : World) (hb1 : Blk w1 b 3 (i64l (ns j) ++ cur).toArray) => (show ∀ q u, (i64l ((ns j).take n))[q]? = some u → w1.cell? ((⟨b, 0, none⟩ : Addr).add q) = some u from fun q u hu => by
    have hq : q < n := by have := (List.getElem?_eq_some_iff.1 hu).1; rwa [HN.out] at this
    rw [add_at, Nat.zero_add, hb1.cell, ← hu, List.getElem?_toArray, List.getElem?_append_left (by rw [i64l_length]; omega)]
    simp [i64l, hq]))
  have HB := hide hb
  have hp0 : (0 : Int) ≤ n := by omega
  have hp1 : (n : Int) ≤ (ns j).length := by omega
  have hp3 : ((ns j).length : Int) ≤ cap := by omega
  have hp4 : (n : Int) ≤ cap := by omega
  have hnc : n ≤ cap := by omega
  have HBIG := hide hbig
  have HJL := hide hl
  clear R hb hci hbig hcl hm hl hvi
  go_enter Try.func49, Try.ntmps49
  go_wp2_with fail
  go_region_law (refine step_append_lies _ rfl _ _ 46 rfl 0 3 i0 _ 1 8 Try.underlying46 hi0 hz0 hz1 hz2 rfl (by decide) (v i) (ns i).length (i64l (ns i)) (by rw [HVI.out]; simp [Act.eval, Act.put]) (HR.out.row i hi) ⟨b, 0, none⟩ n cap (i64l ((ns j).take n)) (by simp [Act.eval, Act.put]) (by rw [HN.out, Nat.mul_one]) (HNE.out _ HB.out) (i64l_one _) hn (by have := HBIG.out; unfold maxLen; omega) (by have := HBIG.out; omega) (Nat.zero_le _) _ rfl ?_; intro pg pcap w5 hown5 hgrow5 hat5 hlt5; have k5 : Only (v i).ownBlock.toList w w5 := Only.trans (by repeat (first | exact Only.refl _ _ | apply Only.drew | apply Only.alloc)) (only_grown' hgrow5); have hc15 : w5.cell? ⟨t, i, none⟩ = some (.slice A0 (ns i).length c0) := (k5.cell HLT.out HCI.out).trans hc1; have hf15 : w5.frozen? ⟨t, i, none⟩ = false := (HR.out.blk.only k5 HCI.out).frozen i)
  all_goals
    obtain ⟨R2, T2⟩ := HR.out.put hi k5 (x := .slice (some ⟨pg, 0, none⟩) ((ns i).length + n) pcap) (xs := ns i ++ (ns j).take n) (by
      have hl : (ns i ++ (ns j).take n).length = (ns i).length + n := by rw [List.length_append, List.length_take]; have := HJL.out; omega
      unfold IRow KRow
      rw [hl, List.map_append]
      exact hown5) (fun k hk => by
        simp only [Value.ownBlock, Option.some.injEq] at hk
        subst hk
        exact hat5.imp id (fun e => Nat.le_of_eq (Eq.symm e)))
    clear hown5 hgrow5 hat5 hlt5 k5 hc15 hf15
    revert R2 T2
    generalize w5.setCell ⟨t, i, none⟩ (.slice (some ⟨pg, 0, none⟩) ((ns i).length + n) pcap) = w6
    intro R2 T2
    have hji : j ≠ i := Ne.symm hij
    have hd1 := R2.cell j hj.lt
    have hvj2 : upd v i (.slice (some ⟨pg, 0, none⟩) ((ns i).length + n) pcap) j = .slice (some ⟨b, 0, none⟩) (ns j).length cap := by rw [upd_far _ _ hji]; exact hvj
    have hr2 := R2.row j hj
    rw [upd_far v _ hji, upd_far ns _ hji] at hr2
    have HDEL := hide (delete_is hr2 n hn HJL.out)
    rw [hvj2] at hd1
    rw [hvj] at HDEL
    have HR2 := hide R2
    have HT2 := hide T2
    clear R2 T2 hr2 hc1 hc2 hf1 hf2
    go_wp2_with (go_at_call 57; refine HDEL.out.mono ?_; rintro e w7 ⟨v', rfl, hrv, hob, ho7⟩; rw [← hvj2] at hob ho7; have hb7 := HR2.out.blk.only ho7 (fun h => HR2.out.ne hj.lt (mem_own.1 h) rfl); have hc7 := (hb7.cell j).trans (cells13_get _ j hj.lt); have hf7 := hb7.frozen j; have HOB := hide hob; have HO7 := hide ho7; obtain ⟨A', c', rfl, _⟩ := hrv.form; have HRV := hide hrv; clear hob ho7 hrv hb7)
    obtain ⟨R3, T3⟩ := HR2.out.put hj HO7.out HRV.out (fun k hk => .inl (by rw [← HOB.out]; exact hk))
    have HF := hide (show Moved w _ t v (moveN ns i j n) from ⟨_, R3, HT2.out.trans T3, fun o ho => by
      rw [upd_far _ _ (show o ≠ j from fun e => ho (by rw [e]; exact hj)), upd_far _ _ (show o ≠ i from fun e => ho (by rw [e]; exact hi))]⟩)
    clear R3 T3 HRV HOB HO7 HT2 HR2 HR
    have hld := List.length_drop (i := n) (l := ns j)
    rw [hld] at HF
    go_end0
    exact ⟨rfl, HF.out⟩

/-- append of some numbers, or none, behind a row: as a step of a region that draws. -/
theorem step_append_any {ops : Array Oper} {o : Oper} {a : Act} {w : World} {K : Act → World → Prop} {Q : Exit → Act → World → Prop} {E : Prop} (hgd : o.guard = none) (s x : Operand)
    (ho : o.op = .call { callee := .builtin .append, args := #[s, x], argTypes := #[46, 46] }) (v : Value) (ns : List Int) (hs : a.eval s = v) (hr : IRow w v ns)
    (A : Option Addr) (m c : Nat) (hx : a.eval x = .slice A m c) (hA : A = none → m = 0 ∧ c = 0) (zs : List Int) (hz : zs.length = m) (hnews : ∀ ad, A = some ad → ∀ j u, (i64l zs)[j]? = some u → w.cell? (ad.add j) = some u) (hbig : ns.length + m < 4000000000000)
    (hK : ∀ v' w2, IRow w2 v' (ns ++ zs) → Only v.ownBlock.toList w w2 → (∀ k, v'.ownBlock = some k → v.ownBlock = some k ∨ w.heap.size ≤ k) → K (a.put o.dst v') w2) :
    if Region.wanted o (yielded ops a.tmps) = true then Oper.wp Try.prog o a w K Q else E := by
  have hw : Region.wanted o (yielded ops a.tmps) = true := by simp [Region.wanted, hgd]
  rw [if_pos hw]
  obtain ⟨i0, hi0, hz0, hz1, hz2⟩ := info_parts info_int
  rcases A with _ | ad
  · obtain ⟨rfl, rfl⟩ := hA rfl
    have hzs : zs = [] := List.eq_nil_of_length_eq_zero hz
    subst hzs
    have hrun := run_append_owned_none (P := Try.prog) (w := w) 0 46 o.type 3 i0 1 Try.underlying46 hi0 v ns.length (i64l ns) hr
    unfold Oper.wp
    simp [execOp, ho, resolve, invoke, builtin, hs, hx, hrun, Result.andThen]
    exact hK v w (by simpa using hr) (Only.refl _ _) (fun k hk => .inl hk)
  · obtain ⟨v', w', hrun, h2, h3, _, h5⟩ := run_append_own_at (P := Try.prog) w 0 46 o.type 3 i0 _ 1 8 Try.underlying46 hi0 hz0 hz1 hz2 rfl (by decide) v ns.length (i64l ns) hr ad m c (i64l zs) (by rw [i64l_length, hz, Nat.mul_one]) (hnews ad rfl) (i64l_one _) (by unfold maxLen; omega) (by omega) (Nat.zero_le _)
    unfold Oper.wp
    simp [execOp, ho, resolve, invoke, builtin, hs, hx, hrun, Result.andThen]
    refine hK v' w' ?_ (only_grown' h3) (fun k hk => ?_)
    · unfold IRow KRow
      rw [List.length_append, List.map_append, hz]
      exact h2
    · rcases h5 with h5 | h5
      · exact .inl (h5 ▸ hk)
      · rw [h5] at hk
        injection hk with hk
        exact .inr (Nat.le_of_eq hk)

theorem IRow.form2 {w : World} {v : Value} {ns : List Int} (h : IRow w v ns) : ∃ A c, v = .slice A ns.length c ∧ (A = none → ns.length = 0 ∧ c = 0) ∧ ns.length ≤ c ∧ c ≤ maxLen := by
  rcases h.2 with ⟨e, h0⟩ | ⟨b, cap, cur, e, _, _, h1, h2, _⟩
  · exact ⟨none, 0, by rw [e, h0], fun _ => ⟨h0, rfl⟩, by omega, Nat.zero_le _⟩
  · exact ⟨_, cap, e, fun h => (by cases h), h1, h2⟩
theorem upd_self {α : Type} (f : Nat → α) (i : Nat) : upd f i (f i) = f := by
  funext k
  by_cases h : k = i
  · subst h; simp [upd]
  · simp [upd, h]

theorem Moved.of {w w' : World} {t : Nat} {v : Nat → Value} {ns ns' : Nat → List Int} (h : Moved w w' t v ns) (e : ns = ns') : Moved w w' t v ns' := e ▸ h

set_option maxHeartbeats 1000000 in
set_option maxRecDepth 100000 in
theorem move_nought {w : World} {t : Nat} {v : Nat → Value} {ns : Nat → List Int} (R : RowsAt w t v ns) (i j : Nat) (hi : Slot i) (hj : Slot j) (hbig : (ns i).length < 4000000000000) :
    Calls Try.prog 49 #[.pointer (some ⟨t, i, none⟩), .pointer (some ⟨t, j, none⟩), .int .i64 0] w fun e w' => e = .returned (.tuple #[]) ∧ Moved w w' t v ns := by
  obtain ⟨A, c, hvj, hA, hb1, hb2⟩ := (R.row j hj).form2
  obtain ⟨A0, c0, hvi, -⟩ := (R.row i hi).form
  have hc1 := R.cell i hi.lt
  have hf1 := R.free i
  have hc2 := R.cell j hj.lt
  have hf2 := R.free j
  rw [hvi] at hc1
  rw [hvj] at hc2
  have HVI := hide hvi
  have HR := hide R
  have hci : t ∉ (v i).ownBlock.toList := fun h => R.ne hi.lt (mem_own.1 h) rfl
  have HCI := hide hci
  have HLT := hide R.blk.lt
  have HBIG := hide hbig
  have hcb : c ≤ 9223372036854775807 := hb2
  have HE : Hid (∀ w6 v2, RowsAt w6 t v2 (upd ns i (ns i ++ [])) → Turn w w6 (footL t v) (footL t v2) → (∀ o, ¬ Slot o → v2 o = v o) → ∃ A2 c2, w6.cell? ⟨t, j, none⟩ = some (.slice A2 (ns j).length c2) ∧ w6.frozen? ⟨t, j, none⟩ = false ∧
      (Calls Try.prog 57 #[.slice A2 (ns j).length c2, .int .i64 0, .int .i64 0] w6 fun e w' => e = .returned (.slice A2 (ns j).length c2) ∧ w6 = w') ∧ Moved w (w6.setCell ⟨t, j, none⟩ (.slice A2 (ns j).length c2)) t v ns) := hide (by
    intro w6 v2 R2 T2 hk
    rw [List.append_nil, upd_self] at R2
    obtain ⟨A2, c2, hv2, q1, q2, q3⟩ := (R2.row j hj).form2
    obtain ⟨R3, T3⟩ := R2.put hj (Only.refl _ _) (R2.row j hj) (fun k h => .inl h)
    rw [upd_self, upd_self, hv2] at R3
    rw [upd_self, hv2] at T3
    refine ⟨A2, c2, by rw [R2.cell j hj.lt, hv2], R2.free j, delete_nought w6 A2 _ _ q1 q2 q3, v2, R3, T2.trans T3, hk⟩)
  clear R hci hbig hb1 hb2 hvi
  have HHA := hide hA
  clear hA
  rcases A with _ | ad
  · obtain ⟨h1, rfl⟩ := HHA.out rfl
    rw [h1] at hc2
    clear h1 hvj
    go_enter Try.func49, Try.ntmps49
    go_wp2_with fail
    go_region_law (refine step_append_any rfl _ _ rfl (v i) (ns i) (by rw [HVI.out]; simp [Act.eval, Act.put]) (HR.out.row i hi) none 0 0 (by simp [Act.eval, Act.put]) (fun e => ⟨rfl, rfl⟩) [] rfl (fun ad _ j u hu => by simp [i64l] at hu) HBIG.out ?_; intro v5 w5 hr5 ho5 hb5; obtain ⟨A5, c5, rfl, _⟩ := hr5.form; have k5 : Only (v i).ownBlock.toList w w5 := Only.trans (by repeat (first | exact Only.refl _ _ | apply Only.drew | apply Only.alloc)) ho5; have hc15 : w5.cell? ⟨t, i, none⟩ = some (.slice A0 (ns i).length c0) := (k5.cell HLT.out HCI.out).trans hc1; have hf15 : w5.frozen? ⟨t, i, none⟩ = false := (HR.out.blk.only k5 HCI.out).frozen i; have HR5 := hide hr5; have HB5 := hide hb5; clear hr5 hb5 ho5)
    all_goals
      obtain ⟨R2, T2⟩ := HR.out.put hi k5 HR5.out (fun k hk => HB5.out k hk)
      obtain ⟨A2, c2, d1, d2, d3, d4⟩ := HE.out _ _ R2 T2 (fun o ho => upd_far v _ (show o ≠ i from fun e => ho (by rw [e]; exact hi)))
      have hla : (ns i ++ []).length = (ns i).length := by rw [List.append_nil]
      rw [hla] at d1 d2 d3 d4
      have D3 := hide d3
      have D4 := hide d4
      clear R2 T2 d3 d4 hc1 hf1 hc2 hf2 hc15 hf15 HE HR HR5 HB5 k5
      go_wp2_with (go_at_call 57; refine D3.out.mono ?_; rintro e w7 ⟨rfl, rfl⟩)
      go_end0
      exact ⟨rfl, D4.out⟩
  · obtain ⟨b, e, _⟩ : ∃ b, (⟨b, 0, none⟩ : Addr) = ad ∧ True := by
      rcases (HR.out.row j hj).2 with ⟨e, h0⟩ | ⟨b, cap, cur, e, _⟩
      · rw [hvj] at e; injection e with e1 e2 e3; cases e1
      · rw [hvj] at e; injection e with e1 e2 e3; injection e1 with e1; exact ⟨b, e1.symm, trivial⟩
    subst e
    go_enter Try.func49, Try.ntmps49
    go_wp2_with fail
    go_region_law (refine step_append_any rfl _ _ rfl (v i) (ns i) (by rw [HVI.out]; simp [Act.eval, Act.put]) (HR.out.row i hi) (some ⟨b, 0, none⟩) 0 c (by simp [Act.eval, Act.put]) (fun e => by cases e) [] rfl (fun ad _ j u hu => by simp [i64l] at hu) HBIG.out ?_; intro v5 w5 hr5 ho5 hb5; obtain ⟨A5, c5, rfl, _⟩ := hr5.form; have k5 : Only (v i).ownBlock.toList w w5 := Only.trans (by repeat (first | exact Only.refl _ _ | apply Only.drew | apply Only.alloc)) ho5; have hc15 : w5.cell? ⟨t, i, none⟩ = some (.slice A0 (ns i).length c0) := (k5.cell HLT.out HCI.out).trans hc1; have hf15 : w5.frozen? ⟨t, i, none⟩ = false := (HR.out.blk.only k5 HCI.out).frozen i; have HR5 := hide hr5; have HB5 := hide hb5; clear hr5 hb5 ho5)
    all_goals
      obtain ⟨R2, T2⟩ := HR.out.put hi k5 HR5.out (fun k hk => HB5.out k hk)
      obtain ⟨A2, c2, d1, d2, d3, d4⟩ := HE.out _ _ R2 T2 (fun o ho => upd_far v _ (show o ≠ i from fun e => ho (by rw [e]; exact hi)))
      have hla : (ns i ++ []).length = (ns i).length := by rw [List.append_nil]
      rw [hla] at d1 d2 d3 d4
      have D3 := hide d3
      have D4 := hide d4
      clear R2 T2 d3 d4 hc1 hf1 hc2 hf2 hc15 hf15 HE HR HR5 HB5 k5
      go_wp2_with (go_at_call 57; refine D3.out.mono ?_; rintro e w7 ⟨rfl, rfl⟩)
      go_end0
      exact ⟨rfl, D4.out⟩
end Go.Proofs.Ytfbegickdnjfcaa
