/-
  The walk of 'FrameNobody'.
-/
import Derived.Test.YtffhcfpcjkccdaaFrNo
import Derived.Test.YtffhcfpcjkccdaaRead
import Derived.LoopN
namespace Go.Proofs.Ytffhcfpcjkccdaa
open Go.ChangeShapes Go.WideShapes Go.ChangeAt Go.RowKit Go.Shelf Go.Deep
set_option linter.unusedVariables false
attribute [local go_sem] Oper.semAt_some

def opV (k h f : Int) : Value := .agg #[.int .i64 k, .int .i64 h, .int .i64 f]
section
variable {H : Type} {enc : TypeId × Value → H} {w : World} {base : Nat} {d : DataW H}
theorem op6_field {fs : Array Field} {cs : List Value} {ys : List (DataW H × List MemPlace)} {n' : Nat} (hyl : ys.length = fs.size)
    (hfs : ∀ (i : Nat) (f : Field), fs[i]? = some f → DataW.trod enc Try.prog w 0 (fun _ => true) true n' f.type (List.take (Try.prog.cellsOf f.type) (List.drop f.offset cs)) = ys[i]?)
    (j : Nat) (f : Field) (hj : fs[j]? = some f) (ht : f.type = 3) (hc : f.offset < cs.length) : ∃ x, cs[f.offset]? = some (.int .i64 x) ∧ (Lit.int .i64 x).wf = true := by
  have h := hfs j f hj
  rw [ht, show Try.prog.cellsOf 3 = 1 by kernel_rfl, take_one6 cs _ hc] at h
  have hl : j < ys.length := by rw [hyl]; exact (Array.getElem?_eq_some_iff.1 hj).1
  rw [List.getElem?_eq_getElem hl] at h
  obtain ⟨x, hx, _, hw⟩ := DataW.trod_int Try.underlying3 h
  injection hx with hx _
  exact ⟨x, by rw [List.getElem?_eq_getElem hc, hx], hw⟩
def I64o (x : Int) : Prop := -9223372036854775808 ≤ x ∧ x ≤ 9223372036854775807
theorem I64_of {x : Int} (h : (Lit.int .i64 x).wf = true) : I64o x := by
  have : -9223372036854775808 ≤ x ∧ x ≤ 9223372036854775807 := by simpa [Lit.wf, IntKind.min, IntKind.max, IntKind.signed, IntKind.bits] using h
  exact this
set_option maxRecDepth 100000 in
theorem Rd.op6 {v : Value} (o : Value.okWide Try.prog w .any base 37 v) (h : Rd enc Try.prog w 37 v.cells.toList d) : ∃ a b c, v = opV a b c ∧ I64o b ∧ I64o c := by
  obtain ⟨cs, rfl, hsz⟩ := okWide_struct Try.underlying37 o
  rw [show Try.prog.cellsOf 37 = 3 by kernel_rfl] at hsz
  obtain ⟨l⟩ := cs
  match l, hsz with
  | [c0, c1, c2], _ =>
    obtain ⟨⟨n, ps, hn⟩, _⟩ := h
    obtain ⟨ys, n', _, _, hlen, hyl, hfs⟩ := DataW.trod_struct Try.underlying37 hn
    obtain ⟨a, e0, w0⟩ := op6_field hyl hfs 0 _ rfl rfl (by simp [Value.cells])
    obtain ⟨b, e1, w1⟩ := op6_field hyl hfs 1 _ rfl rfl (by simp [Value.cells])
    obtain ⟨c, e2, w2⟩ := op6_field hyl hfs 2 _ rfl rfl (by simp [Value.cells])
    refine ⟨a, b, c, ?_, I64_of w1, I64_of w2⟩
    simp [Value.cells] at e0 e1 e2
    subst e0 e1 e2
    rfl
end

/-- What stays through the statement's rounds. -/
structure NbK (w W : World) (H : Nat) (k x y : Int) : Prop where
  arg : Blk W w.heap.size 37 #[.int .i64 k, .int .i64 x, .int .i64 y]
  res : Blk W (w.heap.size + 1) 4 #[.bool false]
  zero : NoFr W (some ⟨H, 0, none⟩)
  row : Blk W (H + 1) 28 #[.pointer none, .pointer (some ⟨H, 0, none⟩)]
  below : Below w.heap.size w W
  le : w.heap.size + 2 ≤ H ∧ H + 2 ≤ W.heap.size
  zb : ∃ cs ct, Blk W H ct cs
theorem NbK.only {w W W' : World} {H : Nat} {k x y : Int} (h : NbK w W H k x y) (ho : Only [] W W') : NbK w W' H k x y :=
  ⟨h.arg.only ho (by simp), h.res.only ho (by simp), h.zero.only ho, h.row.only ho (by simp), h.below.trans (ho.below (by have := h.le; omega) (by simp)), ⟨h.le.1, Nat.le_trans h.le.2 ho.size⟩, by obtain ⟨cs, ct, hb⟩ := h.zb; exact ⟨cs, ct, hb.only ho (by simp)⟩⟩
theorem NbK.keeps {w W W' : World} {H : Nat} {k x y : Int} (h : NbK w W H k x y) (hk : KeepsCells [] W W') (hb : Below w.heap.size W W') : NbK w W' H k x y :=
  ⟨hk.2 _ _ _ (by simp) h.arg, hk.2 _ _ _ (by simp) h.res, by
    rcases h.zero with e | ⟨t, e, hl, hc⟩
    · cases e
    · injection e with e
      injection e with e
      subst e
      obtain ⟨cs, ct, hbk⟩ := h.zb
      exact .inr ⟨H, rfl, Nat.lt_of_lt_of_le hl hk.1, by rw [(hk.2 _ _ _ (by simp) hbk).cell, ← hbk.cell]; exact hc⟩, hk.2 _ _ _ (by simp) h.row, h.below.trans hb, ⟨h.le.1, Nat.le_trans h.le.2 hk.1⟩, by
    obtain ⟨cs, ct, hbk⟩ := h.zb
    exact ⟨cs, ct, hk.2 _ _ _ (by simp) hbk⟩⟩
theorem NbK.grown {w W W' : World} {H B : Nat} {k x y : Int} {row : Option Nat} (h : NbK w W H k x y) (hB : W.heap.size ≤ B) (hg : W.grownBy W' row) (hr : ∀ r, row = some r → B ≤ r) : NbK w W' H k x y :=
  h.only ⟨hg.os, hg.tape, hg.output, hg.size, fun q hq _ => hg.block q hq (fun e => by have := hr q e.symm; omega)⟩

set_option maxRecDepth 100000 in
set_option maxHeartbeats 8000000 in
theorem frameNobody_is (k x y : Int) (w : World) :
    Calls Try.prog 5 #[opV k x y] w fun e w' => e = .returned (.bool true) ∧ Below w.heap.size w w' := by
  unfold opV
  (refine (callsIn_wide (n := 9)).1 ?_; refine callsIn_of_wp_marks Try.func5 rfl trivial ?_ rfl; simp only [Try.ntmps5, List.size_toArray, List.length_cons, List.length_nil, Nat.reduceAdd, Nat.reduceSub, Array.replicate_succ, Array.replicate_zero, List.push_toArray, List.append_toArray, List.nil_append, List.cons_append]; refine wpIn_wide.2 ?_)
  go_wp2_with fail
  refine (awake6 _).mono ?_
  rintro e w1 ⟨rfl, ho1⟩
  have hs1 : w.heap.size + 2 ≤ w1.heap.size := by have := ho1.size; simpa using this
  obtain ⟨zc, hzc⟩ : ∃ zc : Array Value, (#[.pointer none, .int .i64 0, .slice none 0 0, .int .i64 0, .slice none 0 0, .slice none 0 0, .slice none 0 0, .slice none 0 0, .slice none 0 0, .slice none 0 0, .slice none 0 0, .slice none 0 0, .slice none 0 0] : Array Value) = zc := ⟨_, rfl⟩
  have HK0 := hide (show NbK w ((w1.alloc (.cells #[.pointer none, .int .i64 0, .slice none 0 0, .int .i64 0, .slice none 0 0, .slice none 0 0, .slice none 0 0, .slice none 0 0, .slice none 0 0, .slice none 0 0, .slice none 0 0, .slice none 0 0, .slice none 0 0] 51)).alloc (.cells #[.pointer none, .pointer (some ⟨w1.heap.size, 0, none⟩)] 28)) w1.heap.size k x y from by
    have o2 : Only [] w1 ((w1.alloc (.cells #[.pointer none, .int .i64 0, .slice none 0 0, .int .i64 0, .slice none 0 0, .slice none 0 0, .slice none 0 0, .slice none 0 0, .slice none 0 0, .slice none 0 0, .slice none 0 0, .slice none 0 0, .slice none 0 0] 51)).alloc (.cells #[.pointer none, .pointer (some ⟨w1.heap.size, 0, none⟩)] 28)) := ((Only.refl [] w1).alloc _).alloc _
    have hb1 : Blk w1 (w.heap.size + 1) 4 #[.bool false] := by
      have := (Blk.new (w.alloc (.cells #[.int .i64 k, .int .i64 x, .int .i64 y] 37)) 4 #[.bool false]).only ho1 (by simp)
      simpa using this
    refine ⟨(((Blk.new w 37 #[.int .i64 k, .int .i64 x, .int .i64 y]).alloc _).only ho1 (by simp)).only o2 (by simp), hb1.only o2 (by simp), .inr ⟨_, rfl, by simp; omega, ((Blk.new w1 51 _).alloc _).cell 0⟩, ?_, ?_, ⟨hs1, by simp⟩, _, _, (Blk.new w1 51 _).alloc _⟩
    · have := Blk.new (w1.alloc (.cells #[.pointer none, .int .i64 0, .slice none 0 0, .int .i64 0, .slice none 0 0, .slice none 0 0, .slice none 0 0, .slice none 0 0, .slice none 0 0, .slice none 0 0, .slice none 0 0, .slice none 0 0, .slice none 0 0] 51)) 28 #[.pointer none, .pointer (some ⟨w1.heap.size, 0, none⟩)]
      simpa using this
    · exact ((((Below.refl _ w).alloc (Nat.le_refl _) _).alloc (by simp) _).trans (ho1.below (by simp; omega) (by simp))).trans (o2.below (by omega) (by simp)))
  clear ho1 hzc zc
  go_wp2
  revert HK0
  generalize ((w1.alloc (.cells #[.pointer none, .int .i64 0, .slice none 0 0, .int .i64 0, .slice none 0 0, .slice none 0 0, .slice none 0 0, .slice none 0 0, .slice none 0 0, .slice none 0 0, .slice none 0 0, .slice none 0 0, .slice none 0 0] 51)).alloc (.cells #[.pointer none, .pointer (some ⟨w1.heap.size, 0, none⟩)] 28)) = W0
  intro HK0
  generalize w1.heap.size = H at *
  refine wp_loop_rounds 3 ?_
  rw [rounds_succ]
  have hc1 : W0.cell? ⟨w.heap.size, 1, none⟩ = some (.int .i64 x) := HK0.out.arg.cell 1
  have hc2 : W0.cell? ⟨w.heap.size, 2, none⟩ = some (.int .i64 y) := HK0.out.arg.cell 2
  have hc3 : W0.cell? ⟨H + 1, 0, none⟩ = some (.pointer none) := HK0.out.row.cell 0
  have HNO := hide (fun W (ho : Only [] W0 W) => (show NoFr W none from .inl rfl))
  go_wp2_with (first | (go_at_call 13; refine (alloc_no (HNO.out _ (by repeat (first | exact Only.refl _ _ | apply Only.drewN))) _).mono ?_; rintro e w' ⟨rfl, rfl⟩) | (go_at_call 15; refine (decr_no' (HNO.out _ (by repeat (first | exact Only.refl _ _ | apply Only.drewN))) _ _).mono ?_; rintro e w' ⟨rfl, rfl⟩) | (go_at_call 19; refine (incr_no' (HNO.out _ (by repeat (first | exact Only.refl _ _ | apply Only.drewN))) _).mono ?_; rintro e w' ⟨rfl, rfl⟩) | (go_at_call 20; refine (count_no (HNO.out _ (by repeat (first | exact Only.refl _ _ | apply Only.drewN))) _).mono ?_; rintro e w' ⟨rfl, n0, rfl⟩) | (go_at_call 17; refine (free_no (HNO.out _ (by repeat (first | exact Only.refl _ _ | apply Only.drewN)))).mono ?_; rintro e w' ⟨rfl, rfl⟩) | (go_at_call 16; refine (used_no (HNO.out _ (by repeat (first | exact Only.refl _ _ | apply Only.drewN)))).mono ?_; rintro e w' ⟨rfl, rfl⟩) | (go_at_call 21; refine (list_no' (HNO.out _ (by repeat (first | exact Only.refl _ _ | apply Only.drewN))) _).mono ?_; rintro e w' ⟨rfl, rfl⟩) | (go_at_call 22; refine (common_no (HNO.out _ (by repeat (first | exact Only.refl _ _ | apply Only.drewN)))).mono ?_; rintro e w' ⟨rfl, rfl⟩) | (go_at_call 18; refine (right_no (HNO.out _ (by repeat (first | exact Only.refl _ _ | apply Only.drewN)))).mono ?_; rintro e V0 ⟨rfl, hV⟩; have HV0 := hide hV; clear hV) | (go_at_call 23; refine (fall_new _ _).mono ?_; rintro e U0 ⟨rfl, hU⟩; have HU0 := hide hU; clear hU))
  have HB0 := hide (fun n => (show Blk ((W0.drewN n).alloc (.cells #[.pointer none] 28)) W0.heap.size 28 #[.pointer none] from Blk.new (W0.drewN n) _ _))
  have HU10 := hide (show Only [] W0 U0 from by
    rw [HU0.out, HV0.out]
    exact (((Only.refl _ _).drewN _).alloc _).alloc _)
  have hcb0 : Blk U0 V0.heap.size 28 #[.pointer none] := by rw [HU0.out]; exact Blk.new V0 _ _
  have hVU0 : V0.heap.size < U0.heap.size := hcb0.lt
  have hk0 := HK0.out.only HU10.out
  have hno0 := HNO.out _ HU10.out
  clear HV0 HU0 HB0 HNO hc1 hc2 hc3
  refine (wpIn_wide (n := 9)).1 ?_
  refine wpIn_rangeFunc_ownF rfl (by decide) (gf := 44) (lb := #[.pointer (some ⟨V0.heap.size, 0, none⟩)]) rfl trivial (enters_of Try.func44 (by kernel_rfl) rfl)
    (all1_no hno0 _ w.heap.size V0.heap.size (by decide) hcb0) belowK_t (belowK_b (by have := hk0.le; omega)) (Below.refl _ _) (fun x => x.elim)
    (fun _ W => NbK w W H k x y ∧ True) (fun _ _ _ => False)
    (fun s W W' row hs hg hr => ⟨hs.1.keeps (keepsCells_grown hg (fun r e => (hr r e).2) _) ((Below.refl w.heap.size W).grown hg (by have := hs.1.le; omega) (fun k e => by have := (hr k e).1; have := hk0.le; omega)), trivial⟩)
    (fun _ _ _ _ _ hs _ _ => hs)
    ⟨hk0, trivial⟩ (fun x => x.elim) (fun _ x => x.elim) (fun _ _ x => x.elim) ?done0 ?stop0
  case stop0 =>
    rintro D c pre W hD h _ _
    exact h.elim
  case done0 =>
  rintro D0 ls W1 hD0 rfl ⟨hk, hdef0⟩ hK0
  have HK1 := hide hk
  clear hk0 hno0 hcb0 hk
  go_wp2
  rw [rounds_succ]
  have hDD0 : w.heap.size ≤ D0 := by have := HU10.out.size; have := HK0.out.le; omega
  have hD0W : D0 < W1.heap.size := (Array.getElem?_eq_some_iff.1 hK0).1
  clear hdef0
  have hc1 : W1.cell? ⟨w.heap.size, 1, none⟩ = some (.int .i64 x) := HK1.out.arg.cell 1
  have hc2 : W1.cell? ⟨w.heap.size, 2, none⟩ = some (.int .i64 y) := HK1.out.arg.cell 2
  have hc3 : W1.cell? ⟨H + 1, 1, none⟩ = some (.pointer (some ⟨H, 0, none⟩)) := HK1.out.row.cell 1
  have HNO := hide (fun W (ho : Only [] W1 W) => (show NoFr W (some ⟨H, 0, none⟩) from HK1.out.zero.only ho))
  go_wp2_with (first | (go_at_call 13; refine (alloc_no (HNO.out _ (by repeat (first | exact Only.refl _ _ | apply Only.drewN))) _).mono ?_; rintro e w' ⟨rfl, rfl⟩) | (go_at_call 15; refine (decr_no' (HNO.out _ (by repeat (first | exact Only.refl _ _ | apply Only.drewN))) _ _).mono ?_; rintro e w' ⟨rfl, rfl⟩) | (go_at_call 19; refine (incr_no' (HNO.out _ (by repeat (first | exact Only.refl _ _ | apply Only.drewN))) _).mono ?_; rintro e w' ⟨rfl, rfl⟩) | (go_at_call 20; refine (count_no (HNO.out _ (by repeat (first | exact Only.refl _ _ | apply Only.drewN))) _).mono ?_; rintro e w' ⟨rfl, n1, rfl⟩) | (go_at_call 17; refine (free_no (HNO.out _ (by repeat (first | exact Only.refl _ _ | apply Only.drewN)))).mono ?_; rintro e w' ⟨rfl, rfl⟩) | (go_at_call 16; refine (used_no (HNO.out _ (by repeat (first | exact Only.refl _ _ | apply Only.drewN)))).mono ?_; rintro e w' ⟨rfl, rfl⟩) | (go_at_call 21; refine (list_no' (HNO.out _ (by repeat (first | exact Only.refl _ _ | apply Only.drewN))) _).mono ?_; rintro e w' ⟨rfl, rfl⟩) | (go_at_call 22; refine (common_no (HNO.out _ (by repeat (first | exact Only.refl _ _ | apply Only.drewN)))).mono ?_; rintro e w' ⟨rfl, rfl⟩) | (go_at_call 18; refine (right_no (HNO.out _ (by repeat (first | exact Only.refl _ _ | apply Only.drewN)))).mono ?_; rintro e V1 ⟨rfl, hV⟩; have HV1 := hide hV; clear hV) | (go_at_call 23; refine (fall_new _ _).mono ?_; rintro e U1 ⟨rfl, hU⟩; have HU1 := hide hU; clear hU))
  have HB1 := hide (fun n => (show Blk ((W1.drewN n).alloc (.cells #[.pointer (some ⟨H, 0, none⟩)] 28)) W1.heap.size 28 #[.pointer (some ⟨H, 0, none⟩)] from Blk.new (W1.drewN n) _ _))
  have HU11 := hide (show Only [] W1 U1 from by
    rw [HU1.out, HV1.out]
    exact (((Only.refl _ _).drewN _).alloc _).alloc _)
  have hcb1 : Blk U1 V1.heap.size 28 #[.pointer (some ⟨H, 0, none⟩)] := by rw [HU1.out]; exact Blk.new V1 _ _
  have hVU1 : V1.heap.size < U1.heap.size := hcb1.lt
  have hk1 := HK1.out.only HU11.out
  have hno1 := HNO.out _ HU11.out
  clear HV1 HU1 HB1 HNO hc1 hc2 hc3
  refine (wpIn_wide (n := 9)).1 ?_
  refine wpIn_rangeFunc_ownF rfl (by decide) (gf := 44) (lb := #[.pointer (some ⟨V1.heap.size, 0, none⟩)]) rfl trivial (enters_of Try.func44 (by kernel_rfl) rfl)
    (all1_no hno1 _ w.heap.size V1.heap.size (by decide) hcb1) belowK_t (belowK_b (by have := hk1.le; omega)) (Below.refl _ _) (fun x => x.elim)
    (fun _ W => NbK w W H k x y ∧ W.heap[D0]? = some (.deferred (some []))) (fun _ _ _ => False)
    (fun s W W' row hs hg hr => ⟨hs.1.keeps (keepsCells_grown hg (fun r e => (hr r e).2) _) ((Below.refl w.heap.size W).grown hg (by have := hs.1.le; omega) (fun k e => by have := (hr k e).1; have := hk1.le; omega)), (hg.block D0 (Array.getElem?_eq_some_iff.1 hs.2).1 (fun e => by have := (hr D0 e.symm).1; have := HU11.out.size; omega)).trans hs.2⟩)
    (fun _ _ _ _ _ hs _ _ => hs)
    ⟨hk1, (HU11.out.block D0 hD0W (by simp)).trans hK0⟩ (fun x => x.elim) (fun _ x => x.elim) (fun _ _ x => x.elim) ?done1 ?stop1
  case stop1 =>
    rintro D c pre W hD h _ _
    exact h.elim
  case done1 =>
  rintro D1 ls W2 hD1 rfl ⟨hk, hdef1⟩ hK1
  have HK2 := hide hk
  clear hk1 hno1 hcb1 hk
  have hU1le : w.heap.size ≤ D0 ∧ w.heap.size ≤ D1 := ⟨hDD0, by have := HU11.out.size; omega⟩
  have hne : D1 ≠ D0 := by have := HU11.out.size; omega
  have hr1 : W2.cell? ⟨w.heap.size + 1, 0, none⟩ = some (.bool false) := HK2.out.res.cell 0
  have hr2 : W2.frozen? ⟨w.heap.size + 1, 0, none⟩ = false := HK2.out.res.frozen 0
  have HD := hide (And.intro hK1 hdef1)
  have HN := hide hne
  clear hK0 hK1 hdef1 hne
  go_wp2
  rw [rounds_succ]
  go_wp2_with (go_at_call 8; refine (fnew_nil _ _ _ _).mono ?_; rintro e w' ⟨rfl, rfl⟩)
  have hw1 : w.heap.size + 1 < W2.heap.size := HK2.out.res.lt
  have hd1 : (W2.setCell ⟨w.heap.size + 1, 0, none⟩ (.bool true)).heap[D1]? = some (.deferred (some [])) :=
    (Below.heap_setCell W2 ⟨w.heap.size + 1, 0, none⟩ (.bool true) D1 (by intro e; have h1 := HD.out.1; have h2 := HK2.out.res; unfold Blk at h2; rw [show D1 = w.heap.size + 1 from e, h2] at h1; cases h1)).trans HD.out.1
  have hd0 : (W2.setCell ⟨w.heap.size + 1, 0, none⟩ (.bool true)).heap[D0]? = some (.deferred (some [])) :=
    (Below.heap_setCell W2 ⟨w.heap.size + 1, 0, none⟩ (.bool true) D0 (by intro e; have h1 := HD.out.2; have h2 := HK2.out.res; unfold Blk at h2; rw [show D0 = w.heap.size + 1 from e, h2] at h1; cases h1)).trans HD.out.2
  have hd0' : ((W2.setCell ⟨w.heap.size + 1, 0, none⟩ (.bool true)).putObj D1 (.deferred none)).heap[D0]? = some (.deferred (some [])) :=
    ((grownBy_putObj' _ D1 _).block D0 (Array.getElem?_eq_some_iff.1 hd0).1 (fun e => HN.out (by injection e with e; exact e.symm))).trans hd0
  refine ⟨by simp, .inl ⟨_, _, rfl, run_takeDeferred hd1, ?_⟩⟩
  refine ⟨by simp, .inl ⟨_, _, rfl, run_takeDeferred hd0', ?_⟩⟩
  have hbr : Blk (W2.setCell ⟨w.heap.size + 1, 0, none⟩ (.bool true)) (w.heap.size + 1) 4 #[.bool true] := HK2.out.res.set_ 0 (.bool true)
  have hbr1 : Blk ((W2.setCell ⟨w.heap.size + 1, 0, none⟩ (.bool true)).putObj D1 (.deferred none)) (w.heap.size + 1) 4 #[.bool true] := (keepsCells_b (S := []) _ D1 _ (.deferred none) hd1 rfl).2 _ _ _ (by simp) hbr
  have hbr2 : Blk (((W2.setCell ⟨w.heap.size + 1, 0, none⟩ (.bool true)).putObj D1 (.deferred none)).putObj D0 (.deferred none)) (w.heap.size + 1) 4 #[.bool true] := (keepsCells_b (S := []) _ D0 _ (.deferred none) hd0' rfl).2 _ _ _ (by simp) hbr1
  have hc5 := hbr2.cell 0
  refine ⟨.bool true, by simp [results, Try.f5, go_sem, hc5], rfl, ?_⟩
  have hW4 : Below w.heap.size w (W2.setCell ⟨w.heap.size + 1, 0, none⟩ (.bool true)) := HK2.out.below.setCell (p := ⟨w.heap.size + 1, 0, none⟩) (Nat.le_succ _) _
  have hl1 := HK1.out.le
  have hl2 := hU1le
  exact (hW4.trans (belowK_b (w := w) (Nat.le_refl _) _ D1 _ _ (by omega) hd1 rfl rfl)).trans (belowK_b (w := w) (Nat.le_refl _) _ D0 _ _ (by omega) hd0' rfl rfl)

set_option maxRecDepth 100000 in
theorem frameNobody_walk {H : Type} {enc : TypeId × Value → H} {w : World} {base : Nat} {v : Value} {d : DataW H} (ok : Value.okWide Try.prog w .any base 37 v) (r : Rd enc Try.prog w 37 v.cells.toList d) :
    Calls Try.prog 5 #[v] w fun e w' => e = .returned (.bool true) ∧ Below w.heap.size w w' := by
  obtain ⟨a, b, c, rfl, hb⟩ := r.op6 ok
  exact frameNobody_is a b c w
end Go.Proofs.Ytffhcfpcjkccdaa
