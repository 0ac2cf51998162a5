/-
  The walk of 'SlabNobody'.
-/
import Derived.Test.YtgoaebikgdecoaaDoorSlabNil
import Derived.Test.YtgoaebikgdecoaaDoorRead
import Derived.LoopN
namespace Go.Proofs.YtgoaebikgdecoaaDoor
open Go.ChangeShapes Go.WideShapes Go.ChangeAt Go.RowKit Go.Shelf Go.Deep
set_option linter.unusedVariables false
attribute [local go_sem] Oper.semAt_some

def opV8 (k x ow id : Int) (A : Option Addr) (n c : Nat) : Value := .agg #[.int .i64 k, .int .i64 x, .int .i64 ow, .int .i64 id, .slice A n c]
section
variable {H : Type} {enc : TypeId × Value → H} {w : World} {base : Nat} {d : DataW H}
theorem op8_field {fs : Array Field} {cs : List Value} {ys : List (DataW H × List MemPlace)} {n' : Nat} (hyl : ys.length = fs.size)
    (hfs : ∀ (i : Nat) (f : Field), fs[i]? = some f → DataW.trod enc Tryd.prog w 0 (fun _ => true) true n' f.type (List.take (Tryd.prog.cellsOf f.type) (List.drop f.offset cs)) = ys[i]?)
    (j : Nat) (f : Field) (hj : fs[j]? = some f) (ht : f.type = 3) (hc : f.offset < cs.length) : ∃ x, cs[f.offset]? = some (.int .i64 x) ∧ (Lit.int .i64 x).wf = true := by
  have h := hfs j f hj
  rw [ht, show Tryd.prog.cellsOf 3 = 1 by kernel_rfl, take_one8 cs _ hc] at h
  have hl : j < ys.length := by rw [hyl]; exact (Array.getElem?_eq_some_iff.1 hj).1
  rw [List.getElem?_eq_getElem hl] at h
  obtain ⟨x, hx, _, hw⟩ := DataW.trod_int Tryd.underlying3 h
  injection hx with hx _
  exact ⟨x, by rw [List.getElem?_eq_getElem hc, hx], hw⟩
set_option maxRecDepth 100000 in
theorem Rd.op8 {v : Value} (o : Value.okWide Tryd.prog w .any base 33 v) (h : Rd enc Tryd.prog w 33 v.cells.toList d) : ∃ k x ow id A n c, v = opV8 k x ow id A n c := by
  obtain ⟨cs, rfl, hsz⟩ := okWide_struct Tryd.underlying33 o
  rw [show Tryd.prog.cellsOf 33 = 5 by kernel_rfl] at hsz
  obtain ⟨l⟩ := cs
  match l, hsz with
  | [c0, c1, c2, c3, c4], _ =>
    obtain ⟨⟨n, ps, hn⟩, _⟩ := h
    obtain ⟨ys, n', _, _, hlen, hyl, hfs⟩ := DataW.trod_struct Tryd.underlying33 hn
    obtain ⟨a, e0, _⟩ := op8_field hyl hfs 0 _ rfl rfl (by simp [Value.cells])
    obtain ⟨b, e1, _⟩ := op8_field hyl hfs 1 _ rfl rfl (by simp [Value.cells])
    obtain ⟨c, e2, _⟩ := op8_field hyl hfs 2 _ rfl rfl (by simp [Value.cells])
    obtain ⟨dd, e3, _⟩ := op8_field hyl hfs 3 _ rfl rfl (by simp [Value.cells])
    obtain ⟨V, vn, vc, e4⟩ : ∃ V vn vc, c4 = .slice V vn vc := by
      have hk : DataW.trod enc Tryd.prog w 0 (fun _ => true) true n' 31 (List.take (Tryd.prog.cellsOf 31) (List.drop 4 [c0, c1, c2, c3, c4])) = ys[4]? := hfs 4 _ rfl
      rw [List.getElem?_eq_getElem (by rw [hyl]; decide), show Tryd.prog.cellsOf 31 = 1 by kernel_rfl] at hk
      rcases open_slice Tryd.underlying31 hk with ⟨hcs, _⟩ | ⟨a, len, cap, m, n, D, Pl, hcs, _⟩
      · injection hcs with hcs _
        exact ⟨_, _, _, hcs⟩
      · injection hcs with hcs _
        exact ⟨_, _, _, hcs⟩
    refine ⟨a, b, c, dd, V, vn, vc, ?_⟩
    simp [Value.cells] at e0 e1 e2 e3
    subst e0 e1 e2 e3 e4
    rfl
end

/-- What stays through the statement's rounds. -/
structure NbK (w W : World) (H : Nat) (k x ow id : Int) (A : Option Addr) (n c : Nat) : Prop where
  arg : Blk W w.heap.size 33 #[.int .i64 k, .int .i64 x, .int .i64 ow, .int .i64 id, .slice A n c]
  res : Blk W (w.heap.size + 1) 4 #[.bool false]
  zero : NoHp W (some ⟨H, 0, none⟩)
  row : Blk W (H + 1) 24 #[.pointer none, .pointer (some ⟨H, 0, none⟩)]
  below : Below w.heap.size w W
  le : w.heap.size + 2 ≤ H ∧ H + 2 ≤ W.heap.size
  zb : ∃ cs ct, Blk W H ct cs
theorem NbK.only {w W W' : World} {H : Nat} {k x ow id : Int} {A : Option Addr} {n c : Nat} (h : NbK w W H k x ow id A n c) (ho : Only [] W W') : NbK w W' H k x ow id A n c :=
  ⟨h.arg.only ho (by simp), h.res.only ho (by simp), h.zero.only ho, h.row.only ho (by simp), h.below.trans (ho.below (by have := h.le; omega) (by simp)), ⟨h.le.1, Nat.le_trans h.le.2 ho.size⟩, by obtain ⟨cs, ct, hb⟩ := h.zb; exact ⟨cs, ct, hb.only ho (by simp)⟩⟩
theorem NbK.keeps {w W W' : World} {H : Nat} {k x ow id : Int} {A : Option Addr} {n c : Nat} (h : NbK w W H k x ow id A n c) (hk : KeepsCells [] W W') (hb : Below w.heap.size W W') : NbK w W' H k x ow id A n c :=
  ⟨hk.2 _ _ _ (by simp) h.arg, hk.2 _ _ _ (by simp) h.res, by
    rcases h.zero with e | ⟨t, e, hl, hc⟩
    · cases e
    · injection e with e
      injection e with e
      subst e
      obtain ⟨cs, ct, hbk⟩ := h.zb
      exact .inr ⟨H, rfl, Nat.lt_of_lt_of_le hl hk.1, by rw [(hk.2 _ _ _ (by simp) hbk).cell, ← hbk.cell]; exact hc⟩, hk.2 _ _ _ (by simp) h.row, h.below.trans hb, ⟨h.le.1, Nat.le_trans h.le.2 hk.1⟩, by
    obtain ⟨cs, ct, hbk⟩ := h.zb
    exact ⟨cs, ct, hk.2 _ _ _ (by simp) hbk⟩⟩
theorem NbK.grown {w W W' : World} {H B : Nat} {k x ow id : Int} {A : Option Addr} {n c : Nat} {row : Option Nat} (h : NbK w W H k x ow id A n c) (hB : W.heap.size ≤ B) (hg : W.grownBy W' row) (hr : ∀ r, row = some r → B ≤ r) : NbK w W' H k x ow id A n c :=
  h.only ⟨hg.os, hg.tape, hg.output, hg.size, fun q hq _ => hg.block q hq (fun e => by have := hr q e.symm; omega)⟩

set_option maxRecDepth 100000 in
set_option maxHeartbeats 4000000 in
theorem slabNobody_is (k x ow id : Int) (A : Option Addr) (n c : Nat) (w : World) (hT : TabS w) :
    Calls Tryd.prog 6 #[opV8 k x ow id A n c] w fun e w' => e = .returned (.bool true) ∧ Below w.heap.size w w' := by
  have hT2 := hT.only (((Only.refl [] w).alloc (.cells #[.int .i64 k, .int .i64 x, .int .i64 ow, .int .i64 id, .slice A n c] 33)).alloc (.cells #[.bool false] 4)) (by simp)
  unfold opV8
  (refine (callsIn_wide (n := 9)).1 ?_; refine callsIn_of_wp_marks Tryd.func6 rfl trivial ?_ rfl; simp only [Tryd.ntmps6, List.size_toArray, List.length_cons, List.length_nil, Nat.reduceAdd, Nat.reduceSub, Array.replicate_succ, Array.replicate_zero, List.push_toArray, List.append_toArray, List.nil_append, List.cons_append]; refine wpIn_wide.2 ?_)
  go_wp2_with fail
  refine (awake8_is _ hT2).mono ?_
  clear hT hT2
  rintro e w1 ⟨rfl, ho1⟩
  have hs1 : w.heap.size + 2 ≤ w1.heap.size := by have := ho1.size; simpa using this
  have HK0 := hide (show NbK w ((w1.alloc (.cells #[.int .i64 0, .slice none 0 0, .map none] 50)).alloc (.cells #[.pointer none, .pointer (some ⟨w1.heap.size, 0, none⟩)] 24)) w1.heap.size k x ow id A n c from by
    have o2 : Only [] w1 ((w1.alloc (.cells #[.int .i64 0, .slice none 0 0, .map none] 50)).alloc (.cells #[.pointer none, .pointer (some ⟨w1.heap.size, 0, none⟩)] 24)) := ((Only.refl [] w1).alloc _).alloc _
    have hb1 : Blk w1 (w.heap.size + 1) 4 #[.bool false] := by
      have := (Blk.new (w.alloc (.cells #[.int .i64 k, .int .i64 x, .int .i64 ow, .int .i64 id, .slice A n c] 33)) 4 #[.bool false]).only ho1 (by simp)
      simpa using this
    refine ⟨(((Blk.new w 33 #[.int .i64 k, .int .i64 x, .int .i64 ow, .int .i64 id, .slice A n c]).alloc _).only ho1 (by simp)).only o2 (by simp), hb1.only o2 (by simp), .inr ⟨_, rfl, by simp; omega, ((Blk.new w1 50 _).alloc _).cell 2⟩, ?_, ?_, ⟨hs1, by simp⟩, _, _, (Blk.new w1 50 _).alloc _⟩
    · have := Blk.new (w1.alloc (.cells #[.int .i64 0, .slice none 0 0, .map none] 50)) 24 #[.pointer none, .pointer (some ⟨w1.heap.size, 0, none⟩)]
      simpa using this
    · exact ((((Below.refl _ w).alloc (Nat.le_refl _) _).alloc (by simp) _).trans (ho1.below (by simp; omega) (by simp))).trans (o2.below (by omega) (by simp)))
  clear ho1
  go_wp2
  revert HK0
  generalize ((w1.alloc (.cells #[.int .i64 0, .slice none 0 0, .map none] 50)).alloc (.cells #[.pointer none, .pointer (some ⟨w1.heap.size, 0, none⟩)] 24)) = W0
  intro HK0
  generalize w1.heap.size = H at *
  refine wp_loop_rounds 3 ?_
  rw [rounds_succ]
  have hc1 : W0.cell? ⟨w.heap.size, 1, none⟩ = some (.int .i64 x) := HK0.out.arg.cell 1
  have hc2 : W0.cell? ⟨w.heap.size, 2, none⟩ = some (.int .i64 ow) := HK0.out.arg.cell 2
  have hc3 : W0.cell? ⟨H + 1, 0, none⟩ = some (.pointer none) := HK0.out.row.cell 0
  have HNO := hide (fun W (ho : Only [] W0 W) => (show NoHp W none from .inl rfl))
  go_wp2_with (first | (go_at_call 11; refine (alloc_no8 (HNO.out _ (Only.refl _ _)) _ _).mono ?_; rintro e V0 ⟨rfl, hV⟩; have kV := HK0.out.only hV; have d1 := kV.arg.cell 1; have d2 := kV.arg.cell 2; have d3 := kV.arg.cell 3; have d4 := kV.arg.cell 4; have HV0 := hide hV; clear hV kV) | (go_at_call 14; refine (free_no8 (HNO.out _ HV0.out) _).mono ?_; rintro e w' ⟨rfl, rfl⟩) | (go_at_call 21; refine (kind_no8 (HNO.out _ HV0.out) _).mono ?_; rintro e w' ⟨rfl, rfl⟩) | (go_at_call 22; refine (owner_no8 (HNO.out _ HV0.out) _).mono ?_; rintro e w' ⟨rfl, rfl⟩) | (go_at_call 19; refine (live_no8 (HNO.out _ HV0.out)).mono ?_; rintro e w' ⟨rfl, rfl⟩) | (go_at_call 17; refine (used_no8 (HNO.out _ HV0.out)).mono ?_; rintro e w' ⟨rfl, rfl⟩) | (go_at_call 18; refine (bytes_no8 (HNO.out _ HV0.out)).mono ?_; rintro e w' ⟨rfl, rfl⟩) | (go_at_call 23; refine (limit_no8 (HNO.out _ HV0.out)).mono ?_; rintro e w' ⟨rfl, rfl⟩) | (go_at_call 24; refine (owned_no8 (HNO.out _ HV0.out) _).mono ?_; rintro e w' ⟨rfl, rfl⟩) | (go_at_call 20; refine (room_no8 (HNO.out _ HV0.out) _).mono ?_; rintro e w' ⟨rfl, rfl⟩) | (go_at_call 15; refine (fits_no8 (HNO.out _ HV0.out) _ _ _).mono ?_; rintro e w' ⟨rfl, rfl⟩) | (go_at_call 10; refine (fork_no8 (HNO.out _ HV0.out)).mono ?_; rintro e w' ⟨rfl, rfl⟩) | (go_at_call 25; refine (hAll_is _ _).mono ?_; rintro e U0 ⟨rfl, hU⟩; have HU0 := hide hU; clear hU))
  have HU10 := hide (show Only [] W0 U0 from by
    rw [HU0.out]
    exact HV0.out.alloc _)
  have hcb0 : Blk U0 V0.heap.size 24 #[.pointer none] := by rw [HU0.out]; exact Blk.new V0 _ _
  have hVU0 : V0.heap.size < U0.heap.size := hcb0.lt
  have hVW0 : W0.heap.size ≤ V0.heap.size := HV0.out.size
  have hk0 := HK0.out.only HU10.out
  have hno0 := HNO.out _ HU10.out
  clear HV0 HU0 HNO hc1 hc2 hc3 d1 d2 d3 d4
  refine (wpIn_wide (n := 9)).1 ?_
  refine wpIn_rangeFunc_ownF rfl (by decide) (gf := 46) (lb := #[.pointer (some ⟨V0.heap.size, 0, none⟩)]) rfl trivial (enters_of Tryd.func46 (by kernel_rfl) rfl)
    (all1_no8 hno0 _ w.heap.size V0.heap.size (by decide) hcb0) belowK_t (belowK_b (by have := hk0.le; omega)) (Below.refl _ _) (fun x => x.elim)
    (fun _ W => NbK w W H k x ow id A n c ∧ True) (fun _ _ _ => False)
    (fun s W W' row hs hg hr => ⟨hs.1.keeps (keepsCells_grown hg (fun r e => (hr r e).2) _) ((Below.refl w.heap.size W).grown hg (by have := hs.1.le; omega) (fun k e => by have := (hr k e).1; have := hk0.le; omega)), trivial⟩)
    (fun _ _ _ _ _ hs _ _ => hs)
    ⟨hk0, trivial⟩ (fun x => x.elim) (fun _ x => x.elim) (fun _ _ x => x.elim) ?done0 ?stop0
  case stop0 =>
    rintro D c pre W hD h _ _
    exact h.elim
  case done0 =>
  rintro D0 ls W1 hD0 rfl ⟨hk, hdef0⟩ hK0
  have HK1 := hide hk
  clear hk0 hno0 hcb0 hk
  go_wp2
  rw [rounds_succ]
  have hDD0 : w.heap.size ≤ D0 := by have := HU10.out.size; have := HK0.out.le; omega
  have hD0W : D0 < W1.heap.size := (Array.getElem?_eq_some_iff.1 hK0).1
  clear hdef0
  have hc1 : W1.cell? ⟨w.heap.size, 1, none⟩ = some (.int .i64 x) := HK1.out.arg.cell 1
  have hc2 : W1.cell? ⟨w.heap.size, 2, none⟩ = some (.int .i64 ow) := HK1.out.arg.cell 2
  have hc3 : W1.cell? ⟨H + 1, 1, none⟩ = some (.pointer (some ⟨H, 0, none⟩)) := HK1.out.row.cell 1
  have HNO := hide (fun W (ho : Only [] W1 W) => (show NoHp W (some ⟨H, 0, none⟩) from HK1.out.zero.only ho))
  go_wp2_with (first | (go_at_call 11; refine (alloc_no8 (HNO.out _ (Only.refl _ _)) _ _).mono ?_; rintro e V1 ⟨rfl, hV⟩; have kV := HK1.out.only hV; have d1 := kV.arg.cell 1; have d2 := kV.arg.cell 2; have d3 := kV.arg.cell 3; have d4 := kV.arg.cell 4; have HV1 := hide hV; clear hV kV) | (go_at_call 14; refine (free_no8 (HNO.out _ HV1.out) _).mono ?_; rintro e w' ⟨rfl, rfl⟩) | (go_at_call 21; refine (kind_no8 (HNO.out _ HV1.out) _).mono ?_; rintro e w' ⟨rfl, rfl⟩) | (go_at_call 22; refine (owner_no8 (HNO.out _ HV1.out) _).mono ?_; rintro e w' ⟨rfl, rfl⟩) | (go_at_call 19; refine (live_no8 (HNO.out _ HV1.out)).mono ?_; rintro e w' ⟨rfl, rfl⟩) | (go_at_call 17; refine (used_no8 (HNO.out _ HV1.out)).mono ?_; rintro e w' ⟨rfl, rfl⟩) | (go_at_call 18; refine (bytes_no8 (HNO.out _ HV1.out)).mono ?_; rintro e w' ⟨rfl, rfl⟩) | (go_at_call 23; refine (limit_no8 (HNO.out _ HV1.out)).mono ?_; rintro e w' ⟨rfl, rfl⟩) | (go_at_call 24; refine (owned_no8 (HNO.out _ HV1.out) _).mono ?_; rintro e w' ⟨rfl, rfl⟩) | (go_at_call 20; refine (room_no8 (HNO.out _ HV1.out) _).mono ?_; rintro e w' ⟨rfl, rfl⟩) | (go_at_call 15; refine (fits_no8 (HNO.out _ HV1.out) _ _ _).mono ?_; rintro e w' ⟨rfl, rfl⟩) | (go_at_call 10; refine (fork_no8 (HNO.out _ HV1.out)).mono ?_; rintro e w' ⟨rfl, rfl⟩) | (go_at_call 25; refine (hAll_is _ _).mono ?_; rintro e U1 ⟨rfl, hU⟩; have HU1 := hide hU; clear hU))
  have HU11 := hide (show Only [] W1 U1 from by
    rw [HU1.out]
    exact HV1.out.alloc _)
  have hcb1 : Blk U1 V1.heap.size 24 #[.pointer (some ⟨H, 0, none⟩)] := by rw [HU1.out]; exact Blk.new V1 _ _
  have hVU1 : V1.heap.size < U1.heap.size := hcb1.lt
  have hVW1 : W1.heap.size ≤ V1.heap.size := HV1.out.size
  have hk1 := HK1.out.only HU11.out
  have hno1 := HNO.out _ HU11.out
  clear HV1 HU1 HNO hc1 hc2 hc3 d1 d2 d3 d4
  refine (wpIn_wide (n := 9)).1 ?_
  refine wpIn_rangeFunc_ownF rfl (by decide) (gf := 46) (lb := #[.pointer (some ⟨V1.heap.size, 0, none⟩)]) rfl trivial (enters_of Tryd.func46 (by kernel_rfl) rfl)
    (all1_no8 hno1 _ w.heap.size V1.heap.size (by decide) hcb1) belowK_t (belowK_b (by have := hk1.le; omega)) (Below.refl _ _) (fun x => x.elim)
    (fun _ W => NbK w W H k x ow id A n c ∧ W.heap[D0]? = some (.deferred (some []))) (fun _ _ _ => False)
    (fun s W W' row hs hg hr => ⟨hs.1.keeps (keepsCells_grown hg (fun r e => (hr r e).2) _) ((Below.refl w.heap.size W).grown hg (by have := hs.1.le; omega) (fun k e => by have := (hr k e).1; have := hk1.le; omega)), (hg.block D0 (Array.getElem?_eq_some_iff.1 hs.2).1 (fun e => by have := (hr D0 e.symm).1; have := HU11.out.size; omega)).trans hs.2⟩)
    (fun _ _ _ _ _ hs _ _ => hs)
    ⟨hk1, (HU11.out.block D0 hD0W (by simp)).trans hK0⟩ (fun x => x.elim) (fun _ x => x.elim) (fun _ _ x => x.elim) ?done1 ?stop1
  case stop1 =>
    rintro D c pre W hD h _ _
    exact h.elim
  case done1 =>
  rintro D1 ls W2 hD1 rfl ⟨hk, hdef1⟩ hK1
  have HK2 := hide hk
  clear hk1 hno1 hcb1 hk
  have hU1le : w.heap.size ≤ D0 ∧ w.heap.size ≤ D1 := ⟨hDD0, by have := HU11.out.size; omega⟩
  have hne : D1 ≠ D0 := by have := HU11.out.size; omega
  have hr1 : W2.cell? ⟨w.heap.size + 1, 0, none⟩ = some (.bool false) := HK2.out.res.cell 0
  have hr2 : W2.frozen? ⟨w.heap.size + 1, 0, none⟩ = false := HK2.out.res.frozen 0
  have HD := hide (And.intro hK1 hdef1)
  have HN := hide hne
  clear hK0 hK1 hdef1 hne
  go_wp2
  rw [rounds_succ]
  go_wp2
  have hw1 : w.heap.size + 1 < W2.heap.size := HK2.out.res.lt
  have hd1 : (W2.setCell ⟨w.heap.size + 1, 0, none⟩ (.bool true)).heap[D1]? = some (.deferred (some [])) :=
    (Below.heap_setCell W2 ⟨w.heap.size + 1, 0, none⟩ (.bool true) D1 (by intro e; have h1 := HD.out.1; have h2 := HK2.out.res; unfold Blk at h2; rw [show D1 = w.heap.size + 1 from e, h2] at h1; cases h1)).trans HD.out.1
  have hd0 : (W2.setCell ⟨w.heap.size + 1, 0, none⟩ (.bool true)).heap[D0]? = some (.deferred (some [])) :=
    (Below.heap_setCell W2 ⟨w.heap.size + 1, 0, none⟩ (.bool true) D0 (by intro e; have h1 := HD.out.2; have h2 := HK2.out.res; unfold Blk at h2; rw [show D0 = w.heap.size + 1 from e, h2] at h1; cases h1)).trans HD.out.2
  have hd0' : ((W2.setCell ⟨w.heap.size + 1, 0, none⟩ (.bool true)).putObj D1 (.deferred none)).heap[D0]? = some (.deferred (some [])) :=
    ((grownBy_putObj' _ D1 _).block D0 (Array.getElem?_eq_some_iff.1 hd0).1 (fun e => HN.out (by injection e with e; exact e.symm))).trans hd0
  refine ⟨by simp, .inl ⟨_, _, rfl, run_takeDeferred hd1, ?_⟩⟩
  refine ⟨by simp, .inl ⟨_, _, rfl, run_takeDeferred hd0', ?_⟩⟩
  have hbr : Blk (W2.setCell ⟨w.heap.size + 1, 0, none⟩ (.bool true)) (w.heap.size + 1) 4 #[.bool true] := HK2.out.res.set_ 0 (.bool true)
  have hbr1 : Blk ((W2.setCell ⟨w.heap.size + 1, 0, none⟩ (.bool true)).putObj D1 (.deferred none)) (w.heap.size + 1) 4 #[.bool true] := (keepsCells_b (S := []) _ D1 _ (.deferred none) hd1 rfl).2 _ _ _ (by simp) hbr
  have hbr2 : Blk (((W2.setCell ⟨w.heap.size + 1, 0, none⟩ (.bool true)).putObj D1 (.deferred none)).putObj D0 (.deferred none)) (w.heap.size + 1) 4 #[.bool true] := (keepsCells_b (S := []) _ D0 _ (.deferred none) hd0' rfl).2 _ _ _ (by simp) hbr1
  have hc5 := hbr2.cell 0
  refine ⟨.bool true, by simp [results, Tryd.f6, go_sem, hc5], rfl, ?_⟩
  have hW4 : Below w.heap.size w (W2.setCell ⟨w.heap.size + 1, 0, none⟩ (.bool true)) := HK2.out.below.setCell (p := ⟨w.heap.size + 1, 0, none⟩) (Nat.le_succ _) _
  have hl1 := HK1.out.le
  have hl2 := hU1le
  exact (hW4.trans (belowK_b (w := w) (Nat.le_refl _) _ D1 _ _ (by omega) hd1 rfl rfl)).trans (belowK_b (w := w) (Nat.le_refl _) _ D0 _ _ (by omega) hd0' rfl rfl)

set_option maxRecDepth 100000 in
theorem slabNobody_walk {H : Type} {enc : TypeId × Value → H} {w : World} {base : Nat} {v : Value} {d : DataW H} (hT : TabS w) (ok : Value.okWide Tryd.prog w .any base 33 v) (r : Rd enc Tryd.prog w 33 v.cells.toList d) :
    Calls Tryd.prog 6 #[v] w fun e w' => e = .returned (.bool true) ∧ Below w.heap.size w w' := by
  obtain ⟨k, x, ow, id, A, n, c, rfl⟩ := r.op8 ok
  exact slabNobody_is k x ow id A n c w hT
end Go.Proofs.YtgoaebikgdecoaaDoor
