/-
  The document's cache of names (parapetref19): drop.
-/
import Derived.Test.YtjpojoflbjhjjaaNcXDoc
import Derived.Deep.Cut
import Derived.Deep.CutRange
import Derived.Deep.CutBlock
namespace Go.Proofs.Ytjpojoflbjhjjaa
open Go.ChangeShapes Go.WideShapes Go.ChangeAt Go.RowKit Go.Maps
set_option linter.unusedVariables false
set_option linter.unusedSimpArgs false
/-- Behind the first half of drop. -/
def Dropped0 (w : World) (x : Nat) (v u : Value) (room made : Int) (L : List KE) (Gn : List Int) (id : Int) (wx : World) : Prop :=
  ∃ u', XIs wx x v u' room made L (Gn ++ [id]) ∧ Only (x :: u.ownBlock.toList) w wx ∧ ∀ q, u'.ownBlock = some q → u.ownBlock = some q ∨ w.heap.size ≤ q
def Dropped (w : World) (x : Nat) (v u : Value) (room made : Int) (L : List KE) (Gn : List Int) (wx : World) : Prop :=
  ∃ v' u', XIs wx x v' u' room made L Gn ∧ Only (x :: u.ownBlock.toList) w wx ∧ (∀ q, v'.ownBlock = some q → w.heap.size ≤ q) ∧ ∀ q, u'.ownBlock = some q → u.ownBlock = some q ∨ w.heap.size ≤ q
section
variable {w w' w1 : World} {x : Nat} {v u : Value} {room made : Int} {L : List KE} {Gn : List Int} {S : List Nat} {k : NM}
theorem XIs.setU (h : XIs w x v u room made L Gn) {w2 : World} {u' : Value} {G' : List Int} (ho : Only u.ownBlock.toList w w2) (hr : IRow w2 u' G') (hn : ∀ q, u'.ownBlock = some q → u.ownBlock = some q ∨ w.heap.size ≤ q) : XIs (w2.setCell ⟨x, 3, none⟩ u') x v u' room made L G' := by
  have hx := h.blk.lt
  have hxu : x ∉ u.ownBlock.toList := fun hm => h.xu x (by simpa using hm) rfl
  have hb := (h.blk.only ho hxu).set_ 3 u'
  have o3 : Only [x] w2 (w2.setCell ⟨x, 3, none⟩ u') := (Only.refl [x] w2).setCell (p := ⟨x, 3, none⟩) _ (by simp)
  refine ⟨hb, (h.rl.only ho (fun q hq hm => h.vu q hq q (by simpa using hm) rfl)).only o3 (fun q hq hm => h.xv q hq (by simpa using hm)), KRow.only hr o3 (fun q hq hm => ?_)⟩
  have e : q = x := by simpa using hm
  rcases hn q hq with q1 | q1
  · exact h.xu q q1 e
  · omega
theorem XIs.setL (h : XIs w x v u room made L Gn) {w2 : World} {v' : Value} {L' : List KE} (ho : Only [] w w2) (hr : XkR w2 v' L') (hn : ∀ q, v'.ownBlock = some q → w.heap.size ≤ q) : XIs (w2.setCell ⟨x, 1, none⟩ v') x v' u room made L' Gn := by
  have hx := h.blk.lt
  have hb := (h.blk.only ho (by simp)).set_ 1 v'
  have o3 : Only [x] w2 (w2.setCell ⟨x, 1, none⟩ v') := (Only.refl [x] w2).setCell (p := ⟨x, 1, none⟩) _ (by simp)
  refine ⟨hb, hr.only o3 (fun q hq hm => ?_), KRow.only (KRow.only h.rg ho (by simp)) o3 (fun q hq hm => h.xu q hq (by simpa using hm))⟩
  have := hn q hq
  have e : q = x := by simpa using hm
  omega
set_option maxRecDepth 100000 in
set_option maxHeartbeats 2000000 in
theorem xdrop_is (h : XIs w x v u room made L Gn) (hf : L.length ≤ 4096) (hgl : Gn.length < 3900000000000) {i : Nat} {e : KE} (hi : L[i]? = some e) :
    Calls Try.prog 36 #[.pointer (some ⟨x, 0, none⟩), .int .i64 i] w fun e' w' => e' = .returned (.tuple #[]) ∧ Dropped w x v u room made (L.eraseIdx i) (Gn ++ [e.id]) w' := by
  have hil := (List.getElem?_eq_some_iff.1 hi).1
  obtain ⟨b, cap, cur, ev, hbk, hcl, hcap, hmx⟩ := h.rl.blk (by omega)
  subst ev
  obtain ⟨Au, cu, eu, -⟩ := KRow.form h.rg
  subst eu
  have c3 := (h.rl.cell rfl rfl hi).2.2.2
  have hltI : (i : Int) < L.length := by omega
  have hx3 : ((L.length : Nat) : Int) ≤ (cap : Nat) := by omega
  have hi1 : (i : Int) + 1 ≤ (L.length : Nat) := by omega
  have hi2 : (i : Int) ≤ (cap : Nat) := by omega
  have hi3 : ¬ (i : Int) < 0 := by omega
  have hi4 : (0 : Int) ≤ (i : Int) + 1 := by omega
  have hi5 : ((i : Int) + 1).toNat = i + 1 := by omega
  have hi0 : (0 : Int) ≤ i := by omega
  have hi6 : (i : Int) + 1 ≤ 4096 := by omega
  have hiw : IntKind.i64.wrap ((i : Int) + 1) = (i : Int) + 1 := by rw [IntKind.wrap_i64]; omega
  have H := hide h
  have HG := hide hgl
  have k1 := h.c1
  have k3 := h.c3
  have k3a : ∀ o, (w.alloc o).cell? ⟨x, 3, none⟩ = some (.slice Au Gn.length cu) := fun o => ((H.out.blk.alloc o).cell 3).trans rfl
  have k3b : ∀ o, (w.alloc o).drew.cell? ⟨x, 3, none⟩ = some (.slice Au Gn.length cu) := fun o => ((H.out.blk.alloc o).cell 3).trans rfl
  have k3d : ∀ o, (w.drew.alloc o).cell? ⟨x, 3, none⟩ = some (.slice Au Gn.length cu) := fun o => (((H.out.blk.drew).alloc o).cell 3).trans rfl
  have HAF := hide (fun (W : World) (hW : Only (Value.slice Au Gn.length cu).ownBlock.toList w W) => (show W.cell? ⟨x, 3, none⟩ = some (.slice Au Gn.length cu) ∧ W.drew.cell? ⟨x, 3, none⟩ = some (.slice Au Gn.length cu) ∧ W.frozen? ⟨x, 3, none⟩ = false ∧ W.drew.frozen? ⟨x, 3, none⟩ = false from by
    have hb := H.out.blk.only hW (fun hm => H.out.xu x (by simpa using hm) rfl)
    exact ⟨hb.cell 3, hb.cell 3, hb.frozen 3, hb.frozen 3⟩))
  have HROW := hide (fun (W : World) (hW : Only [] w W) => KRow.only H.out.rg hW (by simp))
  have HO1 := hide (fun (W W2 : World) (hW : Only [] w W) (ho : Only (Value.slice Au Gn.length cu).ownBlock.toList W W2) => (show Only (Value.slice Au Gn.length cu).ownBlock.toList w W2 from (hW.mono (by simp)).trans ho))
  have HN1 := hide (fun (W : World) (u2 : Value) (hW : Only [] w W) (hk : ∀ q, u2.ownBlock = some q → (Value.slice Au Gn.length cu).ownBlock = some q ∨ W.heap.size ≤ q) => (show ∀ q, u2.ownBlock = some q → (Value.slice Au Gn.length cu).ownBlock = some q ∨ w.heap.size ≤ q from fun q hq => (hk q hq).imp_right (fun h => Nat.le_trans hW.size h)))
  have HIE := hide hi
  have HBK := hide (And.intro hbk (And.intro hcl (And.intro hcap hmx)))
  have HF := hide hf
  clear h hf hgl hbk hcl hi hmx
  go_enter Try.func36, Try.ntmps36
  go_upto_region 0 with fail
  go_cut [] from 4 to 20 (fun wx => Dropped0 w x (.slice (some ⟨b, 0, none⟩) L.length cap) (.slice Au Gn.length cu) room made L Gn e.id wx)
  case first =>
    go_region_law (refine step_append_one rfl _ _ rfl (v := .slice Au Gn.length cu) (ns := Gn) (by simp [Act.eval, Act.put]) (HROW.out _ (by repeat (first | exact Only.refl _ _ | apply Only.drew | apply Only.alloc))) (q := w.heap.size) (z := e.id) (by simp [Act.eval, Act.put]) (by first | exact Blk.new w _ _ | exact Blk.new w.drew _ _) (by have := HG.out; omega) ?_; rintro u2 w2 hr2 ho2 hk2; have hx2 := HO1.out _ w2 (by repeat (first | exact Only.refl _ _ | apply Only.drew | apply Only.alloc)) ho2; have hn2 := HN1.out _ u2 (by repeat (first | exact Only.refl _ _ | apply Only.drew | apply Only.alloc)) hk2; obtain ⟨m0, m1, m2, m3⟩ := HAF.out w2 hx2; have HR2 := hide hr2; obtain ⟨A2, c2, eu2, -⟩ := KRow.form hr2; rw [List.length_append, List.length_singleton] at eu2; have HX2 := hide hx2; have HN2 := hide hn2; subst eu2; clear hr2 ho2 hk2 hx2 hn2)
    all_goals
      go_wp2_with fail
      go_meet
      case rel => exact ⟨_, H.out.setU HX2.out HR2.out HN2.out, (HX2.out.mono (fun q _ hq => List.mem_cons_of_mem _ hq)).setCell (p := ⟨x, 3, none⟩) _ (by simp), HN2.out⟩
  case rest =>
    obtain ⟨u', h', ho', hn'⟩ := hcut
    have HU := hide (And.intro ho' hn')
    obtain ⟨b', cap', cur', ev', hbk', hcl', hcap', hmx'⟩ := h'.rl.blk (by omega)
    injection ev' with ev' _ ecap'
    injection ev' with ev'
    injection ev' with ev'
    subst ev' ecap'
    have HI := hide h'
    have HW := hide ho'.size
    clear H HG HAF HROW HO1 HN1 HBK k1 k3 k3a k3b k3d c3 ho' hn' hcap'
    have hmin : min i L.length = i := by omega
    have HE2 := hide (show L.take i ++ L.drop (i + 1) = L.eraseIdx i from (List.eraseIdx_eq_take_drop_succ _ _).symm)
    obtain ⟨A1, hA1, hs1⟩ : ∃ A1 : Option Addr, (if cap = i + 1 then some (⟨b, 0, none⟩ : Addr) else some ⟨b, (i + 1) * 4, none⟩) = A1 ∧ Hid (∀ W, Only [] wc W → KeptsAt W (.slice A1 (L.length - (i + 1)) (cap - (i + 1))) (L.drop (i + 1))) := by
      refine ⟨_, rfl, fun W hW => ?_⟩
      have hbW := hbk'.only hW (by simp)
      by_cases hcn : cap = i + 1
      · have h0 : L.drop (i + 1) = [] := by apply List.eq_nil_of_length_eq_zero; rw [List.length_drop]; omega
        rw [if_pos hcn, h0, show L.length - (i + 1) = 0 by omega]
        exact .inr ⟨b, 0, _, rfl, fun hp => absurd hp (by simp), fun j u hu => by simp [flatX] at hu⟩
      · rw [if_neg hcn]
        refine .inr ⟨b, (i + 1) * 4, cap - (i + 1), by rw [List.length_drop], fun _ => hbW.lt, fun j u hu => ?_⟩
        have hj := (List.getElem?_eq_some_iff.1 hu).1
        rw [flatX_length, List.length_drop] at hj
        rw [hbW.cell, ← hu, List.getElem?_toArray, List.getElem?_append_left (by rw [flatX_length]; omega), ← flatX_drop, List.getElem?_drop]
    have HS0 := hide (show ∀ W, Only [] wc W → KeptsAt W (.slice (some ⟨b, 0, none⟩) i cap) (L.take i) from fun W hW => by
      have hbW := hbk'.only hW (by simp)
      refine .inr ⟨b, 0, cap, by rw [List.length_take, show min i L.length = i by omega], fun _ => hbW.lt, fun j u hu => ?_⟩
      have hj := (List.getElem?_eq_some_iff.1 hu).1
      rw [flatX_length, List.length_take] at hj
      rw [Nat.zero_add, hbW.cell, ← hu, List.getElem?_toArray, List.getElem?_append_left (by rw [flatX_length]; omega), ← flatX_take, List.getElem?_take, if_pos (by omega)])
    have k2 : wc.cell? ⟨x, 1, none⟩ = some (.slice (some ⟨b, 0, none⟩) L.length cap) := h'.blk.cell 1
    clear h' hbk' hcl'
    have k2a : ∀ o, (wc.alloc o).cell? ⟨x, 1, none⟩ = some (.slice (some ⟨b, 0, none⟩) L.length cap) := fun o => (HI.out.blk.alloc o).cell 1
    have k2b : ∀ o, (wc.alloc o).drew.cell? ⟨x, 1, none⟩ = some (.slice (some ⟨b, 0, none⟩) L.length cap) := fun o => (HI.out.blk.alloc o).cell 1
    have k2c : wc.drew.cell? ⟨x, 1, none⟩ = some (.slice (some ⟨b, 0, none⟩) L.length cap) := k2
    have k2d : ∀ o, (wc.drew.alloc o).cell? ⟨x, 1, none⟩ = some (.slice (some ⟨b, 0, none⟩) L.length cap) := fun o => ((HI.out.blk.drew).alloc o).cell 1
    have HRE := hide (fun (W : World) (k : Nat) (hb : Blk W k 54 #[]) => xkrow_empty hb)
    have HAF := hide (fun (W : World) (hW : Only [] wc W) => (show W.cell? ⟨x, 1, none⟩ = some (.slice (some ⟨b, 0, none⟩) L.length cap) ∧ W.drew.cell? ⟨x, 1, none⟩ = some (.slice (some ⟨b, 0, none⟩) L.length cap) ∧ W.frozen? ⟨x, 1, none⟩ = false ∧ W.drew.frozen? ⟨x, 1, none⟩ = false from ⟨(HI.out.blk.only hW (by simp)).cell 1, (HI.out.blk.only hW (by simp)).cell 1, (HI.out.blk.only hW (by simp)).frozen 1, (HI.out.blk.only hW (by simp)).frozen 1⟩))
    have HO1 := hide (fun (W W2 : World) (v2 : Value) (hW : Only [] wc W) (ho : Only (Value.slice (some ⟨wc.heap.size, 0, none⟩) 0 0).ownBlock.toList W W2) => (show Only [] wc W2 from hW.trans' ho (fun k hk hm => by simp [Value.ownBlock] at hm; omega)))
    have HO2 := hide (fun (W W2 W3 W4 : World) (v2 : Value) (hW2 : Only [] wc W2) (hWs : wc.heap.size ≤ W.heap.size) (hk : ∀ q, v2.ownBlock = some q → (Value.slice (some ⟨wc.heap.size, 0, none⟩) 0 0).ownBlock = some q ∨ W.heap.size ≤ q) (ho : Only v2.ownBlock.toList W2 W3) => (show Only [] wc W3 from hW2.trans' ho (fun k hk' hm => by
      rcases hk k (by simpa using hm) with h | h
      · simp [Value.ownBlock] at h; omega
      · omega)))
    go_upto_region 1 with fail
    go_region_law (first | (have hg := HR2; refine step_append_kepts rfl _ _ rfl (v := .slice A2 i c2) (x := .slice A1 (L.length - (i + 1)) (cap - (i + 1))) (ss := L.take i) (zs := L.drop (i + 1)) (by simp [Act.eval, Act.put]) HR2.out (by simp [Act.eval, Act.put]) (hs1.out _ HX2.out) (by have := HF.out; simp; omega) ?_; rintro v3 w3 hr3 ho3 hk3 ⟨A3, c3, ev3⟩; rw [HE2.out] at ev3; subst ev3; have hx3 := HO2.out _ _ w3 w3 (.slice A2 i c2) HX2.out HWS.out HK2.out ho3; obtain ⟨m0, m1, m2, m3⟩ := HAF.out w3 hx3; have HR3 := hide hr3; have HX3 := hide hx3; have HK3 := hide hk3; clear hr3 ho3 hk3 hx3) | (refine step_append_kepts rfl _ _ rfl (v := .slice (some ⟨wc.heap.size, 0, none⟩) 0 0) (x := .slice (some ⟨b, 0, none⟩) i cap) (ss := []) (zs := L.take i) (by simp [Act.eval, Act.put]) (HRE.out _ _ (by first | exact Blk.new wc _ _ | exact Blk.new wc.drew _ _)) (by simp [Act.eval, Act.put]) (HS0.out _ (by repeat (first | exact Only.refl _ _ | apply Only.drew | apply Only.alloc))) (by have := HF.out; simp; omega) ?_; rintro v2 w2 hr2 ho2 hk2 ⟨A2, c2, ev2⟩; simp only [List.nil_append, List.length_take, hmin] at ev2; subst ev2; have hx2 := HO1.out _ w2 (.slice A2 i c2) (by repeat (first | exact Only.refl _ _ | apply Only.drew | apply Only.alloc)) ho2; obtain ⟨m0, m1, m2, m3⟩ := HAF.out w2 hx2; have HR2 := hide (show XkR w2 (.slice A2 i c2) (L.take i) from hr2); have HX2 := hide hx2; have HK2 := hide hk2; have HWS := hide (show wc.heap.size ≤ (wc.alloc (.cells #[] 54)).heap.size by simp); clear hr2 ho2 hk2 hx2))
    all_goals
      have hr3 : XkR w3 (.slice A3 (L.eraseIdx i).length c3) (L.eraseIdx i) := by have := HR3.out; rw [HE2.out] at this; exact this
      have HOW := hide (show ∀ q, (Value.slice A3 (L.eraseIdx i).length c3).ownBlock = some q → wc.heap.size ≤ q from fun q hq => by
        have hx2 := HX2.out.size
        rcases HK3.out q hq with h | h
        · rcases HK2.out q h with h2 | h2
          · simp [Value.ownBlock] at h2; omega
          · simp at h2; omega
        · first | omega | (simp at h; omega))
      have HFIN := hide (HI.out.setL HX3.out hr3 HOW.out)
      have HW3 := hide (show Only [x] wc (w3.setCell ⟨x, 1, none⟩ (.slice A3 (L.eraseIdx i).length c3)) from (HX3.out.mono (by simp)).setCell _ (by simp))
      clear hr3 k2 k2a k2b k2c k2d m0 m1 m2 m3
      go_wp2_with fail
      go_end0
      exact ⟨rfl, _, _, HFIN.out, HU.out.1.trans (HW3.out.mono (by intro q _ hq; rw [List.mem_singleton.1 hq]; exact List.mem_cons_self)), fun q hq => Nat.le_trans HW.out (HOW.out q hq), HU.out.2⟩
end
end Go.Proofs.Ytjpojoflbjhjjaa
