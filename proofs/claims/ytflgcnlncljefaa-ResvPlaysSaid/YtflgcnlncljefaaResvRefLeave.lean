/-
  The document's own gate: Leave.
-/
import Derived.Test.YtflgcnlncljefaaResvRefTake
namespace Go.Proofs.Ytflgcnlncljefaa
open Go.ChangeShapes Go.WideShapes Go.ChangeAt Go.RowKit
set_option linter.unusedVariables false
section
variable {w w' : World} {g : Nat} {H L R : Int} {v x : Value} {ss zs : List ST} {S F : List Nat} {s : GS}
theorem step_append_seats {ops : Array Oper} {o : Oper} {a : Act} {K : Act → World → Prop} {Q : Exit → Act → World → Prop} {E : Prop} (hgd : o.guard = none) (s y : Operand)
    (ho : o.op = .call { callee := .builtin .append, args := #[s, y], argTypes := #[45, 45] }) (hs : a.eval s = v) (hr : SRw w v ss)
    (hx : a.eval y = x) (hz : SeatsAt w x zs) (hbig : ss.length + zs.length < 1000000)
    (hK : ∀ v' w2, SRw w2 v' (ss ++ zs) → Only v.ownBlock.toList w w2 → (∀ k, v'.ownBlock = some k → v.ownBlock = some k ∨ w.heap.size ≤ k) → (∃ A c, v' = .slice A (ss ++ zs).length c) → K (a.put o.dst v') w2) :
    if Region.wanted o (yielded ops a.tmps) = true then Oper.wp Try.prog o a w K Q else E := by
  have hw : Region.wanted o (yielded ops a.tmps) = true := by simp [Region.wanted, hgd]
  rw [if_pos hw]
  exact wp_append_seats s y ho hs hr hx hz hbig hK

set_option maxHeartbeats 1500000 in
set_option maxRecDepth 100000 in
theorem r9Leave_is (h : Rf w g H s F) (id : Int) : Calls Try.prog 28 #[.pointer (some ⟨g, 0, none⟩), .int .i64 id] w fun e w' => DidL9 H (leaveF H s id) w g F e w' := by
  have HG := hide h
  obtain ⟨v, hi, hok, rfl⟩ := h
  have HAT := hide (r9find_o hi hok.few id)
  rcases atI_cases s.ss id with ⟨ha, hn⟩ | ⟨i, t, ht, hid, ha, _⟩
  · have HE := hide (show leaveF H s id = ([], 4, s) by unfold leaveF; rw [ha, if_pos (by omega)])
    rw [ha] at HAT
    clear hi hok hn ha
    go_enter Try.func28, Try.ntmps28
    go_wp2_with (go_at_call 36; refine HAT.out.mono ?_; rintro e w' ⟨rfl, rfl⟩)
    go_ret2
    rw [HE.out]
    exact ⟨_, rfl, KRow.nil _ _ _ _, HG.out.did (Only.refl _ _)⟩
  · have HE := hide (show leaveF H s id = ((admS H s.L (s.ss.eraseIdx i)).2, 0, ⟨s.L, (admS H s.L (s.ss.eraseIdx i)).1⟩) by unfold leaveF; rw [ha, if_neg (by omega), Int.toNat_natCast])
    rw [ha] at HAT
    have hlt : i < s.ss.length := (List.getElem?_eq_some_iff.1 ht).1
    obtain ⟨A, cap, hv, hA⟩ := hi.row.form
    subst hv
    obtain ⟨b, rfl, hbl⟩ := hA (by omega)
    obtain ⟨b', cap', cur, ebk, hbk, hcl, hcap, hmx⟩ := hi.row.blk (by omega)
    injection ebk with ebk _ ecap
    injection ebk with ebk
    injection ebk with ebk
    subst ebk ecap
    have hfw := hok.few
    have hx3 : ((s.ss.length : Nat) : Int) ≤ (cap : Nat) := by omega
    have hi1 : (i : Int) + 1 ≤ (s.ss.length : Nat) := by omega
    have hi2 : (i : Int) ≤ (cap : Nat) := by omega
    have hi3 : ¬ (i : Int) < 0 := by omega
    have hi4 : (0 : Int) ≤ (i : Int) + 1 := by omega
    have hi5 : ((i : Int) + 1).toNat = i + 1 := by omega
    have hi0 : (0 : Int) ≤ i := by omega
    have hi6 : (i : Int) + 1 ≤ 65 := by omega
    have hiw : IntKind.i64.wrap ((i : Int) + 1) = (i : Int) + 1 := by rw [IntKind.wrap_i64]; omega
    have hmin : min i s.ss.length = i := by omega
    have HE2 := hide (show s.ss.take i ++ s.ss.drop (i + 1) = s.ss.eraseIdx i from (List.eraseIdx_eq_take_drop_succ _ _).symm)
    have HSM := hide (hok.erase i)
    -- what stands ahead, what stands behind
    obtain ⟨A1, hA1, hs1⟩ : ∃ A1 : Option Addr, (if cap = i + 1 then some (⟨b, 0, none⟩ : Addr) else some ⟨b, (i + 1) * 4, none⟩) = A1 ∧ Hid (∀ W, Only [] w W → SeatsAt W (.slice A1 (s.ss.length - (i + 1)) (cap - (i + 1))) (s.ss.drop (i + 1))) := by
      refine ⟨_, rfl, fun W hW => ?_⟩
      have hbW := hbk.only hW (by simp)
      by_cases hcn : cap = i + 1
      · have h0 : s.ss.drop (i + 1) = [] := by apply List.eq_nil_of_length_eq_zero; rw [List.length_drop]; omega
        rw [if_pos hcn, h0, show s.ss.length - (i + 1) = 0 by omega]
        exact .inr ⟨b, 0, _, rfl, fun hp => absurd hp (by simp), fun j u hu => by simp [flatS] at hu⟩
      · rw [if_neg hcn]
        refine .inr ⟨b, (i + 1) * 4, cap - (i + 1), by rw [List.length_drop], fun _ => hbW.lt, fun j u hu => ?_⟩
        have hj := (List.getElem?_eq_some_iff.1 hu).1
        rw [flatS_length, List.length_drop] at hj
        rw [hbW.cell, ← hu, List.getElem?_toArray, List.getElem?_append_left (by rw [flatS_length]; omega), ← flatS_drop, List.getElem?_drop]
    have HS0 := hide (show ∀ W, Only [] w W → SeatsAt W (.slice (some ⟨b, 0, none⟩) i cap) (s.ss.take i) from fun W hW => by
      have hbW := hbk.only hW (by simp)
      refine .inr ⟨b, 0, cap, by rw [List.length_take, show min i s.ss.length = i by omega], fun _ => hbW.lt, fun j u hu => ?_⟩
      have hj := (List.getElem?_eq_some_iff.1 hu).1
      rw [flatS_length, List.length_take] at hj
      rw [Nat.zero_add, hbW.cell, ← hu, List.getElem?_toArray, List.getElem?_append_left (by rw [flatS_length]; omega), ← flatS_take, List.getElem?_take, if_pos (by omega)])
    have HI := hide hi
    have k2 : w.cell? ⟨g, 2, none⟩ = some (.slice (some ⟨b, 0, none⟩) s.ss.length cap) := hi.blk.cell 2
    have HF := hide hfw
    have HT := hide ht
    clear hi hok ha hA hid hbk hcl ht
    go_enter Try.func28, Try.ntmps28
    go_wp2_with (go_at_call 36; refine HAT.out.mono ?_; rintro e w' ⟨rfl, rfl⟩)
    have k2a : ∀ o, (w.alloc o).cell? ⟨g, 2, none⟩ = some (.slice (some ⟨b, 0, none⟩) s.ss.length cap) := fun o => (HI.out.alloc o).blk.cell 2
    have k2b : ∀ o, (w.alloc o).drew.cell? ⟨g, 2, none⟩ = some (.slice (some ⟨b, 0, none⟩) s.ss.length cap) := fun o => (HI.out.alloc o).blk.cell 2
    have k2c : w.drew.cell? ⟨g, 2, none⟩ = some (.slice (some ⟨b, 0, none⟩) s.ss.length cap) := k2
    have k2d : ∀ o, (w.drew.alloc o).cell? ⟨g, 2, none⟩ = some (.slice (some ⟨b, 0, none⟩) s.ss.length cap) := fun o => ((HI.out.drewN 1).alloc o).blk.cell 2
    have HRE := hide (fun (W : World) (k : Nat) (hb : Blk W k 48 #[]) => srow_empty hb)
    have HAF := hide (fun (W : World) (hW : Only [] w W) => (show W.cell? ⟨g, 2, none⟩ = some (.slice (some ⟨b, 0, none⟩) s.ss.length cap) ∧ W.drew.cell? ⟨g, 2, none⟩ = some (.slice (some ⟨b, 0, none⟩) s.ss.length cap) ∧ W.frozen? ⟨g, 2, none⟩ = false ∧ W.drew.frozen? ⟨g, 2, none⟩ = false from ⟨(HI.out.only hW (by simp) (by simp)).blk.cell 2, (HI.out.only hW (by simp) (by simp)).blk.cell 2, (HI.out.only hW (by simp) (by simp)).blk.frozen 2, (HI.out.only hW (by simp) (by simp)).blk.frozen 2⟩))
    have HO1 := hide (fun (W W2 : World) (v2 : Value) (hW : Only [] w W) (ho : Only (Value.slice (some ⟨w.heap.size, 0, none⟩) 0 0).ownBlock.toList W W2) => (show Only [] w W2 from hW.trans' ho (fun k hk hm => by simp [Value.ownBlock] at hm; omega)))
    have HO2 := hide (fun (W W2 W3 W4 : World) (v2 : Value) (hW2 : Only [] w W2) (hWs : w.heap.size ≤ W.heap.size) (hk : ∀ q, v2.ownBlock = some q → (Value.slice (some ⟨w.heap.size, 0, none⟩) 0 0).ownBlock = some q ∨ W.heap.size ≤ q) (ho : Only v2.ownBlock.toList W2 W3) => (show Only [] w W3 from hW2.trans' ho (fun k hk' hm => by
      rcases hk k (by simpa using hm) with h | h
      · simp [Value.ownBlock] at h; omega
      · omega)))
    go_region_law (first | (have hg := HR2; refine step_append_seats rfl _ _ rfl (v := .slice A2 i c2) (x := .slice A1 (s.ss.length - (i + 1)) (cap - (i + 1))) (ss := s.ss.take i) (zs := s.ss.drop (i + 1)) (by simp [Act.eval, Act.put]) HR2.out (by simp [Act.eval, Act.put]) (hs1.out _ HX2.out) (by have := HF.out; simp; omega) ?_; rintro v3 w3 hr3 ho3 hk3 ⟨A3, c3, ev3⟩; rw [HE2.out] at ev3; subst ev3; have hx3 := HO2.out _ _ w3 w3 (.slice A2 i c2) HX2.out HWS.out HK2.out ho3; obtain ⟨m0, m1, m2, m3⟩ := HAF.out w3 hx3; have HR3 := hide hr3; have HX3 := hide hx3; have HK3 := hide hk3; clear hr3 ho3 hk3 hx3) | (refine step_append_seats rfl _ _ rfl (v := .slice (some ⟨w.heap.size, 0, none⟩) 0 0) (x := .slice (some ⟨b, 0, none⟩) i cap) (ss := []) (zs := s.ss.take i) (by simp [Act.eval, Act.put]) (HRE.out _ _ (by first | exact Blk.new w _ _ | exact Blk.new w.drew _ _)) (by simp [Act.eval, Act.put]) (HS0.out _ (by repeat (first | exact Only.refl _ _ | apply Only.drew | apply Only.alloc))) (by have := HF.out; simp; omega) ?_; rintro v2 w2 hr2 ho2 hk2 ⟨A2, c2, ev2⟩; simp only [List.nil_append, List.length_take, hmin] at ev2; subst ev2; have hx2 := HO1.out _ w2 (.slice A2 i c2) (by repeat (first | exact Only.refl _ _ | apply Only.drew | apply Only.alloc)) ho2; obtain ⟨m0, m1, m2, m3⟩ := HAF.out w2 hx2; have HR2 := hide (show SRw w2 (.slice A2 i c2) (s.ss.take i) from hr2); have HX2 := hide hx2; have HK2 := hide hk2; have HWS := hide (show w.heap.size ≤ (w.alloc (.cells #[] 48)).heap.size by simp); clear hr2 ho2 hk2 hx2))
    all_goals
      have hb3 : Blk w3 g 61 #[.int .i64 H, .int .i64 s.L, .slice (some ⟨b, 0, none⟩) s.ss.length cap] := (HI.out.only HX3.out (by simp) (by simp)).blk
      have hr3 : SRw w3 (.slice A3 (s.ss.eraseIdx i).length c3) (s.ss.eraseIdx i) := by have := HR3.out; rw [HE2.out] at this; exact this
      have HAD := hide (r9lets_is (HI.out.setV hr3 hb3) HSM.out)
      have HW3 := hide (show Only (g :: (Value.slice (some ⟨b, 0, none⟩) s.ss.length cap).ownBlock.toList) w (w3.setCell ⟨g, 2, none⟩ (.slice A3 (s.ss.eraseIdx i).length c3)) from (HX3.out.mono (by simp)).setCell _ (by simp))
      have HOW := hide (show ∀ q, (Value.slice A3 (s.ss.eraseIdx i).length c3).ownBlock = some q → (Value.slice (some ⟨b, 0, none⟩) s.ss.length cap).ownBlock = some q ∨ w.heap.size ≤ q from fun q hq => by
        right
        have hx2 := HX2.out.size
        rcases HK3.out q hq with h | h
        · rcases HK2.out q h with h2 | h2
          · simp [Value.ownBlock] at h2; omega
          · simp at h2; omega
        · first | omega | (simp at h; omega))
      clear hb3 hr3 k2 k2a k2b k2c k2d m0 m1 m2 m3
      go_wp2_with (go_at_call 37; refine HAD.out.mono ?_; rintro e w5 ⟨v5, rfl, hk5, hg5, ho5⟩; obtain ⟨A5, c5, rfl, _⟩ := hk5.form; have HK5 := hide hk5; have HG5 := hide hg5; have HO5 := hide ho5; clear hk5 hg5 ho5)
      go_ret2
      rw [HE.out]
      exact ⟨_, rfl, HK5.out.lower (by have := HW3.out.size; omega), letted HW3.out HOW.out HG5.out HSM.out HO5.out⟩
end
end Go.Proofs.Ytflgcnlncljefaa
