/-
  The document's own gate: lets.
-/
import Derived.Test.YtflgcnlncljefaaResvRef
namespace Go.Proofs.Ytflgcnlncljefaa
open Go.ChangeShapes Go.WideShapes Go.ChangeAt Go.RowKit
set_option linter.unusedVariables false

section
variable {w w' : World} {x : Nat} {H L R : Int} {v : Value} {ss : List ST} {S : List Nat}
/-- A round of lets: k seats are done; what is left to do gives what all gives. -/
def LetIn (w : World) (x : Nat) (H L : Int) (v : Value) (n : Nat) (fin : Int × List ST × List Int) (inv iv : Value) (wr : World) : Prop :=
  ∃ (k : Nat) (done rest : List ST) (ids : List Int), done.length = k ∧ k + rest.length = n ∧ iv = .int .i64 k ∧ KRow .i64 3 wr w.heap.size inv ids ∧ ids.length ≤ k ∧ IsR9 wr x H L v (done ++ rest) ∧ Small H L (resvL (done ++ rest)) (done ++ rest) ∧
    fin = ((admitGo H L (resvL (done ++ rest)) rest).1, done ++ (admitGo H L (resvL (done ++ rest)) rest).2.1, ids ++ (admitGo H L (resvL (done ++ rest)) rest).2.2) ∧ Only (x :: v.ownBlock.toList) w wr

set_option maxHeartbeats 1500000 in
set_option maxRecDepth 100000 in
theorem r9lets_is (h : IsR9 w x H L v ss) (hs : Small H L (resvL ss) ss) :
    Calls Try.prog 37 #[.pointer (some ⟨x, 0, none⟩)] w fun e w' => ∃ v', e = .returned v' ∧ KRow .i64 3 w' w.heap.size v' (admS H L ss).2 ∧ IsR9 w' x H L v (admS H L ss).1 ∧ Only (x :: v.ownBlock.toList) w w' := by
  obtain ⟨A, cap, hv, hA⟩ := h.row.form
  subst hv
  have HA := hide hA
  have HG := hide h
  have HS := hide hs
  have HF := hide hs.few
  clear h hs hA
  go_enter Try.func37, Try.ntmps37
  go_wp2
  go_loopw [3, 4] (fun inv iv wr => LetIn w x H L (.slice A ss.length cap) ss.length (admitGo H L (resvL ss) ss) inv iv wr) (fun _ iv _ => ss.length - (intOf iv).toNat)
  case atStart => exact ⟨0, [], ss, [], rfl, by simp, rfl, KRow.nil _ _ _ _, by simp, HG.out, HS.out, rfl, Only.refl _ _⟩
  case round =>
    obtain ⟨k, done, rest, ids, hd, hn, rfl, hin, hil, hg, hsm, hfin, ho⟩ := hrel
    have g0 : wr.cell? ⟨x, 0, none⟩ = some (.int .i64 H) := hg.blk.cell 0
    have g1 : wr.cell? ⟨x, 1, none⟩ = some (.int .i64 L) := hg.blk.cell 1
    have g2 : wr.cell? ⟨x, 2, none⟩ = some (.slice A ss.length cap) := hg.blk.cell 2
    cases rest with
    | nil =>
      obtain rfl : k = ss.length := by simpa using hn
      obtain ⟨Ai, ci, rfl, _⟩ := hin.form
      have HIN := hide hin
      have HGT := hide hg
      have HFI := hide hfin
      have HO := hide ho
      clear hin hg hsm hfin ho
      go_wp2
      go_ret
      have e := HFI.out
      unfold admS
      rw [e]
      refine ⟨_, rfl, ?_, ?_, HO.out⟩
      · have := HIN.out
        simpa [admitGo] using this
      · have := HGT.out
        simpa [admitGo] using this
    | cons s r =>
      have hk : k < ss.length := by simp at hn; omega
      have hf64 := HF.out
      obtain ⟨b, rfl, hbl⟩ := HA.out (by omega)
      have hat : (done ++ s :: r)[k]? = some s := by rw [List.getElem?_append_right (by omega), hd]; simp
      obtain ⟨q0, q1, q2, q3⟩ := hg.row.cell rfl rfl hat
      have hdl : (done ++ [s]).length = k + 1 := by simp [hd]
      have hass : done ++ s :: r = (done ++ [s]) ++ r := by simp
      cases hw : s.waits with
      | false =>
        rw [hw] at q3
        have HIN := hide hin
        have HGT := hide hg
        have HSM := hide hsm
        have HFI := hide hfin
        have HO := hide ho
        have HQ := hide (show k + r.length + 1 = ss.length by simp at hn; omega)
        have HD := hide hdl
        have HX := hide hass
        have HIL := hide hil
        have HWT := hide hw
        clear hin hg hsm hfin ho hd hn hdl hass q0 q1 q2 hat hil hw g0 g1
        go_wp2
        go_roundw
        case rel =>
          refine ⟨k + 1, done ++ [s], r, ids, HD.out, by have := HQ.out; omega, by go_num, HIN.out, by have := HIL.out; omega, by rw [← HX.out]; exact HGT.out, by rw [← HX.out]; exact HSM.out, ?_, HO.out⟩
          rw [HFI.out, ← HX.out]
          simp [admitGo, HWT.out]
        case measure => have := HQ.out; simp [intOf]; omega
      | true =>
        rw [hw] at q3
        have HRM := hide (fun n => r9Reserved_is (hg.drewN n) hsm)
        have hsb := hsm.at_ hat
        have hsz := hsm.size
        have hsu := hsm.sum
        have hl0 := hsm.l0
        have hr0 := hsm.r0
        have HBD := hide (show 0 ≤ s.bound ∧ 0 ≤ resvL (done ++ s :: r) ∧ L + resvL (done ++ s :: r) ≤ H ∧ 0 ≤ L ∧ H ≤ 1073741824 ∧ s.bound ≤ H from ⟨hsb.1, hr0, hsu, hl0, hsz.2, by omega⟩)
        have e1 : IntKind.i64.wrap (L + resvL (done ++ s :: r)) = L + resvL (done ++ s :: r) := by rw [IntKind.wrap_i64]; omega
        have e2 : IntKind.i64.wrap (L + resvL (done ++ s :: r) + s.bound) = L + resvL (done ++ s :: r) + s.bound := by rw [IntKind.wrap_i64]; omega
        by_cases hfit : H - L - resvL (done ++ s :: r) < s.bound
        · have HIN := hide hin
          have HGT := hide hg
          have HFI := hide hfin
          have HO := hide ho
          have HWT := hide hw
          obtain ⟨Ai, ci, rfl, _⟩ := hin.form
          have HFT := hide hfit
          have hd1 : decide (H < L + resvL (done ++ s :: r) + s.bound) = true := by simp; omega
          have hd2 : H < L + resvL (done ++ s :: r) + s.bound := by omega
          have HRR := hide (show ∃ RR, RR = resvL (done ++ s :: r) from ⟨_, rfl⟩)
          clear hin hg hsm hfin ho hd hn hdl hass q0 q2 hat hil hw hsb hsz hsu hl0 hr0 hfit
          go_wp2_with fail
          go_quiet (first | (go_at_call 29; exact Calls.quiet_of_same ((HRM.out _).mono fun _ _ h => ⟨h.1, h.2⟩)))
          go_wp2
          go_ret
          have e := HFI.out
          have eu : admitGo H L (resvL (done ++ s :: r)) (s :: r) = (resvL (done ++ s :: r), s :: r, []) := by
            rw [admitGo, if_pos HWT.out, if_pos HFT.out]
          rw [eu] at e
          unfold admS
          rw [e]
          refine ⟨_, rfl, ?_, ?_, HO.out.drewN _⟩
          · have := HIN.out.only ((Only.refl [] wr).drewN nq) (by simp)
            simpa using this
          · exact HGT.out.drewN _
        · have hd1 : decide (H < L + resvL (done ++ s :: r) + s.bound) = false := by simp; omega
          have hd2 : ¬ H < L + resvL (done ++ s :: r) + s.bound := by omega
          have HIN := hide hin
          have HGT := hide hg
          have HSM := hide hsm
          have HFI := hide hfin
          have HO := hide ho
          have HQ := hide (show k + r.length + 1 = ss.length by simp at hn; omega)
          have HX := hide hass
          have HIL := hide hil
          have HWT := hide hw
          have HAT := hide hat
          have HDN := hide hd
          have HFT := hide hfit
          obtain ⟨Ai, ci, hinv, _⟩ := hin.form
          subst hinv
          clear hin hg hsm hfin ho hd hn hdl hass q0 q2 hat hil hw hsb hfit hsz hsu hl0 hr0
          go_wp2_with fail
          go_quiet (first | (go_at_call 29; exact Calls.quiet_of_same ((HRM.out _).mono fun _ _ h => ⟨h.1, h.2⟩)))
          clear HRM q1 q3 g0 g1 g2 e1 e2 hd1
          have HG2 := hide (HGT.out.drewN nq)
          have HI2 := hide (HIN.out.only ((Only.refl [] wr).drewN nq) (by simp))
          have HO2 := hide (HO.out.drewN nq)
          clear HGT HIN HO
          revert HG2 HI2 HO2
          generalize wr.drewN nq = wq
          intro HG2 HI2 HO2
          obtain ⟨q0, q1, q2, q3⟩ := HG2.out.row.cell rfl rfl HAT.out
          have g2 : wq.cell? ⟨x, 2, none⟩ = some (.slice (some ⟨b, 0, none⟩) ss.length cap) := HG2.out.blk.cell 2
          obtain ⟨cu, hbq⟩ : ∃ (cu : List Value), Blk wq b 48 cu.toArray := by
            obtain ⟨b', cap', cur, e, hb, _⟩ := HG2.out.row.blk (by have := HQ.out; simp; have := HDN.out; omega)
            injection e with e
            injection e with e
            injection e with e
            subst e
            exact ⟨_, hb⟩
          have hf1 := hbq.frozen (k * 4 + 3)
          have hbo : (Value.slice (some ⟨b, 0, none⟩) ss.length cap).ownBlock = some b := slice_own HG2.out.row (by have := HQ.out; simp; have := HDN.out; omega) rfl rfl
          have HG3 := hide (HG2.out.put rfl rfl (k := 3) (u := .bool false) (by decide) HAT.out (s' := { s with waits := false }) rfl)
          have HNB := hide (show ∀ q, (Value.slice Ai ids.length ci).ownBlock = some q → w.heap.size ≤ q from fun q hq => (HI2.out.at_ hq).1)
          have HI3 := hide (HI2.out.only ((Only.refl [b] wq).setCell (p := ⟨b, k * 4 + 3, none⟩) (.bool false) (by simp)) (fun q hq hm => by have := HNB.out q hq; simp at hm; omega))
          have HO3 := hide (HO2.out.trans ((Only.refl (x :: (Value.slice (some ⟨b, 0, none⟩) ss.length cap).ownBlock.toList) wq).setCell (p := ⟨b, k * 4 + 3, none⟩) (.bool false) (by rw [hbo]; simp)))
          clear hbq
          have hat3 : ((done ++ s :: r).set k { s with waits := false })[k]? = some { s with waits := false } := by
            rw [List.getElem?_set_self]
            have := (List.getElem?_eq_some_iff.1 HAT.out).1
            exact this
          obtain ⟨z0, _, _, _⟩ := HG3.out.row.cell rfl rfl hat3
          have z2 : (wq.setCell ⟨b, k * 4 + 3, none⟩ (.bool false)).cell? ⟨x, 2, none⟩ = some (.slice (some ⟨b, 0, none⟩) ss.length cap) := HG3.out.blk.cell 2
          clear hat3
          have HI6 := hide (HI3.out.only ((Only.refl [] (wq.setCell ⟨b, k * 4 + 3, none⟩ (.bool false))).alloc (.cells #[.int .i64 s.id] 3)) (by simp))
          have hez : (wq.setCell ⟨b, k * 4 + 3, none⟩ (.bool false)).heap.size = wq.heap.size := by simp [World.setCell]
          have HC6 := hide (show ((wq.setCell ⟨b, k * 4 + 3, none⟩ (.bool false)).alloc (.cells #[.int .i64 s.id] 3)).cell? ⟨wq.heap.size, 0, none⟩ = some (.int .i64 s.id) from by
            have := (Blk.new (wq.setCell ⟨b, k * 4 + 3, none⟩ (.bool false)) 3 #[.int .i64 s.id]).cell 0
            rw [hez] at this
            exact this)
          have HL6 := hide (show w.heap.size ≤ ((wq.setCell ⟨b, k * 4 + 3, none⟩ (.bool false)).alloc (.cells #[.int .i64 s.id] 3)).heap.size from by have := HO3.out.size; rw [hez] at this; simp only [World.alloc, Array.size_push]; rw [hez]; omega)
          clear hez
          have HG6 := hide (HG3.out.alloc (.cells #[.int .i64 s.id] 3))
          have HO6 := hide (HO3.out.alloc (.cells #[.int .i64 s.id] 3))
          have hxl : x < w.heap.size := HG.out.blk.lt
          go_wp2_with (at_builtin; refine wpList_append_k (v := .slice Ai ids.length ci) Try.underlying39 info_int (by decide) rfl _ _ rfl _ rfl HI6.out _ s.id rfl HC6.out (by have := HIL.out; omega) HL6.out ?_; intro v' w5 hkr hgr; obtain ⟨A5, c5, hv5, _⟩ := hkr.form; subst hv5; have HK5 := hide hkr; have HGR := hide hgr; clear hkr hgr)
          go_roundw
          case rel =>
            have hset : (done ++ s :: r).set k { s with waits := false } = (done ++ [{ s with waits := false }]) ++ r := by
              rw [List.set_append_right _ _ (by have := HDN.out; omega), HDN.out]
              simp
            have hrs : resvL ((done ++ [{ s with waits := false }]) ++ r) = resvL (done ++ s :: r) + s.bound := by
              rw [← hset, resvL_set HAT.out, HWT.out]
              simp
            have hgrow := only_grown' HGR.out
            have hown : ∀ q, (Value.slice Ai ids.length ci).ownBlock = some q → w.heap.size ≤ q := HNB.out
            have hG7 : IsR9 w5 x H L (.slice (some ⟨b, 0, none⟩) ss.length cap) ((done ++ [{ s with waits := false }]) ++ r) := by
              rw [← hset]
              exact HG6.out.only hgrow (fun hm => by have := hown x (by simpa using hm); omega) (fun q hq hm => by
                rw [hbo] at hq
                injection hq with hq
                have := hown q (by simpa using hm)
                omega)
            have hB := HBD.out
            have hS := HSM.out
            refine ⟨k + 1, done ++ [{ s with waits := false }], r, ids ++ [s.id], by simp [HDN.out], by have := HQ.out; omega, by go_num, by have := HK5.out; rw [List.length_append] at this; exact this, by have := HIL.out; simp; omega, hG7, ?_, ?_, ?_⟩
            · rw [hrs]
              have hft := HFT.out
              refine ⟨hS.size, hS.l0, by omega, by omega, fun y hx => ?_, by have := hS.few; simp at this ⊢; omega⟩
              simp only [List.append_assoc, List.mem_append, List.mem_cons, List.cons_append, List.nil_append] at hx
              rcases hx with hx | rfl | hx
              · exact hS.seat y (by simp [hx])
              · exact hS.seat s (by simp)
              · exact hS.seat y (by simp [hx])
            · rw [hrs, HFI.out, admitGo, if_pos HWT.out, if_neg (by have := HFT.out; omega)]
              simp
            · exact HO6.out.trans' hgrow (fun q hq hm => by have := hown q (by simpa using hm); omega)
          case measure => have := HQ.out; simp [intOf]; omega
end
end Go.Proofs.Ytflgcnlncljefaa
