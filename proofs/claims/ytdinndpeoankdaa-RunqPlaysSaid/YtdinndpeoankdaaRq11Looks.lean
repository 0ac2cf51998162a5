/-
  RunqPlays: looks; step at Where and at the look.
-/
import Derived.Test.YtdinndpeoankdaaRq11Step
namespace Go.Proofs.Ytdinndpeoankdaa
open Go.ChangeShapes Go.WideShapes Go.ChangeAt Go.RowKit Go.Maps
set_option linter.unusedVariables false
section
variable {w0 w w' : World} {g gx hx : Nat} {s s' t t' : RQ} {xs xs' : Nat → Value} {ys S : List Nat}
theorem irow_blk {v : Value} {l : List Int} (h : IRow w v l) (hn : 0 < l.length) : ∃ b c cs, v = .slice (some ⟨b, 0, none⟩) l.length c ∧ Blk w b 3 cs ∧ v.ownBlock = some b ∧ ∀ m, m < l.length → cs[m]? = some (.int .i64 (gb l m)) := by
  obtain ⟨A, c, e, h1, h2, h3, h4⟩ := h.form2
  rcases A with _ | ad
  · have := (h1 rfl).1; omega
  obtain ⟨b, rfl, hb, hc⟩ := h4 ad rfl
  rcases h.2 with ⟨h0, _⟩ | ⟨b', cap, cur, e', hB, hg, rest⟩
  · rw [e] at h0; cases h0
  · rw [e] at e'
    injection e' with e1 e2 e3
    injection e1 with e1
    injection e1 with e1 _
    subst e1
    have hg' : Blk w b 3 cur := hg
    refine ⟨b, c, cur, e, hg', by rw [e]; rfl, fun m hm => ?_⟩
    rw [← hg'.cell m]
    refine hc m _ ?_
    simp [i64l, gb, List.getD, hm]
set_option maxHeartbeats 2000000 in
set_option maxRecDepth 100000 in
theorem looks11_is (h : Bq w0 w g gx hx s s ys xs) : Calls Try.prog 8 #[.pointer (some ⟨g, 0, none⟩), .pointer (some ⟨gx, 0, none⟩)] w fun e w' => e = .returned (.bool true) ∧ Only [] w w' := by
  have hok := h.q.ok
  have HI := hide (fun (W : World) (hW : Only [] w W) => lq_idle (h.quiet hW).q)
  have HIX := hide (fun (W : World) (hW : Only [] w W) => xIdle_is (h.quiet hW).x hok)
  have HCT := hide (fun (W : World) (hW : Only [] w W) => (h.quiet hW).x.cT)
  have HQ := hide (fun (W : World) (hW : Only [] w W) (i : Int) => lq_queue (h.quiet hW).q i)
  have HQX := hide (fun (W : World) (hW : Only [] w W) (i : Int) => (xQueue_is (h.quiet hW).x i).mono (R' := fun e w' => ∃ v, e = .returned v ∧ IRow W v (queueQ s i) ∧ (∀ q, v.ownBlock = some q → q < w.heap.size) ∧ W = w') (fun e w' ⟨v, p1, p2, p3, p4⟩ => ⟨v, p1, p2, fun q hq => h.x.foot_lt (p3 q hq), p4⟩))
  have HR := hide (fun (W : World) (hW : Only [] w W) (i : Int) => lq_running (h.quiet hW).q i)
  have HRX := hide (fun (W : World) (hW : Only [] w W) (i : Int) => xRunning_is (h.quiet hW).x i)
  have H8 := hide hok.h8
  have HLEN := hide (show ∀ i : Int, (queueQ s i).length ≤ 64 from fun i => by
    unfold queueQ
    split
    · rename_i hb
      obtain ⟨k, rfl, hk⟩ := hasQ_nat hb
      exact hok.small.few k (by have := hok.h8; omega)
    · simp)
  have ct := h.x.cT
  clear h hok
  go_enter Try.func8, Try.ntmps8
  go_wp2_with (first | (go_at_call 24; refine (HI.out _ (Only.refl _ _)).mono ?_; rintro e w1 ⟨rfl, rfl⟩) | (go_at_call 25; refine (HIX.out _ (Only.refl _ _)).mono ?_; rintro e w2 ⟨rfl, rfl⟩))
  go_loopw [5] (fun iv wr => ∃ i : Nat, i ≤ s.H + 2 ∧ iv = .int .i64 ((i : Int) - 1) ∧ Only [] w wr) (fun iv _ => (s.H + 1 - intOf iv).toNat)
  case atStart => exact ⟨0, by omega, rfl, Only.refl _ _⟩
  case round =>
    obtain ⟨i, hi, rfl, hw⟩ := hrel
    have ctr := HCT.out _ hw
    have HW := hide hw
    by_cases hlt : i < s.H + 2
    · have hle : (i : Int) - 1 ≤ s.H := by omega
      have h8 := H8.out
      clear hw
      go_wp2_with (first | (go_at_call 12; refine (HQ.out _ HW.out _).mono ?_; rintro e w3 ⟨va, rfl, hra, hoa, ho⟩; have HRA := hide hra; have HOA := hide hoa; have HW3 := hide (HW.out.trans ho); have HO3 := hide ho; obtain ⟨Aa, ca, rfl, _⟩ := hra.form2; clear hra hoa ho) | (go_at_call 26; refine (HQX.out _ HW3.out _).mono ?_; rintro e w4 ⟨vb, rfl, hrb, hob, rfl⟩; have HRB := hide hrb; have HOB := hide hob; obtain ⟨Ab, cb, rfl, _⟩ := hrb.form2; clear hrb hob) | (go_at_call 27; refine (HR.out _ HW3.out _).mono ?_; rintro e w5 ⟨rfl, rfl⟩) | (go_at_call 28; refine (HRX.out _ HW3.out _).mono ?_; rintro e w6 ⟨rfl, rfl⟩))
      have HL := hide (HLEN.out ((i : Int) - 1))
      generalize queueQ s ((i : Int) - 1) = l at *
      have HAT := hide (show 0 < l.length → ∃ ba cs, Aa = some ⟨ba, 0, none⟩ ∧ w.heap.size ≤ ba ∧ Blk w3 ba 3 cs ∧ ∀ m, 0 ≤ m → m < l.length → cs[m]? = some (.int .i64 (gb l m)) from fun hp => by
        obtain ⟨b, c', cs, e, hb, hob, hcs⟩ := irow_blk HRA.out hp
        injection e with e1 _ _
        exact ⟨b, cs, e1, Nat.le_trans HW.out.size (HOA.out b hob), hb, fun m _ hm => hcs m hm⟩)
      have HBL := hide (show ∀ b o, Ab = some ⟨b, o, none⟩ → b < w.heap.size from fun b o e => HOB.out b (by rw [e]; rfl))
      have HI2 := hide hle
      clear hle hlt
      go_loopw [8] (fun jv wr2 => ∃ j : Nat, j ≤ l.length ∧ jv = .int .i64 j ∧ Only [] w wr2 ∧ (0 < l.length → ∃ ba cs, Aa = some ⟨ba, 0, none⟩ ∧ w.heap.size ≤ ba ∧ Blk wr2 ba 3 cs ∧ ∀ m, j ≤ m → m < l.length → cs[m]? = some (.int .i64 (gb l m))) ∧ IRow wr2 (.slice Ab l.length cb) l) (fun jv _ => l.length - (intOf jv).toNat)
      case atStart => exact ⟨0, Nat.zero_le _, rfl, HW3.out, HAT.out, HRB.out⟩
      case round =>
        obtain ⟨j, hj, rfl, hw2, hat, hrb⟩ := hrel
        by_cases hlt2 : j < l.length
        · have hltJ : (j : Int) < l.length := by omega
          obtain ⟨ba, cs, rfl, hge, hblk, hcs⟩ := hat (by omega)
          obtain ⟨bb, c', cs2, e2, hblk2, hob2, hcs2⟩ := irow_blk hrb (by omega)
          injection e2 with e2 _ e3
          subst e2
          clear e3
          have hbb := HBL.out bb 0 rfl
          have ca1 : wr.cell? ⟨ba, j, none⟩ = some (.int .i64 (gb l j)) := (hblk.cell j).trans (hcs j (Nat.le_refl _) hlt2)
          have cb1 : wr.cell? ⟨bb, j, none⟩ = some (.int .i64 (gb l j)) := (hblk2.cell j).trans (hcs2 j hlt2)
          have fz := hblk.frozen j
          have hz : (gb l j != gb l j) = false := by simp
          have o1 : Only [ba] wr (wr.setCell ⟨ba, j, none⟩ (.int .i64 (-1))) := (Only.refl [ba] wr).setCell (p := ⟨ba, j, none⟩) _ (by simp)
          have HS1 := hide (show Only [] w (wr.setCell ⟨ba, j, none⟩ (.int .i64 (-1))) from hw2.trans' o1 (fun k hk hm => by simp at hm; omega))
          have HS2 := hide (show Blk (wr.setCell ⟨ba, j, none⟩ (.int .i64 (-1))) ba 3 (cs.setIfInBounds j (.int .i64 (-1))) from hblk.set_ j _)
          have HS3 := hide (show ∀ m, j + 1 ≤ m → m < l.length → (cs.setIfInBounds j (.int .i64 (-1)))[m]? = some (.int .i64 (gb l m)) from fun m h1 h2 => by
            rw [Array.getElem?_setIfInBounds_ne (by omega)]
            exact hcs m (by omega) h2)
          have HS4 := hide (show IRow (wr.setCell ⟨ba, j, none⟩ (.int .i64 (-1))) (.slice (some ⟨bb, 0, none⟩) l.length cb) l from KRow.only hrb o1 (fun q hq hm => by
            simp [Value.ownBlock] at hq
            simp at hm
            omega))
          have HGE := hide hge
          clear hat hrb hblk hcs hblk2 hcs2 hw2 o1 hob2 hge hbb
          generalize gb l j = z at *
          go_wp2_with fail
          go_region
          go_wp2_with fail
          rw [show wrap64 ((j : Int) + 1) = ((j + 1 : Nat) : Int) by have := HL.out; rw [wrap64]; omega]
          refine ⟨⟨j + 1, hlt2, rfl, by first | exact HS1.out | exact HS1.out.drew, fun _ => ⟨ba, cs.setIfInBounds j (.int .i64 (-1)), rfl, HGE.out, HS2.out, HS3.out⟩, HS4.out⟩, ?_⟩
          simp [intOf]
          omega
        · obtain rfl : j = l.length := by omega
          have HW5 := hide hw2
          have H8b := hide H8.out
          clear hw2 hat hrb
          go_wp2_with fail
          refine ⟨⟨i + 1, by have := HI2.out; omega, congrArg (Value.int .i64) (by omega), HW5.out⟩, ?_⟩
          have := HI2.out
          simp [intOf]
          omega
    · obtain rfl : i = s.H + 2 := by omega
      have hgt : ¬ (((s.H + 2 : Nat) : Int) - 1 ≤ s.H) := by omega
      clear hw
      go_wp2
      go_ret
      exact ⟨rfl, HW.out⟩
end
end Go.Proofs.Ytdinndpeoankdaa
