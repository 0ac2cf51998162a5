/-
  The gate (parapet/resv): Inside, room, Heap, Stalled, Seats; admit.
-/
import Derived.Test.YtflgcnlncljefaaResvApp
import Derived.Laws.Rows
namespace Go.Proofs.Ytflgcnlncljefaa
open Go.ChangeShapes Go.WideShapes Go.ChangeAt Go.RowKit
set_option linter.unusedVariables false

/-- Numbers that no sum of a gate leaves. -/
structure Small (H L R : Int) (ss : List ST) : Prop where
  size : 1 ≤ H ∧ H ≤ 1073741824
  l0 : 0 ≤ L
  r0 : 0 ≤ R
  sum : L + R ≤ H
  seat : ∀ s ∈ ss, 0 ≤ s.bound ∧ 0 ≤ s.taken ∧ s.bound + s.taken ≤ H
  few : ss.length ≤ 64
theorem Small.at_ {H L R : Int} {ss : List ST} (h : Small H L R ss) {i : Nat} {s : ST} (hs : ss[i]? = some s) : 0 ≤ s.bound ∧ 0 ≤ s.taken ∧ s.bound + s.taken ≤ H := h.seat s (List.mem_of_getElem? hs)

/-- Who waits is let in till the first that does not fit: what is reserved then, the seats, who they were. -/
def admitGo (H L : Int) : Int → List ST → Int × List ST × List Int
  | R, [] => (R, [], [])
  | R, s :: r =>
    if s.waits = true then
      if H - L - R < s.bound then (R, s :: r, [])
      else ((admitGo H L (R + s.bound) r).1, { s with waits := false } :: (admitGo H L (R + s.bound) r).2.1, s.id :: (admitGo H L (R + s.bound) r).2.2)
    else ((admitGo H L R r).1, s :: (admitGo H L R r).2.1, (admitGo H L R r).2.2)
theorem admitGo_length (H L : Int) : ∀ (ss : List ST) (R : Int), (admitGo H L R ss).2.1.length = ss.length
  | [], R => rfl
  | s :: r, R => by
    unfold admitGo
    split
    · split
      · rfl
      · simp [admitGo_length H L r]
    · simp [admitGo_length H L r]
theorem admitGo_small {H L : Int} : ∀ {ss : List ST} {R : Int}, Small H L R ss → Small H L (admitGo H L R ss).1 (admitGo H L R ss).2.1
  | [], R, h => h
  | s :: r, R, h => by
    have hb := h.seat s (by simp)
    have hf := h.few
    have hlen := admitGo_length H L
    simp only [List.length_cons] at hf
    unfold admitGo
    split
    · split
      · exact h
      · rename_i hn
        have hr : Small H L (R + s.bound) r := ⟨h.size, h.l0, by have := h.r0; omega, by omega, fun x hx => h.seat x (by simp [hx]), by omega⟩
        have := admitGo_small hr
        exact ⟨this.size, this.l0, this.r0, this.sum, fun x hx => by
          rcases List.mem_cons.1 hx with rfl | hx
          · exact hb
          · exact this.seat x hx, by simp [hlen]; omega⟩
    · have hr : Small H L R r := ⟨h.size, h.l0, h.r0, h.sum, fun x hx => h.seat x (by simp [hx]), by omega⟩
      have := admitGo_small hr
      exact ⟨this.size, this.l0, this.r0, this.sum, fun x hx => by
        rcases List.mem_cons.1 hx with rfl | hx
        · exact hb
        · exact this.seat x hx, by simp [hlen]; omega⟩

section
variable {w w' : World} {g : Nat} {H L R : Int} {v : Value} {ss : List ST} {S : List Nat}
theorem IsGt.far (h : IsGt w g H L R v ss) : ∀ q, v.ownBlock = some q → q ≠ g := h.row.apart h.blk (by decide)
theorem IsGt.setR (h : IsGt w g H L R v ss) (x : Int) : IsGt (w.setCell ⟨g, 2, none⟩ (.int .i64 x)) g H L x v ss :=
  ⟨h.blk.set_ 2 _, h.row.only ((Only.refl [g] w).setCell _ (by simp)) (fun q hq hm => h.far q hq (by simpa using hm)), h.size, h.few⟩
theorem IsGt.setL (h : IsGt w g H L R v ss) (x : Int) : IsGt (w.setCell ⟨g, 1, none⟩ (.int .i64 x)) g H x R v ss :=
  ⟨h.blk.set_ 1 _, h.row.only ((Only.refl [g] w).setCell _ (by simp)) (fun q hq hm => h.far q hq (by simpa using hm)), h.size, h.few⟩
theorem IsGt.put (h : IsGt w g H L R v ss) {A : Option Addr} {n cap : Nat} (hv : v = .slice A n cap) {b : Nat} {o : Nat} (hA : A = some ⟨b, o, none⟩) {i k : Nat} {s s' : ST} {u : Value} (hk : k < 4) (hs : ss[i]? = some s) (hc : s.cells.set k u = s'.cells) :
    IsGt (w.setCell ⟨b, i * 4 + k, none⟩ u) g H L R v (ss.set i s') := by
  have ho : v.ownBlock = some b := by
    have hi := (List.getElem?_eq_some_iff.1 hs).1
    obtain ⟨b', cap', cur, e, _⟩ := h.row.blk (by omega)
    rw [hv, hA] at e
    injection e with e
    injection e with e
    injection e with e1 e2
    rw [hv, hA, e1, e2]
    rfl
  exact ⟨h.blk.far (fun e => h.far b ho e.symm) _, h.row.put hv hA hk hs hc, h.size, by simpa using h.few⟩

theorem groom_is (h : IsGt w g H L R v ss) (hs : Small H L R ss) : Calls Try.prog 40 #[.pointer (some ⟨g, 0, none⟩)] w fun e w' => e = .returned (.int .i64 (H - L - R)) ∧ w' = w.drew := by
  have c0 : w.cell? ⟨g, 0, none⟩ = some (.int .i64 H) := h.blk.cell 0
  have c1 : w.cell? ⟨g, 1, none⟩ = some (.int .i64 L) := h.blk.cell 1
  have c2 : w.cell? ⟨g, 2, none⟩ = some (.int .i64 R) := h.blk.cell 2
  have e1 : IntKind.i64.wrap (H - L) = H - L := by rw [IntKind.wrap_i64]; have := hs.size; have := hs.l0; have := hs.sum; have := hs.r0; omega
  have e2 : IntKind.i64.wrap (H - L - R) = H - L - R := by rw [IntKind.wrap_i64]; have := hs.size; have := hs.l0; have := hs.sum; have := hs.r0; omega
  clear h hs
  go_enter Try.func40, Try.ntmps40
  go_wp2_with fail
  go_region
  go_wp2
  go_ret
  exact ⟨rfl, rfl⟩

theorem gHeap_is (h : IsGt w g H L R v ss) : Calls Try.prog 18 #[.pointer (some ⟨g, 0, none⟩)] w fun e w' => e = .returned (.agg #[.int .i64 H, .int .i64 L, .int .i64 R]) ∧ Only [] w w' := by
  have HG := hide (fun o => h.alloc o)
  have c0 : ∀ o, (w.alloc o).cell? ⟨g, 0, none⟩ = some (.int .i64 H) := fun o => (h.alloc o).blk.cell 0
  have c1 : ∀ o, (w.alloc o).cell? ⟨g, 1, none⟩ = some (.int .i64 L) := fun o => (h.alloc o).blk.cell 1
  have c2 : ∀ o, (w.alloc o).cell? ⟨g, 2, none⟩ = some (.int .i64 R) := fun o => (h.alloc o).blk.cell 2
  clear h
  go_enter Try.func18, Try.ntmps18
  go_wp2_with (go_at_call 31; refine (gclosed_is (HG.out _)).mono ?_; rintro e w' ⟨rfl, rfl⟩)
  (try simp only [Exit.inBlock, Exit.then])
  refine bodyPost_ret (v := .agg #[.int .i64 H, .int .i64 L, .int .i64 R]) (results_cell_row (p := 2) rfl _ _ w.heap.size 43 _ (0, 0) _ rfl (heap_alloc_new w _) Try.underlying43 rfl (by kernel_rfl)) rfl ⟨rfl, (Only.refl [] w).alloc _⟩

/-- Does somebody wait, and is nobody inside? -/
def stallB (ss : List ST) : Bool := match ss with | [] => false | s :: _ => s.waits
theorem gStalled_is (h : IsGt w g H L R v ss) : Calls Try.prog 20 #[.pointer (some ⟨g, 0, none⟩)] w fun e w' => e = .returned (.bool (stallB ss)) ∧ w = w' := by
  have HG := hide h
  have c3 : w.cell? ⟨g, 3, none⟩ = some v := h.blk.cell 3
  obtain ⟨A, cap, rfl, hA⟩ := h.row.form
  cases ss with
  | nil =>
    clear h hA
    go_enter Try.func20, Try.ntmps20
    go_wp2_with (go_at_call 31; refine (gclosed_is HG.out).mono ?_; rintro e w' ⟨rfl, rfl⟩)
    go_ret
    exact ⟨rfl, rfl⟩
  | cons s r =>
    obtain ⟨b, rfl, hb⟩ := hA (by simp)
    obtain ⟨_, _, _, k3⟩ := h.row.cell rfl rfl (i := 0) (s := s) rfl
    rw [show 0 * 4 + 3 = 3 from rfl] at k3
    have hp : (0 : Int) < ((s :: r).length : Nat) := by simp
    have hp2 : 0 < (s :: r).length := by simp
    clear h hA
    go_enter Try.func20, Try.ntmps20
    go_wp2_with (go_at_call 31; refine (gclosed_is HG.out).mono ?_; rintro e w' ⟨rfl, rfl⟩)
    go_ret
    exact ⟨rfl, rfl⟩

/-- Is a call inside? -/
def inB (ss : List ST) (id : Int) : Bool := if 0 ≤ atI ss id then (match ss[(atI ss id).toNat]? with | some s => !s.waits | none => false) else false
theorem inB_yes {ss : List ST} {id : Int} {i : Nat} {s : ST} (hs : ss[i]? = some s) (hi : atI ss id = i) : inB ss id = !s.waits := by
  unfold inB
  rw [hi, if_pos (by omega), Int.toNat_natCast, hs]
theorem inB_no {ss : List ST} {id : Int} (hi : atI ss id = -1) : inB ss id = false := by
  unfold inB
  rw [hi, if_neg (by omega)]
theorem gInside_is (h : IsGt w g H L R v ss) (id : Int) : Calls Try.prog 23 #[.pointer (some ⟨g, 0, none⟩), .int .i64 id] w fun e w' => e = .returned (.bool (inB ss id)) ∧ Only [] w w' := by
  have HG := hide (gat_is h id)
  have HI := hide h
  rcases atI_cases ss id with ⟨ha, hn⟩ | ⟨i, s, hs, he, ha, _⟩
  · rw [ha] at HG
    have HE := hide (inB_no ha)
    clear h hn ha
    go_enter Try.func23, Try.ntmps23
    go_wp2_with (go_at_call 32; refine HG.out.mono ?_; rintro e w' ⟨rfl, ho⟩; have HO := hide ho; clear ho)
    go_ret
    exact ⟨by rw [HE.out]; rfl, HO.out⟩
  · rw [ha] at HG
    have HE := hide (inB_yes hs ha)
    obtain ⟨A, cap, rfl, hA⟩ := h.row.form
    have hlt : i < ss.length := (List.getElem?_eq_some_iff.1 hs).1
    obtain ⟨b, rfl, hb⟩ := hA (by omega)
    have hi0 : (0 : Int) ≤ (i : Int) := by omega
    have HC := hide (fun (w' : World) (ho : Only [] w w') => (show w'.cell? ⟨g, 3, none⟩ = some (.slice (some ⟨b, 0, none⟩) ss.length cap) ∧ w'.cell? ⟨b, i * 4 + 3, none⟩ = some (.bool s.waits) from ⟨(h.blk.only ho (by simp)).cell 3, ((h.row.only ho (by simp)).cell rfl rfl hs).2.2.2⟩))
    clear h hA ha he hs
    go_enter Try.func23, Try.ntmps23
    go_wp2_with (go_at_call 32; refine HG.out.mono ?_; rintro e w' ⟨rfl, ho⟩; have HO := hide ho; obtain ⟨k1, k2⟩ := HC.out w' ho; clear ho)
    go_ret
    exact ⟨by rw [HE.out]; rfl, HO.out⟩
theorem gSeats_is (h : IsGt w g H L R v ss) : Calls Try.prog 19 #[.pointer (some ⟨g, 0, none⟩)] w fun e w' => ∃ v', e = .returned v' ∧ SRw w' v' ss ∧ (∀ q, v'.ownBlock = some q → w.heap.size ≤ q) ∧ Only [] w w' := by
  have HG := hide h
  have c3 : w.cell? ⟨g, 3, none⟩ = some v := h.blk.cell 3
  have HC := hide (cloneS_is h.row h.few)
  obtain ⟨A, cap, rfl, _⟩ := h.row.form
  clear h
  go_enter Try.func19, Try.ntmps19
  go_wp2_with (first | (go_at_call 31; refine (gclosed_is HG.out).mono ?_; rintro e w' ⟨rfl, rfl⟩) | (go_at_call 35; refine HC.out.mono ?_; rintro e w' ⟨v', rfl, hr, hq, ho⟩; have HR := hide hr; have HQ := hide hq; have HO := hide ho; obtain ⟨A', c', rfl, _⟩ := hr.form; clear hr hq ho))
  go_ret
  exact ⟨_, rfl, HR.out, HQ.out, HO.out⟩

/-- A round of admit: k seats are done; what is left to do gives what all gives. -/
def AdmIn (w : World) (g : Nat) (H L : Int) (v : Value) (n : Nat) (fin : Int × List ST × List Int) (inv iv : Value) (wr : World) : Prop :=
  ∃ (k : Nat) (done rest : List ST) (R : Int) (ids : List Int), done.length = k ∧ k + rest.length = n ∧ iv = .int .i64 k ∧ KRow .i64 3 wr w.heap.size inv ids ∧ ids.length ≤ k ∧ IsGt wr g H L R v (done ++ rest) ∧ Small H L R (done ++ rest) ∧
    fin = ((admitGo H L R rest).1, done ++ (admitGo H L R rest).2.1, ids ++ (admitGo H L R rest).2.2) ∧ Only (g :: v.ownBlock.toList) w wr

set_option maxHeartbeats 1500000 in
set_option maxRecDepth 100000 in
theorem gadmit_is (h : IsGt w g H L R v ss) (hs : Small H L R ss) :
    Calls Try.prog 33 #[.pointer (some ⟨g, 0, none⟩)] w fun e w' => ∃ v', e = .returned v' ∧ KRow .i64 3 w' w.heap.size v' (admitGo H L R ss).2.2 ∧ IsGt w' g H L (admitGo H L R ss).1 v (admitGo H L R ss).2.1 ∧ Only (g :: v.ownBlock.toList) w w' := by
  have c3 : w.cell? ⟨g, 3, none⟩ = some v := h.blk.cell 3
  obtain ⟨A, cap, hv, hA⟩ := h.row.form
  subst hv
  have HA := hide hA
  have HG := hide h
  have HS := hide hs
  have HF := hide h.few
  clear h hs hA
  go_enter Try.func33, Try.ntmps33
  go_wp2
  go_step3
  go_wp2
  go_step3
  go_wp2
  go_loopw [3, 11] (fun inv iv wr => AdmIn w g H L (.slice A ss.length cap) ss.length (admitGo H L R ss) inv iv wr) (fun _ iv _ => ss.length - (intOf iv).toNat)
  case atStart => exact ⟨0, [], ss, R, [], rfl, by simp, rfl, KRow.nil _ _ _ _, by simp, HG.out, HS.out, rfl, Only.refl _ _⟩
  case round =>
    obtain ⟨k, done, rest, R1, ids, hd, hn, rfl, hin, hil, hg, hsm, hfin, ho⟩ := hrel
    cases rest with
    | nil =>
      obtain rfl : k = ss.length := by simpa using hn
      obtain ⟨Ai, ci, rfl, _⟩ := hin.form
      have HIN := hide hin
      have HGT := hide hg
      have HFI := hide hfin
      have HO := hide ho
      clear hin hg hsm hfin ho
      go_wp2
      (try rw [Exit.noGoto_ret])
      go_ret
      have e := HFI.out
      rw [e]
      refine ⟨_, rfl, ?_, ?_, HO.out⟩
      · have := HIN.out
        simpa [admitGo] using this
      · have := HGT.out
        simpa [admitGo] using this
    | cons s r =>
      have hk : k < ss.length := by simp at hn; omega
      have hf64 := HF.out
      obtain ⟨b, rfl, hbl⟩ := HA.out (by omega)
      have hat : (done ++ s :: r)[k]? = some s := by rw [List.getElem?_append_right (by omega), hd]; simp
      obtain ⟨q0, q1, q2, q3⟩ := hg.row.cell rfl rfl hat
      have g3 : wr.cell? ⟨g, 3, none⟩ = some (.slice (some ⟨b, 0, none⟩) ss.length cap) := hg.blk.cell 3
      have hdl : (done ++ [s]).length = k + 1 := by simp [hd]
      have hass : done ++ s :: r = (done ++ [s]) ++ r := by simp
      cases hw : s.waits with
      | false =>
        rw [hw] at q3
        have HIN := hide hin
        have HGT := hide hg
        have HSM := hide hsm
        have HFI := hide hfin
        have HO := hide ho
        have HQ := hide (show k + r.length + 1 = ss.length by simp at hn; omega)
        have HD := hide hdl
        have HX := hide hass
        have HIL := hide hil
        have HWT := hide hw
        clear hin hg hsm hfin ho hd hn hdl hass q0 q1 q2 hat hil hw
        go_wp2
        go_roundw
        case rel =>
          refine ⟨k + 1, done ++ [s], r, R1, ids, HD.out, by have := HQ.out; omega, by go_num, HIN.out, by have := HIL.out; omega, by rw [← HX.out]; exact HGT.out, by rw [← HX.out]; exact HSM.out, ?_, HO.out⟩
          rw [HFI.out]
          simp [admitGo, HWT.out]
        case measure => have := HQ.out; simp [intOf]; omega
      | true =>
        rw [hw] at q3
        have HRM := hide (fun n => groom_is (hg.drewN n) hsm)
        by_cases hfit : H - L - R1 < s.bound
        · have HIN := hide hin
          have HGT := hide hg
          have HFI := hide hfin
          have HO := hide ho
          have HWT := hide hw
          obtain ⟨Ai, ci, rfl, _⟩ := hin.form
          have HFT := hide hfit
          clear hin hg hsm hfin ho hd hn hdl hass q0 q2 hat hil hw
          have hd1 : decide (H - L - R1 < s.bound) = true := by simp [HFT.out]
          go_wp2_with fail
          go_quiet (first | (go_at_call 40; exact Calls.quiet_of ((HRM.out _).mono fun _ _ h => ⟨h.1, 1, h.2⟩)))
          go_wp2
          (try rw [Exit.noGoto_ret])
          go_ret
          have e := HFI.out
          have eu : admitGo H L R1 (s :: r) = (R1, s :: r, []) := by unfold admitGo; rw [if_pos HWT.out, if_pos HFT.out]
          rw [eu] at e
          rw [e]
          refine ⟨_, rfl, ?_, ?_, HO.out.drewN _⟩
          · have := HIN.out.only ((Only.refl [] wr).drewN nq) (by simp)
            simpa using this
          · exact HGT.out.drewN _
        · have hd1 : decide (H - L - R1 < s.bound) = false := by simp [hfit]
          have hsb := hsm.at_ hat
          have HBD := hide (show 0 ≤ s.bound ∧ 0 ≤ R1 ∧ R1 + s.bound ≤ H ∧ L + (R1 + s.bound) ≤ H ∧ H ≤ 1073741824 from ⟨hsb.1, hsm.r0, by have := hsm.l0; omega, by omega, hsm.size.2⟩)
          have HIN := hide hin
          have HGT := hide hg
          have HSM := hide hsm
          have HFI := hide hfin
          have HO := hide ho
          have HQ := hide (show k + r.length + 1 = ss.length by simp at hn; omega)
          have HX := hide hass
          have HIL := hide hil
          have HWT := hide hw
          have HAT := hide hat
          have HDN := hide hd
          have HFT := hide hfit
          obtain ⟨Ai, ci, hinv, _⟩ := hin.form
          subst hinv
          clear hin hg hsm hfin ho hd hn hdl hass q0 q2 hat hil hw hsb hfit
          go_wp2_with fail
          go_quiet (first | (go_at_call 40; exact Calls.quiet_of ((HRM.out _).mono fun _ _ h => ⟨h.1, 1, h.2⟩)))
          clear HRM q1 q3 g3
          have HG2 := hide (HGT.out.drewN nq)
          have HI2 := hide (HIN.out.only ((Only.refl [] wr).drewN nq) (by simp))
          have HO2 := hide (HO.out.drewN nq)
          clear HGT HIN HO
          revert HG2 HI2 HO2
          generalize wr.drewN nq = wq
          intro HG2 HI2 HO2
          obtain ⟨q0, q1, q2, q3⟩ := HG2.out.row.cell rfl rfl HAT.out
          obtain ⟨cu, cq, hbq⟩ : ∃ (cu : List Value) (cq : Nat), Blk wq b 48 cu.toArray := by
            obtain ⟨b', cap', cur, e, hb, _⟩ := HG2.out.row.blk (by have := HQ.out; simp; have := HDN.out; omega)
            injection e with e
            injection e with e
            injection e with e
            subst e
            exact ⟨_, 0, hb⟩
          have hf1 := hbq.frozen (k * 4 + 3)
          have HG3 := hide (HG2.out.put rfl rfl (k := 3) (u := .bool false) (by decide) HAT.out (s' := { s with waits := false }) rfl)
          clear hbq
          have hbq : (Value.slice (some ⟨b, 0, none⟩) ss.length cap).ownBlock = some b := by
            obtain ⟨b', cap', cur, e, hb, _⟩ := HG2.out.row.blk (by have := HQ.out; simp; have := HDN.out; omega)
            rw [e]
            injection e with e
            injection e with e
            injection e with e
            rw [← e]; rfl
          have HNB := hide (show ∀ q, (Value.slice Ai ids.length ci).ownBlock = some q → w.heap.size ≤ q from fun q hq => (HI2.out.at_ hq).1)
          have HI3 := hide (HI2.out.only ((Only.refl [b] wq).setCell (p := ⟨b, k * 4 + 3, none⟩) (.bool false) (by simp)) (fun q hq hm => by have := HNB.out q hq; simp at hm; omega))
          have HO3 := hide (HO2.out.trans ((Only.refl (g :: (Value.slice (some ⟨b, 0, none⟩) ss.length cap).ownBlock.toList) wq).setCell (p := ⟨b, k * 4 + 3, none⟩) (.bool false) (by rw [hbq]; simp)))
          go_wp2_with fail
          clear HG2 HI2 HO2 q0 q1 q2 q3 hf1
          revert HG3 HI3 HO3
          generalize wq.setCell ⟨b, k * 4 + 3, none⟩ (.bool false) = wz
          intro HG3 HI3 HO3
          have hat3 : ((done ++ s :: r).set k { s with waits := false })[k]? = some { s with waits := false } := by
            rw [List.getElem?_set_self]
            have := (List.getElem?_eq_some_iff.1 HAT.out).1
            exact this
          obtain ⟨q0, q1, q2, q3⟩ := HG3.out.row.cell rfl rfl hat3
          have g2 : wz.cell? ⟨g, 2, none⟩ = some (.int .i64 R1) := HG3.out.blk.cell 2
          have hf2 := HG3.out.blk.frozen 2
          have hwr : IntKind.i64.wrap (R1 + s.bound) = R1 + s.bound := by rw [IntKind.wrap_i64]; have := HBD.out; omega
          have HG4 := hide (fun n => (HG3.out.drewN n).setR (R1 + s.bound))
          clear hat3 q2 q3
          go_region
          have HG5 := hide (show IsGt (wz.setCell ⟨g, 2, none⟩ (.int .i64 (R1 + s.bound))).drew g H L (R1 + s.bound) _ _ from (HG3.out.setR (R1 + s.bound)).drewN 1)
          have hgl : g < w.heap.size := HG.out.blk.lt
          have HI5 := hide (show KRow .i64 3 (wz.setCell ⟨g, 2, none⟩ (.int .i64 (R1 + s.bound))).drew w.heap.size (.slice Ai ids.length ci) ids from HI3.out.only (((Only.refl [g] wz).setCell (p := ⟨g, 2, none⟩) (.int .i64 (R1 + s.bound)) (by simp)).drew) (fun q hq hm => by have := HNB.out q hq; simp at hm; omega))
          have HO5 := hide (show Only (g :: (Value.slice (some ⟨b, 0, none⟩) ss.length cap).ownBlock.toList) w (wz.setCell ⟨g, 2, none⟩ (.int .i64 (R1 + s.bound))).drew from (HO3.out.setCell (p := ⟨g, 2, none⟩) (.int .i64 (R1 + s.bound)) (by simp)).drew)
          clear HG3 HI3 HO3 HG4 q0 q1 g2 hf2
          revert HG5 HI5 HO5
          generalize (wz.setCell ⟨g, 2, none⟩ (.int .i64 (R1 + s.bound))).drew = wy
          intro HG5 HI5 HO5
          have hat3 : ((done ++ s :: r).set k { s with waits := false })[k]? = some { s with waits := false } := by
            rw [List.getElem?_set_self]
            have := (List.getElem?_eq_some_iff.1 HAT.out).1
            exact this
          obtain ⟨q0, q1, q2, q3⟩ := HG5.out.row.cell rfl rfl hat3
          clear hat3 q1 q2 q3
          have HI6 := hide (HI5.out.only ((Only.refl [] wy).alloc (.cells #[.int .i64 s.id] 3)) (by simp))
          have HC6 := hide (show (wy.alloc (.cells #[.int .i64 s.id] 3)).cell? ⟨wy.heap.size, 0, none⟩ = some (.int .i64 s.id) from (Blk.new wy 3 #[.int .i64 s.id]).cell 0)
          have HL6 := hide (show w.heap.size ≤ (wy.alloc (.cells #[.int .i64 s.id] 3)).heap.size from by have := HO5.out.size; simp; omega)
          have HG6 := hide (HG5.out.alloc (.cells #[.int .i64 s.id] 3))
          have HO6 := hide (HO5.out.alloc (.cells #[.int .i64 s.id] 3))
          go_wp2_with (at_builtin; refine wpList_append_k (v := .slice Ai ids.length ci) Try.underlying39 info_int (by decide) rfl _ _ rfl _ rfl HI6.out wy.heap.size s.id rfl HC6.out (by have := HIL.out; omega) HL6.out ?_; intro v' w5 hkr hgr; obtain ⟨A5, c5, hv5, _⟩ := hkr.form; subst hv5; have HK5 := hide hkr; have HGR := hide hgr; clear hkr hgr)
          go_roundw
          case rel =>
            have hset : (done ++ s :: r).set k { s with waits := false } = (done ++ [{ s with waits := false }]) ++ r := by
              rw [List.set_append_right _ _ (by have := HDN.out; omega), HDN.out]
              simp
            have hbl0 := hbl
            have hgrow := only_grown' HGR.out
            have hown : ∀ q, (Value.slice Ai ids.length ci).ownBlock = some q → w.heap.size ≤ q := HNB.out
            have hG7 : IsGt w5 g H L (R1 + s.bound) (.slice (some ⟨b, 0, none⟩) ss.length cap) ((done ++ [{ s with waits := false }]) ++ r) := by
              rw [← hset]
              exact HG6.out.only hgrow (fun hm => by have := hown g (by simpa using hm); omega) (fun q hq hm => by
                rw [hbq] at hq
                injection hq with hq
                have := hown q (by simpa using hm)
                omega)
            have hB := HBD.out
            refine ⟨k + 1, done ++ [{ s with waits := false }], r, R1 + s.bound, ids ++ [s.id], by simp [HDN.out], by have := HQ.out; omega, by go_num, by have := HK5.out; rw [List.length_append] at this; exact this, by have := HIL.out; simp; omega, hG7, ?_, ?_, ?_⟩
            · have hS := HSM.out
              refine ⟨hS.size, hS.l0, by omega, by omega, fun x hx => ?_, by have := hS.few; simp at this ⊢; omega⟩
              simp only [List.append_assoc, List.mem_append, List.mem_cons, List.cons_append, List.nil_append] at hx
              rcases hx with hx | rfl | hx
              · exact hS.seat x (by simp [hx])
              · exact hS.seat s (by simp)
              · exact hS.seat x (by simp [hx])
            · have eu : admitGo H L R1 (s :: r) = ((admitGo H L (R1 + s.bound) r).1, { s with waits := false } :: (admitGo H L (R1 + s.bound) r).2.1, s.id :: (admitGo H L (R1 + s.bound) r).2.2) := by
                rw [admitGo, if_pos HWT.out, if_neg (by have := HFT.out; omega)]
              rw [HFI.out, eu]
              simp
            · exact HO6.out.trans' hgrow (fun q hq hm => by have := hown q (by simpa using hm); omega)
          case measure => have := HQ.out; simp [intOf]; omega
end
end Go.Proofs.Ytflgcnlncljefaa
