/-
  The law's looks: both gates that say the same.
-/
import Derived.Test.YtflgcnlncljefaaResvPair
namespace Go.Proofs.Ytflgcnlncljefaa
open Go.ChangeShapes Go.WideShapes Go.ChangeAt Go.RowKit
set_option linter.unusedVariables false

/-- Is one of the first k inside with this id? -/
def inK (ss : List ST) (id : Int) (k : Nat) : Bool := (ss.take k).any fun s => s.id == id && !s.waits
theorem inK_succ {ss : List ST} {id : Int} {k : Nat} {s : ST} (h : ss[k]? = some s) : inK ss id (k + 1) = (inK ss id k || (s.id == id && !s.waits)) := by
  have hk := (List.getElem?_eq_some_iff.1 h).1
  unfold inK
  rw [List.take_succ_eq_append_getElem hk, (List.getElem?_eq_some_iff.1 h).2, List.any_append]
  simp
theorem inK_all {ss : List ST} (hn : Nod ss) (id : Int) : inK ss id ss.length = inB ss id := by
  unfold inK
  rw [List.take_length]
  rcases atI_cases ss id with ⟨ha, hno⟩ | ⟨i, t, ht, hid, ha, _⟩
  · rw [inB_no ha]
    simp only [List.any_eq_false]
    intro s hs
    have := hno s hs
    simp [this]
  · rw [inB_yes ht ha]
    cases hw : t.waits with
    | false =>
      simp only [List.any_eq_true, Bool.not_false]
      exact ⟨t, List.mem_of_getElem? ht, by simp [hid, hw]⟩
    | true =>
      simp only [Bool.not_true, List.any_eq_false]
      intro s hs
      by_cases he : s.id = id
      · obtain ⟨j, hj, e⟩ := List.getElem_of_mem hs
        have h1 := hn.at_ (List.getElem?_eq_getElem hj)
        have h2 := hn.at_ ht
        rw [e, he] at h1
        rw [hid] at h2
        have hij : j = i := by rw [h1] at h2; omega
        subst hij
        rw [List.getElem?_eq_getElem hj] at ht
        injection ht with ht
        rw [← e, ht]
        simp [hw]
      · simp [he]
theorem heap_neq (H L R : Int) (W : World) : (binOp .neq 43 (.agg #[.int .i64 H, .int .i64 L, .int .i64 R]) (.agg #[.int .i64 H, .int .i64 L, .int .i64 R])).run Try.prog W = .ok (.bool false) W := by
  go_simp

theorem seat_neq (t : ST) (W : World) : (binOp .neq 48 (.agg #[.int .i64 t.id, .int .i64 t.bound, .int .i64 t.taken, .bool t.waits]) (.agg #[.int .i64 t.id, .int .i64 t.bound, .int .i64 t.taken, .bool t.waits])).run Try.prog W = .ok (.bool false) W := by
  go_simp
section
variable {w W W' : World} {g x : Nat} {H : Int} {s s1 s2 : GS} {bs : List Nat}
set_option maxHeartbeats 1500000 in
set_option maxRecDepth 100000 in
theorem looks9 (h : P9 w W g x H s s bs) (hn : Nod s.ss) (id : Int) : Calls Try.prog 13 #[.pointer (some ⟨g, 0, none⟩), .pointer (some ⟨x, 0, none⟩), .int .i64 id] W fun e w' => e = .returned (.bool true) ∧ Only [] W w' := by
  obtain ⟨F1, F2, h1, h2, _⟩ := h
  obtain ⟨v1, i1, hok, rfl⟩ := h1
  obtain ⟨v2, i2, _, rfl⟩ := h2
  obtain ⟨A2, c2, rfl, hA2⟩ := i2.row.form
  have HG := hide (fun (W' : World) (ho : Only [] W W') => i1.only ho (by simp) (by simp))
  have HR := hide (fun (W' : World) (ho : Only [] W W') => i2.only ho (by simp) (by simp))
  have HS1 := hide (gSeats_is i1)
  have HOK := hide hok
  have HA2 := hide hA2
  have HIN := hide (inK_all hn id)
  have hf64 := hok.few
  clear i1 i2 hA2 hn hok
  go_enter Try.func13, Try.ntmps13
  go_wp2_with (go_at_call 19; refine HS1.out.mono ?_; rintro e w1 ⟨v', rfl, hr, hq, ho⟩; obtain ⟨A1, c1, rfl, hA1⟩ := hr.form; have HR1 := hide hr; have HA1 := hide hA1; have HO1 := hide ho; clear hr hq ho hA1)
  have b0 : w1.cell? ⟨x, 0, none⟩ = some (.int .i64 H) := (HR.out _ HO1.out).blk.cell 0
  have b1 : w1.cell? ⟨x, 1, none⟩ = some (.int .i64 s.L) := (HR.out _ HO1.out).blk.cell 1
  have b2 : w1.cell? ⟨x, 2, none⟩ = some (.slice A2 s.ss.length c2) := (HR.out _ HO1.out).blk.cell 2
  have HC := hide (fun (W' : World) (ho : Only [] w1 W') => (show W'.cell? ⟨x, 0, none⟩ = some (.int .i64 H) ∧ W'.cell? ⟨x, 1, none⟩ = some (.int .i64 s.L) ∧ W'.cell? ⟨x, 2, none⟩ = some (.slice A2 s.ss.length c2) from ⟨(HR.out _ (HO1.out.trans ho)).blk.cell 0, (HR.out _ (HO1.out.trans ho)).blk.cell 1, (HR.out _ (HO1.out.trans ho)).blk.cell 2⟩))
  have HHP := hide (fun (W' : World) (ho : Only [] w1 W') => gHeap_is (HG.out _ (HO1.out.trans ho)))
  have HRS := hide (fun (W' : World) (ho : Only [] w1 W') => r9Reserved_is (HR.out _ (HO1.out.trans ho)) HOK.out)
  have HSG := hide (fun (W' : World) (ho : Only [] w1 W') => gStalled_is (HG.out _ (HO1.out.trans ho)))
  have HSR := hide (fun (W' : World) (ho : Only [] w1 W') => r9Stalled_is (HR.out _ (HO1.out.trans ho)))
  have hneq := heap_neq H s.L (resvL s.ss)
  go_region_held3 (fun w' => w'.cell? ⟨x, 0, none⟩ = some (.int .i64 H) ∧ w'.cell? ⟨x, 1, none⟩ = some (.int .i64 s.L) ∧ w'.cell? ⟨x, 2, none⟩ = some (.slice A2 s.ss.length c2)) (first | assumption | exact ⟨b0, b1, b2⟩ | exact HK2.out | go_keep) (first | (go_at_call 18; refine (HHP.out _ (by repeat (first | exact Only.refl _ _ | apply Only.drew))).mono ?_; rintro e w2 ⟨rfl, ho2⟩; have HO2 := hide (show Only [] w1 w2 from Only.trans (by repeat (first | exact Only.refl _ _ | apply Only.drew)) ho2); have HK2 := hide (HC.out w2 HO2.out); clear ho2) | (go_at_call 29; refine (HRS.out _ (by repeat (first | exact Only.refl _ _ | exact HO2.out | apply Only.drew))).mono ?_; rintro e w' ⟨rfl, hw'⟩; obtain rfl := hw'.symm) | (go_at_call 20; refine (HSG.out _ (by repeat (first | exact Only.refl _ _ | exact HO2.out | apply Only.drew))).mono ?_; rintro e w' ⟨rfl, hw'⟩; subst hw') | (go_at_call 30; refine (HSR.out _ (by repeat (first | exact Only.refl _ _ | exact HO2.out | apply Only.drew))).mono ?_; rintro e w' ⟨rfl, hw'⟩; obtain rfl := hw'.symm))
  all_goals
    clear b0 b1 b2 HHP HRS HSG HSR hneq HK2
    have HIS := hide (fun (W' : World) (ho : Only [] w2 W') => gInside_is (HG.out _ (HO1.out.trans (HO2.out.trans ho))) id)
    go_wp2
    go_loopw [8, 9] (fun bv iv wz => ∃ k : Nat, k ≤ s.ss.length ∧ iv = .int .i64 k ∧ bv = .bool (inK s.ss id k) ∧ Only [] w2 wz) (fun _ iv _ => s.ss.length - (intOf iv).toNat)
    case atStart => exact ⟨0, Nat.zero_le _, rfl, by simp [inK], Only.refl _ _⟩
    case round =>
      obtain ⟨k, hk, rfl, rfl, hoz⟩ := hrel
      have HZ := hide hoz
      by_cases hlt : k < s.ss.length
      · obtain ⟨t, ht⟩ : ∃ t, s.ss[k]? = some t := ⟨_, List.getElem?_eq_getElem hlt⟩
        obtain ⟨q1, rfl, _⟩ := HA1.out (by omega)
        obtain ⟨q2, rfl, _⟩ := HA2.out (by omega)
        obtain ⟨c0, c1', c2', c3⟩ := (HR1.out.only (HO2.out.trans hoz) (by simp)).cell rfl rfl ht
        obtain ⟨d0, d1, d2, d3⟩ := (HR.out _ (HO1.out.trans (HO2.out.trans hoz))).row.cell rfl rfl ht
        have m2 := (HC.out _ (HO2.out.trans hoz)).2.2
        have HIK := hide (inK_succ (id := id) ht)
        have hsn := seat_neq t
        clear hoz ht
        go_wp2_with fail
        go_quiet (fail)
        clear m2 d0 d1 d2 d3 hsn
        have e0 : (wr.drewN nq).cell? ⟨q1, k * 4, none⟩ = some (.int .i64 t.id) := c0
        have e3 : (wr.drewN nq).cell? ⟨q1, k * 4 + 3, none⟩ = some (.bool t.waits) := c3
        clear c0 c1' c2' c3
        revert HIK
        generalize inK s.ss id k = bk
        intro HIK
        have HZ2 := hide (HZ.out.drewN nq)
        revert HZ2
        generalize wr.drewN nq = wq at *
        intro HZ2
        cases bk with
        | true =>
          go_wp2
          go_roundw
          case rel => exact ⟨k + 1, hlt, by go_num, by rw [HIK.out]; rfl, HZ2.out⟩
          case measure => simp [intOf]; omega
        | false =>
          by_cases hid : t.id = id
          · have h1 : (t.id == id) = true := by rw [hid]; simp
            have HI := hide hid
            clear hid
            cases hw : t.waits with
            | true =>
              rw [hw] at e3
              go_wp2
              go_roundw
              case rel => exact ⟨k + 1, hlt, by go_num, by rw [HIK.out, h1, hw]; rfl, HZ2.out⟩
              case measure => simp [intOf]; omega
            | false =>
              rw [hw] at e3
              go_wp2
              go_roundw
              case rel => exact ⟨k + 1, hlt, by go_num, by rw [HIK.out, h1, hw]; rfl, HZ2.out⟩
              case measure => simp [intOf]; omega
          · have h1 : (t.id == id) = false := beq_eq_false_iff_ne.2 hid
            have HI := hide hid
            clear hid
            go_wp2
            go_roundw
            case rel => exact ⟨k + 1, hlt, by go_num, by rw [HIK.out, h1]; rfl, HZ2.out⟩
            case measure => simp [intOf]; omega
      · obtain rfl : k = s.ss.length := by omega
        rw [HIN.out]
        have HI1 := hide (HIS.out _ hoz)
        clear hoz
        go_wp2_with (go_at_call 23; refine HI1.out.mono ?_; rintro e w6 ⟨rfl, ho6⟩; have HO6 := hide ho6; clear ho6)
        go_ret
        exact ⟨by simp, HO1.out.trans (HO2.out.trans (HZ.out.trans HO6.out))⟩
end
end Go.Proofs.Ytflgcnlncljefaa
