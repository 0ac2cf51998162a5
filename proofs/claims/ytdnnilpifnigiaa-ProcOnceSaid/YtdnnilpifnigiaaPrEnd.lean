/-
  Processes and threads (parapet/proc): end.
-/
import Derived.Test.YtdnnilpifnigiaaPrInv2
namespace Go.Proofs.Ytdnnilpifnigiaa
open Go.ChangeShapes Go.WideShapes Go.ChangeAt Go.RowKit Go.Maps
set_option linter.unusedVariables false
set_option linter.unusedSimpArgs false
theorem gb_at {l : List Int} {i : Nat} (h : i < l.length) : gb l i = l[i] := by simp [gb, List.getD, List.getElem?_eq_getElem h]
/-- The threads that are left when i of a process's are gone. -/
def TI (T : List S4) (pid : Int) (i : Nat) : List S4 := T.filter fun y => decide (y.tid ∉ (thP T pid).take i)
theorem TI_zero (T : List S4) (pid : Int) : TI T pid 0 = T := by
  unfold TI
  exact List.filter_eq_self.2 (fun y _ => by simp)
theorem TI_step {T : List S4} (nd : (T.map (·.tid)).Nodup) (pid : Int) {i : Nat} (hi : i < (thP T pid).length) : ∃ y ∈ TI T pid i, y.tid = gb (thP T pid) i ∧ delT (TI T pid i) y.tid = TI T pid (i + 1) := by
  have hl : (thP T pid).Nodup := (thP_sub T pid).nodup nd
  obtain ⟨y, hy, e⟩ := List.mem_map.1 ((thP_sub T pid).subset (List.getElem_mem hi))
  have hn : (thP T pid)[i] ∉ (thP T pid).take i := fun hm => by
    obtain ⟨j, hj, e2⟩ := List.getElem_of_mem hm
    rw [List.length_take] at hj
    rw [List.getElem_take] at e2
    have := (List.getElem_inj (h₀ := by omega) (h₁ := hi) hl).1 e2
    omega
  refine ⟨y, List.mem_filter.2 ⟨hy, by rw [e]; simpa using hn⟩, by rw [gb_at hi]; exact e, ?_⟩
  unfold delT TI
  rw [List.filter_filter]
  refine List.filter_congr fun x hx => ?_
  rw [List.take_add_one, List.getElem?_eq_getElem hi, e]
  simp only [Option.toList_some, List.mem_append, List.mem_singleton]
  by_cases h1 : x.tid = (thP T pid)[i]
  · simp [h1]
  · simp [h1]
theorem TI_end {T : List S4} (nd : (T.map (·.tid)).Nodup) (pid : Int) : TI T pid (thP T pid).length = endT T pid := by
  unfold TI endT
  rw [List.take_length]
  refine List.filter_congr fun x hx => ?_
  have : x.tid ∈ thP T pid ↔ x.pid = pid := by
    unfold thP
    rw [List.mem_map]
    constructor
    · rintro ⟨y, hy, e⟩
      obtain ⟨hy1, hy2⟩ := List.mem_filter.1 hy
      rw [← uniqT nd hy1 hx e]
      simpa using hy2
    · intro e
      exact ⟨x, List.mem_filter.2 ⟨hx, by simp [e]⟩, rfl⟩
  simp [this]
/-- The processes when i children have got their heir. -/
def PI (P : List K5) (pid hr : Int) (i : Nat) : List K5 := ((chP P pid).take i).foldl (one hr) P
theorem PI_step {P : List K5} (nd : (P.map (·.pid)).Nodup) (pid hr : Int) {i : Nat} (hi : i < (chP P pid).length) : ∃ x ∈ PI P pid hr i, x.pid = gb (chP P pid) i ∧ keepP (PI P pid hr i) (parK x hr) = PI P pid hr (i + 1) := by
  have hl : (chP P pid).Nodup := (chP_sub P pid).nodup nd
  have hsub : ∀ c ∈ (chP P pid).take i, c ∈ P.map (·.pid) := fun c hc => (chP_sub P pid).subset (List.mem_of_mem_take hc)
  obtain ⟨x, hx, e⟩ := List.mem_map.1 ((chP_sub P pid).subset (List.getElem_mem hi))
  have hn : (chP P pid)[i] ∉ (chP P pid).take i := fun hm => by
    obtain ⟨j, hj, e2⟩ := List.getElem_of_mem hm
    rw [List.length_take] at hj
    rw [List.getElem_take] at e2
    have := (List.getElem_inj (h₀ := by omega) (h₁ := hi) hl).1 e2
    omega
  have hfe := fold_eq (hr := hr) ((chP P pid).take i) P nd ((List.take_sublist _ _).nodup hl) hsub
  have hx2 : x ∈ PI P pid hr i := by
    unfold PI
    rw [hfe]
    exact List.mem_filterMap.2 ⟨x, hx, by rw [e, if_neg hn]⟩
  have nd2 : ((PI P pid hr i).map (·.pid)).Nodup := by
    unfold PI
    rw [hfe]
    refine (fm_sub ?_).nodup nd
    intro k e h
    split at h
    · exact movK_pid h
    · injection h with h; rw [h]
  refine ⟨x, hx2, by rw [gb_at hi]; exact e, ?_⟩
  have : PI P pid hr (i + 1) = one hr (PI P pid hr i) (chP P pid)[i] := by
    unfold PI
    rw [List.take_add_one, List.getElem?_eq_getElem hi, List.foldl_append]
    rfl
  rw [this]
  unfold one
  rw [← e, getK_at nd2 hx2]
theorem PI_len {P : List K5} (nd : (P.map (·.pid)).Nodup) (pid hr : Int) (i : Nat) : (PI P pid hr i).length ≤ P.length := by
  have hl : (chP P pid).Nodup := (chP_sub P pid).nodup nd
  unfold PI
  rw [fold_eq _ _ nd ((List.take_sublist _ _).nodup hl) (fun c hc => (chP_sub P pid).subset (List.mem_of_mem_take hc))]
  exact List.length_filterMap_le _ _
theorem keepP_len (P : List K5) (e : K5) : (keepP P e).length ≤ P.length := by
  unfold keepP
  split
  · exact List.length_filter_le _ _
  · unfold setK; simp
section
variable {w w' w1 : World} {t a b : Nat} {s : PS} {S : List Nat} {x : K5} {y : S4}
set_option maxRecDepth 100000 in
set_option maxHeartbeats 2000000 in
theorem end_is (h : IsPt w t a b s) (sp : (s.P.map (·.pid)).Pairwise (· < ·)) (st : (s.T.map (·.tid)).Pairwise (· < ·)) {k : K5} (hk : k ∈ s.P) (lP : s.P.length < 100000) (lT : s.T.length < 100000) (code : Int) :
    Calls Try.prog 32 #[.pointer (some ⟨t, 0, none⟩), .int .i64 k.pid, .int .i64 code] w fun e w' => e = .returned (.tuple #[]) ∧ IsPt w' t a b (endS s k.pid code) ∧ Only [a, b] w w' := by
  obtain ⟨l1, l2, l3⟩ := h.lt_
  have nd := pw_nodup sp
  have ndt := pw_nodup st
  have HTO := hide (thof_is h st lT k.pid)
  have H := hide h
  have HT := hide (fun (i : Nat) (hi : i < (thP s.T k.pid).length) => TI_step ndt k.pid hi)
  have HTE := hide (TI_end ndt k.pid)
  have HK := hide hk
  have hP1 : endP1 s.P k.pid code = keepP s.P (zomK k code) := by unfold endP1; rw [getK_at nd hk]
  have HP1 := hide hP1
  have sp1 : ((endP1 s.P k.pid code).map (·.pid)).Pairwise (· < ·) := keepP_pw sp _
  have HL1 := hide (show (endP1 s.P k.pid code).length < 100000 from Nat.lt_of_le_of_lt (keepP_len _ _) lP)
  have HSP1 := hide sp1
  have HL := hide (And.intro l1 (And.intro l2 l3))
  have HB := hide (And.intro lP lT)
  clear h hk lP lT nd ndt sp st hP1 sp1 l1 l2 l3
  go_enter Try.func32, Try.ntmps32
  go_wp2_with (go_at_call 31; refine HTO.out.mono ?_; rintro e w2 ⟨v, rfl, hr, ho⟩; obtain ⟨A, cap, rfl, hA⟩ := hr.form; have HA := hide hA; have HO2 := hide ho; clear ho hr hA)
  have hb2 : ∀ q, w.heap.size ≤ q → q ≠ b := fun q hq => by have := HL.out.2.2; omega
  have hnb : (thP s.T k.pid).length < 100000 := by
    have h1 := (thP_sub s.T k.pid).length_le
    have h2 := HB.out.2
    rw [List.length_map] at h1
    omega
  generalize (thP s.T k.pid).length = n at *
  go_loopw [17] (fun iv wr => ∃ i : Nat, i ≤ n ∧ iv = .int .i64 i ∧ IsPt wr t a b { s with T := TI s.T k.pid i } ∧ Only [b] w2 wr) (fun iv _ => n - (intOf iv).toNat)
  case atStart => exact ⟨0, Nat.zero_le _, rfl, by rw [TI_zero]; exact H.out.quiet HO2.out, Only.refl _ _⟩
  case round =>
    obtain ⟨i, hi, rfl, hI, ho⟩ := hrel
    have HO := hide ho
    have HI := hide hI
    by_cases hlt : i < n
    · have hltI : (i : Int) < n := by omega
      obtain ⟨q, rfl, hq1, hq2, hq3⟩ := HA.out (by omega)
      obtain ⟨y, hy, e1, e2⟩ := HT.out i hlt
      have cq : wr.cell? ⟨q, i, none⟩ = some (.int .i64 y.tid) := by
        rw [e1]
        exact (ho.cell hq2 (by simpa using hb2 q hq1)).trans (hq3 i (by omega))
      have c1 := hI.c1
      obtain ⟨w4, hrun, h5, ho4⟩ := hI.delT (y := y) hy 0 (Only.refl _ _)
      have H5 := hide h5
      have HO4 := hide ho4
      have HE2 := hide e2
      clear ho hI hy e1 e2 h5 ho4 hq3
      generalize y.tid = z at *
      go_wp2
      go_roundw
      case rel =>
        have h6 := H5.out
        have e : delT (TI s.T k.pid i) z = TI s.T k.pid (i + 1) := HE2.out
        dsimp only at h6
        rw [e] at h6
        exact ⟨i + 1, hlt, by go_num, h6, HO.out.trans HO4.out⟩
      case measure => simp [intOf]; omega
    · obtain rfl : i = n := by omega
      have hI2 : IsPt wr t a b { s with T := endT s.T k.pid } := by
        have h6 := HI.out
        rw [HTE.out] at h6
        exact h6
      have HOW := hide (show Only [b] w wr from (HO2.out.mono (by simp)).trans HO.out)
      have c0 := hI2.c0
      have hl := hI2.seeK HK.out false (Only.refl _ _)
      have HKP := hide (fun W (ho : Only [] wr W) => keep_is (x := zomK k code) (hI2.quiet ho) HK.out rfl HB.out.1)
      clear hI ho HA HT HTE HTO H
      have HES := hide (show endS s k.pid code = { s with T := endT s.T k.pid, P := PI (endP1 s.P k.pid code) k.pid (heirP (endP1 s.P k.pid code)) (chP (endP1 s.P k.pid code) k.pid).length } from by
        unfold endS endP PI
        rw [List.take_length])
      have HZ := hide (show IsPt wr t a b { s with T := endT s.T k.pid } from hI2)
      clear hI2
      rw [← HP1.out] at HKP
      clear HP1
      have HNP := hide (pw_nodup HSP1.out)
      generalize hPP : endP1 s.P k.pid code = P1 at *
      clear hPP
      have HPL := hide (fun i => Nat.lt_of_le_of_lt (PI_len HNP.out k.pid (heirP P1) i) HL1.out)
      have HPS := hide (fun (i : Nat) (hi : i < (chP P1 k.pid).length) => PI_step HNP.out k.pid (heirP P1) hi)
      obtain ⟨k1, k2, k3, k4⟩ := k
      dsimp only [kV, kC, zomK] at *
      have hcl := HL.out
      go_wp2_with (first | (go_at_call 53; refine (HKP.out _ ((Only.refl _ _).alloc _)).mono ?_; rintro e w5 ⟨rfl, h5, ho5⟩; have H5 := hide h5; have HO5 := hide ((((Only.refl [a] wr).alloc _)).trans ho5); clear h5 ho5) | (go_at_call 54; refine (heir_is H5.out).mono ?_; rintro e w6 ⟨rfl, ho6⟩; have H6 := hide (H5.out.quiet ho6); have HO6 := hide (HO5.out.trans (ho6.mono (by simp))); clear ho6) | (go_at_call 18; refine (children_is H6.out HSP1.out HL1.out _).mono ?_; rintro e w7 ⟨v7, rfl, hr7, ho7⟩; obtain ⟨A7, cap7, rfl, hA7⟩ := hr7.form; have HA7 := hide hA7; have H7 := hide (H6.out.quiet ho7); have HO7 := hide (HO6.out.trans (ho7.mono (by simp))); clear hr7 hA7 ho7))
      have hs6 : wr.heap.size ≤ w6.heap.size := HO6.out.size
      have hs0 : w.heap.size ≤ wr.heap.size := HOW.out.size
      have hmb : (chP P1 k1).length < 100000 := by
        have h1 := (chP_sub P1 k1).length_le
        have h2 := HL1.out
        rw [List.length_map] at h1
        omega
      generalize (chP P1 k1).length = m at *
      generalize hhr : heirP P1 = hr at *
      clear hhr
      go_loopw [45] (fun iv wz => ∃ i : Nat, i ≤ m ∧ iv = .int .i64 i ∧ IsPt wz t a b { s with T := endT s.T k1, P := PI P1 k1 hr i } ∧ Only [a] w7 wz) (fun iv _ => m - (intOf iv).toNat)
      case atStart => exact ⟨0, Nat.zero_le _, rfl, H7.out, Only.refl _ _⟩
      case round =>
        rename_i wy _
        obtain ⟨i, hi, rfl, hI, ho⟩ := hrel
        have HO := hide ho
        have HI := hide hI
        by_cases hlt : i < m
        · have hltI : (i : Int) < m := by omega
          obtain ⟨q, rfl, hq1, hq2, hq3⟩ := HA7.out (by omega)
          obtain ⟨x, hx, e1, e2⟩ := HPS.out i hlt
          have cq : wr.cell? ⟨q, i, none⟩ = some (.int .i64 x.pid) := by
            rw [e1]
            exact (ho.cell hq2 (by simp; omega)).trans (hq3 i (by omega))
          have c1 := hI.c0
          have hl := hI.seeK hx false (Only.refl _ _)
          have HKQ := hide (fun W (ho : Only [] wr W) => keep_is (x := parK x hr) (hI.quiet ho) hx rfl (HPL.out i))
          have HE2 := hide e2
          clear ho hI hx e1 e2 hq3
          obtain ⟨x1, x2, x3, x4⟩ := x
          dsimp only [kV, kC, parK] at *
          go_wp2_with (go_at_call 53; refine (HKQ.out _ ((Only.refl _ _).alloc _)).mono ?_; rintro e w8 ⟨rfl, h8, ho8⟩; have H8 := hide h8; have HO8 := hide ((((Only.refl [a] wr).alloc _)).trans ho8); clear h8 ho8)
          go_roundw
          case rel =>
            have h6 := H8.out
            rw [HE2.out] at h6
            exact ⟨i + 1, hlt, by go_num, h6, HO.out.trans HO8.out⟩
          case measure => simp [intOf]; omega
        · obtain rfl : i = m := by omega
          go_wp2
          go_end0
          refine ⟨rfl, ?_, ?_⟩
          · rw [HES.out]; exact HI.out
          · exact ((HOW.out.mono (by intro q _ hq; simp at hq ⊢; omega)).trans (HO7.out.mono (by intro q _ hq; simp at hq ⊢; omega))).trans (HO.out.mono (by intro q _ hq; simp at hq ⊢; omega))
end
end Go.Proofs.Ytdnnilpifnigiaa
