/-
  Domains (parapet/rcu): Ready.
-/
import Derived.Test.YtjpojoflbjhjjaaNcDomS
import Derived.Test.YtjpojoflbjhjjaaNcDel0
namespace Go.Proofs.Ytjpojoflbjhjjaa
open Go.ChangeShapes Go.WideShapes Go.ChangeAt Go.RowKit Go.Maps
set_option linter.unusedVariables false
set_option linter.unusedSimpArgs false
/-- A row's first part. -/
theorem IRow.take {w : World} {A : Option Addr} {c : Nat} {ns : List Int} (h : IRow w (.slice A ns.length c) ns) (k : Nat) (hk : k ≤ ns.length) : IRow w (.slice A (ns.take k).length c) (ns.take k) := by
  by_cases h0 : 0 < ns.length
  · obtain ⟨b, cap, cur, e, hb, hl, hm⟩ := h.blk h0
    injection e with e1 e2 e3
    subst e1; subst e3
    refine IRow.of_blk (cur := i64l (ns.drop k) ++ cur) ?_ ?_ hm
    · rw [← List.append_assoc, ← i64l_append, List.take_append_drop]; exact hb
    · rw [List.length_append, i64l_length, List.length_drop, List.length_take]; omega
  · have e : ns = [] := List.eq_nil_of_length_eq_zero (by omega)
    subst e
    simpa using h
theorem drop_out {L : List (Int × Int)} {D : DataW Unit} {i : Nat} {x : Int × Int} (h : MHolds encI D (L.drop i)) (hx : L[i]? = some x) : (x.1, x.2) ∈ L.drop i ∧ outV (L.drop i) x.1 = L.drop (i + 1) := by
  have hlt := (List.getElem?_eq_some_iff.1 hx).1
  have he : L.drop i = x :: L.drop (i + 1) := by
    rw [List.drop_eq_getElem_cons hlt, (List.getElem?_eq_some_iff.1 hx).2]
  have hnd := h.nd
  rw [he] at hnd ⊢
  refine ⟨by simp, ?_⟩
  simp only [List.map_cons, List.nodup_cons] at hnd
  unfold outV
  rw [List.filter_cons]
  simp only [ne_eq, not_true_eq_false, decide_false, Bool.false_eq_true, if_false]
  refine List.filter_eq_self.2 (fun p hp => ?_)
  simp only [decide_eq_true_eq]
  intro e
  exact hnd.1 (by rw [← e]; exact List.mem_map.2 ⟨p, hp, rfl⟩)
section
variable {w w' w1 : World} {d nb pb m : Nat} {v : Value} {s : RS} {S F F' : List Nat}

set_option maxRecDepth 100000 in
set_option maxHeartbeats 2000000 in
theorem ready_some {b c : Nat} (h1 : IsRc w d nb pb m (.slice (some ⟨b, 0, none⟩) (s.L.map (·.1)).length c) s) (h2 : ∀ q ∈ footR d nb pb m (.slice (some ⟨b, 0, none⟩) (s.L.map (·.1)).length c), q ∈ F) (h3 : ∀ q ∈ F, q < w.heap.size)
    (k : Nat) (hk : k ≤ s.L.length) (hold : ∀ j x, j < k → s.L[j]? = some x → 2 ≤ s.ep - x.2) (hnew : ∀ x, s.L[k]? = some x → s.ep - x.2 < 2) (hw : ∀ x ∈ s.L, 0 ≤ x.2 ∧ x.2 ≤ s.ep) :
    Calls Try.prog 25 #[.pointer (some ⟨d, 0, none⟩)] w fun e w' => (∃ A c, e = .returned (.slice A k c)) ∧ DidR w w' d { s with L := s.L.drop k } F := by
  have HC := hide (rclosed_is ⟨nb, pb, m, _, h1, h2, h3⟩)
  obtain ⟨D, d1, d2⟩ := h1.own
  have HI := hide h1
  have H2 := hide h2
  have hlen := h1.ok.len
  have hep0 := h1.ok.ep0
  have hep1 := h1.ok.ep1
  have hmd : m ≠ d := ownsMap_ne d1 h1.blk
  have hml := ownsMap_lt d1
  have HDL := hide (show d < w.heap.size ∧ d ≠ m from ⟨h1.blk.lt, fun e => hmd e.symm⟩)
  have HML := hide hml
  obtain ⟨_, _, e0, hA0, hkc, hcm, hcell⟩ := IRow.form2 h1.row
  injection e0 with e0 _ e1
  subst e0; subst e1
  obtain ⟨b', eb, hbl, hcl⟩ := hcell _ rfl
  injection eb with eb
  subst eb
  have hbm : b ≠ m := fun e => by
    rcases h1.row.2 with ⟨e', _⟩ | ⟨b2, cap, cur, e', _, hg, _⟩
    · cases e'
    · injection e' with e' _ _
      injection e' with e'
      injection e' with e'
      subst e'
      exact ownsMap_ne d1 hg e.symm
  have HBM := hide (show b ≠ m ∧ b < w.heap.size from ⟨hbm, hbl⟩)
  have HCS := hide (fun W (ho : Only [] w W) => (show W.cell? ⟨d, 2, none⟩ = some (.int .i64 s.ep) ∧ W.cell? ⟨d, 3, none⟩ = some (.slice (some ⟨b, 0, none⟩) (s.L.map (·.1)).length c) ∧ W.cell? ⟨d, 4, none⟩ = some (.map (some m)) from
    ⟨(ho.cell h1.blk.lt (by simp)).trans h1.c2, (ho.cell h1.blk.lt (by simp)).trans h1.c3, (ho.cell h1.blk.lt (by simp)).trans h1.c4⟩))
  have HEL := hide (fun W (ho : Only [] w W) (j : Nat) (x : Int × Int) (hx : s.L[j]? = some x) => (show W.cell? ⟨b, j, none⟩ = some (.int .i64 x.1) ∧ (Instr.lookup 65 (.map (some m)) (.int .i64 x.1) false).run Try.prog W = .ok (.int .i64 x.2) W from
    ⟨(ho.cell hbl (by simp)).trans (hcl j _ (by simp [i64l, hx])), lookI d2 (ownsMap_only d1 ho (by simp)) (List.mem_of_getElem? hx) false⟩))
  have HMP := hide (fun W (ho : Only [] w W) => (show ∃ D, W.ownsMap Try.prog 3 elemI m (s.L.drop 0).length D ∧ MHolds encI D (s.L.drop 0) from ⟨D, ownsMap_only d1 ho (by simp), d2⟩))
  have hll0 : ((s.L.map (·.1)).take k).length = k := by rw [List.length_take, List.length_map]; omega
  have HCL := hide (fun W (ho : Only [] w W) => (show Calls Try.prog 43 #[.slice (some ⟨b, 0, none⟩) k c] W fun e w' => ∃ A5 c5, e = .returned (.slice A5 k c5) ∧ Only [] W w' ∧ ∀ (j : Nat) (x : Int × Int), j < k → s.L[j]? = some x → ∃ b5, A5 = some ⟨b5, 0, none⟩ ∧ W.heap.size ≤ b5 ∧ b5 < w'.heap.size ∧ w'.cell? ⟨b5, j, none⟩ = some (.int .i64 x.1) from by
    have h5 := cloneI_big (IRow.take (h1.row.only ho (by simp)) k (by rw [List.length_map]; exact hk)) (by rw [List.length_take, List.length_map]; omega)
    rw [hll0] at h5
    refine h5.mono ?_
    rintro e w' ⟨v', rfl, hr, hn, ho5⟩
    obtain ⟨A5, c5, rfl, hA5⟩ := KRow.form hr
    rw [hll0] at hA5 hn ⊢
    refine ⟨A5, c5, rfl, ho5, fun j x hj hx => ?_⟩
    obtain ⟨b5, rfl, _, hb5, hc5⟩ := hA5 (by omega)
    refine ⟨b5, rfl, hn b5 rfl, hb5, ?_⟩
    rw [hc5 j hj]
    simp [gb, List.getD, List.getElem?_take, hj, hx]))
  have HDEL := hide (fun W (ho : Only [m] w W) (D2 : DataW Unit) (e1 : W.ownsMap Try.prog 3 elemI m (s.L.drop k).length D2) (e2 : MHolds encI D2 (s.L.drop k)) => (show Calls Try.prog 47 #[.slice (some ⟨b, 0, none⟩) s.L.length c, .int .i64 0, .int .i64 k] W fun e w' => ∃ c2, e = .returned (.slice (some ⟨b, 0, none⟩) (s.L.length - k : Nat) c2) ∧ w'.cell? ⟨d, 3, none⟩ = some (.slice (some ⟨b, 0, none⟩) s.L.length c) ∧ w'.frozen? ⟨d, 3, none⟩ = false ∧ DidR w (w'.setCell ⟨d, 3, none⟩ (.slice (some ⟨b, 0, none⟩) (s.L.length - k : Nat) c2)) d { s with L := s.L.drop k } F from by
    have hrow := h1.row.only ho (fun q hq hm => by simp [Value.ownBlock] at hq; simp at hm; exact hbm (hq.trans hm))
    have key : Calls Try.prog 47 #[.slice (some ⟨b, 0, none⟩) (s.L.map (·.1)).length c, .int .i64 0, .int .i64 k] W fun e w' => ∃ v', e = .returned v' ∧ IRow w' v' ((s.L.map (·.1)).drop k) ∧ v'.ownBlock = some b ∧ Only [b] W w' := by
      by_cases hk0 : k = 0
      · subst hk0
        refine (delete_nought W _ _ _ (fun e => by cases e) hkc hcm).mono ?_
        rintro e w' ⟨rfl, rfl⟩
        exact ⟨_, rfl, hrow, rfl, Only.refl _ _⟩
      · refine (delete_is hrow k (by omega) (by rw [List.length_map]; exact hk)).mono ?_
        rintro e w' ⟨v', rfl, hr, hob, ho'⟩
        exact ⟨v', rfl, hr, hob, ho'⟩
    rw [List.length_map] at key
    refine key.mono ?_
    rintro e w' ⟨v', rfl, hr, hob, ho'⟩
    obtain ⟨A', c2, rfl, _, _, _, hc'⟩ := IRow.form2 hr
    obtain rfl : A' = some ⟨b, 0, none⟩ := by
      rcases A' with _ | ad
      · simp [Value.ownBlock] at hob
      · obtain ⟨b3, rfl, _⟩ := hc' ad rfl
        simp [Value.ownBlock] at hob
        rw [hob]
    have hln : ((s.L.map (·.1)).drop k).length = s.L.length - k := by rw [List.length_drop, List.length_map]
    have hbd : b ≠ d := h1.row.apart h1.blk (by decide) b rfl
    have hbn : b ≠ nb := fun e => h1.vn (by rw [← e]; rfl)
    have hbp : b ≠ pb := h1.vp b rfl
    have hmn := ownsMap_ne d1 h1.nests
    have hmp := ownsMap_ne d1 h1.pass
    have hnd : nb ≠ d := h1.nests.ne_ h1.blk (by decide)
    have hpd : pb ≠ d := h1.pass.ne_ h1.blk (by decide)
    have hB := (h1.blk.only ho (by simpa using fun e => hmd e.symm)).only ho' (by simpa using fun e => hbd e.symm)
    have hcell3 := hB.cell 3
    have hset : Only [d] w' (w'.setCell ⟨d, 3, none⟩ (.slice (some ⟨b, 0, none⟩) ((s.L.map (·.1)).drop k).length c2)) := (Only.refl [d] w').setCell (p := ⟨d, 3, none⟩) _ (by simp)
    have hfin : IsRc (w'.setCell ⟨d, 3, none⟩ (.slice (some ⟨b, 0, none⟩) ((s.L.map (·.1)).drop k).length c2)) d nb pb m (.slice (some ⟨b, 0, none⟩) ((s.L.map (·.1)).drop k).length c2) { s with L := s.L.drop k } := by
      refine ⟨hB.set_ 3 _, ?_, ?_, ?_, ⟨D2, ?_, e2⟩, fun e => hbn (by injection e), ⟨h1.ok.one, h1.ok.few, h1.ok.same, h1.ok.ep0, h1.ok.ep1, ?_⟩⟩
      · exact ((h1.nests.only ho (by simpa using fun e => hmn e.symm)).only ho' (by simpa using fun e => hbn e.symm)).only hset (by simpa using hnd)
      · exact ((h1.pass.only ho (by simpa using fun e => hmp e.symm)).only ho' (by simpa using fun e => hbp e.symm)).only hset (by simpa using hpd)
      · have h9 := KRow.only hr hset (fun q hq hm => by simp [Value.ownBlock] at hq; simp at hm; exact hbd (hq.trans hm))
        rw [List.map_drop]
        exact h9
      · exact ownsMap_only (ownsMap_only e1 ho' (by simpa using fun e => hbm e.symm)) hset (by simpa using hmd)
      · simp only [List.length_drop]; omega
    have hdid : DidR w (w'.setCell ⟨d, 3, none⟩ (.slice (some ⟨b, 0, none⟩) ((s.L.map (·.1)).drop k).length c2)) d { s with L := s.L.drop k } F := by
      refine hfin.pack ?_ (fun q hq => .inl (h2 q hq))
      refine ((ho.mono (fun q _ hq => ?_)).trans (ho'.mono (fun q _ hq => ?_))).trans (hset.mono (fun q _ hq => ?_))
      · rw [List.mem_singleton.1 hq]; exact h2 m (mem_footR.2 (.inr (.inr (.inr (.inl rfl)))))
      · rw [List.mem_singleton.1 hq]; exact h2 b (mem_footR.2 (.inr (.inr (.inr (.inr rfl)))))
      · rw [List.mem_singleton.1 hq]; exact h2 d (mem_footR.2 (.inl rfl))
    rw [hln] at hdid ⊢
    refine ⟨c2, rfl, ?_, hB.frozen 3, hdid⟩
    rw [hcell3]
    simp))
  have hkcI : (k : Int) ≤ c := by rw [List.length_map] at hkc; omega
  have hkI : (k : Int) ≤ s.L.length := by omega
  have hkb : (k : Int) < 3900000000000 := by omega
  have HN := hide hnew
  have HO := hide hold
  have HW := hide hw
  clear hll0 h1 h2 h3 d1 d2 hcl hcell hA0 hold hnew hw hcm
  go_enter Try.func25, Try.ntmps25
  go_wp2_with (go_at_call 42; refine HC.out.mono ?_; rintro e w' ⟨rfl, rfl⟩)
  go_loopw [3] (fun iv wr => ∃ (i : Nat), i ≤ k ∧ iv = .int .i64 i ∧ Only [] w wr) (fun iv _ => k + 1 - (intOf iv).toNat)
  case atStart => exact ⟨0, Nat.zero_le _, rfl, Only.refl _ _⟩
  case round =>
    obtain ⟨i, hi, rfl, ho⟩ := hrel
    have HOR := hide ho
    obtain ⟨y2, y3, y4⟩ := HCS.out _ ho
    obtain ⟨y2', y3', y4'⟩ := HCS.out _ ho.drew
    rw [List.length_map] at y3 y3'
    have hiI : (i : Int) ≤ k := by omega
    by_cases hll : i < s.L.length
    · have hllI : (i : Int) < s.L.length := by omega
      obtain ⟨x, hx⟩ : ∃ x, s.L[i]? = some x := ⟨_, List.getElem?_eq_getElem hll⟩
      obtain ⟨z1, z2⟩ := HEL.out _ ho i x hx
      obtain ⟨z1', z2'⟩ := HEL.out _ ho.drew i x hx
      obtain ⟨hx0, hx1⟩ := HW.out x (List.mem_of_getElem? hx)
      have HX := hide hx
      have hwr : wrap64 (s.ep - x.2) = s.ep - x.2 := by rw [wrap64]; omega
      by_cases hlt : i < k
      · have hge : decide (2 ≤ s.ep - x.2) = true := decide_eq_true (HO.out i x hlt hx)
        clear ho hx
        go_wp2_with fail
        go_region
        go_wp2_with fail
        go_roundw
        case rel => exact ⟨i + 1, hlt, by go_num, HOR.out.drew⟩
        case measure => simp [intOf]; omega
      · obtain rfl : i = k := by omega
        have hge : decide (2 ≤ s.ep - x.2) = false := decide_eq_false (by have := HN.out x hx; omega)
        clear ho hx
        go_wp2_with fail
        go_region
        clear z1 z2 z1' z2' hwr hge hx0 hx1 HX
        go_wp2_with (go_at_call 43; refine (HCL.out _ HOR.out.drew).mono ?_; rintro e w5 ⟨A5, c5, rfl, ho5, h5⟩; have HO5 := hide (HOR.out.drew.trans ho5); have H5 := hide (And.intro h5 HOR.out.drew.size); clear ho5 h5)
        go_loopw [47] (fun iv wl => ∃ (j : Nat), j ≤ i ∧ iv = .int .i64 j ∧ Only [m] w5 wl ∧ ∃ D, wl.ownsMap Try.prog 3 elemI m (s.L.drop j).length D ∧ MHolds encI D (s.L.drop j)) (fun iv _ => i - (intOf iv).toNat)
        case atStart => exact ⟨0, Nat.zero_le _, rfl, Only.refl _ _, HMP.out _ HO5.out⟩
        case round =>
          obtain ⟨j, hj, rfl, ho, D2, e1, e2⟩ := hrel
          have HOL := hide ho
          have hdn := Nat.lt_of_lt_of_le HDL.out.1 HO5.out.size
          have z4 := (ho.cell (o := 4) (s := none) hdn (by simpa using HDL.out.2)).trans (HCS.out _ HO5.out).2.2
          have z3 := (ho.cell (o := 3) (s := none) hdn (by simpa using HDL.out.2)).trans (HCS.out _ HO5.out).2.1
          rw [List.length_map] at z3
          have hjb : (j : Int) ≤ i := by omega
          by_cases hlt : j < i
          · have hltI : (j : Int) < i := by omega
            obtain ⟨x, hx⟩ : ∃ x, s.L[j]? = some x := ⟨_, List.getElem?_eq_getElem (by omega)⟩
            obtain ⟨b5, rfl, hn5, hb5, hc5⟩ := H5.out.1 j x hlt hx
            have z := (ho.cell hb5 (by simp; have := HML.out; have := H5.out.2; omega)).trans hc5
            obtain ⟨hd1, hd2⟩ := drop_out e2 hx
            obtain ⟨w6, hrun, hown, ho6⟩ := dropI e2 e1 hd1 0
            have hd3 := e2.del hd1
            rw [hd2] at hown hd3
            have HOWN := hide hown
            have HD3 := hide hd3
            have HO6 := hide (ho.trans ho6)
            clear e1 e2 ho ho6 hown hd3 hd1 hd2 hc5 hx z3 hn5 hb5
            go_wp2_with fail
            go_roundw
            case rel => exact ⟨j + 1, hlt, by go_num, HO6.out, _, HOWN.out, HD3.out⟩
            case measure => simp [intOf]; omega
          · obtain rfl : j = i := by omega
            have HDE := hide (HDEL.out _ ((HO5.out.mono (by simp)).trans HOL.out) D2 e1 e2)
            clear e1 e2 ho
            go_wp2_with (go_at_call 47; refine HDE.out.mono ?_; rintro e w7 ⟨c2, rfl, x3, xf, hdid⟩; have HDD := hide hdid; clear hdid)
            go_ret
            exact ⟨⟨A5, c5, rfl⟩, HDD.out⟩
    · obtain rfl : i = k := by omega
      have hnl : ¬ (i : Int) < s.L.length := by omega
      clear ho
      go_wp2_with fail
      go_region
      go_wp2_with (go_at_call 43; refine (HCL.out _ HOR.out.drew).mono ?_; rintro e w5 ⟨A5, c5, rfl, ho5, h5⟩; have HO5 := hide (HOR.out.drew.trans ho5); have H5 := hide (And.intro h5 HOR.out.drew.size); clear ho5 h5)
      go_loopw [47] (fun iv wl => ∃ (j : Nat), j ≤ i ∧ iv = .int .i64 j ∧ Only [m] w5 wl ∧ ∃ D, wl.ownsMap Try.prog 3 elemI m (s.L.drop j).length D ∧ MHolds encI D (s.L.drop j)) (fun iv _ => i - (intOf iv).toNat)
      case atStart => exact ⟨0, Nat.zero_le _, rfl, Only.refl _ _, HMP.out _ HO5.out⟩
      case round =>
        obtain ⟨j, hj, rfl, ho, D2, e1, e2⟩ := hrel
        have HOL := hide ho
        have hdn := Nat.lt_of_lt_of_le HDL.out.1 HO5.out.size
        have z4 := (ho.cell (o := 4) (s := none) hdn (by simpa using HDL.out.2)).trans (HCS.out _ HO5.out).2.2
        have z3 := (ho.cell (o := 3) (s := none) hdn (by simpa using HDL.out.2)).trans (HCS.out _ HO5.out).2.1
        rw [List.length_map] at z3
        have hjb : (j : Int) ≤ i := by omega
        by_cases hlt : j < i
        · have hltI : (j : Int) < i := by omega
          obtain ⟨x, hx⟩ : ∃ x, s.L[j]? = some x := ⟨_, List.getElem?_eq_getElem (by omega)⟩
          obtain ⟨b5, rfl, hn5, hb5, hc5⟩ := H5.out.1 j x hlt hx
          have z := (ho.cell hb5 (by simp; have := HML.out; have := H5.out.2; omega)).trans hc5
          obtain ⟨hd1, hd2⟩ := drop_out e2 hx
          obtain ⟨w6, hrun, hown, ho6⟩ := dropI e2 e1 hd1 0
          have hd3 := e2.del hd1
          rw [hd2] at hown hd3
          have HOWN := hide hown
          have HD3 := hide hd3
          have HO6 := hide (ho.trans ho6)
          clear e1 e2 ho ho6 hown hd3 hd1 hd2 hc5 hx z3 hn5 hb5
          go_wp2_with fail
          go_roundw
          case rel => exact ⟨j + 1, hlt, by go_num, HO6.out, _, HOWN.out, HD3.out⟩
          case measure => simp [intOf]; omega
        · obtain rfl : j = i := by omega
          have HDE := hide (HDEL.out _ ((HO5.out.mono (by simp)).trans HOL.out) D2 e1 e2)
          clear e1 e2 ho
          go_wp2_with (go_at_call 47; refine HDE.out.mono ?_; rintro e w7 ⟨c2, rfl, x3, xf, hdid⟩; have HDD := hide hdid; clear hdid)
          go_ret
          exact ⟨⟨A5, c5, rfl⟩, HDD.out⟩

set_option maxRecDepth 100000 in
theorem ready_none (h1 : IsRc w d nb pb m (.slice none 0 0) s) (h2 : ∀ q ∈ footR d nb pb m (.slice none 0 0), q ∈ F) (h3 : ∀ q ∈ F, q < w.heap.size) (hL : s.L = []) :
    Calls Try.prog 25 #[.pointer (some ⟨d, 0, none⟩)] w fun e w' => (∃ A c, e = .returned (.slice A 0 c)) ∧ DidR w w' d s F := by
  have HC := hide (rclosed_is ⟨nb, pb, m, _, h1, h2, h3⟩)
  have HCS := hide (fun W (ho : Only [] w W) => (show W.cell? ⟨d, 3, none⟩ = some (.slice none 0 0) ∧ W.frozen? ⟨d, 3, none⟩ = false from ⟨((h1.only ho (by simp)).c3), (h1.only ho (by simp)).fr 3⟩))
  have HCL := hide (fun W => cloneI_big (show IRow W (.slice none 0 0) [] from KRow.nil _ _ _ _) (by decide))
  have HDE := hide (fun W => delete_nought W none 0 0 (fun _ => ⟨rfl, rfl⟩) (Nat.le_refl _) (Nat.zero_le _))
  have HF := hide (fun W (ho : Only [] w W) => (show DidR w (W.setCell ⟨d, 3, none⟩ (.slice none 0 0)) d s F from by
    have hI := h1.only ho (by simp)
    have hset : Only [d] W (W.setCell ⟨d, 3, none⟩ (.slice none 0 0)) := (Only.refl [d] W).setCell (p := ⟨d, 3, none⟩) _ (by simp)
    obtain ⟨D, d1, d2⟩ := hI.own
    refine IsRc.pack (v := .slice none 0 0) ⟨hI.blk.set_ 3 _, hI.nests.only hset (by simpa using hI.nests.ne_ hI.blk (by decide)), hI.pass.only hset (by simpa using hI.pass.ne_ hI.blk (by decide)), ?_, ⟨D, ownsMap_only d1 hset (by simpa using ownsMap_ne d1 hI.blk), d2⟩, by simp [Value.ownBlock], hI.ok⟩ ((ho.mono (by simp)).trans (hset.mono (fun q _ hq => ?_))) (fun q hq => .inl (h2 q hq))
    · rw [hL]; exact KRow.nil _ _ _ _
    · rw [List.mem_singleton.1 hq]; exact h2 d (mem_footR.2 (.inl rfl))))
  clear h1 h2 h3 hL
  obtain ⟨c3, f3⟩ := HCS.out _ (Only.refl _ _)
  obtain ⟨c3', f3'⟩ := HCS.out _ (Only.refl _ _).drew
  go_enter Try.func25, Try.ntmps25
  go_wp2_with (go_at_call 42; refine HC.out.mono ?_; rintro e w' ⟨rfl, rfl⟩)
  go_loopw [3] (fun iv wr => iv = .int .i64 0 ∧ Only [] w wr) (fun iv _ => 0)
  case atStart => exact ⟨rfl, Only.refl _ _⟩
  case round =>
    obtain ⟨rfl, ho⟩ := hrel
    have HOR := hide ho
    obtain ⟨y3, -⟩ := HCS.out _ ho
    obtain ⟨y3', -⟩ := HCS.out _ ho.drew
    clear ho
    go_wp2_with fail
    go_region
    go_wp2_with (go_at_call 43; refine (HCL.out _).mono ?_; rintro e w5 ⟨v5, rfl, hr5, hn5, ho5⟩; obtain ⟨A5, c5, rfl, hA5⟩ := KRow.form hr5; have HO5 := hide (HOR.out.drew.trans ho5); clear ho5 hr5 hn5 hA5)
    obtain ⟨z3, zf⟩ := HCS.out _ HO5.out
    go_wp2_with fail
    go_loopw [47] (fun iv wl => iv = .int .i64 0 ∧ wl = w5) (fun iv _ => 0)
    case atStart => exact ⟨rfl, rfl⟩
    case round =>
      obtain ⟨rfl, rfl⟩ := hrel
      go_wp2_with (go_at_call 47; refine (HDE.out _).mono ?_; rintro e w7 ⟨rfl, rfl⟩)
      go_ret
      exact ⟨⟨A5, c5, rfl⟩, HF.out _ HO5.out⟩

/-- Ready: the first k, which are old enough. -/
theorem rReady_is (h : Rc w d s F) (k : Nat) (hk : k ≤ s.L.length) (hold : ∀ j x, j < k → s.L[j]? = some x → 2 ≤ s.ep - x.2) (hnew : ∀ x, s.L[k]? = some x → s.ep - x.2 < 2) (hw : ∀ x ∈ s.L, 0 ≤ x.2 ∧ x.2 ≤ s.ep) :
    Calls Try.prog 25 #[.pointer (some ⟨d, 0, none⟩)] w fun e w' => (∃ A c, e = .returned (.slice A k c)) ∧ DidR w w' d { s with L := s.L.drop k } F := by
  obtain ⟨nb, pb, m, v, h1, h2, h3⟩ := h
  obtain ⟨A, c, rfl, hA, _, _, hc⟩ := IRow.form2 h1.row
  rcases A with _ | ad
  · obtain ⟨e0, rfl⟩ := hA rfl
    have hL : s.L = [] := List.eq_nil_of_length_eq_zero (by simpa using e0)
    have hk0 : k = 0 := by rw [hL] at hk; simpa using hk
    subst hk0
    rw [e0] at h1 h2
    exact ready_none h1 h2 h3 hL
  · obtain ⟨b, rfl, _⟩ := hc ad rfl
    exact ready_some h1 h2 h3 k hk hold hnew hw
end
end Go.Proofs.Ytjpojoflbjhjjaa
