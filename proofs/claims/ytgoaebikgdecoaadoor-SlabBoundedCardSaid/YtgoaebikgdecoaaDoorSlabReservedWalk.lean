/-
  The walk of 'SlabReserved'.
-/
import Derived.Test.YtgoaebikgdecoaaDoorSlabOpsRd
namespace Go.Proofs.YtgoaebikgdecoaaDoor
open Go.ChangeShapes Go.WideShapes Go.ChangeAt Go.RowKit Go.Deep
set_option linter.unusedVariables false

theorem usedL_pos {L : Int} {ss : List SL} {O : List (Int × Int)} (h : OkH L ss O) (hne : O ≠ []) : 0 < usedL ss := by
  obtain ⟨x, r, rfl⟩ := List.exists_cons_of_ne_nil hne
  obtain ⟨n, s, p, h1, h2, h3, h4, _⟩ := liveAt_low ((h.keys x.1).1 (by simp))
  have hok := h.good s (List.mem_of_getElem? h1)
  have hlt := popN_lt 64 _ _ hok.2
  have hne2 : pop s.free ≠ (plF s.kind).toNat := fun e => by
    have := popN_full 64 _ _ hok.2 e p h3
    rw [h4] at this; cases this
  have hsz : 0 < szF s.kind := by
    have h1 := szF_le s.kind
    rcases Int.lt_or_eq_of_le h1.1 with h | h
    · exact h
    · have : plF s.kind = 0 := by unfold plF; rw [if_pos h.symm]
      rw [this] at h3; simp at h3
  have hu : 0 < useL s := by
    unfold useL
    refine Int.mul_pos ?_ hsz
    have := plF_le s.kind
    unfold pop at hne2 ⊢
    omega
  have hall : ∀ t : List SL, (∀ y ∈ t, okL y) → s ∈ t → 0 < usedL t := by
    intro t
    induction t with
    | nil => intro _ hm; simp at hm
    | cons y t ih =>
      intro hg hm
      have h1 := useL_ok (hg y (by simp))
      have h2 := usedL_part (ss := t) fun z hz => hg z (by simp [hz])
      simp only [usedL, List.map_cons, List.sum_cons] at h2 ⊢
      rcases List.mem_cons.1 hm with rfl | hm
      · omega
      · have := ih (fun z hz => hg z (by simp [hz])) hm
        unfold usedL at this
        omega
  exact hall ss h.good (List.mem_of_getElem? h1)
theorem alloc_fail {L : Int} {ss : List SL} {O : List (Int × Int)} {k owner : Int} (h : (allocF L ss O k owner).2.2 ≠ 0) : (allocF L ss O k owner).1 = (ss, O) := by
  unfold allocF at h ⊢
  split
  · rfl
  · split
    · rename_i h1 h2; rw [if_neg h1, if_pos h2] at h; exact absurd rfl h
    · split
      · rfl
      · rename_i h1 h2 h3; rw [if_neg h1, if_neg h2, if_neg h3] at h; exact absurd rfl h
section
variable {w0 w w' : World} {g m : Nat} {L : Int} {ss : List SL} {O : List (Int × Int)}
theorem Hp8.out (h : Hp8 w0 w g m L ss O) : Only [] w0 w := by obtain ⟨_, _, _, _, _, _, h6⟩ := h; exact h6
theorem Hp8.ok (h : Hp8 w0 w g m L ss O) : OkH L ss O := by obtain ⟨_, _, h2, _⟩ := h; exact h2
theorem hp_fits (hT : TabS w0) (h : Hp8 w0 w g m L ss O) (A : Option Addr) (zs : List Int) (c : Nat) (hzl : zs.length ≤ 9223372036854775807) (hz : KsAt w0 A zs) :
    Calls Tryd.prog 15 #[.pointer (some ⟨g, 0, none⟩), .slice A zs.length c] w fun e w' => e = .returned (.bool (fitsF (spareF ss) (moreF L ss) zs)) ∧ Hp8 w0 w' g m L ss O := by
  have h' := h
  obtain ⟨v, h1, h2, h3, h4, h5, h6⟩ := h
  refine (hFits_is h1 h2 (hT.only h6 (by simp)) A zs c hzl (hz.only h6)).mono ?_
  rintro e w' ⟨rfl, ho⟩
  exact ⟨rfl, h'.only ho⟩
end
def RsIn1 (w1 : World) (g m : Nat) (L : Int) (n : Nat) (iv : Value) (wr : World) : Prop := ∃ (i : Nat) (ss : List SL) (O : List (Int × Int)), i ≤ n ∧ iv = .int .i64 i ∧ Hp8 w1 wr g m L ss O
def RsIn2 (w1 : World) (g m : Nat) (L : Int) (zs : List Int) (R : Bool) (iv : Value) (wr : World) : Prop :=
  ∃ (i : Nat) (ss : List SL) (O : List (Int × Int)), i ≤ zs.length ∧ iv = .int .i64 i ∧ Hp8 w1 wr g m L ss O ∧ fitsF (spareF ss) (moreF L ss) (zs.drop i) = R ∧ (i = 0 ∨ O ≠ [])
set_option maxRecDepth 100000 in
set_option maxHeartbeats 3000000 in
theorem slabReserved_is (L : Int) (A1 : Option Addr) (n1 c1 : Nat) (A2 : Option Addr) (zs : List Int) (c2 : Nat) (w : World) (hT : TabS w) (hn1 : n1 < 3000000000000) (hop : ∀ i, i < n1 → OpAt8 w A1 i) (hzl : zs.length ≤ 9223372036854775807) (hz : KsAt w A2 zs) :
    Calls Tryd.prog 4 #[.int .i64 L, .slice A1 n1 c1, .slice A2 zs.length c2] w fun e w' => e = .returned (.bool true) ∧ Only [] w w' := by
  have HAW := hide (awake8_is w hT)
  have HT := hide hT
  have HOP := hide (fun (wA : World) (kA : Only [] w wA) (i : Nat) (hi : i < n1) => (hop i hi).only kA)
  have HZ := hide (fun (wA : World) (kA : Only [] w wA) => hz.only kA)
  clear hT hop hz
  by_cases hL : L < 0 ∨ 1048576 < L
  · have HN := hide (fun w => hNew_no (w := w) L hL)
    clear hL
    go_enter Tryd.func4, Tryd.ntmps4
    go_wp2_with (first | (go_at_call 7; refine HAW.out.mono ?_; rintro e w1 ⟨rfl, ho⟩; have HO1 := hide ho; clear ho) | (go_at_call 8; refine (HN.out _).mono ?_; rintro e w2 ⟨rfl, rfl⟩))
    go_ret
    exact ⟨rfl, HO1.out⟩
  have HN := hide (fun w => hp_new (w := w) L (by omega))
  clear hL
  go_enter Tryd.func4, Tryd.ntmps4
  go_wp2_with (first | (go_at_call 7; refine HAW.out.mono ?_; rintro e w1 ⟨rfl, ho⟩; have HO1 := hide ho; clear ho) | (go_at_call 8; refine (HN.out _).mono ?_; rintro e w2 ⟨g, m, rfl, hp⟩; have HP2 := hide hp; clear hp))
  have HT1 := hide (HT.out.only HO1.out (by simp))
  go_loopw [37] (fun iv wr => RsIn1 w1 g m L n1 iv wr) (fun iv _ => n1 - (intOf iv).toNat)
  case atStart => exact ⟨0, [], [], Nat.zero_le _, rfl, HP2.out⟩
  case round =>
    obtain ⟨i, ss, O, hi, rfl, hp⟩ := hrel
    by_cases hlt : i < n1
    · obtain ⟨q, o, k, x, ow, id, V, vn, vc, rfl, hq, hw1, hw2, q0, q1, q2, q3, q4⟩ := HOP.out _ (HO1.out.trans hp.out) i hlt
      have hpa := fun ob => hp.only ((Only.refl [] wr).alloc ob)
      have HA := hide (fun ob => hp_alloc_k HT1.out (hpa ob) x ow hw1)
      have HF := hide (fun ob => hp_free_k HT1.out (hpa ob) id hw2)
      have hb := Blk.new wr 33 #[.int .i64 k, .int .i64 x, .int .i64 ow, .int .i64 id, .slice V vn vc]
      have HB := hide (fun (w3 : World) (hk : KeepsB (wr.alloc (.cells #[.int .i64 k, .int .i64 x, .int .i64 ow, .int .i64 id, .slice V vn vc] 33)) w3) => (hk _ _ _ hb (by decide) (by decide)).cell 0)
      have HPA := hide hpa
      clear hp hpa hb
      by_cases hk0 : k = 0
      · subst hk0
        go_wp2_with (go_at_call 11; refine (HA.out _).mono ?_; rintro e w3 ⟨rfl, h3, hk3⟩; have b0 := HB.out _ hk3; have H3 := hide h3; clear h3 hk3; simp only [tupA])
        go_roundw
        case rel => exact ⟨i + 1, _, _, hlt, by go_num, H3.out⟩
        case measure => simp only [intOf]; omega
      · have hk0b : (k == 0) = false := beq_eq_false_iff_ne.2 hk0
        by_cases hk1 : k = 1
        · subst hk1
          go_wp2_with (go_at_call 14; refine (HF.out _).mono ?_; rintro e w3 ⟨rfl, h3, hk3⟩; have H3 := hide h3; clear h3 hk3)
          go_roundw
          case rel => exact ⟨i + 1, _, _, hlt, by go_num, H3.out⟩
          case measure => simp only [intOf]; omega
        · have hk1b : (k == 1) = false := beq_eq_false_iff_ne.2 hk1
          go_wp2
          go_roundw
          case rel => exact ⟨i + 1, _, _, hlt, by go_num, HPA.out _⟩
          case measure => simp only [intOf]; omega
    · obtain rfl : i = n1 := by omega
      have HFI := hide (hp_fits HT1.out hp A2 zs c2 hzl (HZ.out _ HO1.out))
      clear hp
      go_wp2_with (go_at_call 15; refine HFI.out.mono ?_; rintro e w3 ⟨rfl, h3⟩; have H3 := hide h3; clear h3)
      obtain ⟨R, hR0⟩ : ∃ R, fitsF (spareF ss) (moreF L ss) zs = R := ⟨_, rfl⟩
      rw [hR0]
      go_loopw [63] (fun iv wr => RsIn2 w1 g m L zs R iv wr) (fun iv _ => zs.length - (intOf iv).toNat)
      case atStart => exact ⟨0, ss, O, Nat.zero_le _, rfl, H3.out, hR0, .inl rfl⟩
      case round =>
        obtain ⟨j, ss, O, hj, rfl, hp, hR, hjO⟩ := hrel
        by_cases hjl : j < zs.length
        · obtain ⟨q, o, rfl, hq, hqc⟩ := HZ.out _ (HO1.out.trans hp.out) (by omega)
          have q0 := hqc j hjl
          obtain ⟨k, hk⟩ : ∃ k, zs.getD j 0 = k := ⟨_, rfl⟩
          rw [hk] at q0
          have hdr : zs.drop j = k :: zs.drop (j + 1) := by
            rw [← hk, List.drop_eq_getElem_cons hjl]
            simp [List.getD, hjl]
          rw [hdr] at hR
          obtain ⟨hs1, hs2⟩ := fits_step hp.ok k 1 (zs.drop (j + 1))
          have HA := hide (hp_alloc HT1.out hp k 1 iW1)
          by_cases he : (allocF L ss O k 1).2.2 = 0
          · obtain ⟨h1, h2⟩ := hs1 he
            rw [he] at HA
            have HX := hide (show fitsF (spareF (allocF L ss O k 1).1.1) (moreF L (allocF L ss O k 1).1.1) (zs.drop (j + 1)) = R ∧ (allocF L ss O k 1).1.2 ≠ [] from ⟨h1 ▸ hR, h2⟩)
            clear hs1 hs2 h1 h2 hR hR0 he hdr hqc hp hjO
            cases R
            · go_wp2_with (go_at_call 11; refine HA.out.mono ?_; rintro e w4 ⟨rfl, h4⟩; have H4 := hide h4; clear h4; simp only [tupA])
              go_roundw
              case rel => exact ⟨j + 1, _, _, hjl, by go_num, H4.out, HX.out.1, .inr HX.out.2⟩
              case measure => simp only [intOf]; omega
            · go_wp2_with (go_at_call 11; refine HA.out.mono ?_; rintro e w4 ⟨rfl, h4⟩; have H4 := hide h4; clear h4; simp only [tupA])
              go_roundw
              case rel => exact ⟨j + 1, _, _, hjl, by go_num, H4.out, HX.out.1, .inr HX.out.2⟩
              case measure => simp only [intOf]; omega
          · obtain ⟨h1, h2⟩ := hs2 he
            have hfail := alloc_fail he
            have hok := hp.ok
            obtain rfl : R = false := by rw [← hR, h1]
            have HA' := hide (show Calls Tryd.prog 11 #[.pointer (some ⟨g, 0, none⟩), .int .i64 k, .int .i64 1] wr fun e w' => e = .returned (tupA (allocF L ss O k 1).2.1 (allocF L ss O k 1).2.2) ∧ Hp8 w1 w' g m L ss O by
              have := HA.out
              rw [hfail] at this
              exact this)
            have HSZ := hide (fun (wA : World) (hA : Hp8 w1 wA g m L ss O) => hSize_is (HT1.out.only hA.out (by simp)) k)
            have HU := hide (fun (wA : World) (hA : Hp8 w1 wA g m L ss O) => hp_used HT1.out hA)
            have heb : ((allocF L ss O k 1).2.2 != 0) = true := by simpa using he
            have hub : j ≠ 0 → decide (0 < usedL ss) = true := fun hj0 => by
              rcases hjO with h | h
              · exact absurd h hj0
              · simpa using usedL_pos hok h
            obtain ⟨e2, he2⟩ : ∃ e2, (allocF L ss O k 1).2.2 = e2 := ⟨_, rfl⟩
            rw [he2] at HA' heb h2 he
            clear hs1 hs2 h1 hR hR0 he2 hdr hqc hp hjO HA hfail hok
            generalize (allocF L ss O k 1).2.1 = r1 at HA'
            by_cases hj0 : j = 0
            · have hj0b : ((j : Int) == 0) = true := by simp [hj0]
              clear hj0
              by_cases h22 : e2 = 2
              · subst h22
                clear hub h2 heb
                go_wp2_with (first | (go_at_call 11; refine HA'.out.mono ?_; rintro e w4 ⟨rfl, h4⟩; have H4 := hide h4; clear h4; simp only [tupA]) | (go_at_call 16; refine (HSZ.out _ H4.out).mono ?_; rintro e w5 ⟨rfl, rfl⟩) | (go_at_call 17; refine (HU.out _ H4.out).mono ?_; rintro e w5 ⟨rfl, h5⟩; have H5 := hide h5; clear h5))
                go_ret
                exact ⟨rfl, HO1.out.trans H4.out.out⟩
              · have hs0 : szF k = 0 := by rcases h2 with h | h; exact absurd h h22; exact h
                rw [hs0] at HSZ
                have h22b : (e2 == 2) = false := beq_eq_false_iff_ne.2 h22
                clear hub h2
                go_wp2_with (first | (go_at_call 11; refine HA'.out.mono ?_; rintro e w4 ⟨rfl, h4⟩; have H4 := hide h4; clear h4; simp only [tupA]) | (go_at_call 16; refine (HSZ.out _ H4.out).mono ?_; rintro e w5 ⟨rfl, rfl⟩) | (go_at_call 17; refine (HU.out _ H4.out).mono ?_; rintro e w5 ⟨rfl, h5⟩; have H5 := hide h5; clear h5))
                go_ret
                exact ⟨rfl, HO1.out.trans H4.out.out⟩
            · have hub2 := hub hj0
              have hj0b : ((j : Int) == 0) = false := beq_eq_false_iff_ne.2 (by omega)
              have hupos : 0 < usedL ss := by simpa using hub2
              by_cases h22 : e2 = 2
              · subst h22
                clear hub h2 heb
                go_wp2_with (first | (go_at_call 11; refine HA'.out.mono ?_; rintro e w4 ⟨rfl, h4⟩; have H4 := hide h4; clear h4; simp only [tupA]) | (go_at_call 16; refine (HSZ.out _ H4.out).mono ?_; rintro e w5 ⟨rfl, rfl⟩) | (go_at_call 17; refine (HU.out _ H4.out).mono ?_; rintro e w5 ⟨rfl, h5⟩; have H5 := hide h5; clear h5))
                go_ret
                exact ⟨rfl, HO1.out.trans H5.out.out⟩
              · have hs0 : szF k = 0 := by rcases h2 with h | h; exact absurd h h22; exact h
                rw [hs0] at HSZ
                have h22b : (e2 == 2) = false := beq_eq_false_iff_ne.2 h22
                clear hub h2
                go_wp2_with (first | (go_at_call 11; refine HA'.out.mono ?_; rintro e w4 ⟨rfl, h4⟩; have H4 := hide h4; clear h4; simp only [tupA]) | (go_at_call 16; refine (HSZ.out _ H4.out).mono ?_; rintro e w5 ⟨rfl, rfl⟩) | (go_at_call 17; refine (HU.out _ H4.out).mono ?_; rintro e w5 ⟨rfl, h5⟩; have H5 := hide h5; clear h5))
                go_ret
                exact ⟨rfl, HO1.out.trans H5.out.out⟩
        · obtain rfl : j = zs.length := by omega
          have hRt : R = true := by rw [← hR, List.drop_length]; rfl
          have HP := hide hp
          clear hR hR0 hp hjO
          subst hRt
          go_wp2
          go_ret
          exact ⟨rfl, HO1.out.trans HP.out.out⟩

theorem slabReserved_walk {H : Type} {enc : TypeId × Value → H} {w : World} {d1 : DataW H} (hT : TabS w) (L : Int) (A1 : Option Addr) (n1 c1 : Nat) (A2 : Option Addr) (n2 c2 : Nat) (zs : List Int) (r : Rd enc Tryd.prog w 22 [.slice A1 n1 c1] d1) (hr : IsRow .i64 w A2 n2 c2 zs) :
    Calls Tryd.prog 4 #[.int .i64 L, .slice A1 n1 c1, .slice A2 n2 c2] w fun e w' => e = .returned (.bool true) ∧ Below w.heap.size w w' := by
  obtain ⟨h1, h2⟩ := r.ops8
  have hlen : (zs.take n2).length = n2 ∧ n2 ≤ 9223372036854775807 := by
    rcases Nat.eq_zero_or_pos n2 with h0 | h0
    · subst h0; simp
    · obtain ⟨b, o, _, _, hl, hm, hz, _⟩ := hr.at_ h0
      have : maxLen = 9223372036854775807 := rfl
      rw [List.length_take, hz]
      omega
  have hk : KsAt w A2 (zs.take n2) := fun hp => by
    rw [hlen.1] at hp
    obtain ⟨b, o, e, hb, hl, hm, hz, hc, _⟩ := hr.at_ hp
    refine ⟨b, o, e, hb, fun i hi => ?_⟩
    rw [hlen.1] at hi
    have := hc i (by omega)
    rw [this]
    congr 2
    simp [gb, List.getD, hi]
  have := slabReserved_is L A1 n1 c1 A2 (zs.take n2) c2 w hT h1 h2 (by rw [hlen.1]; exact hlen.2) hk
  rw [hlen.1] at this
  exact this.mono fun e w' h => ⟨h.1, h.2.below (Nat.le_refl _) (by simp)⟩
end Go.Proofs.YtgoaebikgdecoaaDoor
