/-
  The walk of 'SlabBounded'.
-/
import Derived.Test.YtgoaebikgdecoaaDoorSlabBdRest
namespace Go.Proofs.YtgoaebikgdecoaaDoor
open Go.ChangeShapes Go.WideShapes Go.ChangeAt Go.RowKit Go.Deep Go.Maps
set_option linter.unusedVariables false

theorem Bd1.base {w1 wr : World} {g m ml : Nat} {L : Int} (P : Bd1 w1 g m L ml wr) : Only [] w1 wr := by
  obtain ⟨ss, O, Ob, h1, _⟩ := P
  exact h1.out
theorem bd_start {w1 w2 : World} {g m : Nat} {L : Int} (h : Hp8 w1 w2 g m L [] []) : Bd1 w1 g m L w2.heap.size (w2.alloc (.map #[] 0)) := by
  have hm := h.mlt
  refine ⟨[], [], [], h.only ((Only.refl [] w2).alloc _), fun s hs => by simp at hs, ⟨⟨.map [], ownsMap_empty8 (heap_alloc_new w2 _) _ _, MHolds.empty⟩, by simp, by simp⟩, by omega, h.out.size⟩
set_option maxRecDepth 100000 in
set_option maxHeartbeats 6000000 in
theorem slabBounded_is (L : Int) (A1 : Option Addr) (n1 c1 : Nat) (A2 : Option Addr) (zs : List Int) (c2 : Nat) (w : World) (hT : TabS w) (hn1 : n1 < 3000000000000) (hop : ∀ i, i < n1 → OpAt8 w A1 i) (hzl : zs.length ≤ 9223372036854775807) (hz : KsAt w A2 zs) :
    Calls Tryd.prog 5 #[.int .i64 L, .slice A1 n1 c1, .slice A2 zs.length c2] w fun e w' => e = .returned (.bool true) ∧ Only [] w w' := by
  have HAW := hide (awake8_is w hT)
  have HT := hide hT
  have HOP := hide (fun (wA : World) (kA : Only [] w wA) (i : Nat) (hi : i < n1) => (hop i hi).only kA)
  have HZ := hide (fun (wA : World) (kA : Only [] w wA) => hz.only kA)
  clear hT hop hz
  by_cases hL : L < 0 ∨ 1048576 < L
  · have HN := hide (fun w => hNew_no (w := w) L hL)
    clear hL
    go_enter Tryd.func5, Tryd.ntmps5
    go_wp2_with (first | (go_at_call 7; refine HAW.out.mono ?_; rintro e w1 ⟨rfl, ho⟩; have HO1 := hide ho; clear ho) | (go_at_call 8; refine (HN.out _).mono ?_; rintro e w2 ⟨rfl, rfl⟩))
    go_ret
    exact ⟨rfl, HO1.out⟩
  have HN := hide (fun w => hp_new (w := w) L (by omega))
  clear hL
  have hmm := @run_makeMap Tryd.prog
  go_enter Tryd.func5, Tryd.ntmps5
  go_wp2_with (first | (go_at_call 7; refine HAW.out.mono ?_; rintro e w1 ⟨rfl, ho⟩; have HO1 := hide ho; clear ho) | (go_at_call 8; refine (HN.out _).mono ?_; rintro e w2 ⟨g, m, rfl, hp⟩; have HP2 := hide hp; clear hp))
  have HT1 := hide (HT.out.only HO1.out (by simp))
  have HB0 := hide (bd_start HP2.out)
  clear hmm HP2
  revert HB0
  generalize w2.alloc (.map #[] 0) = wl
  generalize w2.heap.size = ml
  intro HB0
  go_loopw [48] (fun iv wr => ∃ i : Nat, i ≤ n1 ∧ iv = .int .i64 i ∧ Bd1 w1 g m L ml wr) (fun iv _ => n1 - (intOf iv).toNat)
  case atStart => exact ⟨0, Nat.zero_le _, rfl, HB0.out⟩
  case round =>
    obtain ⟨i, hi, rfl, hP⟩ := hrel
    by_cases hlt : i < n1
    · obtain ⟨q, o, k, x, ow, id, V, vn, vc, rfl, hq, hw1, hw2, q0, q1, q2, q3, q4⟩ := HOP.out _ (HO1.out.trans hP.base) i hlt
      have HBX := (Only.refl [] wr).alloc (.cells #[.int .i64 k, .int .i64 x, .int .i64 ow, .int .i64 id, .slice V vn vc] 33)
      have HBK := Blk.new wr 33 #[.int .i64 k, .int .i64 x, .int .i64 ow, .int .i64 id, .slice V vn vc]
      have HP := hide hP
      have HBX := hide HBX
      have HBK := hide HBK
      clear hP
      by_cases hk0 : k = 0
      · subst hk0
        rcases bd_alloc HP.out HT1.out x ow hw1 with ⟨id2, HC⟩ | ⟨y2, x2, hx2, HC⟩
        · have HC2 := hide HC
          clear HC
          go_wp2_with (first | (go_at_call 11; refine (HC2.out _ HBX.out).mono ?_; rintro e w3 ⟨rfl, ⟨z1, w4, z2, z3, z4⟩, hk⟩; have b0 := (hk _ _ _ HBK.out (by decide) (by decide)).cell 0; have b1 := (z4 _ _ _ (hk _ _ _ HBK.out (by decide) (by decide))).cell 0; obtain ⟨uu, bb, nn, k1, k2, hck⟩ := bd_check z3 HT1.out; have HCK := hide hck; have H3 := hide z3; clear hk z3 z4 hck; simp only [tupA]))
          go_region
          go_wp2_with (first | (go_at_call 18; have hg := O6; refine ((HCK.out _ O6.out).1).mono ?_; rintro e w7 ⟨rfl, o7⟩; have O7 := hide o7; clear o7) | (go_at_call 18; refine ((HCK.out _ (by first | exact Only.refl _ _ | exact (Only.refl _ _).drew)).1).mono ?_; rintro e w5 ⟨rfl, o5⟩; have O5 := hide o5; clear o5) | (go_at_call 17; refine ((HCK.out _ O5.out).2.1).mono ?_; rintro e w6 ⟨rfl, o6⟩; have O6 := hide o6; clear o6) | (go_at_call 19; refine ((HCK.out _ O7.out).2.2.1).mono ?_; rintro e w8 ⟨rfl, rfl⟩; have hln := (HCK.out _ O7.out).2.2.2))
          go_roundw
          case rel => exact ⟨i + 1, hlt, by go_num, H3.out.quiet O7.out⟩
          case measure => simp only [intOf]; omega
        · have hx2b : (x2 == 0) = false := beq_eq_false_iff_ne.2 hx2
          have HC2 := hide HC
          clear HC hx2
          go_wp2_with (first | (go_at_call 11; refine (HC2.out _ HBX.out).mono ?_; rintro e w3 ⟨rfl, z3, hk⟩; have b0 := (hk _ _ _ HBK.out (by decide) (by decide)).cell 0; obtain ⟨uu, bb, nn, k1, k2, hck⟩ := bd_check z3 HT1.out; have HCK := hide hck; have H3 := hide z3; clear hk z3 hck; simp only [tupA]))
          go_region
          go_wp2_with (first | (go_at_call 18; have hg := O6; refine ((HCK.out _ O6.out).1).mono ?_; rintro e w7 ⟨rfl, o7⟩; have O7 := hide o7; clear o7) | (go_at_call 18; refine ((HCK.out _ (by first | exact Only.refl _ _ | exact (Only.refl _ _).drew)).1).mono ?_; rintro e w5 ⟨rfl, o5⟩; have O5 := hide o5; clear o5) | (go_at_call 17; refine ((HCK.out _ O5.out).2.1).mono ?_; rintro e w6 ⟨rfl, o6⟩; have O6 := hide o6; clear o6) | (go_at_call 19; refine ((HCK.out _ O7.out).2.2.1).mono ?_; rintro e w8 ⟨rfl, rfl⟩; have hln := (HCK.out _ O7.out).2.2.2))
          go_roundw
          case rel => exact ⟨i + 1, hlt, by go_num, H3.out.quiet O7.out⟩
          case measure => simp only [intOf]; omega
      · have hk0b : (k == 0) = false := beq_eq_false_iff_ne.2 hk0
        by_cases hk1 : k = 1
        · subst hk1
          clear hk0 hk0b
          obtain ⟨b, x2, hx2, HC⟩ := bd_free HP.out HT1.out id hw2
          have HC2 := hide HC
          clear HC
          have d0 : (wr.alloc (.cells #[.int .i64 1, .int .i64 x, .int .i64 ow, .int .i64 id, .slice V vn vc] 33)).cell? ⟨wr.heap.size, 0, none⟩ = some (.int .i64 1) := HBK.out.cell 0
          have d3 : (wr.alloc (.cells #[.int .i64 1, .int .i64 x, .int .i64 ow, .int .i64 id, .slice V vn vc] 33)).cell? ⟨wr.heap.size, 3, none⟩ = some (.int .i64 id) := HBK.out.cell 3
          go_wp2_with fail
          go_region_held3 (fun w' => w'.cell? ⟨wr.heap.size, 0, none⟩ = some (.int .i64 1) ∧ w'.cell? ⟨wr.heap.size, 3, none⟩ = some (.int .i64 id) ∧ (Instr.lookup 45 (.map (some ml)) (.int .i64 id) false).run Tryd.prog w' = .ok (.bool b) w') (first | assumption | exact ⟨d0, d3, (HC2.out _ HBX.out.drew).1⟩ | exact HK.out | go_keep) (first | (go_at_call 14; refine ((HC2.out _ (by repeat (first | exact HBX.out | apply Only.drew))).2).mono ?_; rintro e w3 ⟨rfl, hF, hk⟩; have HK := hide (And.intro ((hk _ _ _ HBK.out (by decide) (by decide)).cell 0) (And.intro ((hk _ _ _ HBK.out (by decide) (by decide)).cell 3) (hF _ (Only.refl _ _)).1)); have HF := hide hF; clear hF hk))
          all_goals
            obtain ⟨e0, e3, _⟩ := HK.out
            obtain ⟨_, w5, hdel, hP5⟩ := HF.out _ (Only.refl _ _)
            obtain ⟨uu, bb, nn, k1, k2, hck⟩ := bd_check hP5 HT1.out
            have HCK := hide hck
            have H3 := hide hP5
            have hbb : (b != b) = false := by simp
            have hxb : ((x2 == 0) != b) = false := by rw [hx2]; simp
            clear hck hP5 HF HK d0 d3
            go_wp2_with (first | (go_at_call 18; have hg := O6; refine ((HCK.out _ O6.out).1).mono ?_; rintro e w7 ⟨rfl, o7⟩; have O7 := hide o7; clear o7) | (go_at_call 18; refine ((HCK.out _ (by first | exact Only.refl _ _ | exact (Only.refl _ _).drew)).1).mono ?_; rintro e w5 ⟨rfl, o5⟩; have O5 := hide o5; clear o5) | (go_at_call 17; refine ((HCK.out _ O5.out).2.1).mono ?_; rintro e w6 ⟨rfl, o6⟩; have O6 := hide o6; clear o6) | (go_at_call 19; refine ((HCK.out _ O7.out).2.2.1).mono ?_; rintro e w8 ⟨rfl, rfl⟩; have hln := (HCK.out _ O7.out).2.2.2))
            go_roundw
            case rel => exact ⟨i + 1, hlt, by go_num, H3.out.quiet O7.out⟩
            case measure => simp only [intOf]; omega
        · have hk1b : (k == 1) = false := beq_eq_false_iff_ne.2 hk1
          obtain ⟨uu, bb, nn, k1, k2, hck⟩ := bd_check (HP.out.quiet HBX.out) HT1.out
          have HCK := hide hck
          clear hk0 hk1 hck
          go_wp2_with fail
          go_region
          go_wp2_with (first | (go_at_call 18; have hg := O6; refine ((HCK.out _ O6.out).1).mono ?_; rintro e w7 ⟨rfl, o7⟩; have O7 := hide o7; clear o7) | (go_at_call 18; refine ((HCK.out _ (by first | exact Only.refl _ _ | exact (Only.refl _ _).drew)).1).mono ?_; rintro e w5 ⟨rfl, o5⟩; have O5 := hide o5; clear o5) | (go_at_call 17; refine ((HCK.out _ O5.out).2.1).mono ?_; rintro e w6 ⟨rfl, o6⟩; have O6 := hide o6; clear o6) | (go_at_call 19; refine ((HCK.out _ O7.out).2.2.1).mono ?_; rintro e w8 ⟨rfl, rfl⟩; have hln := (HCK.out _ O7.out).2.2.2))
          go_roundw
          case rel => exact ⟨i + 1, hlt, by go_num, (HP.out.quiet HBX.out).quiet O7.out⟩
          case measure => simp only [intOf]; omega
    · obtain rfl : i = n1 := by omega
      obtain ⟨ss, O, Ob, h1, h2, h3, h4, h5⟩ := hP
      have H1 := hide h1
      have HF := hide h2
      clear h1 h2 h3 h4 h5 HB0 HOP
      go_wp2_with (first | (go_at_call 17; refine (hp_used HT1.out H1.out).mono ?_; rintro e w3 ⟨rfl, h3⟩; have H3 := hide h3; clear h3) | (go_at_call 18; refine (hp_bytes H3.out).mono ?_; rintro e w4 ⟨rfl, h4⟩; have H4 := hide h4; clear h4))
      have HO := hide H1.out.ok
      have HB2 := hide (bd2_start H4.out)
      clear H1 H3 H4
      revert HB2
      generalize w4.alloc (.cells #[.int .i64 0, .int .i64 0, .int .i64 0, .int .i64 0, .int .i64 0, .int .i64 0, .int .i64 0, .int .i64 0, .int .i64 0, .int .i64 0, .int .i64 0, .int .i64 0] 46) = wb
      generalize w4.heap.size = rb
      intro HB2
      go_loopw [119] (fun iv wr => ∃ k : Nat, k ≤ 12 ∧ iv = .int .i64 k ∧ Bd2 w1 g m L ss O rb k wr) (fun iv _ => 12 - (intOf iv).toNat)
      case atStart => exact ⟨0, Nat.zero_le _, rfl, HB2.out⟩
      case round =>
        obtain ⟨k, hk, rfl, hP⟩ := hrel
        by_cases hkl : k < 12
        · have hkI : (k : Int) < 12 := by omega
          have HR := hide (bd2_room hP HT1.out hkl)
          clear hP
          go_wp2_with (go_at_call 20; refine HR.out.mono ?_; rintro e w5 ⟨rfl, z1, z2, z3⟩; have H5 := hide z3; clear z3)
          go_roundw
          case rel => exact ⟨k + 1, hkl, by go_num, H5.out⟩
          case measure => simp only [intOf]; omega
        · obtain rfl : k = 12 := by omega
          have HB3 := hide (bd3_start hP HF.out)
          clear hP HB2
          go_wp2_with fail
          go_loopw [130, 18] (fun iv v wr => ∃ (j : Nat) (ids : List Int) (A3 : Option Addr) (c3 : Nat), j ≤ zs.length ∧ iv = .int .i64 j ∧ v = .slice A3 ids.length c3 ∧ Bd3 w1 g m L ss O rb (.slice A3 ids.length c3) ids wr) (fun iv _ _ => zs.length - (intOf iv).toNat)
          case atStart => exact ⟨0, [], none, 0, Nat.zero_le _, rfl, rfl, HB3.out⟩
          case round =>
            obtain ⟨j, ids, A3, c3, hj, rfl, rfl, hP⟩ := hrel
            by_cases hjl : j < zs.length
            · have hba : Only [] w1 wr := by
                obtain ⟨ss', O', h1, _⟩ := hP
                exact h1.out
              obtain ⟨q, o, rfl, hq, hqc⟩ := HZ.out _ (HO1.out.trans hba) (by omega)
              have q0 := hqc j hjl
              generalize zs.getD j 0 = kk at q0
              have hjI : (j : Int) < zs.length := by omega
              rcases bd3_alloc hP HT1.out kk with ⟨id, HC⟩ | ⟨y2, x2, hx2, HC⟩
              · have HC2 := hide HC
                clear HC hP hqc hba
                go_wp2_with (first | (go_at_call 11; refine HC2.out.mono ?_; rintro e w5 ⟨rfl, z1, z2, z3, z4⟩; have HZ1 := hide z1; have HZ2 := hide z2; have HZ3 := hide z3; have HZ4 := hide z4; have HZ5 := hide ((Blk.new w5 3 #[.int .i64 id]).cell 0); clear z1 z2 z3 z4; simp only [tupA]) | (at_builtin; refine wpList_append_k (k := .i64) (e := 3) (T := 31) (bytes := 8) (v := .slice A3 ids.length c3) Tryd.underlying31 info_int (by decide) rfl _ _ rfl _ rfl HZ1.out w5.heap.size id rfl HZ5.out HZ2.out HZ3.out ?_; intro v6 w6 hr6 hg6; have h6 := HZ4.out v6 w6 hr6 hg6; obtain ⟨A6, c6, rfl, -⟩ := hr6.form; have H6 := hide h6; clear hr6 hg6 h6))
                go_roundw
                case rel => (repeat apply Exists.intro); exact ⟨⟨j + 1, ids ++ [id], A6, c6, hjl, by go_num, by rw [List.length_append]; rfl, H6.out⟩, rfl⟩
                case measure =>
                  show zs.length - (intOf (.int .i64 ((j : Int) + 1))).toNat < zs.length - (intOf (.int .i64 (j : Int))).toNat
                  simp only [intOf]; omega
              · have hx2b : (x2 == 0) = false := beq_eq_false_iff_ne.2 hx2
                have HC2 := hide HC
                clear HC hP hqc hba hx2
                go_wp2_with (go_at_call 11; refine HC2.out.mono ?_; rintro e w5 ⟨rfl, z3⟩; have H5 := hide z3; clear z3; simp only [tupA])
                go_roundw
                case rel => exact ⟨j + 1, ids, A3, c3, hjl, by go_num, rfl, H5.out⟩
                case measure =>
                  show zs.length - (intOf (.int .i64 ((j : Int) + 1))).toNat < zs.length - (intOf (.int .i64 (j : Int))).toNat
                  simp only [intOf]; omega
            · obtain rfl : j = zs.length := by omega
              have HP4 := hide (bd4_start hP)
              have hnd : ids.length ≤ 40000 := by
                obtain ⟨ss', O', h1, _, h3, h4, _⟩ := hP
                have h9 := keys_len ids (O'.map (·.1)) h4 fun x hx => (h3.keys x).2 (.inr hx)
                have := h1.ok.olen h1.nd
                simp only [List.length_map] at h9
                omega
              clear hP HB3
              go_wp2_with fail
              go_loopw [149] (fun iv wr => ∃ i : Nat, i ≤ ids.length ∧ iv = .int .i64 i ∧ Bd4 w1 g m L ss O rb (.slice A3 ids.length c3) ids i wr) (fun iv _ => ids.length - (intOf iv).toNat)
              case atStart => exact ⟨0, Nat.zero_le _, rfl, HP4.out⟩
              case round =>
                obtain ⟨i, hi, rfl, hP⟩ := hrel
                by_cases hil : i < ids.length
                · have hiI : (i : Int) < ids.length := by omega
                  have HFR := hide (bd4_free hP HT1.out HO.out HF.out hil)
                  obtain ⟨_, _, eA, hA⟩ := (show KRow .i64 3 wr w1.heap.size (.slice A3 ids.length c3) ids from by obtain ⟨_, _, _, _, _, _, _, h6, _⟩ := hP; exact h6).form
                  injection eA with eA1 _ eA2
                  subst eA1; subst eA2
                  obtain ⟨b3, rfl, _, _, hcell⟩ := hA (by omega)
                  have hx : idxI ids.length i < ids.length := by unfold idxI; split <;> omega
                  have q0 := hcell _ hx
                  have hq2 : (i : Int).tdiv 2 = ((i / 2 : Nat) : Int) := by rw [Int.tdiv_eq_ediv_of_nonneg (by omega)]; rfl
                  have hr2 : (i : Int).tmod 2 = ((i % 2 : Nat) : Int) := by rw [Int.tmod_eq_emod_of_nonneg (by omega)]; rfl
                  clear hP hA hcell
                  by_cases hodd : i % 2 = 1
                  · have hix : idxI ids.length i = ids.length - 1 - i / 2 := by unfold idxI; rw [if_pos hodd]
                    rw [hix] at q0 HFR hx
                    generalize gb ids (ids.length - 1 - i / 2) = y at q0 HFR
                    have hw1 : wrap64 ((ids.length : Int) - 1) = ((ids.length - 1 : Nat) : Int) := by unfold wrap64; omega
                    have hw2 : wrap64 (((ids.length - 1 : Nat) : Int) - ((i / 2 : Nat) : Int)) = ((ids.length - 1 - i / 2 : Nat) : Int) := by unfold wrap64; omega
                    have hxI : ((ids.length - 1 - i / 2 : Nat) : Int) < ids.length := by omega
                    have hm1 : (((i % 2 : Nat) : Int) == 1) = true := by rw [hodd]; rfl
                    go_wp2_with (go_at_call 14; refine HFR.out.mono ?_; rintro e w5 ⟨rfl, z3⟩; have H5 := hide z3; clear z3)
                    go_roundw
                    case rel => (repeat apply Exists.intro); exact ⟨⟨i + 1, hil, by go_num, H5.out⟩, rfl⟩
                    case measure =>
                      show ids.length - (intOf (.int .i64 ((i : Int) + 1))).toNat < ids.length - (intOf (.int .i64 (i : Int))).toNat
                      simp only [intOf]; omega
                  · have hix : idxI ids.length i = i / 2 := by unfold idxI; rw [if_neg hodd]
                    rw [hix] at q0 HFR hx
                    generalize gb ids (i / 2) = y at q0 HFR
                    have hxI : ((i / 2 : Nat) : Int) < ids.length := by omega
                    have hm1 : (((i % 2 : Nat) : Int) == 1) = false := by simp only [beq_eq_false_iff_ne]; omega
                    go_wp2_with (go_at_call 14; refine HFR.out.mono ?_; rintro e w5 ⟨rfl, z3⟩; have H5 := hide z3; clear z3)
                    go_roundw
                    case rel => (repeat apply Exists.intro); exact ⟨⟨i + 1, hil, by go_num, H5.out⟩, rfl⟩
                    case measure =>
                      show ids.length - (intOf (.int .i64 ((i : Int) + 1))).toNat < ids.length - (intOf (.int .i64 (i : Int))).toNat
                      simp only [intOf]; omega
                · obtain rfl : i = ids.length := by omega
                  have HP5 := hide (bd5_start hP HO.out HF.out)
                  clear hP HP4
                  go_wp2_with fail
                  go_loopw [172] (fun iv wr => ∃ k : Nat, k ≤ 12 ∧ iv = .int .i64 k ∧ Bd5 w1 g m L ss rb wr) (fun iv _ => 12 - (intOf iv).toNat)
                  case atStart => exact ⟨0, Nat.zero_le _, rfl, HP5.out⟩
                  case round =>
                    obtain ⟨k, hk, rfl, hP⟩ := hrel
                    by_cases hkl : k < 12
                    · have hkI : (k : Int) < 12 := by omega
                      have q0 := bd5_cell hP hkl
                      have HP := hide hP
                      have HRM := hide (fun W (ho : Only [] wr W) => bd5_room (hP.quiet ho) HT1.out (k : Int))
                      have HC := hide (fun W (ho : Only [] wr W) => bd5_cell (hP.quiet ho) hkl)
                      clear hP
                      have hyy : (roomF L ss k != roomF L ss k) = false := by simp
                      generalize roomF L ss k = y at *
                      go_wp2_with fail
                      go_region_held3 (fun w' => w'.cell? ⟨rb, k, none⟩ = some (.int .i64 y)) (first | assumption | exact q0 | exact HC.out _ HK.out | go_keep) (first | (go_at_call 20; refine (HRM.out _ (by repeat (first | exact Only.refl _ _ | apply Only.drew))).mono ?_; rintro e w5 ⟨rfl, ho5⟩; have HK := hide (show Only [] wr w5 from Only.trans (by repeat (first | exact Only.refl _ _ | apply Only.drew)) ho5); clear ho5))
                      all_goals
                        have q1 := HC.out _ HK.out
                        go_wp2_with fail
                        go_roundw
                        case rel => (repeat apply Exists.intro); exact ⟨⟨k + 1, hkl, by go_num, HP.out.quiet HK.out⟩, rfl⟩
                        case measure =>
                          show 12 - (intOf (.int .i64 ((k : Int) + 1))).toNat < 12 - (intOf (.int .i64 (k : Int))).toNat
                          simp only [intOf]; omega
                    · obtain rfl : k = 12 := by omega
                      have HP := hide hP
                      clear hP
                      have huu : (usedL ss == usedL ss) = true := by simp
                      have hbb : ((2048 * ((cntK ss : Nat) : Int)) == (2048 * ((cntK ss : Nat) : Int))) = true := by simp
                      go_wp2_with (first | (go_at_call 17; refine (bd5_used HP.out HT1.out).mono ?_; rintro e w5 ⟨rfl, h5⟩; have H5 := hide h5; clear h5) | (go_at_call 18; refine (bd5_bytes H5.out).mono ?_; rintro e w6 ⟨rfl, h6⟩; have H6 := hide h6; clear h6))
                      go_ret
                      exact ⟨rfl, HO1.out.trans (bd5_base H6.out)⟩
theorem slabBounded_walk {H : Type} {enc : TypeId × Value → H} {w : World} {d1 : DataW H} (hT : TabS w) (L : Int) (A1 : Option Addr) (n1 c1 : Nat) (A2 : Option Addr) (n2 c2 : Nat) (zs : List Int) (r : Rd enc Tryd.prog w 22 [.slice A1 n1 c1] d1) (hr : IsRow .i64 w A2 n2 c2 zs) :
    Calls Tryd.prog 5 #[.int .i64 L, .slice A1 n1 c1, .slice A2 n2 c2] w fun e w' => e = .returned (.bool true) ∧ Below w.heap.size w w' := by
  obtain ⟨h1, h2⟩ := r.ops8
  have hlen : (zs.take n2).length = n2 ∧ n2 ≤ 9223372036854775807 := by
    rcases Nat.eq_zero_or_pos n2 with h0 | h0
    · subst h0; simp
    · obtain ⟨b, o, _, _, hl, hm, hz, _⟩ := hr.at_ h0
      have : maxLen = 9223372036854775807 := rfl
      rw [List.length_take, hz]
      omega
  have hk : KsAt w A2 (zs.take n2) := fun hp => by
    rw [hlen.1] at hp
    obtain ⟨b, o, e, hb, hl, hm, hz, hc, _⟩ := hr.at_ hp
    refine ⟨b, o, e, hb, fun i hi => ?_⟩
    rw [hlen.1] at hi
    have := hc i (by omega)
    rw [this]
    congr 2
    simp [gb, List.getD, hi]
  have := slabBounded_is L A1 n1 c1 A2 (zs.take n2) c2 w hT h1 h2 (by rw [hlen.1]; exact hlen.2) hk
  rw [hlen.1] at this
  exact this.mono fun e w' h => ⟨h.1, h.2.below (Nat.le_refl _) (by simp)⟩
end Go.Proofs.YtgoaebikgdecoaaDoor
