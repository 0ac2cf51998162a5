/-
  Open files (parapet/fdtab): counted.
-/
import Derived.Test.YtfplfpfnlffnjaaFdCm
namespace Go.Proofs.Ytfplfpfnlffnjaa
open Go.ChangeShapes Go.WideShapes Go.ChangeAt Go.RowKit Go.Maps
set_option linter.unusedVariables false
set_option linter.unusedSimpArgs false
/-- What a table names, by rising descriptors. -/
def namesT (T : List Int) : List Int := (fdsN T 16).map fun fd => gb T fd.toNat
def namesL (L : List (Nat × List Int)) : List Int := L.flatMap fun p => namesT p.2
theorem mem_fdsN {T : List Int} {n : Nat} {a : Int} (h : a ∈ fdsN T n) : ∃ i : Nat, i < n ∧ a = i ∧ gb T i ≠ -1 := by
  unfold fdsN at h
  obtain ⟨i, hi, rfl⟩ := List.mem_map.1 h
  obtain ⟨h1, h2⟩ := List.mem_filter.1 hi
  exact ⟨i, List.mem_range.1 h1, rfl, by simpa using h2⟩
theorem namesL_snoc {L : List (Nat × List Int)} {i : Nat} {p : Nat × List Int} (h : L[i]? = some p) : namesL (L.take (i + 1)) = namesL (L.take i) ++ namesT p.2 := by
  unfold namesL
  rw [List.take_add_one, h, Option.toList_some, List.flatMap_append]
  simp
theorem namesT_len (T : List Int) : (namesT T).length ≤ 16 := by
  unfold namesT
  rw [List.length_map]
  exact fdsN_len T 16
theorem namesL_len (L : List (Nat × List Int)) : (namesL L).length ≤ 16 * L.length := by
  induction L with
  | nil => simp [namesL]
  | cons p r ih =>
    have := namesT_len p.2
    simp only [namesL, List.flatMap_cons, List.length_append, List.length_cons] at ih ⊢
    omega
/-- Files and tables of the law FdCounts. -/
structure CW (w0 w : World) (g f m r : Nat) (v u : Value) (xs : List Nat) (L : List (Nat × List Int)) (O : List (Int × F5)) : Prop where
  lw : IsLw w0 w g f m r v u (L.map (·.1)) xs
  fi : IsFi w f m O
  tabs : ∀ p ∈ L, IsTa w p.1 f p.2
  nd : (L.map (·.1)).Nodup
  on : Only [] w0 w
  lf : w0.heap.size ≤ f
  lm : w0.heap.size ≤ m
  lt : ∀ p ∈ L, w0.heap.size ≤ p.1
/-- Just the Refs that are named. -/
structure OkL (L : List (Nat × List Int)) (O : List (Int × F5)) : Prop where
  few : L.length ≤ 12
  named : ∀ k ∈ namesL L, k ∈ O.map (·.1)
  refs : ∀ p ∈ O, p.2.refs = ((namesL L).count p.1 : Nat) ∧ 1 ≤ p.2.refs
section
variable {w0 w w' : World} {g f m r : Nat} {v u : Value} {xs : List Nat} {L : List (Nat × List Int)} {O : List (Int × F5)}
theorem CW.quiet (h : CW w0 w g f m r v u xs L O) (ho : Only [] w w') : CW w0 w' g f m r v u xs L O :=
  ⟨⟨h.lw.blk.only ho (by simp), h.lw.row.quiet ho, h.lw.xrow.quiet ho, h.lw.lg, h.lw.lr, h.lw.lv, h.lw.lu⟩, h.fi.quiet ho, fun p hp => (h.tabs p hp).quiet ho, h.nd, h.on.trans ho, h.lf, h.lm, h.lt⟩
set_option maxRecDepth 100000 in
set_option maxHeartbeats 2000000 in
theorem counted_is (h : CW w0 w g f m r v u xs L O) (hk : OkL L O) : Calls Try.prog 17 #[ptV g, .int .i64 O.length] w fun e w' => e = .returned (.bool true) ∧ Only [] w w' := by
  have hmm := @run_makeMap Try.prog
  have H := hide h
  have HK := hide hk
  have c1 : (w.alloc (.map #[] 0)).cell? ⟨g, 1, none⟩ = some v := (h.lw.blk.only ((Only.refl [] w).alloc _) (by simp)).cell 1
  obtain ⟨A, cap, rfl, hA⟩ := h.lw.row.form
  have HA := hide hA
  clear h hk hA
  go_enter Try.func17, Try.ntmps17
  go_wp2_with fail
  have HM0 := hide (show (w.alloc (.map #[] 0)).ownsMap Try.prog 3 elemI w.heap.size 0 (.map []) from World.ownsMap_made w _ _ _)
  have HO0 := hide (show Only [] w (w.alloc (.map #[] 0)) from (Only.refl _ _).alloc _)
  obtain ⟨q, hq⟩ : ∃ q, w.heap.size = q := ⟨_, rfl⟩
  have HQ := hide hq
  rw [hq] at HM0 ⊢
  generalize w.alloc (.map #[] 0) = W0 at *
  clear hmm hq
  go_loopw [22] (fun iv wr => ∃ (i : Nat) (R : List (Int × Int)) (D : DataW Unit), i ≤ L.length ∧ iv = .int .i64 i ∧ wr.ownsMap Try.prog 3 elemI q R.length D ∧ MHolds encI D R ∧ CM (namesL (L.take i)) R ∧ Only [] w wr) (fun iv _ => L.length - (intOf iv).toNat)
  case atStart => exact ⟨0, [], _, Nat.zero_le _, rfl, HM0.out, MHolds.empty, by simpa [namesL] using CM.nil, HO0.out⟩
  case round =>
    obtain ⟨i, R, D, hi, rfl, d1, d2, hcm, ho⟩ := hrel
    have HD1 := hide d1
    have HD2 := hide d2
    have HCM := hide hcm
    have HO := hide ho
    clear d1 d2 hcm
    rw [show (L.map (·.1)).length = L.length from List.length_map _] at *
    by_cases hlt : i < L.length
    · have hltI : (i : Int) < L.length := by omega
      obtain ⟨b, rfl, hbl, hbc⟩ := HA.out (by omega)
      obtain ⟨p, hp⟩ : ∃ p, L[i]? = some p := ⟨_, List.getElem?_eq_getElem hlt⟩
      have cp := (ho.cell hbl (by simp)).trans (hbc i p.1 (by rw [List.getElem?_map, hp]; rfl))
      have hpL := List.mem_of_getElem? hp
      have HP := hide hp
      have ht := (H.out.tabs p hpL).quiet ho
      have HT := hide ht
      have HF := hide (fds_is ht)
      clear ho ht hp
      obtain ⟨t, T⟩ := p
      dsimp only at *
      have HN := hide (namesL_snoc HP.out)
      have hnl : (namesL (L.take i)).length ≤ 192 := by
        have h1 := namesL_len (L.take i)
        have h2 := HK.out.few
        rw [List.length_take] at h1
        omega
      have hfl := fdsN_len T 16
      have hL12 := HK.out.few
      go_wp2_with (go_at_call 24; refine HF.out.mono ?_; rintro e wf ⟨x, rfl, hr, ho⟩; obtain ⟨A2, cap2, rfl, hA2⟩ := hr.form; have HA2 := hide hA2; have HO2 := hide ho; clear hr ho hA2)
      generalize hF : fdsN T 16 = F at *
      have HFE := hide hF
      clear hF
      go_loopw [29] (fun jv wl => ∃ (j : Nat) (R : List (Int × Int)) (D : DataW Unit), j ≤ F.length ∧ jv = .int .i64 j ∧ wl.ownsMap Try.prog 3 elemI q R.length D ∧ MHolds encI D R ∧ CM (namesL (L.take i) ++ (F.take j).map fun fd => gb T fd.toNat) R ∧ Only [q] wf wl) (fun jv _ => F.length - (intOf jv).toNat)
      case atStart => exact ⟨0, R, D, Nat.zero_le _, rfl, ownsMap_only HD1.out HO2.out (by simp), HD2.out, by simpa using HCM.out, Only.refl _ _⟩
      case round =>
        obtain ⟨j, R2, D2, hj, rfl, e1, e2, hcm2, ho2⟩ := hrel
        have hqw := ownsMap_lt HD1.out
        have hts := (H.out.tabs _ hpL).blk.lt
        have htl : IsTa _ t f T := (HT.out.quiet HO2.out).only ho2 (by simp; have := HQ.out; omega)
        have HO3 := hide ho2
        by_cases hlt2 : j < F.length
        · have hltI2 : (j : Int) < F.length := by omega
          obtain ⟨b2, rfl, hB2, hb2, hc2⟩ := HA2.out (by omega)
          have c2 := (ho2.cell hb2 (by simp; omega)).trans (hc2 j hlt2)
          obtain ⟨i2, hi2, hfi, hgn⟩ := mem_fdsN (show F[j] ∈ fdsN T 16 by rw [HFE.out]; exact List.getElem_mem hlt2)
          have hgj : gb F j = i2 := by rw [← hfi]; simp [gb, List.getD, List.getElem?_eq_getElem hlt2]
          rw [hgj] at c2
          have hrg := htl.gbr hi2
          have HG := hide (tget_ok htl hi2 hgn)
          have HTK := hide (show (F.take (j + 1)).map (fun fd => gb T fd.toNat) = (F.take j).map (fun fd => gb T fd.toNat) ++ [gb T i2] by rw [List.take_add_one, List.getElem?_eq_getElem hlt2, Option.toList_some, List.map_append, hfi]; simp)
          have hlen : (namesL (L.take i) ++ (F.take j).map fun fd => gb T fd.toNat).length ≤ 208 := by simp; omega
          generalize hns : (namesL (L.take i) ++ (F.take j).map fun fd => gb T fd.toNat) = ns at *
          have HNS := hide hns
          generalize gb T i2 = y at *
          have hiw : iW y := iW_small (by omega) (by omega)
          have hRl : R2.length < maxLen := by have := hcm2.few; unfold maxLen; omega
          have HTL := hide htl
          clear htl hns
          by_cases hm : y ∈ ns
          · obtain ⟨⟨y', c⟩, hp, hyy⟩ := List.mem_map.1 ((hcm2.keys y).2 hm)
            dsimp only at hyy
            subst hyy
            have hcv := hcm2.cnt _ hp
            have hcl : ns.count y' ≤ ns.length := List.count_le_length
            dsimp only at hcv
            have hcb0 : 0 ≤ c := by omega
            have hcb1 : c ≤ 208 := by omega
            have hl := lookI e2 e1 hp false
            rw [if_neg (by decide)] at hl
            obtain ⟨w4, hrun, hown, ho4⟩ := storeI_old e2 e1 hRl hp (e := c + 1) (by have := @iW_small; simp only [iW, Lit.wf, show IntKind.i64.min = -9223372036854775808 by decide, show IntKind.i64.max = 9223372036854775807 by decide, Bool.and_eq_true, decide_eq_true_eq]; omega)
            have HOWN := hide hown
            have HO4 := hide (HO3.out.trans ho4)
            have HCM2 := hide (hcm2.old hp)
            have HE2 := hide (e2.old hp (c + 1))
            clear hown ho4 hcm2 e1 e2 hp ho2 hcv hcl hm
            go_wp2_with (go_at_call 15; refine HG.out.mono ?_; rintro e w' ⟨rfl, rfl⟩)
            go_roundw
            case rel => exact ⟨j + 1, _, _, hlt2, by go_num, HOWN.out, HE2.out, by rw [HTK.out, ← List.append_assoc, HNS.out]; exact HCM2.out, HO4.out⟩
            case measure => simp [intOf]; omega
          · have hnk : y ∉ R2.map (·.1) := fun hh => hm ((hcm2.keys y).1 hh)
            have hl := lookI_zero e2 e1 hiw hnk
            obtain ⟨w4, hrun, hown, ho4⟩ := storeI_new (f := 1) e2 e1 hRl hiw hnk (by decide)
            have HOWN := hide hown
            have HO4 := hide (HO3.out.trans ho4)
            have HCM2 := hide (hcm2.new hm)
            have HE2 := hide (e2.new (f := 1) hiw hnk)
            clear hown ho4 hcm2 e1 e2 ho2 hm hnk
            go_wp2_with (go_at_call 15; refine HG.out.mono ?_; rintro e w' ⟨rfl, rfl⟩)
            go_roundw
            case rel => exact ⟨j + 1, _, _, hlt2, by go_num, HOWN.out, HE2.out, by rw [HTK.out, ← List.append_assoc, HNS.out]; exact HCM2.out, HO4.out⟩
            case measure => simp [intOf]; omega
        · obtain rfl : j = F.length := by omega
          have HE1 := hide e1
          have HE2 := hide e2
          have HCM2 := hide hcm2
          clear e1 e2 hcm2 ho2 htl
          go_wp2
          go_roundw
          case rel => exact ⟨i + 1, R2, D2, hlt, by go_num, HE1.out, HE2.out, by rw [HN.out]; have := HCM2.out; rw [List.take_length, ← HFE.out] at this; exact this, (HO.out.trans HO2.out).trans' HO3.out (fun k hk hm => by simp at hm; have := HQ.out; omega)⟩
          case measure => simp [intOf]; omega
    · obtain rfl : i = L.length := by omega
      rw [List.take_length] at HCM
      have HLEN := hide (show R.length = O.length from by
        have hk := HK.out
        have hp : (R.map (·.1)).Perm (O.map (·.1)) := (List.perm_ext_iff_of_nodup HD2.out.nd H.out.fi.nd).2 (fun a => by
          rw [HCM.out.keys]
          refine ⟨hk.named a, fun hm => ?_⟩
          obtain ⟨p, hp, rfl⟩ := List.mem_map.1 hm
          have := hk.refs p hp
          exact List.count_pos_iff.1 (by omega))
        have := hp.length_eq
        simpa using this)
      have hl := fun ty => (lenI HD2.out HD1.out ty).trans (by rw [HLEN.out])
      have c0 : wr.cell? ⟨g, 0, none⟩ = some (ptV f) := (H.out.lw.blk.only ho (by simp)).cell 0
      have HA22 := hide (all_is (H.out.fi.quiet ho))
      have hsl := sort22_length (O.map (·.1))
      rw [List.length_map] at hsl
      have HOO := hide ho
      have hfew := H.out.fi.few
      clear ho
      go_wp2_with (first | (go_at_call 21; refine HA22.out.mono ?_; rintro e wa ⟨va, rfl, hr, -, ho⟩; obtain ⟨A3, cap3, rfl, -⟩ := hr.form2; rw [hsl]; have hown := ownsMap_only HD1.out ho (by simp); have HO2 := hide (HOO.out.trans ho); clear hr ho) | (at_range; refine wpList_range_own _ rfl _ 75 rfl 3 3 lawInt Try.underlying75 elemI q _ D rfl hown ?_; intro w1 hrg0 hg0 hs0))
      go_frame
      have hqa := ownsMap_lt hown
      have HOR0 := hide (show Only [] w w1 from HO2.out.trans' (S' := [q]) (Only.of_grown hg0 (by simp)) (fun k hk hm => by simp at hm; have := HQ.out; omega))
      have HRG0 := hide hrg0
      have HSZ := hide (show q ≠ wa.heap.size by omega)
      have HWS := hide HO2.out.size
      clear hrg0 hg0 hs0 hown hl c0
      obtain ⟨it, hit⟩ : ∃ it, wa.heap.size = it := ⟨_, rfl⟩
      have HIT := hide hit
      rw [hit] at HRG0 HSZ HWS
      rw [hit]
      clear hit
      go_loopw [63] (fun _ wl => ∃ left cnt, wl.ranges Try.prog 3 elemI q it R.length D left cnt ∧ Only [] w wl) (fun _ wl => wl.rangeLeft q it)
      case atStart => exact ⟨_, _, HRG0.out, HOR0.out⟩
      case round =>
        obtain ⟨left, cnt, hrg, ho⟩ := hrel
        have HRG := hide hrg
        have HOL := hide ho
        clear ho
        go_wp2_with (at_next; refine wpList_next_ranges _ rfl _ rfl 3 lawInt elemI (fun v => v) (fun v => v) (fun key kl h => ⟨key, rfl⟩) (fun v y h => ⟨v, rfl⟩) q it _ D left cnt rfl hrg ?_ ?_)
        · intro _ hl0
          clear hl0 hrg
          go_wp2
          go_ret
          exact ⟨rfl, HOL.out⟩
        · intro x fv kl y1 y2 w2 cnt1 hkx hlx hRy hat hrg1 hlt2 hg1 hs1 hen
          obtain ⟨n, hn8, rfl, -⟩ := elemI_inv hRy
          obtain ⟨t, ht, rfl, rfl⟩ := comeI HD2.out hn8 hkx hRy hat
          have hlt1 : it < w2.heap.size := hrg1.lt
          have HOW := hide (show Only [] w w2 from HOL.out.trans' (S' := [it]) ⟨hg1.os, hg1.tape, hg1.output, hg1.size, fun i hi hn => hg1.block i hi (fun e => hn (by injection e with e; simp [e]))⟩ (fun k hk hm => by simp at hm; have := HWS.out; omega))
          have HRG1 := hide hrg1
          have HLT := hide hlt2
          have hcn := HCM.out.cnt _ ht
          have hto : t ∈ O.map (·.1) := HK.out.named _ ((HCM.out.keys t).1 (List.mem_map.2 ⟨_, ht, rfl⟩))
          obtain ⟨⟨t', x⟩, hx, hxt⟩ := List.mem_map.1 hto
          dsimp only at hxt hcn
          subst hxt
          have hrx := (HK.out.refs _ hx).1
          dsimp only at hrx
          have HGT := hide (get_ok (H.out.fi.quiet HOW.out) hx)
          have c0 : w2.cell? ⟨g, 0, none⟩ = some (ptV f) := (H.out.lw.blk.only HOW.out (by simp)).cell 0
          obtain ⟨x1, x2, x3, x4, x5⟩ := x
          dsimp only [fV, fC] at hrx HGT
          rw [← hcn] at hrx
          subst hrx
          clear hrg hrg1 hlt2 hg1 hs1 hkx hRy hat ht hlx hto hx hcn
          go_wp2_with (go_at_call 19; refine HGT.out.mono ?_; rintro e w3 ⟨rfl, ho⟩; have HO3 := hide ho; clear ho)
          have hr2 := ranges_onlyF HRG1.out (HO3.out.alloc (.cells #[.int .i64 x1, .int .i64 x2, .int .i64 x3, .int .i64 x4, .int .i64 x5] 42)) (by simp) (by simp)
          go_roundw
          case rel => exact ⟨_, cnt1, hr2, HOW.out.trans (HO3.out.alloc _)⟩
          case measure => rw [hr2.left_eq, HRG.out.left_eq]; exact HLT.out
end
end Go.Proofs.Ytfplfpfnlffnjaa
