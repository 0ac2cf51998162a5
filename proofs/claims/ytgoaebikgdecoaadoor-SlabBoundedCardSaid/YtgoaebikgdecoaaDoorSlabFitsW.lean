/-
  Slabs (parapet/slab): Fits.
-/
import Derived.Test.YtgoaebikgdecoaaDoorSlabSpare
namespace Go.Proofs.YtgoaebikgdecoaaDoor
open Go.ChangeShapes Go.WideShapes Go.ChangeAt Go.RowKit Go.Maps
set_option linter.unusedVariables false

/-- A slice of these numbers. -/
def KsAt (w : World) (A : Option Addr) (zs : List Int) : Prop := 0 < zs.length → ∃ b o, A = some ⟨b, o, none⟩ ∧ b < w.heap.size ∧ ∀ i, i < zs.length → w.cell? ⟨b, o + i, none⟩ = some (.int .i64 (zs.getD i 0))
theorem KsAt.only {w w' : World} {A : Option Addr} {zs : List Int} (h : KsAt w A zs) (ho : Only [] w w') : KsAt w' A zs := fun hp => by
  obtain ⟨b, o, e, hb, hc⟩ := h hp
  exact ⟨b, o, e, Nat.lt_of_lt_of_le hb ho.size, fun i hi => (ho.cell hb (by simp)).trans (hc i hi)⟩
theorem updF_updF (f : Int → Int) (k a b : Int) : updF (updF f k a) k b = updF f k b := by
  funext j
  unfold updF
  by_cases e : j = k <;> simp [e]
theorem kind_of {k : Int} (h : szF k ≠ 0) : ∃ kn : Nat, kn < 11 ∧ k = (kn : Int) := by
  unfold szF at h
  split at h
  · exact ⟨k.toNat, by omega, by omega⟩
  · exact absurd rfl h
def FitIn (w : World) (B n : Nat) (zs : List Int) (R : Bool) (mv iv : Value) (wr : World) : Prop :=
  ∃ (i : Nat) (f : Int → Int) (m : Int), i ≤ n ∧ iv = .int .i64 i ∧ mv = .int .i64 m ∧ 0 ≤ m ∧ m ≤ 1000 ∧ (∀ k, 0 ≤ f k ∧ f k ≤ 100000) ∧ Blk wr B 72 (arrA f) ∧ fitsF f m (zs.drop i) = R ∧ Only [] w wr
section
variable {w w' : World} {g m : Nat} {L : Int} {v : Value} {ss : List SL} {O : List (Int × Int)} {S : List Nat}
set_option maxRecDepth 100000 in
set_option maxHeartbeats 1500000 in
theorem hFits_is (h : IsHp w g L v ss m O) (hO : OkH L ss O) (hT : TabS w) (A : Option Addr) (zs : List Int) (c : Nat) (hzl : zs.length ≤ 9223372036854775807) (hz : KsAt w A zs) :
    Calls Tryd.prog 15 #[.pointer (some ⟨g, 0, none⟩), .slice A zs.length c] w fun e w' => e = .returned (.bool (fitsF (spareF ss) (moreF L ss) zs)) ∧ Only [] w w' := by
  have HC := hide (hclosed_is h)
  have HS := hide (hspare_is h hO)
  have HM := hide (fun (wA : World) (kA : Only [] w wA) => hmore_is (h.only kA (by simp) (by simp) (by simp)) hO)
  have HT := hide hT
  have hl := hO.lim
  have hft := hO.fit
  have hm0 : 0 ≤ moreF L ss ∧ moreF L ss ≤ 1000 := by unfold moreF; omega
  have HFB := hide (show ∀ k, 0 ≤ spareF ss k ∧ spareF ss k ≤ 100000 from fun k => by have := spareF_le ss k; have := hO.few; omega)
  have HZ := hide (fun (wA : World) (kA : Only [] w wA) => hz.only kA)
  have HM0 := hide hm0
  clear h hO hT hl hft hm0 hz
  go_enter Tryd.func15, Tryd.ntmps15
  go_wp2_with (first | (go_at_call 26; refine HC.out.mono ?_; rintro e w' ⟨rfl, rfl⟩) | (go_at_call 44; refine HS.out.mono ?_; rintro e w1 ⟨rfl, ho⟩; have HO1 := hide ho; clear ho) | (go_at_call 31; refine (HM.out _ HO1.out).mono ?_; rintro e w2 ⟨rfl, ho⟩; have HO2 := hide (HO1.out.trans ho); clear ho) | (with_reducible refine wp_region_lit (id := 3) ?_) | ((with_reducible refine arr_store (.tmp 5) (.tmp 12) (spareF ss) ⟨_, ?_, Blk.new w2 _ _⟩ ?_ ?_ ?_); (· rfl); (· rfl); (· rfl)))
  have hw2 : w.heap.size ≤ w2.heap.size := HO2.out.size
  go_loopw [6, 17] (fun mv iv wr => FitIn w w2.heap.size zs.length zs (fitsF (spareF ss) (moreF L ss) zs) mv iv wr) (fun _ iv _ => zs.length - (intOf iv).toNat)
  case atStart =>
    refine ⟨0, spareF ss, moreF L ss, Nat.zero_le _, rfl, rfl, HM0.out.1, HM0.out.2, HFB.out, (Blk.new w2 _ _).row _, rfl, (HO2.out.alloc _).setRow _ (fun hlt => by omega)⟩
  case round =>
    obtain ⟨i, f, mm, hi, rfl, rfl, hm1, hm2, hf, hb, hR, ho⟩ := hrel
    by_cases hlt : i < zs.length
    · obtain ⟨q, o, rfl, hq, hqc⟩ := HZ.out _ ho (by omega)
      have q0 := hqc i hlt
      obtain ⟨k, hk⟩ : ∃ k, zs.getD i 0 = k := ⟨_, rfl⟩
      rw [hk] at q0
      have hdr : zs.drop i = k :: zs.drop (i + 1) := by
        rw [← hk, List.drop_eq_getElem_cons hlt]
        simp [List.getD, hlt]
      rw [hdr] at hR
      have HSZ := hide (hSize_is (HT.out.only ho (by simp)) k)
      have HPL := hide (fun (wA : World) (kA : Only [] w wA) => hplaces_is (HT.out.only kA (by simp)) k)
      have HO := hide ho
      by_cases hs0 : szF k = 0
      · have HRR := hide (show fitsF (spareF ss) (moreF L ss) zs = false by rw [← hR]; unfold fitsF; rw [if_pos hs0])
        rw [hs0] at HSZ
        clear hR hf hb hdr hqc ho
        go_wp2_with (go_at_call 16; refine HSZ.out.mono ?_; rintro e w' ⟨rfl, rfl⟩)
        go_ret
        exact ⟨by rw [HRR.out]; rfl, HO.out⟩
      · have hsb : (szF k == 0) = false := beq_eq_false_iff_ne.2 hs0
        obtain ⟨kn, hkn, hke⟩ := kind_of hs0
        have hkI : (kn : Int) < 11 := by omega
        have hpl := plF_le k
        have hfk := hf k
        rw [fitsF, if_neg hs0] at hR
        have c3 : wr.cell? ⟨w2.heap.size, kn, none⟩ = some (.int .i64 (f kn)) := (hb.cell kn).trans (arrA_get _ hkn)
        have z3 : wr.frozen? ⟨w2.heap.size, kn, none⟩ = false := hb.frozen kn
        subst hke
        by_cases hf0 : f kn = 0
        · have hfb : (f kn == 0) = true := by simp [hf0]
          rw [if_pos hf0] at hR
          by_cases hmz : mm = 0
          · have hmb : (mm == 0) = true := by simp [hmz]
            have HRR := hide (show fitsF (spareF ss) (moreF L ss) zs = false by rw [← hR, if_pos hmz])
            clear hR hf hb hdr hqc ho hf0 hmz
            go_wp2_with (go_at_call 16; refine HSZ.out.mono ?_; rintro e w' ⟨rfl, rfl⟩)
            go_ret
            exact ⟨by rw [HRR.out]; rfl, HO.out⟩
          · have hmb : (mm == 0) = false := beq_eq_false_iff_ne.2 hmz
            rw [if_neg hmz] at hR
            have e1 : IntKind.i64.wrap (mm - 1) = mm - 1 := by rw [IntKind.wrap_i64]; omega
            have e2 : IntKind.i64.wrap (plF kn - 1) = plF kn - 1 := by rw [IntKind.wrap_i64]; omega
            have HX := hide (show FitIn w w2.heap.size zs.length zs (fitsF (spareF ss) (moreF L ss) zs) (.int .i64 (mm - 1)) (.int .i64 ((i : Int) + 1)) ((wr.setCell ⟨w2.heap.size, kn, none⟩ (.int .i64 (plF kn))).setCell ⟨w2.heap.size, kn, none⟩ (.int .i64 (plF kn - 1))) from by
              have h1 := (hb.set_ kn (.int .i64 (plF kn))).set_ kn (.int .i64 (plF kn - 1))
              rw [arrA_set _ hkn, arrA_set _ hkn, updF_updF] at h1
              refine ⟨i + 1, updF f kn (plF kn - 1), mm - 1, hlt, by go_num, rfl, by omega, by omega, fun j => ?_, h1, hR, (ho.setCell (p := ⟨w2.heap.size, kn, none⟩) _ (fun hlt => by simp at hlt; omega)).setCell (p := ⟨w2.heap.size, kn, none⟩) _ (fun hlt => by simp at hlt; omega)⟩
              have := plF_vals kn (by intro e; have := (pop_newS hs0).2; omega)
              unfold updF; split
              · omega
              · exact hf j)
            clear hR hf hb hdr hqc ho hf0 hmz
            go_wp2_with (first | (go_at_call 16; refine HSZ.out.mono ?_; rintro e w' ⟨rfl, rfl⟩) | (go_at_call 45; refine (HPL.out _ HO.out).mono ?_; rintro e w' ⟨rfl, rfl⟩))
            go_roundw
            case rel => exact HX.out
            case measure => simp only [intOf]; omega
        · have hfb : (f kn == 0) = false := beq_eq_false_iff_ne.2 hf0
          rw [if_neg hf0] at hR
          have e2 : IntKind.i64.wrap (f kn - 1) = f kn - 1 := by rw [IntKind.wrap_i64]; omega
          have HX := hide (show FitIn w w2.heap.size zs.length zs (fitsF (spareF ss) (moreF L ss) zs) (.int .i64 mm) (.int .i64 ((i : Int) + 1)) (wr.setCell ⟨w2.heap.size, kn, none⟩ (.int .i64 (f kn - 1))) from by
            have h1 := hb.set_ kn (.int .i64 (f kn - 1))
            rw [arrA_set _ hkn] at h1
            refine ⟨i + 1, updF f kn (f kn - 1), mm, hlt, by go_num, rfl, hm1, hm2, fun j => ?_, h1, hR, ho.setCell (p := ⟨w2.heap.size, kn, none⟩) _ (fun hlt => by simp at hlt; omega)⟩
            unfold updF; split
            · omega
            · exact hf j)
          clear hR hf hb hdr hqc ho hf0
          go_wp2_with (go_at_call 16; refine HSZ.out.mono ?_; rintro e w' ⟨rfl, rfl⟩)
          go_roundw
          case rel => exact HX.out
          case measure => simp only [intOf]; omega
    · obtain rfl : i = zs.length := by omega
      have HRR := hide (show fitsF (spareF ss) (moreF L ss) zs = true by rw [← hR, List.drop_length]; rfl)
      have HO := hide ho
      clear hR hf hb ho
      go_wp2
      go_ret
      exact ⟨by rw [HRR.out]; rfl, HO.out⟩
end
end Go.Proofs.YtgoaebikgdecoaaDoor
