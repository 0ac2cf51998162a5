/-
  The walk of 'TlbOver'.
-/
import Derived.Test.YtdkbjnnflpopdaaTlbForgetsWalk
import Derived.Test.YtdkbjnnflpopdaaTlbOne
import Derived.Test.YtdkbjnnflpopdaaAppAny
namespace Go.Proofs.Ytdkbjnnflpopdaa
open Go.ChangeShapes Go.WideShapes Go.ChangeAt Go.RowKit Go.Maps Go.Shelf
set_option linter.unusedVariables false

def foot5 (ob hb : Nat) (bs : Nat → Nat) : List Nat := ob :: foot4 hb bs
theorem foot5_ok (ob hb : Nat) (bs : Nat → Nat) : ob ∈ foot5 ob hb bs ∧ ∀ j, j < 4 → bs j ∈ foot5 ob hb bs := ⟨by simp [foot5], fun j hj => List.mem_cons_of_mem _ ((foot4_ok hb bs).2 j hj)⟩
section
variable {w w' : World} {t hb ob n size : Nat} {begun : Int} {bs : Nat → Nat} {ls : Nat → List (K2 × K2)} {nx : Nat → Int} {sp : Int} {L : List Int}
theorem bOver_one (T : IsTlb w t hb ob n size 1 bs ls nx (openO sp L)) : Calls Try.prog 16 #[.pointer (some ⟨t, 0, none⟩), .int .i64 1] w fun e w' => e = .returned (.bool (decide (L = []))) ∧ Only [] w w' := by
  by_cases h : L = []
  · rw [decide_eq_true h]
    subst h
    exact bOver_yes T 1 (by decide) (by decide) (by decide) (by simp [openO])
  · rw [decide_eq_false h]
    exact bOver_open T 1 (s := (sp, marks L)) (by decide) (by decide) (by unfold openO; rw [if_neg h]; simp)
theorem bPending_none (T : IsTlb w t hb ob n size begun bs ls nx []) : Calls Try.prog 15 #[.pointer (some ⟨t, 0, none⟩), .int .i64 0] w fun e w' => ∃ A c, e = .returned (.slice A 0 c) ∧ Only [] w w' := by
  have hn := T.n1
  refine (show Calls Try.prog 15 #[.pointer (some ⟨t, 0, none⟩), .int .i64 0] w _ from bPending_is T 0 (by omega) (by simp)).mono ?_
  rintro e w' ⟨v, rfl, hr, ho⟩
  rw [show pend [] 0 = [] from rfl, sortK_nil'] at hr
  obtain ⟨A, c, rfl, _⟩ := hr.form
  exact ⟨A, c, rfl, ho⟩
end
/-- Who has acknowledged keeps nothing of the space. -/
def Gone (sp : Int) (ts L : List Int) (ls : Nat → List (K2 × K2)) : Prop := ∀ h : Nat, h < 4 → (h : Int) ∈ ts → (h : Int) ∉ L → ∀ p ∈ ls h, p.1.1 ≠ sp
theorem Gone.step {sp : Int} {ts L : List Int} {ls : Nat → List (K2 × K2)} (g : Gone sp ts L ls) (x : Int) : Gone sp ts (L.filter fun y => decide (y ≠ x)) (lsH ls sp L x) := fun h hh hm hn p hp => by
  unfold lsH at hp
  by_cases hx : x ∈ L
  · rw [if_pos hx] at hp
    by_cases e : h = x.toNat
    · subst e
      rw [updF_same] at hp
      unfold notSp at hp
      simpa using (List.mem_filter.1 hp).2
    · rw [updF_far _ _ e] at hp
      refine g h hh hm (fun hl => hn (List.mem_filter.2 ⟨hl, ?_⟩)) p hp
      simp only [decide_eq_true_eq]
      omega
  · rw [if_neg hx] at hp
    refine g h hh hm (fun hl => hn (List.mem_filter.2 ⟨hl, ?_⟩)) p hp
    simp only [decide_eq_true_eq]
    exact fun e => hx (e ▸ hl)
def OvR (wS : World) (m t hb ob : Nat) (bs : Nat → Nat) (sp : Int) (ts : List Int) (lv iv : Value) (wr : World) : Prop :=
  ∃ (i : Nat) (L : List Int) (ls : Nat → List (K2 × K2)) (nx : Nat → Int), i ≤ m ∧ iv = .int .i64 i ∧ KRow .i64 3 wr wS.heap.size lv L ∧ okT 4 L ∧ IsTlb wr t hb ob 4 8 1 bs ls nx (openO sp L) ∧ Gone sp ts L ls ∧ L.length ≤ ts.length ∧ Only (foot5 ob hb bs) wS wr
theorem krow_base {w : World} {v : Value} {ns : List Int} {B B' : Nat} (h : KRow .i64 3 w B v ns) (hB : B' ≤ B) : KRow .i64 3 w B' v ns := by
  obtain ⟨h1, ⟨e, h0⟩ | ⟨g, cap, cur, rfl, hb, rest⟩⟩ := h
  · exact ⟨h1, .inl ⟨e, h0⟩⟩
  · exact ⟨h1, .inr ⟨g, cap, cur, rfl, Nat.le_trans hB hb, rest⟩⟩
theorem gb_at {L : List Int} {k : Nat} (h : k < L.length) : L.take (k + 1) = L.take k ++ [gb L k] := by
  rw [List.take_succ_eq_append_getElem h]
  congr 2
  simp [gb, List.getD, List.getElem?_eq_getElem h]
theorem okT_filter {n : Nat} {L : List Int} (h : okT n L) (P : Int → Bool) : okT n (L.filter P) := ⟨h.1.sublist List.filter_sublist, fun x hx => h.2 x (List.mem_filter.1 hx).1⟩
theorem news_of {W : World} {A : Option Addr} {ts : List Int} (h : TsAt W A ts) : ∀ ad, A = some ad → ∀ j u, (i64l ts)[j]? = some u → W.cell? (ad.add j) = some u := fun ad e j u hu => by
  have hj : j < ts.length := by have := (List.getElem?_eq_some_iff.1 hu).1; rwa [i64l_length] at this
  obtain ⟨q, o, e2, hq, hc⟩ := h (by omega)
  rw [e] at e2
  injection e2 with e2
  subst e2
  rw [add_at, hc j _ (List.getElem?_eq_getElem hj), ← hu]
  simp [i64l, List.getElem?_eq_getElem hj]
def NwR (w7 : World) (B : Nat) (L : List Int) (x : Int) (nv kv : Value) (wr : World) : Prop :=
  ∃ k : Nat, k ≤ L.length ∧ kv = .int .i64 k ∧ KRow .i64 3 wr B nv ((L.take k).filter fun y => decide (y ≠ x)) ∧ Only [] w7 wr

def FinR (w6 : World) (n : Nat) (iv : Value) (wr : World) : Prop := ∃ m : Nat, m ≤ n ∧ iv = .int .i64 m ∧ Only [] w6 wr
def WtR (w6 : World) (L : List Int) (x : Int) (tw kv : Value) (wr : World) : Prop := ∃ k : Nat, k ≤ L.length ∧ kv = .int .i64 k ∧ tw = .bool (decide (x ∈ L.take k)) ∧ Only [] w6 wr
theorem among_step {L : List Int} {k : Nat} (h : k < L.length) (x : Int) : decide (x ∈ L.take (k + 1)) = (decide (x ∈ L.take k) || (gb L k == x)) := by
  rw [gb_at h, Bool.eq_iff_iff]
  simp only [decide_eq_true_eq, List.mem_append, List.mem_singleton, Bool.or_eq_true, beq_iff_eq]
  constructor
  · rintro (h | h)
    · exact .inl h
    · exact .inr h.symm
  · rintro (h | h)
    · exact .inl h
    · exact .inr h.symm

set_option maxRecDepth 100000 in
set_option maxHeartbeats 1500000 in
theorem over_walk (A A2 A3 : Option Addr) (n cp c2 c3 : Nat) (sp : Int) (ts od : List Int) (w : World) (hn : n < 2000000000000) (hops : ∀ i, i < n → OpAt7 w A i) (hts : TsAt w A2 ts ∧ (A2 = none → ts.length = 0 ∧ c2 = 0)) (ht : ts.length < 40000000000000) (hod : TsAt w A3 od) (hd : od.length < 40000000000000) :
    Calls Try.prog 4 #[.slice A n cp, .int .i64 sp, .slice A2 ts.length c2, .slice A3 od.length c3] w fun e w' => e = .returned (.bool true) ∧ Below w.heap.size w w' := by
  have HOPS := hide hops
  have HTS := hide hts
  have HOD := hide hod
  clear hops hts hod
  go_enter Try.func4, Try.ntmps4
  go_wp2_with fail
  refine (show Calls Try.prog 8 #[.int .i64 4, .int .i64 8] w _ from bNew_ok 4 8 w ⟨by decide, by decide⟩ ⟨by decide, by decide⟩).mono ?_
  rintro e w1 ⟨t, hb, ob, bs, rfl, hT, a1, a2, a3, a4, o1⟩
  have HT1 := hide hT
  have HFT := hide (show (∀ q ∈ foot4 hb bs, w.heap.size ≤ q ∧ q < w1.heap.size) from by
    have rr : ∀ j, j < 4 → bs j < w1.heap.size := fun j hj => by
      obtain ⟨D, h1, _⟩ := (hT.hart j hj).own
      exact h1.lt
    have r1 := hT.row.lt
    have c0 := a4 0 (by decide)
    have c1 := a4 1 (by decide)
    have c2 := a4 2 (by decide)
    have c3 := a4 3 (by decide)
    have d0 := rr 0 (by decide)
    have d1 := rr 1 (by decide)
    have d2 := rr 2 (by decide)
    have d3 := rr 3 (by decide)
    intro q hq
    unfold foot4 at hq
    simp at hq
    omega)
  have HO1 := hide o1
  have HG := hide (show (∀ q ∈ t :: foot5 ob hb bs, w.heap.size ≤ q ∧ q < w1.heap.size) from by
    have r1 := hT.blk.lt
    have r2 : ob < w1.heap.size := by
      obtain ⟨D, h1, _⟩ := hT.opn
      exact h1.lt
    have r3 := HFT.out
    intro q hq
    unfold foot5 at hq
    rcases List.mem_cons.1 hq with rfl | hq
    · exact ⟨a1, r1⟩
    · rcases List.mem_cons.1 hq with rfl | hq
      · exact ⟨a3, r2⟩
      · exact r3 q hq)
  clear hT a1 a2 a3 a4 o1
  go_wp2_with (go_at_call 10; refine (lives7 _).mono ?_; rintro e w3 ⟨rfl, o3⟩; have HO3 := hide o3; clear o3)
  have HT3 := hide (HT1.out.new HO3.out)
  have HOW := hide (HO1.out.trans HO3.out)
  have HSZ := hide HO3.out.size
  clear HT1 HO1 HO3
  go_loopw [11] (fun i wr => FgRel w3 n t hb ob bs i wr) (fun i _ => n - (intOf i).toNat)
  case atStart => exact ⟨0, _, _, Nat.zero_le _, rfl, HT3.out, fun j => by simp, Only.refl _ _⟩
  case round =>
    clear HT3
    obtain ⟨k, ls, nx, hk, rfl, hT, hnx, ho⟩ := hrel
    by_cases hlt : k < n
    · obtain ⟨q, o, kd, h, key, en, m, V, vn, vc, rfl, hq, hkw, c0, c1, c2, c3, c4, c5, c6⟩ := HOPS.out k hlt
      have hq3 : q < w3.heap.size := Nat.lt_of_lt_of_le hq HOW.out.size
      have hqf : q ∉ foot4 hb bs := fun hh => by have := (HFT.out q hh).1; omega
      have hqr : q < wr.heap.size := Nat.lt_of_lt_of_le hq3 ho.size
      have hcc : ∀ x, wr.cell? ⟨q, x, none⟩ = w.cell? ⟨q, x, none⟩ := fun x => (ho.cell hq3 hqf).trans (HOW.out.cell hq (by simp))
      have HS := hide (fun W (hW : Only (foot4 hb bs) wr W) => (show W.cell? ⟨q, o + k * 7 + 1, none⟩ = some (.int .i64 h) ∧ W.cell? ⟨q, o + k * 7 + 2, none⟩ = some (.int .i64 key.1) ∧ W.cell? ⟨q, o + k * 7 + 3, none⟩ = some (.int .i64 key.2) ∧ W.cell? ⟨q, o + k * 7 + 4, none⟩ = some (.int .u32 en) from
        ⟨(hW.cell hqr hqf).trans ((hcc _).trans c1), (hW.cell hqr hqf).trans ((hcc _).trans c2), (hW.cell hqr hqf).trans ((hcc _).trans c3), (hW.cell hqr hqf).trans ((hcc _).trans c4)⟩))
      have HF := hide (fun W (hW : Only [] wr W) => bFill_any (hT.new hW) (foot4_ok hb bs) h hkw en (fun j _ => by have := hnx j; omega))
      have HOO := hide ho
      have HNX := hide hnx
      have hkn : (k : Int) < n := by omega
      obtain ⟨x1, x2, x3, x4⟩ := HS.out wr (Only.refl _ _)
      clear c0 c1 c2 c3 c4 c5 c6 hcc hq hqf hq3 hqr hT ho hnx hkw
      go_wp2_with fail
      go_region_held3 (fun w' => w'.cell? ⟨q, o + k * 7 + 1, none⟩ = some (.int .i64 h) ∧ w'.cell? ⟨q, o + k * 7 + 2, none⟩ = some (.int .i64 key.1) ∧ w'.cell? ⟨q, o + k * 7 + 3, none⟩ = some (.int .i64 key.2) ∧ w'.cell? ⟨q, o + k * 7 + 4, none⟩ = some (.int .u32 en)) (first | assumption | exact HK2.out | exact HS.out _ (by repeat (first | exact Only.refl _ _ | apply Only.drew)) | go_keep) (first | (go_at_call 13; refine (HF.out _ (by repeat (first | exact Only.refl _ _ | apply Only.drew))).mono ?_; rintro e w4 ⟨⟨x, rfl⟩, hT4, ho4⟩; have HO4 := hide (show Only (foot4 hb bs) wr w4 from Only.trans (by repeat (first | exact Only.refl _ _ | apply Only.drew)) ho4); have HK2 := hide (HS.out w4 HO4.out); have HT4 := hide hT4; clear hT4 ho4))
      have HD := hide (show FgRel w3 n t hb ob bs (.int .i64 ((k : Int) + 1)) w4 from ⟨k + 1, _, _, hlt, rfl, HT4.out, fun j => by have := fillNx_le 4 ls nx h key j; have := HNX.out j; omega, HOO.out.trans HO4.out⟩)
      clear HS HF HK2 HT4 x1 x2 x3 x4
      go_wp2
      go_roundw
      case rel => exact HD.out
      case measure => simp [intOf]; omega
    · have HOO := hide ho
      have hkn : ¬ (k : Int) < n := by omega
      have hts2 : ∀ W, Only (foot4 hb bs) w3 W → TsAt W A2 ts := fun W hW hp => by
        obtain ⟨q, o, e, hq, hc⟩ := HTS.out.1 hp
        have hq3 : q < w3.heap.size := Nat.lt_of_lt_of_le hq HOW.out.size
        have hqf : q ∉ foot4 hb bs := fun hh => by have := (HFT.out q hh).1; omega
        exact ⟨q, o, e, Nat.lt_of_lt_of_le hq3 hW.size, fun i x hx => (hW.cell hq3 hqf).trans ((HOW.out.cell hq (by simp)).trans (hc i x hx))⟩
      by_cases hok : okT 4 ts
      · have hst := bStart_ok hT sp (by decide) (by decide) (by simp) (by simp) (c := c2) (hts2 wr ho) (by omega) hok
        rw [show (0 : Int) + 1 = 1 from rfl, beginO_one] at hst
        have HST := hide hst
        have HTT := hide hT
        have HCELL := hide (show ∀ W, Only (t :: foot5 ob hb bs) w3 W → ∀ q o, q < w.heap.size → W.cell? ⟨q, o, none⟩ = w.cell? ⟨q, o, none⟩ ∧ q < W.heap.size from fun W hW q o hq => by
          have hq3 : q < w3.heap.size := Nat.lt_of_lt_of_le hq HOW.out.size
          exact ⟨(hW.cell hq3 (fun hh => by have := (HG.out q hh).1; omega)).trans (HOW.out.cell hq (by simp)), Nat.lt_of_lt_of_le hq3 hW.size⟩)
        have HTA := hide (show ∀ W, Only (t :: foot5 ob hb bs) w3 W → TsAt W A2 ts from fun W hW hp => by
          obtain ⟨q, o, e, hq, hc⟩ := HTS.out.1 hp
          exact ⟨q, o, e, (HCELL.out W hW q 0 hq).2, fun i x hx => (HCELL.out W hW q _ hq).1.trans (hc i x hx)⟩)
        have HOG := hide (show Only (t :: foot5 ob hb bs) w3 wr from ho.mono (fun q _ hq => List.mem_cons_of_mem _ (List.mem_cons_of_mem _ hq)))
        have HL8 := hide hok
        have hlen4 := okT_len 4 ts hok
        clear hst hT ho hnx hlt hk hts2 HOO hok
        go_wp2_with (first | (go_at_call 14; refine HST.out.mono ?_; rintro e w4 ⟨rfl, hT4, ho4⟩; have HT4 := hide hT4; have HO4 := hide (HOG.out.trans (ho4.mono (fun q _ hq => by simp at hq; rcases hq with rfl | rfl <;> simp [foot5]))); clear hT4 ho4 HST) | (at_builtin; refine wpList_append_any rfl _ _ rfl (.slice (some ⟨w4.heap.size, 0, none⟩) 0 0) [] rfl (irow_empty (Blk.new w4 3 #[])) A2 ts.length c2 rfl HTS.out.2 ts rfl (news_of (HTA.out _ (HO4.out.alloc _))) (by simp; omega) ?_; intro v5 w5 h1 h2 h3; have H1 := hide (And.intro h1 (And.intro h2 h3)); clear h1 h2 h3))
        have HRW := hide (irow_base (B := w4.heap.size) (by simpa using H1.out.1) (fun q hq => by
          rcases H1.out.2.2 q hq with h | h
          · simp [Value.ownBlock] at h; omega
          · simp at h; omega))
        have HO5 := hide (show Only [] w4 w5 from ((Only.refl [] w4).alloc _).trans' H1.out.2.1 (fun q h3 h4 => by simp [Value.ownBlock] at h4; omega))
        clear H1
        have HS4 := hide (show ∀ q ∈ t :: foot5 ob hb bs, q < w4.heap.size from fun q hq => by
          have := (HG.out q hq).2
          have := HSZ.out
          have := HO4.out.size
          omega)
        go_loopw [13, 14] (fun lv iv wq => OvR w4 od.length t hb ob bs sp ts lv iv wq) (fun _ iv _ => od.length - (intOf iv).toNat)
        case atStart => exact ⟨0, ts, ls, nx, Nat.zero_le _, rfl, HRW.out, HL8.out, HT4.out.new HO5.out, fun h _ hm hn => absurd hm hn, Nat.le_refl _, HO5.out.mono (by simp)⟩
        case round =>
          clear HRW HO5 HT4
          obtain ⟨i, L, ls', nx', hi, rfl, hrow, hokL, hT, hg, hLt, ho⟩ := hrel
          obtain ⟨AL, cL, rfl, hAL⟩ := hrow.form
          obtain ⟨bo, hbo⟩ : ∃ bo, decide (L = []) = bo := ⟨_, rfl⟩
          have HOV := hide (bOver_one hT)
          rw [hbo] at HOV
          have hl1 : decide ((L.length : Int) = 0) = bo := by rw [← hbo, decide_eq_decide]; simp
          have hl2 : ((L.length : Int) == 0) = bo := by rw [← hl1]; rfl
          by_cases hil : i < od.length
          · obtain ⟨x, hx⟩ : ∃ x, od[i]? = some x := ⟨_, List.getElem?_eq_getElem hil⟩
            obtain ⟨q, o, rfl, hq, hc⟩ := HOD.out (by omega)
            have hoG : Only (t :: foot5 ob hb bs) w3 wr := HO4.out.trans (ho.mono (fun q _ hq => List.mem_cons_of_mem _ hq))
            have HC0 := hide (fun W (hW : Only (foot5 ob hb bs) wr W) => (HCELL.out W (hoG.trans (hW.mono (fun q _ hq => List.mem_cons_of_mem _ hq))) q (o + i) hq).1.trans (hc i x hx))
            have HHD := hide (fun W (hW : Only [] wr W) => bHandle_any (hT.new hW) hokL (foot5_ok ob hb bs) x)
            have HRW := hide hrow
            have HG2 := hide (hg.step x)
            have HOK := hide hokL
            have HO := hide ho
            have c0 := HC0.out wr (Only.refl _ _)
            have hii : (i : Int) < od.length := by omega
            have HAL := hide hAL
            have hL4 : L.length < 4000000000000 := by omega
            clear hrow hokL hT hg ho hAL hx hc hoG hi
            go_wp2_with (first | (go_at_call 16; refine HOV.out.mono ?_; rintro e w6 ⟨rfl, ho6⟩; have HO6 := hide ho6; have c1 := HC0.out _ (ho6.mono (by simp)); clear ho6 HOV) | (go_at_call 17; refine (HHD.out _ HO6.out).mono ?_; rintro e w7 ⟨⟨y, rfl⟩, hT7, ho7⟩; have HT7 := hide hT7; have HO7 := hide ((HO6.out.mono (by simp)).trans ho7); clear hT7 ho7 HHD))
            have c7 := HC0.out w7 HO7.out
            have HS7 := hide (show w4.heap.size ≤ w7.heap.size from Nat.le_trans HO.out.size HO7.out.size)
            go_loopw [15, 16] (fun nv kv wz => NwR w7 w7.heap.size L x nv kv wz) (fun _ kv _ => L.length - (intOf kv).toNat)
            case atStart => exact ⟨0, Nat.zero_le _, rfl, KRow.nil _ _ _ _, Only.refl _ _⟩
            case round =>
              obtain ⟨k2, hk2, rfl, hrn, hoz⟩ := hrel
              by_cases hkl : k2 < L.length
              · obtain ⟨bL, rfl, hBL, hbL, hcl⟩ := HAL.out (by omega)
                have k0 := (hoz.cell (Nat.lt_of_lt_of_le hbL HO7.out.size) (by simp)).trans ((HO7.out.cell hbL (fun hh => by have := HS4.out bL (List.mem_cons_of_mem _ hh); omega)).trans (hcl k2 hkl))
                have k1 := (hoz.cell (World.block_lt_of_cell? w7 ⟨q, o + i, none⟩ c7) (by simp)).trans c7
                have hki : (k2 : Int) < L.length := by omega
                have HTK := hide (gb_at hkl)
                have HOZ := hide hoz
                have HRN := hide hrn
                generalize hgv : gb L k2 = y at k0 HTK
                have hfl : ((L.take k2).filter fun z => decide (z ≠ x)).length < 4000000000000 := by
                  have h1 := List.length_filter_le (fun z => decide (z ≠ x)) (L.take k2)
                  rw [List.length_take] at h1
                  omega
                have HFL := hide hfl
                clear hoz hrn hcl hbL hBL hgv hfl
                by_cases hxy : y = x
                · subst hxy
                  have HD := hide (fun m => show NwR w7 w7.heap.size L y u15 (.int .i64 ((k2 : Int) + 1)) (wr.drewN m) from ⟨k2 + 1, hkl, rfl, by rw [HTK.out, List.filter_append]; simpa using HRN.out.only ((Only.refl [] wr).drewN m) (by simp), HOZ.out.drewN m⟩)
                  go_wp2_with fail
                  go_quiet (fail)
                  go_wp2
                  go_roundw
                  case rel => exact HD.out _
                  case measure =>
                    show L.length - ((k2 : Int) + 1).toNat < L.length - (k2 : Int).toNat
                    omega
                · have HRN2 := hide (fun m => HRN.out.only (((Only.refl [] wr).drewN m).alloc (.cells #[.int .i64 y] 3)) (by simp))
                  have HCC := hide (fun m => (Blk.new (wr.drewN m) 3 #[.int .i64 y]).cell 0)
                  have HBX := hide (show ∀ m, w7.heap.size ≤ ((wr.drewN m).alloc (.cells #[.int .i64 y] 3)).heap.size from fun m => ((HOZ.out.drewN m).alloc _).size)
                  go_wp2_with fail
                  go_quiet (fail)
                  go_wp2_with (at_builtin; refine wpList_append_k (k := .i64) (e := 3) (T := 35) (bytes := 8) Try.underlying35 info_int (by decide) rfl _ _ rfl _ rfl (HRN2.out _) wr.heap.size y rfl (HCC.out _) HFL.out (HBX.out _) ?_; intro v8 w8 hr8 hg8; have HW8 := hide (And.intro hr8 ((HRN2.out _).grew hg8 ((HOZ.out.drewN _).alloc _) (Nat.le_refl _))); clear hr8 hg8)
                  have HD := hide (show NwR w7 w7.heap.size L x v8 (.int .i64 ((k2 : Int) + 1)) w8 from ⟨k2 + 1, hkl, rfl, by rw [HTK.out, List.filter_append]; simpa [hxy] using HW8.out.1, HW8.out.2⟩)
                  clear HW8 HRN2 HCC HBX HRN HOZ
                  go_wp2
                  go_roundw
                  case rel => exact HD.out
                  case measure =>
                    show L.length - ((k2 : Int) + 1).toNat < L.length - (k2 : Int).toNat
                    omega
              · have hke : k2 = L.length := by omega
                subst hke
                rw [List.take_length] at hrn
                have HD := hide (fun (v : Value) (h : KRow .i64 3 wr w7.heap.size v (L.filter fun y => decide (y ≠ x))) => show OvR w4 od.length t hb ob bs sp ts v (.int .i64 ((i : Int) + 1)) wr from
                  ⟨i + 1, _, _, _, hil, rfl, krow_base h HS7.out, okT_filter HOK.out _, HT7.out.new hoz, HG2.out, Nat.le_trans (List.length_filter_le _ _) hLt, HO.out.trans (HO7.out.trans (hoz.mono (by simp)))⟩)
                have HRN := hide hrn
                have hkn2 : ¬ (L.length : Int) < L.length := by omega
                clear hrn hoz
                go_wp2
                go_roundw
                case rel => exact HD.out _ HRN.out
                case measure =>
                  show od.length - ((i : Int) + 1).toNat < od.length - (i : Int).toNat
                  omega
          · have hid : ¬ (i : Int) < od.length := by omega
            have hL4 : L.length < 4000000000000 := by omega
            have HOgr := hide (show Only (t :: foot5 ob hb bs) w3 wr from HO4.out.trans (ho.mono (fun q _ hq => List.mem_cons_of_mem _ hq)))
            have HTr := hide hT
            have HALr := hide hAL
            have HGo := hide hg
            clear hrow hokL hT hg ho hAL hi hLt
            go_wp2_with (go_at_call 16; refine HOV.out.mono ?_; rintro e w6 ⟨rfl, ho6⟩; have HO6 := hide ho6; clear ho6 HOV)
            have HT6 := hide (HTr.out.new HO6.out)
            have HOg := hide (HOgr.out.trans (HO6.out.mono (by simp)))
            have HAL := hide (show 0 < L.length → ∃ b, AL = some ⟨b, 0, none⟩ ∧ b < w6.heap.size ∧ ∀ i, i < L.length → w6.cell? ⟨b, i, none⟩ = some (.int .i64 (gb L i)) from fun hp => by
              obtain ⟨b, e, _, hb, hc⟩ := HALr.out hp
              exact ⟨b, e, Nat.lt_of_lt_of_le hb HO6.out.size, fun i hi => (HO6.out.cell hb (by simp)).trans (hc i hi)⟩)
            clear HTr HOgr HALr HO6
            go_loopw [17] (fun iv wq => FinR w6 ts.length iv wq) (fun iv _ => ts.length - (intOf iv).toNat)
            case atStart => exact ⟨0, Nat.zero_le _, rfl, Only.refl _ _⟩
            case round =>
              obtain ⟨m, hm, rfl, hoq⟩ := hrel
              by_cases hml : m < ts.length
              · obtain ⟨x, hx⟩ : ∃ x, ts[m]? = some x := ⟨_, List.getElem?_eq_getElem hml⟩
                obtain ⟨q, o, rfl, hq, hc⟩ := HTS.out.1 (by omega)
                have HC0 := hide (fun W (hW : Only [] w6 W) => (HCELL.out W (HOg.out.trans (hW.mono (by simp))) q (o + m) hq).1.trans (hc m x hx))
                have hxm := List.mem_of_getElem? hx
                have hxr := HL8.out.2 x hxm
                have HXM := hide hxm
                have HOQ := hide hoq
                have hmi : (m : Int) < ts.length := by omega
                clear hx hc hxm hoq
                go_wp2_with fail
                go_loopw [18, 19] (fun tw kv wz => WtR w6 L x tw kv wz) (fun _ kv _ => L.length - (intOf kv).toNat)
                case atStart => exact ⟨0, Nat.zero_le _, rfl, by simp, HOQ.out⟩
                case round =>
                  obtain ⟨k, hk, rfl, rfl, hoz⟩ := hrel
                  have HOZ := hide hoz
                  have c1 := HC0.out wr hoz
                  by_cases hkl : k < L.length
                  · obtain ⟨bL, rfl, hbL, hcl⟩ := HAL.out (by omega)
                    have k0 := (hoz.cell hbL (by simp)).trans (hcl k hkl)
                    have HE := hide (among_step hkl x)
                    have hki : (k : Int) < L.length := by omega
                    clear hoz hcl hbL
                    revert HE
                    generalize decide (x ∈ L.take k) = tw
                    generalize hgv : gb L k = gv at k0
                    intro HE
                    cases tw with
                    | true =>
                      go_wp2
                      go_quiet (fail)
                      go_wp2
                      go_roundw
                      case rel => exact ⟨k + 1, hkl, by go_num, by rw [HE.out]; rfl, HOZ.out.drewN _⟩
                      case measure =>
                        show L.length - ((k : Int) + 1).toNat < L.length - (k : Int).toNat
                        omega
                    | false =>
                      go_wp2
                      go_quiet (fail)
                      go_wp2
                      go_roundw
                      case rel => exact ⟨k + 1, hkl, by go_num, by rw [HE.out]; rfl, HOZ.out.drewN _⟩
                      case measure =>
                        show L.length - ((k : Int) + 1).toNat < L.length - (k : Int).toNat
                        omega
                  · have hke : k = L.length := by omega
                    subst hke
                    rw [List.take_length]
                    obtain ⟨j, rfl⟩ := Int.eq_ofNat_of_zero_le hxr.1
                    have hj : j < 4 := by omega
                    obtain ⟨K, hK⟩ : ∃ K, (ls' j).map (·.1) = K := ⟨_, rfl⟩
                    have hK8 : K.length ≤ 8 := by
                      have := HT6.out.len j hj
                      rw [← hK, List.length_map]
                      omega
                    have HKP := hide (bKept_rowB (HT6.out.new hoz) j hj (by decide) hK)
                    have hkn2 : ¬ (L.length : Int) < L.length := by omega
                    by_cases hin : (j : Int) ∈ L
                    · rw [decide_eq_true hin]
                      clear hoz hin hK
                      go_wp2_with (go_at_call 18; refine HKP.out.mono ?_; rintro e w9 ⟨A9, p9, rfl, hr9, ho9⟩; have HO9 := hide (HOZ.out.trans ho9); clear hr9 ho9 HKP)
                      refine wp_loop_rounds 1 ?_
                      rw [rounds_succ]
                      have HD := hide (show FinR w6 ts.length (.int .i64 ((m : Int) + 1)) w9 from ⟨m + 1, hml, rfl, HO9.out⟩)
                      by_cases h0 : 0 < K.length
                      · have h0i : (0 : Int) < K.length := by omega
                        go_wp2
                        go_roundw
                        case rel => exact HD.out
                        case measure =>
                          show ts.length - ((m : Int) + 1).toNat < ts.length - (m : Int).toNat
                          omega
                      · have h0i : ¬ (0 : Int) < K.length := by omega
                        go_wp2
                        go_roundw
                        case rel => exact HD.out
                        case measure =>
                          show ts.length - ((m : Int) + 1).toNat < ts.length - (m : Int).toNat
                          omega
                    · rw [decide_eq_false hin]
                      have HNS := hide (show ∀ z, z < K.length → (gk K z).1 ≠ sp from fun z hz => by
                        have := gk_mem hz
                        rw [← hK] at this
                        obtain ⟨p, hp, e⟩ := List.mem_map.1 this
                        rw [← hK, ← e]
                        exact HGo.out j hj HXM.out hin p hp)
                      clear hoz hin hK
                      go_wp2_with (go_at_call 18; refine HKP.out.mono ?_; rintro e w9 ⟨A9, p9, rfl, hr9, ho9⟩; have HO9 := hide (HOZ.out.trans ho9); have HR9 := hide hr9; clear hr9 ho9 HKP)
                      go_loopw [21] (fun kv wz => LookRel w9 K kv wz) (fun kv _ => K.length - (intOf kv).toNat)
                      case atStart => exact ⟨0, Nat.zero_le _, rfl, Only.refl _ _⟩
                      case round =>
                        obtain ⟨z, hz, rfl, hoz2⟩ := hrel
                        have HOZ2 := hide hoz2
                        by_cases hzl : z < K.length
                        · obtain ⟨b9, rfl, _, hb9, hc9⟩ := HR9.out (by omega)
                          have k0 := (hoz2.cell hb9 (by simp)).trans (hc9 z _ (gk_get hzl)).1
                          have hne := HNS.out z hzl
                          have hzi : (z : Int) < K.length := by omega
                          clear hoz2 hb9 hc9
                          generalize (gk K z).1 = gv at k0 hne
                          go_wp2
                          go_roundw
                          case rel => exact ⟨z + 1, hzl, by go_num, HOZ2.out⟩
                          case measure =>
                            show K.length - ((z : Int) + 1).toNat < K.length - (z : Int).toNat
                            omega
                        · have hzi : ¬ (z : Int) < K.length := by omega
                          clear hoz2
                          go_wp2
                          go_roundw
                          case rel => exact ⟨m + 1, hml, by go_num, HO9.out.trans HOZ2.out⟩
                          case measure =>
                            show ts.length - ((m : Int) + 1).toNat < ts.length - (m : Int).toNat
                            omega
              · have hmi : ¬ (m : Int) < ts.length := by omega
                have HOQ := hide hoq
                clear hoq
                go_wp2
                go_ret
                exact ⟨rfl, ((HOW.out.below (Nat.le_refl _) (by simp)).trans (HOg.out.below HOW.out.size (fun q hq => (HG.out q hq).1))).trans (HOQ.out.below (by have := HOW.out.size; have := HOg.out.size; omega) (by simp))⟩
      · have HST := hide (bStart_arg hT sp (c := c2) (hts2 wr ho) (by omega) hok)
        have HPN := hide (fun W (hW : Only [] wr W) => bPending_none (hT.new hW))
        clear hT ho hnx hlt hk hts2
        go_wp2_with (first | (go_at_call 14; refine HST.out.mono ?_; rintro e w4 ⟨rfl, ho4⟩; have HO4 := hide ho4; clear ho4 HST) | (go_at_call 15; refine (HPN.out _ HO4.out).mono ?_; rintro e w5 ⟨A5, p5, rfl, ho5⟩; have HO5 := hide (HO4.out.trans ho5); clear ho5 HPN))
        go_ret
        exact ⟨rfl, ((HOW.out.below (Nat.le_refl _) (by simp)).trans (HOO.out.below HOW.out.size (fun q hq => (HFT.out q hq).1))).trans (HO5.out.below (by have := HOW.out.size; have := HOO.out.size; omega) (by simp))⟩
end Go.Proofs.Ytdkbjnnflpopdaa
