/-
  The walk of 'PtabApart'.
-/
import Derived.Test.YtmlaomkofcajgaaPtabInv
import Derived.Test.YtmlaomkofcajgaaKRow
import Derived.Test.YtmlaomkofcajgaaRead
import Derived.Test.YtmlaomkofcajgaaAppendNew
namespace Go.Proofs.Ytmlaomkofcajgaa
open Go.ChangeShapes Go.WideShapes Go.ChangeAt Go.RowKit Go.Deep
set_option linter.unusedVariables false

theorem cells_op5 : Try.prog.cellsOf 29 = 6 := by kernel_rfl
theorem info_u8k : (Try.prog.info? 5).map (fun i => (i.zero, i.size, i.bytes)) = some (some (.int .u8 0), 1, 1) := by kernel_rfl

/-- What is known of call i of the list. -/
def OpAt5 (w : World) (A : Option Addr) (i : Nat) : Prop :=
  ∃ (q o : Nat) (k p x s a : Int) (b : Bool), A = some ⟨q, o, none⟩ ∧ q < w.heap.size ∧ w.cell? ⟨q, o + i * 6, none⟩ = some (.int .i64 k) ∧ w.cell? ⟨q, o + i * 6 + 1, none⟩ = some (.int .i64 p) ∧ w.cell? ⟨q, o + i * 6 + 2, none⟩ = some (.int .u32 x) ∧
    w.cell? ⟨q, o + i * 6 + 3, none⟩ = some (.int .i64 s) ∧ w.cell? ⟨q, o + i * 6 + 4, none⟩ = some (.int .u32 a) ∧ w.cell? ⟨q, o + i * 6 + 5, none⟩ = some (.bool b) ∧ 0 ≤ x ∧ x ≤ 4294967295 ∧ 0 ≤ a ∧ a ≤ 4294967295

theorem Rd.bool_ {H : Type} {enc : TypeId × Value → H} {P : Program} {w : World} {t : TypeId} {cs : List Value} {d : DataW H} (ht : P.underlying t = some .bool) (h : Rd enc P w t cs d) : ∃ b, cs = [.bool b] := by
  obtain ⟨⟨n, ps, hn⟩, _⟩ := h
  obtain ⟨x, hx, _⟩ := DataW.trod_bool ht hn
  exact ⟨x, hx⟩

theorem Rd.ops5 {H : Type} {enc : TypeId × Value → H} {w : World} {A : Option Addr} {n c : Nat} {d : DataW H} (h : Rd enc Try.prog w 22 [.slice A n c] d) : n < 3900000000000 ∧ ∀ i, i < n → OpAt5 w A i := by
  obtain ⟨A', n', c', hv, hl, hm, hb, _, hf⟩ := h.structs Try.underlying22 Try.underlying29
  injection hv with hv _
  injection hv with e1 e2 e3
  subst e1 e2 e3
  have hby : Try.prog.bytesOf 29 = 40 := by kernel_rfl
  rw [hby] at hb
  refine ⟨by unfold reachBytes at hb; omega, fun i hi => ?_⟩
  rw [cells_op5] at hf
  obtain ⟨q, o, v0, y0, hA, hq, c0, r0⟩ := hf i hi 0 _ rfl (by kernel_rfl) (by decide)
  obtain ⟨q1, o1, v1, y1, hA1, _, c1, r1⟩ := hf i hi 1 _ rfl (by kernel_rfl) (by decide)
  obtain ⟨q2, o2, v2, y2, hA2, _, c2, r2⟩ := hf i hi 2 _ rfl (by kernel_rfl) (by decide)
  obtain ⟨q3, o3, v3, y3, hA3, _, c3, r3⟩ := hf i hi 3 _ rfl (by kernel_rfl) (by decide)
  obtain ⟨q4, o4, v4, y4, hA4, _, c4, r4⟩ := hf i hi 4 _ rfl (by kernel_rfl) (by decide)
  obtain ⟨q5, o5, v5, y5, hA5, _, c5, r5⟩ := hf i hi 5 _ rfl (by kernel_rfl) (by decide)
  have a1 : q1 = q ∧ o1 = o := by rw [hA] at hA1; injection hA1 with h; injection h with h1 h2; exact ⟨h1.symm, h2.symm⟩
  have a2 : q2 = q ∧ o2 = o := by rw [hA] at hA2; injection hA2 with h; injection h with h1 h2; exact ⟨h1.symm, h2.symm⟩
  have a3 : q3 = q ∧ o3 = o := by rw [hA] at hA3; injection hA3 with h; injection h with h1 h2; exact ⟨h1.symm, h2.symm⟩
  have a4 : q4 = q ∧ o4 = o := by rw [hA] at hA4; injection hA4 with h; injection h with h1 h2; exact ⟨h1.symm, h2.symm⟩
  have a5 : q5 = q ∧ o5 = o := by rw [hA] at hA5; injection hA5 with h; injection h with h1 h2; exact ⟨h1.symm, h2.symm⟩
  obtain ⟨rfl, rfl⟩ := a1
  obtain ⟨rfl, rfl⟩ := a2
  obtain ⟨rfl, rfl⟩ := a3
  obtain ⟨rfl, rfl⟩ := a4
  obtain ⟨rfl, rfl⟩ := a5
  obtain ⟨k, e0, _⟩ := r0.int (k := .i64) Try.underlying3
  obtain ⟨p, e1, _⟩ := r1.int (k := .i64) Try.underlying3
  obtain ⟨x, e2, wx⟩ := r2.int (k := .u32) Try.underlying27
  obtain ⟨s, e3, _⟩ := r3.int (k := .i64) Try.underlying3
  obtain ⟨a, e4, wa⟩ := r4.int (k := .u32) Try.underlying27
  obtain ⟨b, e5⟩ := r5.bool_ Try.underlying4
  injection e0 with e0 _; injection e1 with e1 _; injection e2 with e2 _; injection e3 with e3 _; injection e4 with e4 _; injection e5 with e5 _
  subst e0 e1 e2 e3 e4 e5
  have bx : 0 ≤ x ∧ x ≤ 4294967295 := by simpa [Lit.wf, IntKind.min, IntKind.max, IntKind.signed, IntKind.bits] using wx
  have ba : 0 ≤ a ∧ a ≤ 4294967295 := by simpa [Lit.wf, IntKind.min, IntKind.max, IntKind.signed, IntKind.bits] using wa
  exact ⟨_, _, k, p, x, s, a, b, hA, hq, c0, c1, c2, c3, c4, c5, bx.1, bx.2, ba.1, ba.2⟩

/-- The first loop: a row of bytes that are all one. -/
def FillRel (w3 : World) (c : Int) (b i : Value) (wr : World) : Prop :=
  ∃ k : Nat, k ≤ 256 ∧ i = .int .i64 k ∧ Only [] w3 wr ∧ KRow .u8 5 wr w3.heap.size b (List.replicate k c)
/-- The second loop: the first k frames are filled. -/
def LaidRel (w4 : World) (g d : Nat) (c : Int) (i : Value) (wr : World) : Prop :=
  ∃ (k : Nat) (ys : List Int), k ≤ 12 ∧ i = .int .i64 k ∧ Only [d] w4 wr ∧ IsMem wr g d 3072 ys [] ∧ U8 ys ∧ ys.length = 3072 ∧ ∀ j, j < 256 * k → gb ys j = c

theorem take_succ_mem {os : List Int} {j : Nat} (h : j < os.length) (s : Int) : decide (s ∈ os.take (j + 1)) = (decide (s ∈ os.take j) || (gb os j == s)) := by
  have e : gb os j = os[j] := by simp [gb, List.getD, List.getElem?_eq_getElem h]
  rw [List.take_succ_eq_append_getElem h, e, Bool.eq_iff_iff]
  simp only [decide_eq_true_eq, List.mem_append, List.mem_singleton, Bool.or_eq_true, beq_iff_eq]
  constructor
  · rintro (h | h)
    · exact .inl h
    · exact .inr h.symm
  · rintro (h | h)
    · exact .inl h
    · exact .inr h.symm

theorem getframe_fr {w : World} {g d cap : Nat} {xs : List Int} {r : List Value} (hm : IsMem w g d cap xs r) (n : Int) (h0 : 0 ≤ n) (hn : 256 * n + 256 ≤ xs.length) :
    Calls Try.prog 23 #[.pointer (some ⟨g, 0, none⟩), .int .i64 n] w fun e w' => ∃ db cb, e = .returned (.tuple #[.slice (some ⟨db, 0, none⟩) 256 cb, .int .i64 0]) ∧ (∀ i, i < 256 → w'.cell? ⟨db, i, none⟩ = some (.int .u8 (frB xs n i))) ∧ Only [] w w' := by
  refine (getframe_ok hm n h0 hn).mono fun e w' ⟨v, he, ⟨db, cb, rb, hv, hB, hb, hl⟩, ho⟩ => ?_
  have h7 : ((xs.drop (256 * n.toNat)).take 256).length = 256 := by simp; omega
  refine ⟨db, cb, by rw [he, hv, h7], fun i hi => ?_, ho⟩
  rw [hb.cell, u8l_get _ _ _ (by rw [h7]; exact hi), gb_cut _ _ _ _ hi]
  rfl

/-- The third loop: the table, and who is its own. -/
def ApartRel (w : World) (n t g d B : Nat) (root c : Int) (o i : Value) (wr : World) : Prop :=
  ∃ (k : Nat) (os ys : List Int), k ≤ n ∧ i = .int .i64 k ∧ KRow .i64 3 wr B o os ∧ os.length ≤ k + 1 ∧ IsTab wr t g d 3072 ys [] root ∧ ys.length = 3072 ∧ Inv ys root os c ∧ Only [] w wr ∧ B ≤ wr.heap.size
/-- The fourth and the sixth: is it among the first j? -/
def AmongRel (wq : World) (os : List Int) (s : Int) (tw j : Value) (wr : World) : Prop :=
  ∃ m : Nat, m ≤ os.length ∧ j = .int .i64 m ∧ tw = .bool (decide (s ∈ os.take m)) ∧ Only [] wq wr

set_option maxRecDepth 100000 in
set_option maxHeartbeats 8000000 in
theorem apart_walk (root c : Int) (A : Option Addr) (n cp : Nat) (w : World) (hc0 : 0 ≤ c) (hc1 : c ≤ 255) (hn : n < 3900000000000) (hops : ∀ i, i < n → OpAt5 w A i) :
    Calls Try.prog 5 #[.int .i64 root, .slice A n cp, .int .u8 c] w fun e w' => e = .returned (.bool true) ∧ Below w.heap.size w w' := by
  have HOPS := hide hops
  have HLv := hide lives5
  clear hops
  go_enter Try.func5, Try.ntmps5
  go_wp2_with fail
  refine (new_zeros 12 _ (by decide) (by decide)).mono ?_
  rintro e w2 ⟨g, d, xs, rfl, hg, hd, hm, ho2, hl, hu, hz⟩
  have HM := hide hm
  have HX := hide (And.intro (show xs.length = 3072 from hl) hu)
  have HD := hide (And.intro hg (And.intro hd ho2))
  clear hm hl hu hz hg hd ho2
  go_wp2_with (first | (go_at_call 13; refine (HLv.out _).mono ?_; rintro e w3 ⟨rfl, ho3⟩))
  have HM3 := hide (HM.out.only ho3 (by simp) (by simp))
  have HDL0 := hide (show d < w3.heap.size ∧ g < w3.heap.size from ⟨HM3.out.lt.2, HM3.out.lt.1⟩)
  have HO3 := hide (HD.out.2.2.trans ho3)
  clear HM ho3 HLv
  go_loopw [9, 10] (fun b i wr => FillRel w3 c b i wr) (fun _ i _ => 256 - (intOf i).toNat)
  case atStart => exact ⟨0, by decide, rfl, Only.refl _ _, KRow.nil _ _ _ _⟩
  case round =>
    obtain ⟨k, hk, rfl, ho, hrow⟩ := hrel
    by_cases hlt : k < 256
    · have HO := hide ho
      have HR := hide hrow
      have hlen : (List.replicate k c).length < 4000000000000 := by rw [List.length_replicate]; omega
      have HN := hide hlen
      have hB : w3.heap.size ≤ wr.heap.size := ho.size
      have HB := hide hB
      have HC := hide ((Blk.new wr 5 #[.int .u8 c]).cell 0)
      clear ho hrow hlen hB
      go_wp2_with (at_builtin; refine wpList_append_k (k := .u8) (e := 5) (T := 40) (bytes := 1) Try.underlying40 info_u8k (by decide) rfl _ _ rfl _ rfl (HR.out.only ((Only.refl [] wr).alloc _) (by simp)) wr.heap.size c rfl HC.out HN.out (by have := HB.out; simp; omega) ?_; intro v' w1 hr1 hg1)
      have hrow1 : KRow .u8 5 (wr.alloc (.cells #[.int .u8 c] 5)) w3.heap.size u9 (List.replicate k c) := HR.out.only ((Only.refl [] wr).alloc _) (by simp)
      have HO1 := hide (hrow1.grew hg1 (HO.out.alloc _) (Nat.le_refl _))
      have HR1 := hide (show KRow .u8 5 w1 w3.heap.size v' (List.replicate (k + 1) c) by rw [List.replicate_succ']; exact hr1)
      clear hr1 hg1 hrow1
      go_wp2
      go_roundw
      case rel => exact ⟨k + 1, by omega, by go_num, HO1.out, HR1.out⟩
      case measure => simp [intOf]; omega
    · obtain rfl : k = 256 := by omega
      obtain ⟨A9, cap9, rfl, hA9⟩ := hrow.form
      have hl9 : (List.replicate 256 c).length = 256 := List.length_replicate
      rw [hl9] at hA9 ⊢
      rw [show ((256 : Nat) : Int) = 256 from rfl]
      obtain ⟨b9, rfl, hB9, hlt9, hcells⟩ := hA9 (by decide)
      have HC9 := hide (show ∀ j, j < 256 → wr.cell? ⟨b9, j, none⟩ = some (.int .u8 (gb (List.replicate 256 c) j)) from hcells)
      have HG9 := hide (show ∀ j, j < 256 → gb (List.replicate 256 c) j = c from fun j hj => by
        unfold gb; simp only [List.getD, List.getElem?_replicate]; rw [if_pos hj]; rfl)
      have HM4 := hide (HM3.out.only ho (by simp) (by simp))
      have HO4 := hide (HO3.out.trans ho)
      have HB9 := hide (And.intro hB9 hlt9)
      clear hrow ho hcells hB9 hlt9 HM3 HO3 hl9
      have hdl := HM4.out.lt
      have HDL := hide (show d < w3.heap.size ∧ g < w3.heap.size from HDL0.out)
      clear hdl
      go_wp2_with fail
      go_loopw [11] (fun i wq => LaidRel wr g d c i wq) (fun i _ => 12 - (intOf i).toNat)
      case atStart => exact ⟨0, xs, by decide, rfl, Only.refl _ _, HM4.out, HX.out.2, HX.out.1, fun j hj => absurd hj (by omega)⟩
      case round =>
        clear HM4
        obtain ⟨k, ys, hk, rfl, ho, hm, hu, hl, hj⟩ := hrel
        by_cases hlt : k < 12
        · have hbd : b9 ∉ [d] := by have := HB9.out.1; have := HDL.out.1; simp; omega
          have HW := hide (write_pos hm (256 * (k : Int)) ⟨b9, 0, none⟩ 256 cap9 (List.replicate 256 c) List.length_replicate (by decide) (by omega) (by rw [hl]; omega) (fun j hj2 => by
            rw [add_at, Nat.zero_add]; exact (ho.cell HB9.out.2 hbd).trans (HC9.out j hj2)))
          have HO := hide ho
          have HL := hide hl
          have HJ := hide hj
          have HU := hide hu
          clear ho hm hu hl hj hbd
          go_wp2_with (go_at_call 20; refine HW.out.mono ?_; rintro e w5 ⟨rfl, ho5, hm5⟩)
          have HN5 := hide (And.intro (HO.out.trans ho5) hm5)
          clear ho5 hm5 HW
          go_roundw
          case rel =>
            have e1 : (256 * (k : Int)).toNat = 256 * k := by omega
            have hN := HN5.out.2
            rw [e1] at hN
            have hsl : 256 * k + (List.replicate 256 c).length ≤ ys.length := by rw [List.length_replicate, HL.out]; omega
            refine ⟨k + 1, _, by omega, by go_num, HN5.out.1, hN, HU.out.splice (fun x hx => by rw [List.eq_of_mem_replicate hx]; exact ⟨hc0, hc1⟩) _, (length_splice _ _ _ hsl).trans HL.out, fun j hj2 => ?_⟩
            rw [gb_splice _ _ _ _ hsl, List.length_replicate]
            by_cases hjk : 256 * k ≤ j
            · rw [if_pos ⟨hjk, by omega⟩]; exact HG9.out _ (by omega)
            · rw [if_neg (fun q => hjk q.1)]; exact HJ.out j (by omega)
          case measure => simp [intOf]; omega
        · obtain rfl : k = 12 := by omega
          rw [show ((12 : Nat) : Int) = 12 from rfl]
          have HO6 := hide (HO4.out.trans' ho (by intro q hq hq'; simp at hq'; have := HD.out.2.1; omega))
          have HF := hide (show ∀ q, hasB ys q = true → ∀ i, i < 256 → frB ys q i = c from fun q hq i hi => by
            simp only [hasB, decide_eq_true_eq] at hq
            exact hj _ (by omega))
          clear ho hj HC9 HG9 HB9 HO4
          by_cases hr : hasB ys root = true
          · have HNW := hide (tnew_ok hm hu root hr)
            have HLL := hide ((length_clr hr).trans hl)
            have HI := hide (inv_start hr HF.out)
            clear hm hu hl HF hr
            go_wp2_with (go_at_call 21; refine HNW.out.mono ?_; rintro e w6 ⟨t, rfl, ht, hT, ho6⟩)
            have HDB := hide (show d < w6.heap.size ∧ g < w6.heap.size ∧ t < w6.heap.size from ⟨hT.lt.2.2, hT.lt.2.1, hT.lt.1⟩)
            have HT := hide (hT.alloc (.cells #[.int .i64 root] 3))
            have HR := hide (KRow.one (k := .i64) (Blk.new w6 3 #[.int .i64 root]) (Nat.le_refl _))
            have HO7 := hide ((HO6.out.trans' ho6 (by intro q hq hq'; simp at hq'; have := HD.out.2.1; omega)).alloc (.cells #[.int .i64 root] 3))
            have HWD := hide HD.out.2.1
            have HDW := hide (show w.heap.size ≤ w6.heap.size from by have := HO6.out.size; have := ho6.size; omega)
            clear hT ho6 HNW HO6 HX HD HDL HDL0 hA9
            go_loopw [13, 14] (fun o i wq => ApartRel w n t g d w6.heap.size root c o i wq) (fun _ i _ => n - (intOf i).toNat)
            case atStart => exact ⟨0, [root], _, Nat.zero_le _, rfl, HR.out, by simp, HT.out, HLL.out, HI.out, HO7.out, by simp⟩
            case round =>
              clear HT HR HO7 HI HLL
              obtain ⟨k, os, ys, hk, rfl, hrow, hos, hT, hl, hI, ho, hBw⟩ := hrel
              obtain ⟨Ao, co, rfl, hAo⟩ := hrow.form
              obtain ⟨bo, rfl, hBo, hltbo, hco⟩ := hAo (List.length_pos_of_mem hI.root)
              clear hAo
              have HCO := hide hco
              have HRW := hide hrow
              have HT := hide hT
              have HI := hide hI
              have HO := hide ho
              have HL := hide hl
              have HBO := hide (And.intro hBo hltbo)
              have hos2 : os.length < 4000000000000 := by omega
              by_cases hlt : k < n
              · obtain ⟨q, o, kd, p, x, s, a, b, rfl, hq, c0, c1, c2, c3, c4, c5, x0, x1, _, _⟩ := HOPS.out k hlt
                have e0 := (ho.cell hq (by simp)).trans c0
                have e1 := (ho.cell hq (by simp)).trans c1
                have e2 := (ho.cell hq (by simp)).trans c2
                have e3 := (ho.cell hq (by simp)).trans c3
                have hqr : q < wr.heap.size := Nat.lt_of_lt_of_le hq ho.size
                have hqd : q ≠ d := by have := HWD.out; omega
                have HQ := hide (And.intro hqr hqd)
                clear c0 c1 c2 c3 c4 c5 hq hqr hqd hco hrow hT hI ho hl hBo hltbo
                by_cases hkd : kd = 1
                · subst hkd
                  have HSA := hide fun w1 (kk : Only [] wr w1) (hmem : s ∉ os) => set_any (HT.out.only kk (by simp) (by simp) (by simp)) HI.out p x s x0 x1 hmem
                  have HC0 := hide fun w5 (kk : Only [d] wr w5) => (show w5.cell? ⟨q, o + k * 6 + 1, none⟩ = some (.int .i64 p) ∧ w5.cell? ⟨q, o + k * 6 + 2, none⟩ = some (.int .u32 x) ∧ w5.cell? ⟨q, o + k * 6 + 3, none⟩ = some (.int .i64 s) from
                    ⟨(kk.cell HQ.out.1 (by simpa using HQ.out.2)).trans e1, (kk.cell HQ.out.1 (by simpa using HQ.out.2)).trans e2, (kk.cell HQ.out.1 (by simpa using HQ.out.2)).trans e3⟩)
                  have HRN := hide fun w5 (kk : Only [d] wr w5) => HRW.out.only kk (fun j hj => by have := (HRW.out.at_ hj).1; have := HDB.out.1; simp; omega)
                  have HON := hide fun w5 (kk : Only [d] wr w5) => HO.out.trans' (S := []) kk (by intro z hz hz'; simp at hz'; have := HWD.out; omega)
                  have HBN := hide fun w5 (kk : Only [d] wr w5) => Nat.le_trans hBw kk.size
                  have hwr : wr.heap.size = wr.heap.size := rfl
                  go_wp2_with fail
                  go_loopw [15, 16] (fun tw j wv => AmongRel wr os s tw j wv) (fun _ j _ => os.length - (intOf j).toNat)
                  case atStart => exact ⟨0, Nat.zero_le _, rfl, by simp, Only.refl _ _⟩
                  case round =>
                    obtain ⟨m, hm, rfl, rfl, hov⟩ := hrel
                    have f1 := (hov.cell HQ.out.1 (by simp)).trans e1
                    have f2 := (hov.cell HQ.out.1 (by simp)).trans e2
                    have f3 := (hov.cell HQ.out.1 (by simp)).trans e3
                    have HOV := hide hov
                    by_cases hml : m < os.length
                    · have f0 := (hov.cell HBO.out.2 (by simp)).trans (HCO.out m hml)
                      have HE := hide (take_succ_mem hml s)
                      clear e0 e1 e2 e3 f1 f2 hov
                      revert HE
                      generalize decide (s ∈ os.take m) = tw
                      generalize hgv : gb os m = gv at f0
                      intro HE
                      cases tw with
                      | true =>
                        go_wp2
                        go_quiet (fail)
                        go_wp2
                        go_roundw
                        case rel => exact ⟨m + 1, hml, by go_num, by rw [HE.out]; rfl, HOV.out.drewN _⟩
                        case measure => simp [intOf]; omega
                      | false =>
                        go_wp2
                        go_quiet (fail)
                        go_wp2
                        go_roundw
                        case rel => exact ⟨m + 1, hml, by go_num, by rw [HE.out]; rfl, HOV.out.drewN _⟩
                        case measure => simp [intOf]; omega
                    · obtain rfl : m = os.length := by omega
                      rw [List.take_length]
                      clear e0 e1 e2 e3 hm hml
                      by_cases hmem : s ∈ os
                      · rw [decide_eq_true hmem]
                        clear f1 f2 f3 hov
                        go_wp2
                        go_roundw
                        case rel =>
                          exact ⟨k + 1, os, ys, hlt, by go_num, HRW.out.only HOV.out (by simp), by omega, HT.out.only HOV.out (by simp) (by simp) (by simp), HL.out, HI.out, HO.out.trans HOV.out, Nat.le_trans hBw HOV.out.size⟩
                        case measure => simp [intOf]; omega
                      · rw [decide_eq_false hmem]
                        have kV := HOV.out.mono (S' := [d]) (by simp)
                        have HKV := hide kV
                        have HS := hide fun w1 (kk : Only [] wr w1) => HSA.out w1 (HOV.out.trans kk) hmem
                        have HCA := hide fun w5 (kk : Only [d] wr w5) => HC0.out w5 (HKV.out.trans kk)
                        clear hov kV
                        go_wp2_with fail
                        go_region_held3 (fun w' => w'.cell? ⟨q, o + k * 6 + 1, none⟩ = some (.int .i64 p) ∧ w'.cell? ⟨q, o + k * 6 + 2, none⟩ = some (.int .u32 x) ∧ w'.cell? ⟨q, o + k * 6 + 3, none⟩ = some (.int .i64 s)) (first | go_keep | exact HCA.out _ kA) (first | (go_at_call 22; refine (HS.out _ (by repeat (first | exact Only.refl _ _ | apply Only.drew | apply Only.drewN))).mono ?_; rintro e wA ⟨ys2, er, u, rfl, hT2, hl2, hoA, hue, hI2⟩; have kA : Only [d] wr wA := (Only.trans (by repeat (first | exact Only.refl _ _ | apply Only.drew | apply Only.drewN)) hoA)))
                        have KA := hide (HKV.out.trans kA)
                        have hf3 := (HC0.out _ KA.out).2.2
                        have HT2 := hide hT2
                        have HZ := hide (And.intro hl2 hI2)
                        have HUE := hide hue
                        clear hT2 hl2 hI2 hoA kA hue f1 f2 f3
                        cases u with
                        | true =>
                          obtain rfl : er = 0 := HUE.out rfl
                          have HRA := hide (HRN.out _ KA.out)
                          have HCC := hide ((Blk.new wA 3 #[.int .i64 s]).cell 0)
                          have HBA := hide (show w6.heap.size ≤ (wA.alloc (.cells #[.int .i64 s] 3)).heap.size by have := HBN.out _ KA.out; simp; omega)
                          go_wp2_with (at_builtin; refine wpList_append_k (k := .i64) (e := 3) (T := 45) (bytes := 8) Try.underlying45 info_int (by decide) rfl _ _ rfl _ rfl (HRA.out.only ((Only.refl [] wA).alloc _) (by simp)) wA.heap.size s rfl HCC.out hos2 HBA.out ?_; intro v' w8 hr8 hg8)
                          replace hg8 : (wA.alloc (.cells #[.int .i64 s] 3)).grownBy w8 (Value.slice (some ⟨bo, 0, none⟩) os.length co).ownBlock := hg8
                          have hrA : KRow .i64 3 (wA.alloc (.cells #[.int .i64 s] 3)) w6.heap.size (.slice (some ⟨bo, 0, none⟩) os.length co) os := HRA.out.only ((Only.refl [] wA).alloc _) (by simp)
                          have hTa := HT2.out.alloc (.cells #[.int .i64 s] 3)
                          have ho8 := only_grown' hg8
                          have hTn := hTa.only ho8 (fun hh => hrA.apart hTa.tab (by decide) _ (by simpa using hh) rfl) (fun hh => hrA.apart hTa.mem.mem (by decide) _ (by simpa using hh) rfl) (fun hh => hrA.apart hTa.mem.row (by decide) _ (by simpa using hh) rfl)
                          have HN := hide (show IsTab w8 t g d 3072 ys2 [] root ∧ KRow .i64 3 w8 w6.heap.size v' (os ++ [s]) ∧ Only [] w w8 ∧ w6.heap.size ≤ w8.heap.size from
                            ⟨hTn, hr8, hrA.grew hg8 ((HON.out _ KA.out).alloc _) (by have := HO.out.size; have := HDW.out; omega), Nat.le_trans HBA.out ho8.size⟩)
                          clear hr8 hg8 hrA hTa hTn ho8
                          go_wp2
                          go_roundw
                          case rel => exact ⟨k + 1, os ++ [s], ys2, hlt, by go_num, HN.out.2.1, by simp; omega, HN.out.1, HZ.out.1.trans HL.out, HZ.out.2, HN.out.2.2.1, HN.out.2.2.2⟩
                          case measure => simp [intOf]; omega
                        | false =>
                          clear hf3
                          go_wp2
                          go_roundw
                          case rel => exact ⟨k + 1, os, ys2, hlt, by go_num, HRN.out _ KA.out, by omega, HT2.out, HZ.out.1.trans HL.out, HZ.out.2, HON.out _ KA.out, HBN.out _ KA.out⟩
                          case measure => simp [intOf]; omega
                · have hkd' : (kd != 1) = true := by simpa using hkd
                  clear e1 e2 e3
                  go_wp2
                  go_roundw
                  case rel => exact ⟨k + 1, os, ys, hlt, by go_num, HRW.out, by omega, HT.out, HL.out, HI.out, HO.out, hBw⟩
                  case measure => simp [intOf]; omega
              · have HFB := hide hI.fr
                have hmemo : ∀ w5, Only [] wr w5 → IsTab w5 t g d 3072 ys [] root := fun w5 kk => hT.only kk (by simp) (by simp) (by simp)
                have HMO := hide hmemo
                have HC2 := hide fun w5 (kk : Only [] wr w5) (j : Nat) (hj : j < os.length) => (kk.cell hltbo (by simp)).trans (hco j hj)
                clear hco hrow hT hI ho hl hBo hmemo HRW HT HI HCO
                go_wp2_with fail
                go_loopw [19] (fun i wv => ∃ m : Nat, m ≤ 12 ∧ i = .int .i64 m ∧ Only [] wr wv) (fun i _ => 12 - (intOf i).toNat)
                case atStart => exact ⟨0, by decide, rfl, Only.refl _ _⟩
                case round =>
                  obtain ⟨m, hm, rfl, hov⟩ := hrel
                  have HOV := hide hov
                  clear hov
                  by_cases hml : m < 12
                  · have HC3 := hide fun w5 (kk : Only [] wr w5) (j : Nat) (hj : j < os.length) => HC2.out w5 (HOV.out.trans kk) j hj
                    have HGF := hide fun w5 (kk : Only [] wr w5) => getframe_fr (HMO.out w5 (HOV.out.trans kk)).mem (m : Int) (by omega) (by rw [HL.out]; omega)
                    go_wp2_with fail
                    go_loopw [20, 21] (fun tw j wz => AmongRel wr os (m : Int) tw j wz) (fun _ j _ => os.length - (intOf j).toNat)
                    case atStart => exact ⟨0, Nat.zero_le _, rfl, by simp, Only.refl _ _⟩
                    case round =>
                      obtain ⟨j, hj, rfl, rfl, hoz⟩ := hrel
                      have HOZ := hide hoz
                      by_cases hjl : j < os.length
                      · have f0 := HC3.out _ hoz j hjl
                        have HE := hide (take_succ_mem hjl (m : Int))
                        clear hoz
                        revert HE
                        generalize decide ((m : Int) ∈ os.take j) = tw
                        generalize hgv : gb os j = gv at f0
                        intro HE
                        cases tw with
                        | true =>
                          go_wp2
                          go_roundw
                          case rel => exact ⟨j + 1, hjl, by go_num, by rw [HE.out]; rfl, HOZ.out⟩
                          case measure => simp [intOf]; omega
                        | false =>
                          go_wp2
                          go_roundw
                          case rel => exact ⟨j + 1, hjl, by go_num, by rw [HE.out]; rfl, HOZ.out⟩
                          case measure => simp [intOf]; omega
                      · obtain rfl : j = os.length := by omega
                        rw [List.take_length]
                        have HG := hide (HGF.out _ hoz)
                        clear hoz hj hjl
                        go_wp2_with (go_at_call 23; refine HG.out.mono ?_; rintro e w7 ⟨db, cb, rfl, hcb, ho7⟩)
                        have HCB := hide hcb
                        have HO8 := hide (HOZ.out.trans ho7)
                        clear hcb ho7 HG
                        go_loopw [24] (fun i wz => ∃ z : Nat, z ≤ 256 ∧ i = .int .i64 z ∧ wz = w7) (fun i _ => 256 - (intOf i).toNat)
                        case atStart => exact ⟨0, by decide, rfl, rfl⟩
                        case round =>
                          obtain ⟨z, hz, rfl, rfl⟩ := hrel
                          by_cases hzl : z < 256
                          · have c7 := HCB.out z hzl
                            by_cases hmem : (m : Int) ∈ os
                            · rw [decide_eq_true hmem]
                              go_wp2
                              go_roundw
                              case rel => exact ⟨z + 1, by omega, by go_num, trivial⟩
                              case measure => simp [intOf]; omega
                            · rw [decide_eq_false hmem]
                              have hfr : frB ys (m : Int) z = c := HFB.out _ (by simp only [hasB, decide_eq_true_eq]; rw [HL.out]; omega) hmem z hzl
                              rw [hfr] at c7
                              have hcc : (c != c) = false := by simp
                              go_wp2
                              go_roundw
                              case rel => exact ⟨z + 1, by omega, by go_num, trivial⟩
                              case measure => simp [intOf]; omega
                          · obtain rfl : z = 256 := by omega
                            rw [show ((256 : Nat) : Int) = 256 from rfl]
                            clear hz hzl
                            go_wp2
                            go_roundw
                            case rel => exact ⟨m + 1, by omega, by go_num, HOV.out.trans HO8.out⟩
                            case measure => simp [intOf]; omega
                  · go_wp2
                    go_ret
                    exact ⟨rfl, (HO.out.trans HOV.out).below (Nat.le_refl _) (by simp)⟩
          · have hr' : hasB ys root = false := by simpa using hr
            have HNW := hide (tnew_bad hm root hr')
            simp only [hasB, decide_eq_false_iff_not] at hr'
            have hrr : root < 0 ∨ (¬ root < 0 ∧ 12 ≤ root) := by omega
            clear hm hu hl hr hr' HF
            rcases hrr with h | ⟨h, h2⟩
            · go_wp2_with (go_at_call 21; refine HNW.out.mono ?_; rintro e w6 ⟨rfl, rfl⟩)
              go_ret
              exact ⟨rfl, HO6.out.below (Nat.le_refl _) (by simp)⟩
            · go_wp2_with (go_at_call 21; refine HNW.out.mono ?_; rintro e w6 ⟨rfl, rfl⟩)
              go_ret
              exact ⟨rfl, HO6.out.below (Nat.le_refl _) (by simp)⟩

theorem ptabApart_walk {H : Type} {enc : TypeId × Value → H} {D : DataW H} (root c : Int) (A : Option Addr) (n cp : Nat) (w : World) (w2 : (Lit.int .u8 c).wf = true) (h : Rd enc Try.prog w 22 [.slice A n cp] D) :
    Calls Try.prog 5 #[.int .i64 root, .slice A n cp, .int .u8 c] w fun e w' => e = .returned (.bool true) ∧ Below w.heap.size w w' := by
  have hx : 0 ≤ c ∧ c ≤ 255 := by simpa [Lit.wf, IntKind.min, IntKind.max, IntKind.signed, IntKind.bits] using w2
  obtain ⟨hn, hops⟩ := Rd.ops5 h
  exact apart_walk root c A n cp w hx.1 hx.2 hn hops
end Go.Proofs.Ytmlaomkofcajgaa
