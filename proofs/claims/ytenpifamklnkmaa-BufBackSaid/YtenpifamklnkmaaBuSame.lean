/-
  The walk of 'BufSame': two caches of two disks read the same.
-/
import Derived.Test.YtenpifamklnkmaaBuSem
import Derived.Deep.RegionHeld3
namespace Go.Proofs.Ytenpifamklnkmaa
open Go.ChangeShapes Go.WideShapes Go.ChangeAt Go.RowKit Go.Maps
set_option linter.unusedVariables false

/-- Two caches, each with its disk, beside what was there; what is read is the same. -/
structure SmB (w wr : World) (g gd r1 g2 gd2 r2 : Nat) (plat : List Int) (l : List (Nat × List Int)) (L : List VB) (p2 : List Int) (l2 : List (Nat × List Int)) (L2 : List VB) (k k2 : Nat) (F F2 : List Nat) : Prop where
  a : Bu wr g gd 12 r1 plat l L k F
  b : Bu wr g2 gd2 12 r2 p2 l2 L2 k2 F2
  na : ∀ q ∈ F, w.heap.size ≤ q
  nb : ∀ q ∈ F2, w.heap.size ≤ q
  ap : ∀ q ∈ F, q ∉ F2
  only : Only [] w wr
  oka : OkV plat l L
  okb : OkV p2 l2 L2
def SameV (plat : List Int) (l : List (Nat × List Int)) (L : List VB) (p2 : List Int) (l2 : List (Nat × List Int)) (L2 : List VB) : Prop := ∀ m, 0 ≤ m → m < 12 → valV plat l L m = valV p2 l2 L2 m
section
variable {w wr w' : World} {g gd r1 g2 gd2 r2 : Nat} {plat p2 plat' : List Int} {l l2 l' : List (Nat × List Int)} {L L2 L' : List VB} {k k2 k' : Nat} {F F2 F' : List Nat}
theorem SmB.quiet (h : SmB w wr g gd r1 g2 gd2 r2 plat l L p2 l2 L2 k k2 F F2) (ho : Only [] wr w') : SmB w w' g gd r1 g2 gd2 r2 plat l L p2 l2 L2 k k2 F F2 :=
  ⟨h.a.quiet ho, h.b.quiet ho, h.na, h.nb, h.ap, h.only.trans ho, h.oka, h.okb⟩
theorem SmB.turnA (h : SmB w wr g gd r1 g2 gd2 r2 plat l L p2 l2 L2 k k2 F F2) (hT : Turned wr w' F F') (hB : Bu w' g gd 12 r1 plat' l' L' k' F') (ho : OkV plat' l' L') : SmB w w' g gd r1 g2 gd2 r2 plat' l' L' p2 l2 L2 k' k2 F' F2 :=
  ⟨hB, h.b.only hT.1 (fun q hq hm => h.ap q hm hq), fun q hq => (hT.2 q hq).elim (fun e => h.na q e) (fun e => Nat.le_trans h.only.size e), h.nb, fun q hq hm => (hT.2 q hq).elim (fun e => h.ap q e hm) (fun e => by have := h.b.lt q hm; omega), h.only.trans' hT.1 (fun q hq hm => by have := h.na q hm; omega), ho, h.okb⟩
theorem SmB.turnB (h : SmB w wr g gd r1 g2 gd2 r2 plat l L p2 l2 L2 k k2 F F2) (hT : Turned wr w' F2 F') (hB : Bu w' g2 gd2 12 r2 plat' l' L' k' F') (ho : OkV plat' l' L') : SmB w w' g gd r1 g2 gd2 r2 plat l L plat' l' L' k k' F F' :=
  ⟨h.a.only hT.1 (fun q hq hm => h.ap q hq hm), hB, h.na, fun q hq => (hT.2 q hq).elim (fun e => h.nb q e) (fun e => Nat.le_trans h.only.size e), fun q hq hm => (hT.2 q hm).elim (fun e => h.ap q hq e) (fun e => by have := h.a.lt q hq; omega), h.only.trans' hT.1 (fun q hq hm => by have := h.nb q hm; omega), h.oka, ho⟩
theorem SmB.more (h : SmB w wr g gd r1 g2 gd2 r2 plat l L p2 l2 L2 k k2 F F2) {j j2 : Nat} (h1 : k ≤ j) (h2 : k2 ≤ j2) : SmB w wr g gd r1 g2 gd2 r2 plat l L p2 l2 L2 j j2 F F2 :=
  ⟨h.a.more h1, h.b.more h2, h.na, h.nb, h.ap, h.only, h.oka, h.okb⟩
end
/-- At the head of a round. -/
def SmR (w : World) (g gd r1 g2 gd2 r2 i : Nat) (wr : World) : Prop :=
  ∃ plat l L p2 l2 L2 F F2, SmB w wr g gd r1 g2 gd2 r2 plat l L p2 l2 L2 i i F F2 ∧ SameV plat l L p2 l2 L2
/-- The cells of a call's box. -/
def Box15 (q : Nat) (n f : Int) (W : World) : Prop := W.cell? ⟨q, 1, none⟩ = some (.int .i64 n) ∧ W.cell? ⟨q, 2, none⟩ = some (.int .u8 f)
theorem Box15.at0 {q : Nat} {n f : Int} {W : World} (h : Box15 q n f W) : W.cell? ⟨q, 1, none⟩ = some (.int .i64 n) ∧ W.cell? ⟨q, 2, none⟩ = some (.int .u8 f) := h
theorem Box15.at1 {q : Nat} {n f : Int} {W : World} (h : Box15 q n f W) : W.drew.cell? ⟨q, 1, none⟩ = some (.int .i64 n) ∧ W.drew.cell? ⟨q, 2, none⟩ = some (.int .u8 f) := h
section
variable {w wr : World} {g gd r1 g2 gd2 r2 : Nat} {plat p2 : List Int} {l l2 : List (Nat × List Int)} {L L2 : List VB} {i q : Nat} {F F2 : List Nat} {kd n f s : Int}
set_option maxRecDepth 100000 in
/-- Both writes, one behind the other. -/
theorem same_writes (h : SmB w wr g gd r1 g2 gd2 r2 plat l L p2 l2 L2 i i F F2) (hs : SameV plat l L p2 l2 L2) (hi : i < 4398046511000) (hn : iW n) (hf : 0 ≤ f ∧ f ≤ 255) (hb : Blk wr q 33 #[.int .i64 kd, .int .i64 n, .int .u8 f, .int .i64 s]) (hq1 : q ∉ F) (hq2 : q ∉ F2) :
    ∀ W, Only [] wr W → Calls Try.prog 12 #[.int .u8 f, .int .i64 0] W fun e w5 => ∃ d c, e = .returned (.slice (some ⟨d, 0, none⟩) 512 c) ∧ Box15 q n f w5 ∧ ∀ W, Only [] w5 W →
      Calls Try.prog 13 #[.pointer (some ⟨g, 0, none⟩), .int .i64 n, .slice (some ⟨d, 0, none⟩) 512 c] W fun e w6 => e = .returned (.int .i64 (refV 12 r1 L n)) ∧ Box15 q n f w6 ∧ ∀ W, Only [] w6 W →
        Calls Try.prog 12 #[.int .u8 f, .int .i64 0] W fun e w7 => ∃ d c, e = .returned (.slice (some ⟨d, 0, none⟩) 512 c) ∧ Box15 q n f w7 ∧ ∀ W, Only [] w7 W →
          Calls Try.prog 13 #[.pointer (some ⟨g2, 0, none⟩), .int .i64 n, .slice (some ⟨d, 0, none⟩) 512 c] W fun e w8 => e = .returned (.int .i64 (refV 12 r2 L2 n)) ∧ Box15 q n f w8 ∧ Only [] w w8 ∧ ((refV 12 r1 L n = 0 ↔ refV 12 r2 L2 n = 0) → SmR w g gd r1 g2 gd2 r2 (i + 1) w8) := by
  intro W hW
  refine (full_is W f hf.1 hf.2).mono ?_
  rintro e w5 ⟨v5, he, hf5, ho5⟩
  obtain ⟨d, c, rfl, hd1, hd2, -, hc5⟩ := hf5.cells512 (by simp)
  have o5 := hW.trans ho5
  have b5 := hb.only o5 (by simp)
  refine ⟨d, c, he, ⟨b5.cell 1, b5.cell 2⟩, fun W hW => ?_⟩
  have h5 := h.quiet (o5.trans hW)
  refine (bu_write h5.a (by omega) hn d 0 c (List.replicate 512 f) (by simp) (u8_rep _ hf.1 hf.2) (fun j hj => by rw [hW.cell hd2 (by simp)]; exact hc5 j hj)).mono ?_
  rintro e w6 ⟨he6, F6, hT, hB6⟩
  have h6 := h5.turnA hT hB6 (write_ok' h5.oka)
  have b6 := (b5.only hW (by simp)).only hT.1 hq1
  refine ⟨he6, ⟨b6.cell 1, b6.cell 2⟩, fun W hW => ?_⟩
  refine (full_is W f hf.1 hf.2).mono ?_
  rintro e w7 ⟨v7, he, hf7, ho7⟩
  obtain ⟨d7, c7, rfl, hd71, hd72, -, hc7⟩ := hf7.cells512 (by simp)
  have o7 := hW.trans ho7
  have b7 := b6.only o7 (by simp)
  refine ⟨d7, c7, he, ⟨b7.cell 1, b7.cell 2⟩, fun W hW => ?_⟩
  have h7 := h6.quiet (o7.trans hW)
  refine (bu_write h7.b (by omega) hn d7 0 c7 (List.replicate 512 f) (by simp) (u8_rep _ hf.1 hf.2) (fun j hj => by rw [hW.cell hd72 (by simp)]; exact hc7 j hj)).mono ?_
  rintro e w8 ⟨he8, F8, hT8, hB8⟩
  have h8 := h7.turnB hT8 hB8 (write_ok' h7.okb)
  have b8 := (b7.only hW (by simp)).only hT8.1 hq2
  refine ⟨he8, ⟨b8.cell 1, b8.cell 2⟩, h8.only, fun hz => ⟨_, _, _, _, _, _, _, _, h8, fun m hm0 hm1 => ?_⟩⟩
  by_cases hr : refV 12 r1 L n = 0
  · rw [write_val h.a.facts.1 h.oka hr, write_val h.b.facts.1 h.okb (hz.1 hr), hs m hm0 hm1]
  · unfold writeV
    rw [if_neg hr, if_neg (fun e => hr (hz.2 e))]
    exact hs m hm0 hm1
end

set_option maxRecDepth 100000 in
set_option maxHeartbeats 4000000 in
theorem bufSame_good (ra rb : Int) (A : Option Addr) (m c : Nat) (w : World) (hra : 1 ≤ ra ∧ ra ≤ 1024) (hrb : 1 ≤ rb ∧ rb ≤ 1024) (hm : m < 4398046511000) (hops : ∀ i, i < m → OpAt15 w A i) :
    Calls Try.prog 6 #[.int .i64 ra, .int .i64 rb, .slice A m c] w fun e w' => e = .returned (.bool true) ∧ Below w.heap.size w w' := by
  have HOP := hide hops
  clear hops
  have HR := hide (And.intro hra hrb)
  clear hra hrb
  go_enter Try.func6, Try.ntmps6
  go_wp2_with fail
  refine (dk_new 12 _ (by decide) (by decide)).mono ?_
  rintro e w1 ⟨gd, FD, rfl, ho1, hFD, hd⟩
  have HO1 := hide ho1
  have HFD := hide hFD
  have HD := hide hd
  clear ho1 hFD hd
  go_wp2_with fail
  refine (dk_new 12 _ (by decide) (by decide)).mono ?_
  rintro e w2 ⟨gd2, FE, rfl, ho2, hFE, he⟩
  have HO2 := hide (HO1.out.trans ho2)
  have HFE := hide (show ∀ q ∈ FE, w.heap.size ≤ q from fun q hq => Nat.le_trans HO1.out.size (hFE q hq))
  have HDE := hide (show ∀ q ∈ FD, q ∉ FE from fun q hq hm => by have := hFE q hm; have := HD.out.lt q hq; omega)
  have HD2 := hide (HD.out.quiet ho2)
  have HE2 := hide he
  clear ho2 hFE he HD
  go_wp2_with fail
  refine (lives_is _).mono ?_
  rintro e w3 ⟨rfl, ho3⟩
  have HO3 := hide (HO2.out.trans ho3)
  have HD3 := hide (HD2.out.quiet ho3)
  have HE3 := hide (HE2.out.quiet ho3)
  clear ho3 HD2 HE2
  go_wp2_with fail
  refine (buNew_ok HD3.out HR.out.1).mono ?_
  rintro e w4 ⟨g, F, rfl, ho4, hb4, hF4⟩
  have HO4 := hide (HO3.out.trans ho4)
  have HE4 := hide (HE3.out.quiet ho4)
  have HEL := hide (show ∀ q ∈ FE, q < w3.heap.size from HE3.out.lt)
  have HB4 := hide hb4
  have HF4 := hide (show ∀ q ∈ F, q ∈ FD ∨ w3.heap.size ≤ q from hF4)
  clear ho4 hb4 hF4 HE3
  go_wp2_with fail
  refine (buNew_ok HE4.out HR.out.2).mono ?_
  rintro e w5 ⟨g2, F2, rfl, ho5, hb5, hF5⟩
  have HS := hide (show SmR w g gd ra.toNat g2 gd2 rb.toNat 0 w5 from
    ⟨_, _, _, _, _, _, F, F2, ⟨HB4.out.quiet ho5, hb5, fun q hq => (HF4.out q hq).elim (fun e => HFD.out q e) (fun e => Nat.le_trans HO3.out.size e), fun q hq => (hF5 q hq).elim (fun e => HFE.out q e) (fun e => Nat.le_trans HO4.out.size e),
      fun q hq hm => by
        have h1 := HB4.out.lt q hq
        rcases hF5 q hm with h2 | h2
        · rcases HF4.out q hq with h3 | h3
          · exact HDE.out q h3 h2
          · have := HEL.out q h2; omega
        · omega, HO4.out.trans ho5, fun x hx => (by cases hx), fun x hx => (by cases hx)⟩, fun m _ _ => rfl⟩)
  clear ho5 hb5 hF5 HB4 HF4 HDE HFD HFE HEL HO4 HE4 HO3 HD3
  go_wp2
  go_loopw [15] (fun iv wr => ∃ i : Nat, i ≤ m ∧ iv = .int .i64 i ∧ SmR w g gd ra.toNat g2 gd2 rb.toNat i wr) (fun iv _ => m - (intOf iv).toNat)
  case atStart => exact ⟨0, Nat.zero_le _, rfl, HS.out⟩
  case round =>
    obtain ⟨i, hi, rfl, plat, l, L, p2, l2, L2, F, F2, hS, hV⟩ := hrel
    by_cases hlt : i < m
    · obtain ⟨q, o, kd, n, f, s, rfl, hq, c0, c1, c2, c3, hf, hn⟩ := HOP.out i hlt
      have e0 := (hS.only.cell hq (by simp)).trans c0
      have e1 := (hS.only.cell hq (by simp)).trans c1
      have e2 := (hS.only.cell hq (by simp)).trans c2
      have e3 := (hS.only.cell hq (by simp)).trans c3
      have hl64 : (i : Int) + 1 ≤ 9223372036854775807 := by omega
      have HF := hide hf
      have HN := hide hn
      have HV := hide hV
      have HBX := hide (Blk.new wr 33 #[.int .i64 kd, .int .i64 n, .int .u8 f, .int .i64 s])
      have HSA := hide (hS.quiet ((Only.refl [] wr).alloc (.cells #[.int .i64 kd, .int .i64 n, .int .u8 f, .int .i64 s] 33)))
      have HQ := hide (show wr.heap.size ∉ F ∧ wr.heap.size ∉ F2 from ⟨fun e => by have := hS.a.lt _ e; omega, fun e => by have := hS.b.lt _ e; omega⟩)
      clear c0 c1 c2 c3 hf hn hV hS
      by_cases k1 : kd = 1
      · subst k1
        by_cases hout : n < 0 ∨ ((12 : Nat) : Int) ≤ n
        · have hr1 : refV 12 ra.toNat L n = 20 := ref_out hout
          have hr2 : refV 12 rb.toNat L2 n = 20 := ref_out hout
          go_wp2_with fail
          refine (bu_read HSA.out.a (by omega) HN.out).mono ?_
          rintro e w6 ⟨vd1, B1, F1, he1, h1f, h1n, hB1, hF1, hT1, hb1⟩
          rw [hr1] at he1 h1f h1n
          have HS6 := hide (HSA.out.turnA hT1 hb1 (read_ok HSA.out.oka))
          have HBX6 := hide (HBX.out.only hT1.1 HQ.out.1)
          have b6 := HBX6.out.cell 1
          have HW1 := hide (show w6.heap.size ≤ w6.heap.size from Nat.le_refl _)
          have hv1 := h1n (by decide)
          subst hv1
          clear HW1
          subst he1
          clear hT1 hb1 h1f h1n hB1 hF1 hr1
          go_wp2_with fail
          refine (bu_read HS6.out.b (by omega) HN.out).mono ?_
          rintro e w7 ⟨vd2, B2, F7, he2, h2f, h2n, hB2, hF2, hT2, hb2⟩
          rw [hr2] at he2 h2f h2n
          have HS7 := hide (HS6.out.turnB hT2 hb2 (read_ok HS6.out.okb))
          have HT2 := hide hT2
          have hv2 := h2n (by decide)
          subst hv2
          subst he2
          clear hT2 hb2 h2f h2n hB2 hF2 hr2
          have HVF := hide (show SameV plat l (readV 12 ra.toNat plat l L n) p2 l2 (readV 12 rb.toNat p2 l2 L2 n) from fun m' h0 h1 => by rw [read_val HSA.out.a.facts.1 HSA.out.oka, read_val HSA.out.b.facts.1 HSA.out.okb]; exact HV.out m' h0 h1)
          go_wp2_with (go_at_call 11; refine (sameB_yes _ none none 0 0 0 [] ⟨rfl, fun h => absurd h (by decide)⟩ ⟨rfl, fun h => absurd h (by decide)⟩ (by decide)).mono ?_; rintro e w8 ⟨rfl, ho8⟩; have HSF := hide (HS7.out.quiet ho8); clear ho8)
          go_roundw
          case rel => exact ⟨i + 1, hlt, by go_num, _, _, _, _, _, _, _, _, HSF.out, HVF.out⟩
          case measure => simp [intOf]; omega
        · have HIN := hide (show 0 ≤ n ∧ n < ((12 : Nat) : Int) by omega)
          rcases ref_in (room := ra.toNat) (L := L) hout with hq1 | hq1
          · rcases ref_in (room := rb.toNat) (L := L2) hout with hq2 | hq2
            · have hr1 : refV 12 ra.toNat L n = 0 := hq1
              have hr2 : refV 12 rb.toNat L2 n = 0 := hq2
              go_wp2_with fail
              refine (bu_read HSA.out.a (by omega) HN.out).mono ?_
              rintro e w6 ⟨vd1, B1, F1, he1, h1f, h1n, hB1, hF1, hT1, hb1⟩
              rw [hr1] at he1 h1f h1n
              have HS6 := hide (HSA.out.turnA hT1 hb1 (read_ok HSA.out.oka))
              have HBX6 := hide (HBX.out.only hT1.1 HQ.out.1)
              have b6 := HBX6.out.cell 1
              have HW1 := hide (show w6.heap.size ≤ w6.heap.size from Nat.le_refl _)
              clear hq1 hout
              obtain ⟨d1, c1', hv1, -, hl1, -, hc1⟩ := (h1f rfl).cells512 (HSA.out.a.valOk HIN.out.1 HIN.out.2).1
              subst hv1
              have HC1 := hide (And.intro hl1 (And.intro hc1 (show d1 ∉ F2 from fun e => by
                  obtain ⟨dd, cc, rr, e1, e2, -⟩ := h1f rfl
                  injection e1 with e1
                  injection e1 with e1
                  injection e1 with e1
                  have := HSA.out.b.lt d1 e
                  omega)))
              clear hl1 hc1 HW1
              subst he1
              clear hT1 hb1 h1f h1n hB1 hF1 hr1
              go_wp2_with fail
              refine (bu_read HS6.out.b (by omega) HN.out).mono ?_
              rintro e w7 ⟨vd2, B2, F7, he2, h2f, h2n, hB2, hF2, hT2, hb2⟩
              rw [hr2] at he2 h2f h2n
              have HS7 := hide (HS6.out.turnB hT2 hb2 (read_ok HS6.out.okb))
              have HT2 := hide hT2
              clear hq2
              obtain ⟨d2, c2', hv2, -, hl2, -, hc2⟩ := (h2f rfl).cells512 (HS6.out.b.valOk HIN.out.1 HIN.out.2).1
              subst hv2
              have HC2 := hide (And.intro hl2 hc2)
              clear hl2 hc2
              subst he2
              clear hT2 hb2 h2f h2n hB2 hF2 hr2
              have HVF := hide (show SameV plat l (readV 12 ra.toNat plat l L n) p2 l2 (readV 12 rb.toNat p2 l2 L2 n) from fun m' h0 h1 => by rw [read_val HSA.out.a.facts.1 HSA.out.oka, read_val HSA.out.b.facts.1 HSA.out.okb]; exact HV.out m' h0 h1)
              have HEQ := hide (HV.out n HIN.out.1 HIN.out.2)
              have hs1 : Sees w7 (some ⟨d1, 0, none⟩) 512 (valV plat l L n) := sees_fresh (fun j hj => by rw [HT2.out.1.cell HC1.out.1 HC1.out.2.2]; exact HC1.out.2.1 j hj) (Nat.lt_of_lt_of_le HC1.out.1 HT2.out.1.size) (HSA.out.a.valOk HIN.out.1 HIN.out.2).1
              have hs2 : Sees w7 (some ⟨d2, 0, none⟩) 512 (valV plat l L n) := by
                rw [HEQ.out]
                exact sees_fresh HC2.out.2 HC2.out.1 (HSA.out.b.valOk HIN.out.1 HIN.out.2).1
              have HSB := hide (sameB_yes w7 _ _ 512 c1' c2' _ hs1 hs2 (by decide))
              clear hs1 hs2
              go_wp2_with (go_at_call 11; refine HSB.out.mono ?_; rintro e w8 ⟨rfl, ho8⟩; have HSF := hide (HS7.out.quiet ho8); clear ho8)
              go_roundw
              case rel => exact ⟨i + 1, hlt, by go_num, _, _, _, _, _, _, _, _, HSF.out, HVF.out⟩
              case measure => simp [intOf]; omega
            · have hr1 : refV 12 ra.toNat L n = 0 := hq1
              have hr2 : refV 12 rb.toNat L2 n = 150 := hq2
              go_wp2_with fail
              refine (bu_read HSA.out.a (by omega) HN.out).mono ?_
              rintro e w6 ⟨vd1, B1, F1, he1, h1f, h1n, hB1, hF1, hT1, hb1⟩
              rw [hr1] at he1 h1f h1n
              have HS6 := hide (HSA.out.turnA hT1 hb1 (read_ok HSA.out.oka))
              have HBX6 := hide (HBX.out.only hT1.1 HQ.out.1)
              have b6 := HBX6.out.cell 1
              have HW1 := hide (show w6.heap.size ≤ w6.heap.size from Nat.le_refl _)
              clear hq1 hout
              obtain ⟨d1, c1', hv1, -, hl1, -, hc1⟩ := (h1f rfl).cells512 (HSA.out.a.valOk HIN.out.1 HIN.out.2).1
              subst hv1
              have HC1 := hide (And.intro hl1 (And.intro hc1 (show d1 ∉ F2 from fun e => by
                  obtain ⟨dd, cc, rr, e1, e2, -⟩ := h1f rfl
                  injection e1 with e1
                  injection e1 with e1
                  injection e1 with e1
                  have := HSA.out.b.lt d1 e
                  omega)))
              clear hl1 hc1 HW1
              subst he1
              clear hT1 hb1 h1f h1n hB1 hF1 hr1
              go_wp2_with fail
              refine (bu_read HS6.out.b (by omega) HN.out).mono ?_
              rintro e w7 ⟨vd2, B2, F7, he2, h2f, h2n, hB2, hF2, hT2, hb2⟩
              rw [hr2] at he2 h2f h2n
              have HS7 := hide (HS6.out.turnB hT2 hb2 (read_ok HS6.out.okb))
              have HT2 := hide hT2
              clear hq2
              have hv2 := h2n (by decide)
              subst hv2
              subst he2
              clear hT2 hb2 h2f h2n hB2 hF2 hr2
              go_wp2
              go_ret
              exact ⟨rfl, HS7.out.only.below (Nat.le_refl _) (by simp)⟩
          · by_cases hq2 : refV 12 rb.toNat L2 n = 0
            · have hr1 : refV 12 ra.toNat L n = 150 := hq1
              have hr2 : refV 12 rb.toNat L2 n = 0 := hq2
              go_wp2_with fail
              refine (bu_read HSA.out.a (by omega) HN.out).mono ?_
              rintro e w6 ⟨vd1, B1, F1, he1, h1f, h1n, hB1, hF1, hT1, hb1⟩
              rw [hr1] at he1 h1f h1n
              have HS6 := hide (HSA.out.turnA hT1 hb1 (read_ok HSA.out.oka))
              have HBX6 := hide (HBX.out.only hT1.1 HQ.out.1)
              have b6 := HBX6.out.cell 1
              have HW1 := hide (show w6.heap.size ≤ w6.heap.size from Nat.le_refl _)
              clear hq1 hout
              have hv1 := h1n (by decide)
              subst hv1
              clear HW1
              subst he1
              clear hT1 hb1 h1f h1n hB1 hF1 hr1
              go_wp2_with fail
              refine (bu_read HS6.out.b (by omega) HN.out).mono ?_
              rintro e w7 ⟨vd2, B2, F7, he2, h2f, h2n, hB2, hF2, hT2, hb2⟩
              rw [hr2] at he2 h2f h2n
              have HS7 := hide (HS6.out.turnB hT2 hb2 (read_ok HS6.out.okb))
              have HT2 := hide hT2
              clear hq2
              obtain ⟨d2, c2', hv2, -, hl2, -, hc2⟩ := (h2f rfl).cells512 (HS6.out.b.valOk HIN.out.1 HIN.out.2).1
              subst hv2
              have HC2 := hide (And.intro hl2 hc2)
              clear hl2 hc2
              subst he2
              clear hT2 hb2 h2f h2n hB2 hF2 hr2
              go_wp2
              go_ret
              exact ⟨rfl, HS7.out.only.below (Nat.le_refl _) (by simp)⟩
            · have hr1 : refV 12 ra.toNat L n = 150 := hq1
              have hr2 : refV 12 rb.toNat L2 n = 150 := (ref_in hout).resolve_left hq2
              go_wp2_with fail
              refine (bu_read HSA.out.a (by omega) HN.out).mono ?_
              rintro e w6 ⟨vd1, B1, F1, he1, h1f, h1n, hB1, hF1, hT1, hb1⟩
              rw [hr1] at he1 h1f h1n
              have HS6 := hide (HSA.out.turnA hT1 hb1 (read_ok HSA.out.oka))
              have HBX6 := hide (HBX.out.only hT1.1 HQ.out.1)
              have b6 := HBX6.out.cell 1
              have HW1 := hide (show w6.heap.size ≤ w6.heap.size from Nat.le_refl _)
              clear hq1 hout
              have hv1 := h1n (by decide)
              subst hv1
              clear HW1
              subst he1
              clear hT1 hb1 h1f h1n hB1 hF1 hr1
              go_wp2_with fail
              refine (bu_read HS6.out.b (by omega) HN.out).mono ?_
              rintro e w7 ⟨vd2, B2, F7, he2, h2f, h2n, hB2, hF2, hT2, hb2⟩
              rw [hr2] at he2 h2f h2n
              have HS7 := hide (HS6.out.turnB hT2 hb2 (read_ok HS6.out.okb))
              have HT2 := hide hT2
              clear hq2
              have hv2 := h2n (by decide)
              subst hv2
              subst he2
              clear hT2 hb2 h2f h2n hB2 hF2 hr2
              go_wp2
              go_ret
              exact ⟨rfl, HS7.out.only.below (Nat.le_refl _) (by simp)⟩
      · have k1b : (kd == 1) = false := beq_eq_false_iff_ne.2 k1
        by_cases k2 : kd = 2
        · subst k2
          clear k1
          have HWR := hide (same_writes HSA.out HV.out (by omega) HN.out HF.out HBX.out HQ.out.1 HQ.out.2)
          have hcur : Box15 wr.heap.size n f (wr.alloc (.cells #[.int .i64 2, .int .i64 n, .int .u8 f, .int .i64 s] 33)) := ⟨HBX.out.cell 1, HBX.out.cell 2⟩
          have HR1 := hide (show (n < 0 ∨ ((12 : Nat) : Int) ≤ n) → refV 12 ra.toNat L n = 20 ∧ refV 12 rb.toNat L2 n = 20 from fun h => ⟨ref_out h, ref_out h⟩)
          have HR2 := hide (show ¬ (n < 0 ∨ ((12 : Nat) : Int) ≤ n) → (refV 12 ra.toNat L n = 0 ∨ refV 12 ra.toNat L n = 150) ∧ (refV 12 rb.toNat L2 n = 0 ∨ refV 12 rb.toNat L2 n = 150) from fun h => ⟨ref_in h, ref_in h⟩)
          generalize refV 12 ra.toNat L n = x1 at *
          generalize refV 12 rb.toNat L2 n = x2 at *
          go_wp2_with fail
          generalize wr.alloc (.cells #[.int .i64 2, .int .i64 n, .int .u8 f, .int .i64 s] 33) = WB at *
          have hz := hcur.at1
          go_region_held3 (fun W => W.cell? ⟨wr.heap.size, 1, none⟩ = some (.int .i64 n) ∧ W.cell? ⟨wr.heap.size, 2, none⟩ = some (.int .u8 f)) (first | go_keep | exact hcur.at0 | exact hcur.at1) (first | (go_at_call 13; have hg := HW2; refine (HW2.out _ (by repeat (first | exact Only.refl _ _ | apply Only.drew | apply Only.drewN))).mono ?_; rintro e w9 ⟨rfl, hc9, ho9, hfin⟩; have HFIN := hide (And.intro ho9 hfin); clear hcur hg ho9 hfin; have hcur := hc9; clear hc9) | (go_at_call 12; have hg := HF2; refine (HF2.out _ (by repeat (first | exact Only.refl _ _ | apply Only.drew | apply Only.drewN))).mono ?_; rintro e w8 ⟨d8, c8, rfl, hc8, hw8⟩; have HW2 := hide hw8; clear hcur hg hw8; have hcur := hc8; clear hc8) | (go_at_call 13; refine (HW1.out _ (by repeat (first | exact Only.refl _ _ | apply Only.drew | apply Only.drewN))).mono ?_; rintro e w7 ⟨rfl, hc7, hf7⟩; have HF2 := hide hf7; clear hcur hf7; have hcur := hc7; clear hc7) | (go_at_call 12; refine (HWR.out _ (by repeat (first | exact Only.refl _ _ | apply Only.drew | apply Only.drewN))).mono ?_; rintro e w6 ⟨d6, c6, rfl, hc6, hw6⟩; have HW1 := hide hw6; clear hcur hw6; have hcur := hc6; clear hc6))
          all_goals
            clear hcur
            by_cases hout : n < 0 ∨ ((12 : Nat) : Int) ≤ n
            · obtain ⟨h1, h2⟩ := HR1.out hout
              subst h1 h2
              have HG := hide (HFIN.out.2 Iff.rfl)
              clear hout
              go_wp2
              go_roundw
              case rel => exact ⟨i + 1, hlt, by go_num, HG.out⟩
              case measure => simp [intOf]; omega
            · have hx := HR2.out hout
              clear hout
              rcases hx with ⟨h1 | h1, h2 | h2⟩
              · subst h1 h2
                have HG := hide (HFIN.out.2 Iff.rfl)
                go_wp2
                go_roundw
                case rel => exact ⟨i + 1, hlt, by go_num, HG.out⟩
                case measure => simp [intOf]; omega
              · subst h1 h2
                go_wp2
                go_ret
                exact ⟨rfl, HFIN.out.1.below (Nat.le_refl _) (by simp)⟩
              · subst h1 h2
                go_wp2
                go_ret
                exact ⟨rfl, HFIN.out.1.below (Nat.le_refl _) (by simp)⟩
              · subst h1 h2
                go_wp2
                go_ret
                exact ⟨rfl, HFIN.out.1.below (Nat.le_refl _) (by simp)⟩
        · have k2b : (kd == 2) = false := beq_eq_false_iff_ne.2 k2
          by_cases k3 : kd = 3
          · subst k3
            clear k1 k2
            go_wp2_with fail
            refine (bu_back_any HSA.out.a (by omega) HSA.out.oka HN.out).mono ?_
            rintro e w6 ⟨⟨b, rfl⟩, l', L', F', hT, hB, hok, hval⟩
            have HE := hide ((HSA.out.turnA hT hB hok).more (Nat.le_refl _) (Nat.le_succ i))
            have HVE := hide (show SameV plat l' L' p2 l2 L2 from fun m' h0 h1 => (hval m' h0).trans (HV.out m' h0 h1))
            clear hT hB hok hval
            go_wp2
            go_roundw
            case rel => exact ⟨i + 1, hlt, by go_num, _, _, _, _, _, _, _, _, HE.out, HVE.out⟩
            case measure => simp [intOf]; omega
          · have k3b : (kd == 3) = false := beq_eq_false_iff_ne.2 k3
            by_cases k4 : kd = 4
            · subst k4
              clear k1 k2 k3
              go_wp2_with fail
              refine (bu_forget HSA.out.b).mono ?_
              rintro e w6 ⟨rfl, F', hT, hB⟩
              have HE := hide ((HSA.out.turnB hT hB (dirt_ok HSA.out.okb)).more (Nat.le_succ i) (Nat.le_succ i))
              have HVE := hide (show SameV plat l L p2 l2 (dirtV L2) from fun m' h0 h1 => by rw [dirt_val HSA.out.b.facts.1 HSA.out.okb]; exact HV.out m' h0 h1)
              clear hT hB
              go_wp2
              go_roundw
              case rel => exact ⟨i + 1, hlt, by go_num, _, _, _, _, _, _, _, _, HE.out, HVE.out⟩
              case measure => simp [intOf]; omega
            · have k4b : (kd == 4) = false := beq_eq_false_iff_ne.2 k4
              clear k1 k2 k3 k4
              go_wp2
              go_roundw
              case rel => exact ⟨i + 1, hlt, by go_num, _, _, _, _, _, _, _, _, HSA.out.more (Nat.le_succ i) (Nat.le_succ i), HV.out⟩
              case measure => simp [intOf]; omega
    · obtain rfl : i = m := by omega
      have HSE := hide hS.only
      clear hS hV
      go_wp2
      go_ret
      exact ⟨rfl, HSE.out.below (Nat.le_refl _) (by simp)⟩
theorem bufSame_start (ra rb : Int) (A : Option Addr) (m c : Nat) (w : World) (hr : ¬ (1 ≤ ra ∧ ra ≤ 1024) ∨ ¬ (1 ≤ rb ∧ rb ≤ 1024)) :
    Calls Try.prog 6 #[.int .i64 ra, .int .i64 rb, .slice A m c] w fun e w' => e = .returned (.bool true) ∧ Below w.heap.size w w' := by
  have HR := hide hr
  clear hr
  go_enter Try.func6, Try.ntmps6
  go_wp2_with fail
  refine (dk_new 12 _ (by decide) (by decide)).mono ?_
  rintro e w1 ⟨gd, FD, rfl, ho1, hFD, hd⟩
  have HO1 := hide ho1
  have HD := hide hd
  clear ho1 hFD hd
  go_wp2_with fail
  refine (dk_new 12 _ (by decide) (by decide)).mono ?_
  rintro e w2 ⟨gd2, FE, rfl, ho2, hFE, he⟩
  have HO2 := hide (HO1.out.trans ho2)
  have HD2 := hide (HD.out.quiet ho2)
  have HE2 := hide he
  clear ho2 hFE he HD
  go_wp2_with fail
  refine (lives_is _).mono ?_
  rintro e w3 ⟨rfl, ho3⟩
  have HO3 := hide (HO2.out.trans ho3)
  have HD3 := hide (HD2.out.quiet ho3)
  have HE3 := hide (HE2.out.quiet ho3)
  clear ho3 HD2 HE2
  by_cases h1 : 1 ≤ ra ∧ ra ≤ 1024
  · have h2 : ¬ (1 ≤ rb ∧ rb ≤ 1024) := HR.out.resolve_left (fun h => h h1)
    have H1 := hide h1
    have H2 := hide h2
    clear h1 h2
    go_wp2_with fail
    refine (buNew_ok HD3.out H1.out).mono ?_
    rintro e w4 ⟨g, F, rfl, ho4, -, -⟩
    have HO4 := hide (HO3.out.trans ho4)
    have HE4 := hide (HE3.out.quiet ho4)
    clear ho4
    go_wp2_with fail
    refine (buNew_bad HE4.out H2.out).mono ?_
    rintro e w5 ⟨rfl, rfl⟩
    go_wp2
    go_ret
    exact ⟨rfl, HO4.out.below (Nat.le_refl _) (by simp)⟩
  · have H1 := hide h1
    clear h1
    go_wp2_with fail
    refine (buNew_bad HD3.out H1.out).mono ?_
    rintro e w4 ⟨rfl, rfl⟩
    by_cases h2 : 1 ≤ rb ∧ rb ≤ 1024
    · have H2 := hide h2
      clear h2
      go_wp2_with fail
      refine (buNew_ok HE3.out H2.out).mono ?_
      rintro e w5 ⟨g, F, rfl, ho5, -, -⟩
      have HO5 := hide (HO3.out.trans ho5)
      clear ho5
      go_wp2
      go_ret
      exact ⟨rfl, HO5.out.below (Nat.le_refl _) (by simp)⟩
    · have H2 := hide h2
      clear h2
      go_wp2_with fail
      refine (buNew_bad HE3.out H2.out).mono ?_
      rintro e w5 ⟨rfl, rfl⟩
      go_wp2
      go_ret
      exact ⟨rfl, HO3.out.below (Nat.le_refl _) (by simp)⟩
theorem bufSame_walk {H : Type} {enc : TypeId × Value → H} (ra rb : Int) (A : Option Addr) (m c : Nat) {w : World} {d : DataW H} (r : Rd enc Try.prog w 22 [.slice A m c] d) :
    Calls Try.prog 6 #[.int .i64 ra, .int .i64 rb, .slice A m c] w fun e w' => e = .returned (.bool true) ∧ Below w.heap.size w w' := by
  obtain ⟨hm, hops⟩ := r.ops15
  by_cases h1 : 1 ≤ ra ∧ ra ≤ 1024
  · by_cases h2 : 1 ≤ rb ∧ rb ≤ 1024
    · exact bufSame_good ra rb A m c w h1 h2 hm hops
    · exact bufSame_start ra rb A m c w (.inr h2)
  · exact bufSame_start ra rb A m c w (.inl h1)
end Go.Proofs.Ytenpifamklnkmaa
