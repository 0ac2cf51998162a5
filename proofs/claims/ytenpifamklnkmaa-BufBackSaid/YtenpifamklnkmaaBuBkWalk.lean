/-
  The walk of 'BufBack': what was written last is read, and lasts behind Back and a flush.
-/
import Derived.Test.YtenpifamklnkmaaBuBkP
namespace Go.Proofs.Ytenpifamklnkmaa
open Go.ChangeShapes Go.WideShapes Go.ChangeAt Go.RowKit Go.Maps
set_option linter.unusedVariables false

theorem gb_rep0 (k j : Nat) : gb (List.replicate k 0) j = 0 := by
  by_cases h : j < k
  · simp [gb, List.getD, List.getElem?_eq_getElem (show j < (List.replicate k (0 : Int)).length by simpa using h)]
  · simp [gb, List.getD, List.getElem?_eq_none (show (List.replicate k (0 : Int)).length ≤ j by simp; omega)]
/-- A cache, and what each sector should read. -/
structure BkI (w wr : World) (g gd r nb : Nat) (now : List Int) (plat : List Int) (l : List (Nat × List Int)) (L : List VB) (k : Nat) (F : List Nat) : Prop where
  h : HoB w wr g gd r plat l L k F
  arr : Blk wr nb 31 (u8l now).toArray
  nw : w.heap.size ≤ nb
  nF : nb ∉ F
  len : now.length = 12
  u8 : U8 now
  ok : OkV plat l L
  val : ∀ m : Nat, m < 12 → valV plat l L m = List.replicate 512 (gb now m)
section
variable {w wr w' : World} {g gd r nb : Nat} {now : List Int} {plat plat' : List Int} {l l' : List (Nat × List Int)} {L L' : List VB} {k k' : Nat} {F F' : List Nat}
theorem BkI.quiet (h : BkI w wr g gd r nb now plat l L k F) (ho : Only [] wr w') : BkI w w' g gd r nb now plat l L k F :=
  ⟨h.h.quiet ho, h.arr.only ho (by simp), h.nw, h.nF, h.len, h.u8, h.ok, h.val⟩
theorem BkI.more (h : BkI w wr g gd r nb now plat l L k F) (hk : k ≤ k') : BkI w wr g gd r nb now plat l L k' F :=
  ⟨h.h.more hk, h.arr, h.nw, h.nF, h.len, h.u8, h.ok, h.val⟩
theorem BkI.turn (h : BkI w wr g gd r nb now plat l L k F) (hT : Turned wr w' F F') (hB : Bu w' g gd 12 r plat' l' L' k' F') (ho : OkV plat' l' L') (hv : ∀ m : Nat, m < 12 → valV plat' l' L' m = valV plat l L m) : BkI w w' g gd r nb now plat' l' L' k' F' :=
  ⟨h.h.turn hT hB, h.arr.only hT.1 h.nF, h.nw, fun e => (hT.2 nb e).elim h.nF (fun e => by have := h.arr.lt; omega), h.len, h.u8, ho, fun m hm => (hv m hm).trans (h.val m hm)⟩
theorem BkI.cell (h : BkI w wr g gd r nb now plat l L k F) {i : Nat} (hi : i < 12) : wr.cell? ⟨nb, i, none⟩ = some (.int .u8 (gb now i)) := by
  rw [h.arr.cell, List.getElem?_toArray]
  have := h.len
  simp [u8l, gb, List.getElem?_eq_getElem (show i < now.length by omega), List.getD]
end
/-- Behind a write: the sector n reads f, if it was not refused; what it should read is not set yet. -/
def WroteB (w : World) (g gd r nb : Nat) (now : List Int) (plat : List Int) (l : List (Nat × List Int)) (L : List VB) (i q : Nat) (n f : Int) (w6 : World) : Prop :=
  ∃ F', HoB w w6 g gd r plat l (writeV 12 r L n (List.replicate 512 f)) (i + 1) F' ∧ Blk w6 nb 31 (u8l now).toArray ∧ nb ∉ F' ∧ OkV plat l (writeV 12 r L n (List.replicate 512 f))
section
variable {w wr : World} {g gd r nb : Nat} {now : List Int} {plat : List Int} {l : List (Nat × List Int)} {L : List VB} {i q : Nat} {F : List Nat} {kd n f s : Int}
set_option maxRecDepth 100000 in
theorem back_writes (h : BkI w wr g gd r nb now plat l L i F) (hi : i < 4398046511000) (hn : iW n) (hf : 0 ≤ f ∧ f ≤ 255) (hb : Blk wr q 33 #[.int .i64 kd, .int .i64 n, .int .u8 f, .int .i64 s]) (hq : q ∉ F) :
    ∀ W, Only [] wr W → Calls Try.prog 12 #[.int .u8 f, .int .i64 0] W fun e w5 => ∃ d c, e = .returned (.slice (some ⟨d, 0, none⟩) 512 c) ∧ Box15 q n f w5 ∧ ∀ W, Only [] w5 W →
      Calls Try.prog 13 #[.pointer (some ⟨g, 0, none⟩), .int .i64 n, .slice (some ⟨d, 0, none⟩) 512 c] W fun e w6 => e = .returned (.int .i64 (refV 12 r L n)) ∧ Box15 q n f w6 ∧ WroteB w g gd r nb now plat l L i q n f w6 := by
  intro W hW
  refine (full_is W f hf.1 hf.2).mono ?_
  rintro e w5 ⟨v5, he, hf5, ho5⟩
  obtain ⟨d, c, rfl, hd1, hd2, -, hc5⟩ := hf5.cells512 (by simp)
  have o5 := hW.trans ho5
  have b5 := hb.only o5 (by simp)
  refine ⟨d, c, he, ⟨b5.cell 1, b5.cell 2⟩, fun W hW => ?_⟩
  have h5 := h.quiet (o5.trans hW)
  refine (bu_write h5.h.bu (by omega) hn d 0 c (List.replicate 512 f) (by simp) (u8_rep _ hf.1 hf.2) (fun j hj => by rw [hW.cell hd2 (by simp)]; exact hc5 j hj)).mono ?_
  rintro e w6 ⟨he6, F6, hT, hB6⟩
  have b6 := (b5.only hW (by simp)).only hT.1 hq
  exact ⟨he6, ⟨b6.cell 1, b6.cell 2⟩, F6, h5.h.turn hT hB6, h5.arr.only hT.1 h5.nF, fun e => (hT.2 nb e).elim h.nF (fun e => by have := h5.arr.lt; omega), write_ok' h5.ok⟩
/-- Refused: all is as it was. -/
theorem WroteB.no {w6 : World} (h0 : BkI w wr g gd r nb now plat l L i F) (h : WroteB w g gd r nb now plat l L i q n f w6) (hr : refV 12 r L n ≠ 0) : ∃ F', BkI w w6 g gd r nb now plat l L (i + 1) F' := by
  obtain ⟨F', h1, h2, h3, h4⟩ := h
  unfold writeV at h1
  rw [if_neg hr] at h1
  exact ⟨F', h1, h2, h0.nw, h3, h0.len, h0.u8, h0.ok, h0.val⟩
/-- Not refused: what it should read is set. -/
theorem WroteB.yes {w6 : World} {j : Nat} (h0 : BkI w wr g gd r nb now plat l L i F) (hf : 0 ≤ f ∧ f ≤ 255) (hj : j < 12) (h : WroteB w g gd r nb now plat l L i q j f w6) (hr : refV 12 r L j = 0) :
    ∃ L' F', BkI w (w6.setCell ⟨nb, j, none⟩ (.int .u8 f)) g gd r nb (now.set j f) plat l L' (i + 1) F' := by
  obtain ⟨F', h1, h2, h3, h4⟩ := h
  have ho : Only [nb] w6 (w6.setCell ⟨nb, j, none⟩ (.int .u8 f)) := (Only.refl _ _).setCell _ (by simp)
  have hlen := h0.len
  refine ⟨_, F', ⟨h1.bu.only ho (fun q hq e => h3 (by simp at e; rw [← e]; exact hq)), h1.new, h1.only.trans' ho (fun q hq hm => by simp at hm; have := h0.nw; omega)⟩, ?_, h0.nw, h3, by rw [List.length_set]; exact hlen, h0.u8.set j hf, h4, fun m hm => ?_⟩
  · have := h2.set_ j (.int .u8 f)
    rw [List.setIfInBounds_toArray] at this
    have e : (u8l now).set j (.int .u8 f) = u8l (now.set j f) := by simp [u8l, List.map_set]
    rw [e] at this
    exact this
  · rw [write_val h0.h.bu.facts.1 h0.ok hr, gb_set_ _ _ _ _ (by omega)]
    by_cases e : j = m
    · subst e
      simp
    · rw [if_neg (by omega), if_neg e]
      exact h0.val m hm
end

set_option maxRecDepth 100000 in
set_option maxHeartbeats 6000000 in
theorem bufBack_good (room : Int) (A : Option Addr) (m c : Nat) (w : World) (hr : 1 ≤ room ∧ room ≤ 1024) (hm : m ≤ 4398046510976) (hops : ∀ i, i < m → OpAt15 w A i) :
    Calls Try.prog 3 #[.int .i64 room, .slice A m c] w fun e w' => e = .returned (.bool true) ∧ Below w.heap.size w w' := by
  have HOP := hide hops
  clear hops
  have HR := hide hr
  clear hr
  go_enter Try.func3, Try.ntmps3
  go_wp2_with fail
  refine (dk_new 12 _ (by decide) (by decide)).mono ?_
  rintro e w1 ⟨gd, FD, rfl, ho1, hFD, hd⟩
  have HO1 := hide ho1
  have HFD := hide hFD
  have HD := hide hd
  clear ho1 hFD hd
  go_wp2_with fail
  refine (lives_is _).mono ?_
  rintro e w2 ⟨rfl, ho2⟩
  have HO2 := hide (HO1.out.trans ho2)
  have HD2 := hide (HD.out.quiet ho2)
  clear ho2 HD
  go_wp2_with fail
  refine (buNew_ok HD2.out HR.out).mono ?_
  rintro e w3 ⟨g, F3, rfl, ho3, hb3, hF3⟩
  have HB3 := hide (show HoB w w3 g gd room.toNat P12 [] [] 0 F3 from ⟨hb3, fun q hq => (hF3 q hq).elim (fun e => HFD.out q e) (fun e => Nat.le_trans HO2.out.size e), HO2.out.trans ho3⟩)
  have HI0 := hide (show BkI w (w3.alloc (.cells #[.int .u8 0, .int .u8 0, .int .u8 0, .int .u8 0, .int .u8 0, .int .u8 0, .int .u8 0, .int .u8 0, .int .u8 0, .int .u8 0, .int .u8 0, .int .u8 0] 31)) g gd room.toNat w3.heap.size (List.replicate 12 0) P12 [] [] 0 F3 from
    ⟨HB3.out.quiet ((Only.refl [] w3).alloc _), Blk.new w3 31 _, HB3.out.only.size, fun e => by have := HB3.out.bu.lt _ e; omega, by simp, U8.replicate 12, fun x hx => (by cases hx), fun j hj => by
      have h1 : valV P12 [] [] (j : Int) = (P12.drop (512 * j)).take 512 := rfl
      rw [h1]
      have h2 : gb (List.replicate 12 0) j = 0 := gb_rep0 12 j
      rw [h2]
      simp only [P12, List.drop_replicate, List.take_replicate]
      congr 1
      omega⟩)
  clear ho3 hb3 hF3
  go_wp2
  generalize w3.alloc (.cells #[.int .u8 0, .int .u8 0, .int .u8 0, .int .u8 0, .int .u8 0, .int .u8 0, .int .u8 0, .int .u8 0, .int .u8 0, .int .u8 0, .int .u8 0, .int .u8 0] 31) = w4 at *
  generalize w3.heap.size = nb at *
  clear HB3 HO2 HD2 HO1 HFD
  go_loopw [10] (fun iv wr => ∃ (i : Nat) (now plat : List Int) (l : List (Nat × List Int)) (L : List VB) (F : List Nat), i ≤ m ∧ iv = .int .i64 i ∧ BkI w wr g gd room.toNat nb now plat l L i F) (fun iv _ => m - (intOf iv).toNat)
  case atStart => exact ⟨0, _, _, _, _, _, Nat.zero_le _, rfl, HI0.out⟩
  case round =>
    obtain ⟨i, now, plat, l, L, F, hi, rfl, hS⟩ := hrel
    by_cases hlt : i < m
    · obtain ⟨q, o, kd, n, f, s, rfl, hq, c0, c1, c2, c3, hf, hn⟩ := HOP.out i hlt
      have e0 := (hS.h.only.cell hq (by simp)).trans c0
      have e1 := (hS.h.only.cell hq (by simp)).trans c1
      have e2 := (hS.h.only.cell hq (by simp)).trans c2
      have e3 := (hS.h.only.cell hq (by simp)).trans c3
      have hl64 : (i : Int) + 1 ≤ 9223372036854775807 := by omega
      have HF := hide hf
      have HN := hide hn
      have HBX := hide (Blk.new wr 33 #[.int .i64 kd, .int .i64 n, .int .u8 f, .int .i64 s])
      have HSA := hide (hS.quiet ((Only.refl [] wr).alloc (.cells #[.int .i64 kd, .int .i64 n, .int .u8 f, .int .i64 s] 33)))
      have HQ := hide (show wr.heap.size ∉ F from fun e => by have := hS.h.bu.lt _ e; omega)
      clear c0 c1 c2 c3 hf hn hS
      by_cases k1 : kd = 1
      · subst k1
        by_cases hr1 : refV 12 room.toNat L n = 0
        · have hrz := ref_zero hr1
          obtain ⟨j, rfl⟩ : ∃ j : Nat, n = j := ⟨n.toNat, by omega⟩
          have hj : j < 12 := by omega
          have hjI : (j : Int) < 12 := by omega
          have hj0 : decide ((j : Int) < 0) = false := by simp
          have hj11 : decide (11 < (j : Int)) = false := by simp; omega
          have HVAL := hide (HSA.out.val j hj)
          have HGB := hide (HSA.out.u8.get j)
          go_wp2_with fail
          refine (bu_read HSA.out.h.bu (by omega) HN.out).mono ?_
          rintro e w6 ⟨vd1, B1, F1, he1, h1f, h1n, hB1, hF1, hT1, hb1⟩
          rw [hr1] at he1 h1f
          have HS6 := hide (HSA.out.turn hT1 hb1 (read_ok HSA.out.ok) (fun m' hm' => read_val HSA.out.h.bu.facts.1 HSA.out.ok m'))
          have b6 := (HBX.out.only hT1.1 HQ.out).cell 1
          have cn := HS6.out.cell hj
          obtain ⟨d1, c1', hv1, -, hl1, -, hc1⟩ := (h1f rfl).cells512 (HSA.out.h.bu.valOk hrz.1 hrz.2).1
          subst hv1
          rw [HVAL.out] at hc1
          have HC1 := hide (And.intro hl1 hc1)
          have HFU := hide ((full_is w6 (gb now j) HGB.out.1 HGB.out.2).mono (R' := fun e w7 => ∃ d c, e = .returned (.slice (some ⟨d, 0, none⟩) 512 c) ∧ Only [] w6 w7 ∧ Calls Try.prog 11 #[.slice (some ⟨d1, 0, none⟩) 512 c1', .slice (some ⟨d, 0, none⟩) 512 c] w7 (fun e w8 => e = .returned (.bool true) ∧ Only [] w7 w8))
            (fun e w7 ⟨v7, he7, hf7, ho7⟩ => by
              obtain ⟨d, c, rfl, -, hd2, -, hc7⟩ := hf7.cells512 (by simp)
              exact ⟨d, c, he7, ho7, sameB_yes w7 _ _ 512 _ _ _ (sees_fresh (fun t ht => by rw [ho7.cell HC1.out.1 (by simp)]; exact HC1.out.2 t ht) (Nat.lt_of_lt_of_le HC1.out.1 ho7.size) (by simp)) (sees_fresh hc7 hd2 (by simp)) (by decide)⟩))
          subst he1
          clear hT1 hb1 h1f h1n hB1 hF1 hr1 hl1 hc1 hrz
          go_wp2_with (first | (go_at_call 12; refine HFU.out.mono ?_; rintro e w7 ⟨d7, c7, rfl, ho7, hs7⟩; have HO7 := hide ho7; have HS7 := hide hs7; clear ho7 hs7) | (go_at_call 11; refine HS7.out.mono ?_; rintro e w8 ⟨rfl, ho8⟩; have HO8 := hide (HO7.out.trans ho8); clear ho8))
          go_roundw
          case rel => exact ⟨i + 1, _, _, _, _, _, hlt, by go_num, HS6.out.quiet HO8.out⟩
          case measure => simp [intOf]; omega
        · have hrb : (refV 12 room.toNat L n == 0) = false := by simpa using hr1
          go_wp2_with fail
          refine (bu_read HSA.out.h.bu (by omega) HN.out).mono ?_
          rintro e w6 ⟨vd1, B1, F1, he1, h1f, h1n, hB1, hF1, hT1, hb1⟩
          have HS6 := hide (HSA.out.turn hT1 hb1 (read_ok HSA.out.ok) (fun m' hm' => read_val HSA.out.h.bu.facts.1 HSA.out.ok m'))
          have hv1 := h1n hr1
          subst hv1
          subst he1
          clear hT1 hb1 h1f h1n hB1 hF1 hr1
          revert hrb
          generalize refV 12 room.toNat L n = x1
          intro hrb
          go_wp2
          go_roundw
          case rel => exact ⟨i + 1, _, _, _, _, _, hlt, by go_num, HS6.out⟩
          case measure => simp [intOf]; omega
      · have k1b : (kd == 1) = false := beq_eq_false_iff_ne.2 k1
        by_cases k2 : kd = 2
        · subst k2
          clear k1
          have HWR := hide (back_writes HSA.out (by omega) HN.out HF.out HBX.out HQ.out)
          have hcur : Box15 wr.heap.size n f (wr.alloc (.cells #[.int .i64 2, .int .i64 n, .int .u8 f, .int .i64 s] 33)) := ⟨HBX.out.cell 1, HBX.out.cell 2⟩
          go_wp2_with fail
          generalize wr.alloc (.cells #[.int .i64 2, .int .i64 n, .int .u8 f, .int .i64 s] 33) = WB at *
          have hz := hcur.at1
          go_region_held3 (fun W => W.cell? ⟨wr.heap.size, 1, none⟩ = some (.int .i64 n) ∧ W.cell? ⟨wr.heap.size, 2, none⟩ = some (.int .u8 f)) (first | go_keep | exact hcur.at0 | exact hcur.at1) (first | (go_at_call 13; refine (HW1.out _ (by repeat (first | exact Only.refl _ _ | apply Only.drew | apply Only.drewN))).mono ?_; rintro e w7 ⟨rfl, hc7, hf7⟩; have HFIN := hide hf7; clear hcur hf7; have hcur := hc7; clear hc7) | (go_at_call 12; refine (HWR.out _ (by repeat (first | exact Only.refl _ _ | apply Only.drew | apply Only.drewN))).mono ?_; rintro e w6 ⟨d6, c6, rfl, hc6, hw6⟩; have HW1 := hide hw6; clear hcur hw6; have hcur := hc6; clear hc6))
          all_goals
            obtain ⟨y1, y2⟩ := hcur.at0
            clear hcur hz
            by_cases hr1 : refV 12 room.toNat L n = 0
            · have hrz := ref_zero hr1
              obtain ⟨j, rfl⟩ : ∃ j : Nat, n = j := ⟨n.toNat, by omega⟩
              have hj : j < 12 := by omega
              have hjI : (j : Int) < 12 := by omega
              have hj0 : decide ((j : Int) < 0) = false := by simp
              have hj11 : decide (11 < (j : Int)) = false := by simp; omega
              have hcn : ∃ u, w7.cell? ⟨nb, j, none⟩ = some u ∧ w7.frozen? ⟨nb, j, none⟩ = false := by
                obtain ⟨F', h1, h2, h3, h4⟩ := HFIN.out
                have hlen := HSA.out.len
                exact ⟨.int .u8 (gb now j), by rw [h2.cell, List.getElem?_toArray]; simp [u8l, gb, List.getElem?_eq_getElem (show j < now.length by omega), List.getD], h2.frozen j⟩
              obtain ⟨u, cn, cf⟩ := hcn
              have HE := hide (HFIN.out.yes HSA.out HF.out hj hr1)
              rw [hr1]
              clear hr1 hrz
              go_wp2
              obtain ⟨L', F', hE⟩ := HE.out
              go_roundw
              case rel => exact ⟨i + 1, _, _, _, _, _, hlt, by go_num, hE⟩
              case measure => simp [intOf]; omega
            · have hrb : (refV 12 room.toNat L n == 0) = false := by simpa using hr1
              have HE := hide (HFIN.out.no HSA.out hr1)
              clear hr1
              revert hrb
              generalize refV 12 room.toNat L n = x1
              intro hrb
              go_wp2
              obtain ⟨F', hE⟩ := HE.out
              go_roundw
              case rel => exact ⟨i + 1, _, _, _, _, _, hlt, by go_num, hE⟩
              case measure => simp [intOf]; omega
        · have k2b : (kd == 2) = false := beq_eq_false_iff_ne.2 k2
          by_cases k3 : kd = 3
          · subst k3
            clear k1 k2
            go_wp2_with fail
            refine (bu_back_any HSA.out.h.bu (by omega) HSA.out.ok HN.out).mono ?_
            rintro e w6 ⟨⟨b, rfl⟩, l', L', F', hT, hB, hok, hval⟩
            have HE := hide (HSA.out.turn hT hB hok (fun m' hm' => hval m' (by omega)))
            clear hT hB hok hval
            go_wp2
            go_roundw
            case rel => exact ⟨i + 1, _, _, _, _, _, hlt, by go_num, HE.out⟩
            case measure => simp [intOf]; omega
          · have k3b : (kd == 3) = false := beq_eq_false_iff_ne.2 k3
            by_cases k4 : kd = 4
            · subst k4
              clear k1 k2 k3
              go_wp2_with fail
              refine (bu_forget HSA.out.h.bu).mono ?_
              rintro e w6 ⟨rfl, F', hT, hB⟩
              have HE := hide ((HSA.out.turn hT hB (dirt_ok HSA.out.ok) (fun m' hm' => dirt_val HSA.out.h.bu.facts.1 HSA.out.ok m')).more (Nat.le_succ i))
              clear hT hB
              go_wp2
              go_roundw
              case rel => exact ⟨i + 1, _, _, _, _, _, hlt, by go_num, HE.out⟩
              case measure => simp [intOf]; omega
            · have k4b : (kd == 4) = false := beq_eq_false_iff_ne.2 k4
              clear k1 k2 k3 k4
              go_wp2
              go_roundw
              case rel => exact ⟨i + 1, _, _, _, _, _, hlt, by go_num, HSA.out.more (Nat.le_succ i)⟩
              case measure => simp [intOf]; omega
    · obtain rfl : i = m := by omega
      have HS := hide hS
      clear hS hlt hi HI0 HOP
      have HI := hide hm
      go_wp2_with fail
      refine (bu_dirty HS.out.h.bu).mono ?_
      rintro e w5 ⟨v15, rfl, hr15, hn15, ho5⟩
      have HS5 := hide (HS.out.quiet ho5)
      have HDI := hide (dirtyIs_start L)
      have hks : (keysV (dirtV L)).Nodup := List.Sublist.nodup (List.Sublist.map _ List.filter_sublist) HS.out.h.bu.facts.1
      have HDN := hide (sortK_nodup hks)
      have hdl : (sortK (keysV (dirtV L))).length ≤ 12 := by
        rw [sortK_length]
        refine nodup_below 12 _ hks (fun t ht => ?_)
        obtain ⟨x, hx, rfl⟩ := List.mem_map.1 ht
        exact (HS.out.h.bu.facts.2.2.2.2 x (List.mem_filter.1 hx).1).1
      have hn15' : ∀ q, v15.ownBlock = some q → q ∉ F := fun q hq hm' => by have := HS.out.h.bu.lt q hm'; have := hn15 q hq; omega
      obtain ⟨A15, c15, hv15, -⟩ := hr15.form
      clear hn15 ho5 hks HS
      generalize sortK (keysV (dirtV L)) = DL at *
      subst hv15
      have HR15 := hide hr15
      have HN15 := hide hn15'
      have hdlI : (DL.length : Int) ≤ 12 := by omega
      clear hr15 hn15'
      go_wp2
      go_loopw [16] (fun iv wr => ∃ (a : Nat) (l : List (Nat × List Int)) (L : List VB) (F : List Nat), a ≤ DL.length ∧ iv = .int .i64 a ∧ BkI w wr g gd room.toNat nb now plat l L (i + a) F ∧ DirtyIs L (DL.drop a) ∧ IRow wr (.slice A15 DL.length c15) DL ∧ ∀ q, (Value.slice A15 DL.length c15).ownBlock = some q → q ∉ F) (fun iv _ => DL.length - (intOf iv).toNat)
      case atStart => exact ⟨0, l, L, F, Nat.zero_le _, rfl, HS5.out, HDI.out, HR15.out, HN15.out⟩
      case round =>
        clear HS5 HDI HR15 HN15
        obtain ⟨a, l, L, F, ha, rfl, hS, hD, hR, hN⟩ := hrel
        have HS := hide hS
        have HD := hide hD
        have HRR := hide hR
        have HNN := hide hN
        by_cases hal : a < DL.length
        · have halI : (a : Int) < DL.length := by omega
          have hdr : DL.drop a = gb DL a :: DL.drop (a + 1) := by
            rw [List.drop_eq_getElem_cons hal]
            simp [gb, List.getD, List.getElem?_eq_getElem hal]
          have hnd : (gb DL a :: DL.drop (a + 1)).Nodup := by rw [← hdr]; exact HDN.out.sublist (List.drop_sublist _ _)
          rw [hdr] at hD
          have hst := dirtyIs_step hnd hD
          obtain ⟨x, hx, hxn, hxy⟩ := hD.2 (gb DL a) (by simp)
          have hB := bu_back_yes hS.h.bu (by have := HI.out; omega) hx hxy
          have hf := hS.h.bu.facts
          have HB := hide (hB.mono (R' := fun e w' => e = .returned (.tuple #[.bool true, .int .i64 0]) ∧ ∃ l' L' F', BkI w w' g gd room.toNat nb now plat l' L' (i + (a + 1)) F' ∧ DirtyIs L' (DL.drop (a + 1)) ∧ IRow w' (.slice A15 DL.length c15) DL ∧ ∀ q, (Value.slice A15 DL.length c15).ownBlock = some q → q ∉ F')
            (fun e w' ⟨he, F', hT, hb⟩ => ⟨he, _, _, F', hS.turn hT hb (clean_ok hf.1 hS.ok hx (fun z hz => (hf.2.2.2.2 z hz).1.1)) (fun m' hm' => clean_val hf.1 hS.ok hx (fun z hz => (hf.2.2.2.2 z hz).1.1) (by omega)), by rw [hxn]; exact hst, hR.keep hT.1 hN, fun q hq hm' => (hT.2 q hm').elim (hN q hq) (fun e => by have := (KRow.at_ hR hq).2.1; omega)⟩))
          rw [hxn] at HB
          obtain ⟨A', c', hv', hA'⟩ := hR.form
          injection hv' with e1 e2 e3
          subst e1 e3
          clear e2
          obtain ⟨b, rfl, -, -, hbc⟩ := hA' (by omega)
          have ca := hbc a hal
          clear hS hD hR hN hB hf hx hxn hxy hst hnd hdr hbc hA'
          go_wp2_with (go_at_call 14; refine HB.out.mono ?_; rintro e w6 ⟨rfl, hE⟩; have HE := hide hE; clear hE)
          obtain ⟨l', L', F', h1, h2, h3, h4⟩ := HE.out
          go_roundw
          case rel => exact ⟨a + 1, l', L', F', hal, by go_num, h1, h2, h3, h4⟩
          case measure => simp [intOf]; omega
        · obtain rfl : a = DL.length := by omega
          have hde : dirtV L = [] := dirtyIs_end (by rw [List.drop_length] at hD; exact hD)
          have HDE := hide hde
          clear hS hD hR hN HD HRR HNN hde
          go_wp2_with fail
          refine (bu_flush HS.out.h.bu (by have := HI.out; omega)).mono ?_
          rintro e w6 ⟨rfl, hT6, hB6⟩
          have HB6 := hide (HS.out.h.turn hT6 hB6)
          have HA6 := hide (HS.out.arr.only hT6.1 HS.out.nF)
          clear hT6 hB6
          go_wp2_with fail
          refine (bu_dirty HB6.out.bu).mono ?_
          rintro e w7 ⟨v7, rfl, hr7, -, ho7⟩
          rw [HDE.out] at hr7
          obtain ⟨A7, c7, hv7, -⟩ := hr7.form
          rw [show (sortK (keysV ([] : List VB))).length = 0 by rw [sortK_length]; rfl] at hv7
          subst hv7
          have HB7 := hide (HB6.out.quiet ho7)
          have HA7 := hide (HA6.out.only ho7 (by simp))
          obtain ⟨rd, wt, fl, FD, hd, hFD⟩ := HB7.out.bu.disk
          have HFD := hide (show ∀ q ∈ FD, w.heap.size ≤ q from fun q hq => HB7.out.new q (hFD q hq))
          have HNF := hide (show nb ∉ FD from fun e => HS.out.nF (hFD nb e))
          have HCR := hide ((dk_crash hd none 0 0 [] ⟨rfl, fun h => absurd h (by decide)⟩ (by decide) (fun h => absurd h (by decide))).mono (R' := fun e w' => e = .returned (.int .i64 0) ∧ Turned w7 w' FD FD ∧ Dk w' gd 12 (layAll plat l) [] (-1) rd wt fl (i + DL.length + 1) FD) (fun e w' h => h))
          have HSE := hide (show ∀ t : Nat, t < 12 → sect (layAll plat l) [] t = List.replicate 512 (gb now t) from fun t ht => by
            obtain ⟨rd', wt', fl', FD', hd', -⟩ := HS.out.h.bu.disk
            rw [sect_flush (N := 12) t l plat hd'.platOk.2.1 (fun p hp => ⟨(hd'.writes p hp).1, (hd'.writes p hp).2.1⟩), all_clean HDE.out HS.out.ok t]
            exact HS.out.val t ht)
          have HU8 := hide (And.intro HS.out.u8 HS.out.len)
          have HO7 := hide HB7.out.only
          clear hr7 ho7 hd hFD HS HB6 HA6 HB7 HDE
          go_wp2_with (go_at_call 18; refine HCR.out.mono ?_; rintro e w8 ⟨rfl, hT8, hd8⟩; have HD8 := hide hd8; have HT8 := hide hT8; clear hT8 hd8)
          have HA8 := hide (HA7.out.only HT8.out.1 HNF.out)
          have HO8 := hide (show Only [] w w8 from HO7.out.trans' HT8.out.1 (fun q hq hm' => by have := HFD.out q hm'; omega))
          clear HA7 HO7 HT8 HCR
          go_loopw [19] (fun iv wr => ∃ (a : Nat) (rd : Int), a ≤ 12 ∧ iv = .int .i64 a ∧ Dk wr gd 12 (layAll plat l) [] (-1) rd wt fl (i + DL.length + 1 + a) FD ∧ Blk wr nb 31 (u8l now).toArray ∧ Only [] w wr) (fun iv _ => 12 - (intOf iv).toNat)
          case atStart => exact ⟨0, rd, by omega, rfl, HD8.out, HA8.out, HO8.out⟩
          case round =>
            clear HD8 HA8 HO8
            obtain ⟨t, rd', ht, rfl, hd, hA, hO⟩ := hrel
            have HD := hide hd
            have HA := hide hA
            have HO := hide hO
            by_cases htl : t < 12
            · have htI : (t : Int) < 12 := by omega
              have HGB := hide (HU8.out.1.get t)
              have HRD := hide ((dk_read hd t htl (by have := HI.out; omega)).mono (R' := fun e w6 => ∃ d1 c1, e = .returned (.tuple #[.slice (some ⟨d1, 0, none⟩) 512 c1, .int .i64 0]) ∧ w6.cell? ⟨nb, t, none⟩ = some (.int .u8 (gb now t)) ∧ (Dk w6 gd 12 (layAll plat l) [] (-1) (rd' + 1) wt fl (i + DL.length + 1 + (t + 1)) FD ∧ Blk w6 nb 31 (u8l now).toArray ∧ Only [] w w6) ∧
                Calls Try.prog 12 #[.int .u8 (gb now t), .int .i64 0] w6 (fun e w7 => ∃ d c, e = .returned (.slice (some ⟨d, 0, none⟩) 512 c) ∧ Only [] w6 w7 ∧ Calls Try.prog 11 #[.slice (some ⟨d1, 0, none⟩) 512 c1, .slice (some ⟨d, 0, none⟩) 512 c] w7 (fun e w8 => e = .returned (.bool true) ∧ Only [] w7 w8)))
                (fun e w6 ⟨vd, he, hfr, hT, hd6⟩ => by
                  obtain ⟨d1, c1, rfl, -, hl1, -, hc1⟩ := hfr.cells512 (hd.secOk htl).1
                  rw [HSE.out t htl] at hc1
                  have hA6 := hA.only hT.1 HNF.out
                  refine ⟨d1, c1, he, ?_, ⟨hd6, hA6, hO.trans' hT.1 (fun q hq hm' => by have := HFD.out q hm'; omega)⟩, (full_is w6 (gb now t) HGB.out.1 HGB.out.2).mono (fun e w7 ⟨v7, he7, hf7, ho7⟩ => ?_)⟩
                  · rw [hA6.cell, List.getElem?_toArray]
                    have := HU8.out.2
                    simp [u8l, gb, List.getElem?_eq_getElem (show t < now.length by omega), List.getD]
                  · obtain ⟨d, c, rfl, -, hd2, -, hc7⟩ := hf7.cells512 (by simp)
                    exact ⟨d, c, he7, ho7, sameB_yes w7 _ _ 512 _ _ _ (sees_fresh (fun z hz => by rw [ho7.cell hl1 (by simp)]; exact hc1 z hz) (Nat.lt_of_lt_of_le hl1 ho7.size) (by simp)) (sees_fresh hc7 hd2 (by simp)) (by decide)⟩))
              clear hd hA hO
              go_wp2_with (first | (go_at_call 19; refine HRD.out.mono ?_; rintro e w6 ⟨d1, c1, rfl, cn, hE, hfu⟩; have HE := hide hE; have HFU := hide hfu; clear hE hfu) | (go_at_call 12; refine HFU.out.mono ?_; rintro e w7 ⟨d7, c7', rfl, ho7, hs7⟩; have HO7 := hide ho7; have HS7 := hide hs7; clear ho7 hs7) | (go_at_call 11; refine HS7.out.mono ?_; rintro e w8 ⟨rfl, ho8⟩; have HO8 := hide (HO7.out.trans ho8); clear ho8))
              go_roundw
              case rel => exact ⟨t + 1, rd' + 1, htl, by go_num, HE.out.1.quiet HO8.out, HE.out.2.1.only HO8.out (by simp), HE.out.2.2.trans HO8.out⟩
              case measure => simp [intOf]; omega
            · obtain rfl : t = 12 := by omega
              clear hd hA hO
              go_wp2
              go_ret
              exact ⟨rfl, HO.out.below (Nat.le_refl _) (by simp)⟩

set_option maxRecDepth 100000 in
theorem bufBack_bad (room : Int) (A : Option Addr) (m c : Nat) (w : World) (hr : ¬ (1 ≤ room ∧ room ≤ 1024)) :
    Calls Try.prog 3 #[.int .i64 room, .slice A m c] w fun e w' => e = .returned (.bool true) ∧ Below w.heap.size w w' := by
  have HR := hide hr
  clear hr
  go_enter Try.func3, Try.ntmps3
  go_wp2_with fail
  refine (dk_new 12 _ (by decide) (by decide)).mono ?_
  rintro e w1 ⟨gd, FD, rfl, ho1, -, hd⟩
  have HO1 := hide ho1
  have HD := hide hd
  clear ho1 hd
  go_wp2_with fail
  refine (lives_is _).mono ?_
  rintro e w2 ⟨rfl, ho2⟩
  have HO2 := hide (HO1.out.trans ho2)
  have HD2 := hide (HD.out.quiet ho2)
  clear ho2 HD
  go_wp2_with fail
  refine (buNew_bad HD2.out HR.out).mono ?_
  rintro e w3 ⟨rfl, rfl⟩
  go_wp2
  go_ret
  exact ⟨rfl, HO2.out.below (Nat.le_refl _) (by simp)⟩
theorem bufBack_walk {H : Type} {enc : TypeId × Value → H} (room : Int) (A : Option Addr) (m c : Nat) {w : World} {d : DataW H} (r : Rd enc Try.prog w 22 [.slice A m c] d) :
    Calls Try.prog 3 #[.int .i64 room, .slice A m c] w fun e w' => e = .returned (.bool true) ∧ Below w.heap.size w w' := by
  by_cases hr : 1 ≤ room ∧ room ≤ 1024
  · exact bufBack_good room A m c w hr r.few15 r.ops15.2
  · exact bufBack_bad room A m c w hr
end Go.Proofs.Ytenpifamklnkmaa
