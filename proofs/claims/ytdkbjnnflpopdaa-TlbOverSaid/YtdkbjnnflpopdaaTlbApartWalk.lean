/-
  The walk of 'TlbApart'.
-/
import Derived.Test.YtdkbjnnflpopdaaTlbTwo
namespace Go.Proofs.Ytdkbjnnflpopdaa
open Go.ChangeShapes Go.WideShapes Go.ChangeAt Go.RowKit Go.Maps Go.Shelf
set_option linter.unusedVariables false

/-- All that the first loop may turn. -/
def footG (hb hb' : Nat) (bs bs' : Nat → Nat) : List Nat := footF hb bs ++ footF hb' bs'
def TwoRel (w wl : World) (n t hb ob u hb' ob' M : Nat) (bs bs' : Nat → Nat) (hart : Int) (i : Value) (wr : World) : Prop :=
  ∃ (k : Nat) (ls ls' : Nat → List (K2 × K2)) (nx nx' : Nat → Int), k ≤ n ∧ i = .int .i64 k ∧ Two wr t hb ob u hb' ob' M bs bs' ls ls' nx nx' ∧ Same hart ls ls' nx nx' ∧ (∀ j, nx j ≤ k) ∧ (∀ j, nx' j ≤ k) ∧ Only (footG hb hb' bs bs') wl wr
/-- Behind a call of one op. -/
def Done1 (t hb ob u hb' ob' M : Nat) (bs bs' : Nat → Nat) (wl wr : World) (hart : Int) (k : Nat) (w' : World) : Prop :=
  ∃ (ls ls' : Nat → List (K2 × K2)) (nx nx' : Nat → Int), Two w' t hb ob u hb' ob' M bs bs' ls ls' nx nx' ∧ Same hart ls ls' nx nx' ∧ (∀ j, nx j ≤ (k + 1 : Nat)) ∧ (∀ j, nx' j ≤ (k + 1 : Nat)) ∧ Only (footG hb hb' bs bs') wl w'
theorem done_step {t hb ob u hb' ob' M : Nat} {bs bs' : Nat → Nat} {wl wr w4 : World} {hart : Int} {k : Nat} {ls ls' : Nat → List (K2 × K2)} {nx nx' : Nat → Int} (h1 : Two w4 t hb ob u hb' ob' M bs bs' ls ls' nx nx') (h2 : Same hart ls ls' nx nx') (h3 : ∀ j, nx j ≤ (k + 1 : Nat)) (h4 : ∀ j, nx' j ≤ (k + 1 : Nat)) (h5 : Only (footG hb hb' bs bs') wl w4) : Done1 t hb ob u hb' ob' M bs bs' wl wr hart k w4 := ⟨ls, ls', nx, nx', h1, h2, h3, h4, h5⟩
theorem Done1.rel {w wl wr w' : World} {n t hb ob u hb' ob' M : Nat} {bs bs' : Nat → Nat} {hart : Int} {k : Nat} (h : Done1 t hb ob u hb' ob' M bs bs' wl wr hart k w') (hk : k < n) : TwoRel w wl n t hb ob u hb' ob' M bs bs' hart (.int .i64 ((k : Int) + 1)) w' := by
  obtain ⟨ls, ls', nx, nx', h1, h2, h3, h4, h5⟩ := h
  exact ⟨k + 1, ls, ls', nx, nx', hk, rfl, h1, h2, h3, h4, h5⟩

/-- A slice of these keys. -/
def KRd (W : World) (A : Option Addr) (L : List K2) : Prop := 0 < L.length → ∃ b, A = some ⟨b, 0, none⟩ ∧ b < W.heap.size ∧ ∀ (i : Nat) (x : K2), L[i]? = some x → W.cell? ⟨b, i * 2, none⟩ = some (.int .i64 x.1) ∧ W.cell? ⟨b, i * 2 + 1, none⟩ = some (.int .i64 x.2)
theorem KRd.new {W W' : World} {A : Option Addr} {L : List K2} (h : KRd W A L) (ho : Only [] W W') : KRd W' A L := fun hp => by
  obtain ⟨b, e, hb, hc⟩ := h hp
  exact ⟨b, e, Nat.lt_of_lt_of_le hb ho.size, fun i x hx => ⟨(ho.cell hb (by simp)).trans (hc i x hx).1, (ho.cell hb (by simp)).trans (hc i x hx).2⟩⟩
section
variable {w w' : World} {t hb ob n size : Nat} {begun : Int} {bs : Nat → Nat} {ls : Nat → List (K2 × K2)} {nx : Nat → Int} {O : List (Int × Sh)} {S : List Nat}
theorem bKept_row (T : IsTlb w t hb ob n size begun bs ls nx O) (j : Nat) (hj : j < n) (hl : size ≤ 12) {L : List K2} (hL : (ls j).map (·.1) = L) :
    Calls Try.prog 18 #[.pointer (some ⟨t, 0, none⟩), .int .i64 j] w fun e w' => ∃ A c, e = .returned (.slice A L.length c) ∧ KRd w' A L ∧ Only [] w w' := by
  subst hL
  refine (bKept_is T j hj (Nat.le_trans (T.len j hj) hl)).mono ?_
  rintro e w' ⟨v, rfl, hr, ho⟩
  obtain ⟨A, c, rfl, hA⟩ := GRow.form hr
  exact ⟨A, c, rfl, fun hp => by obtain ⟨b, e, _, h1, h2⟩ := hA hp; exact ⟨b, e, h1, h2⟩, ho⟩
end
def LookRel (w5 : World) (L : List K2) (i : Value) (wr : World) : Prop := ∃ m : Nat, m ≤ L.length ∧ i = .int .i64 m ∧ Only [] w5 wr

set_option maxRecDepth 100000 in
set_option maxHeartbeats 8000000 in
theorem tlbApart_walk (A : Option Addr) (n cp : Nat) (hart : Int) (w : World) (hn : n < 2000000000000) (hops : ∀ i, i < n → OpAt7 w A i) :
    Calls Try.prog 5 #[.slice A n cp, .int .i64 hart] w fun e w' => e = .returned (.bool true) ∧ Below w.heap.size w w' := by
  have HOPS := hide hops
  clear hops
  go_enter Try.func5, Try.ntmps5
  go_wp2_with fail
  refine (show Calls Try.prog 8 #[.int .i64 3, .int .i64 4] w _ from bNew_ok 3 4 w ⟨by decide, by decide⟩ ⟨by decide, by decide⟩).mono ?_
  rintro e w1 ⟨t, hb, ob, bs, rfl, hT, a1, a2, a3, a4, o1⟩
  have HT1 := hide hT
  have HA := hide (And.intro a1 (And.intro a2 (And.intro a3 (And.intro a4 o1))))
  clear hT a1 a2 a3 a4 o1
  go_wp2_with fail
  refine (show Calls Try.prog 8 #[.int .i64 3, .int .i64 4] w1 _ from bNew_ok 3 4 w1 ⟨by decide, by decide⟩ ⟨by decide, by decide⟩).mono ?_
  rintro e w2 ⟨u, hb', ob', bs', rfl, hU, b1, b2, b3, b4, o2⟩
  have HTW := hide (show Two w2 t hb ob u hb' ob' w1.heap.size bs bs' (fun _ => []) (fun _ => []) (fun _ => 0) (fun _ => 0) from by
    refine ⟨HT1.out.new o2, hU, ⟨HT1.out.blk.lt, HT1.out.row.lt, ?_, fun j hj => ?_⟩, b1, b2, b3, b4⟩
    · obtain ⟨D, h1, _⟩ := HT1.out.opn
      exact h1.lt
    · obtain ⟨D, h1, _⟩ := (HT1.out.hart j hj).own
      exact h1.lt)
  have HFT := hide (show (∀ q ∈ footG hb hb' bs bs', w.heap.size ≤ q ∧ q < w2.heap.size) from by
    obtain ⟨a1, a2, a3, a4, o1⟩ := HA.out
    have hs := o1.size
    have hs2 := o2.size
    have c0 := a4 0 (by decide)
    have c1 := a4 1 (by decide)
    have c2 := a4 2 (by decide)
    have d0 := b4 0 (by decide)
    have d1 := b4 1 (by decide)
    have d2 := b4 2 (by decide)
    obtain ⟨_, l1, _, l4⟩ := HTW.out.lo
    have e0 := l4 0 (by decide)
    have e1 := l4 1 (by decide)
    have e2 := l4 2 (by decide)
    have r1 := hU.row.lt
    have rr : ∀ j, j < 3 → bs' j < w2.heap.size := fun j hj => by
      obtain ⟨D, h1, _⟩ := (hU.hart j hj).own
      exact h1.lt
    have f0 := rr 0 (by decide)
    have f1 := rr 1 (by decide)
    have f2 := rr 2 (by decide)
    intro q hq
    unfold footG footF at hq
    simp at hq
    omega)
  have HO2 := hide (HA.out.2.2.2.2.trans o2)
  clear hU b1 b2 b3 b4 o2 HT1 HA
  go_wp2_with (go_at_call 10; refine (lives7 _).mono ?_; rintro e w3 ⟨rfl, o3⟩; have HO3 := hide o3; clear o3)
  have HT3 := hide (HTW.out.new HO3.out)
  have HOW := hide (HO2.out.trans HO3.out)
  have HSZ := hide HO3.out.size
  clear HTW HO2 HO3
  go_loopw [9] (fun i wr => TwoRel w w3 n t hb ob u hb' ob' w1.heap.size bs bs' hart i wr) (fun i _ => n - (intOf i).toNat)
  case atStart => exact ⟨0, _, _, _, _, Nat.zero_le _, rfl, HT3.out, fun j _ _ => ⟨rfl, rfl⟩, fun j => by simp, fun j => by simp, Only.refl _ _⟩
  case round =>
    clear HT3
    obtain ⟨k, ls, ls', nx, nx', hk, rfl, hTw, hsame, hnx, hnx', ho⟩ := hrel
    by_cases hlt : k < n
    · obtain ⟨q, o, kd, h, key, en, m, V, vn, vc, rfl, hq, hkw, c0, c1, c2, c3, c4, c5, c6⟩ := HOPS.out k hlt
      have hq3 : q < w3.heap.size := Nat.lt_of_lt_of_le hq HOW.out.size
      have hqf : q ∉ footG hb hb' bs bs' := fun hh => by have := (HFT.out q hh).1; omega
      have hcc : ∀ x, wr.cell? ⟨q, x, none⟩ = w.cell? ⟨q, x, none⟩ := fun x => (ho.cell hq3 hqf).trans (HOW.out.cell hq (by simp))
      have e0 := (hcc _).trans c0
      have e1 := (hcc _).trans c1
      have e2 := (hcc _).trans c2
      have e3 := (hcc _).trans c3
      have e4 := (hcc _).trans c4
      have e5 := (hcc _).trans c5
      have e6 := (hcc _).trans c6
      obtain ⟨wa, hwa⟩ : ∃ wa : World, wa = wr.alloc (.cells #[.int .i64 kd, .int .i64 h, .int .i64 key.1, .int .i64 key.2, .int .u32 en, .int .i64 m, .slice V vn vc] 37) := ⟨_, rfl⟩
      have hoa : Only [] wr wa := by rw [hwa]; exact (Only.refl [] wr).alloc _
      have hbx : Blk wa wr.heap.size 37 #[.int .i64 kd, .int .i64 h, .int .i64 key.1, .int .i64 key.2, .int .u32 en, .int .i64 m, .slice V vn vc] := by rw [hwa]; exact Blk.new _ _ _
      have hsz3 := ho.size
      have hbxf : ∀ W, Only (footG hb hb' bs bs') wa W → Blk W wr.heap.size 37 #[.int .i64 kd, .int .i64 h, .int .i64 key.1, .int .i64 key.2, .int .u32 en, .int .i64 m, .slice V vn vc] := fun W hW => hbx.only hW (fun hh => by have := (HFT.out _ hh).2; have := HSZ.out; omega)
      have hkn : (k : Int) < n := by omega
      clear c0 c1 c2 c3 c4 c5 c6 hcc hq hqf hq3 hbx
      have HTA := hide (hTw.new hoa)
      have HBX := hide hbxf
      have HSM := hide hsame
      have HNX := hide (And.intro hnx hnx')
      have HKW := hide hkw
      have HOO := hide (show Only (footG hb hb' bs bs') w3 wa from ho.trans (hoa.mono (by simp)))
      have HWA := hide hwa
      have HKL := hide hlt
      clear hTw hoa hbxf hsame hnx hnx' ho hkw hsz3 hwa
      have HOF := hide (fun (W W' : World) (hW : Only (footF hb bs) W W') => (hW.mono (S' := footG hb hb' bs bs') (fun q _ hq => by unfold footG; exact List.mem_append_left _ hq)))
      have HOF' := hide (fun (W W' : World) (hW : Only (footF hb' bs') W W') => (hW.mono (S' := footG hb hb' bs bs') (fun q _ hq => by unfold footG; exact List.mem_append_right _ hq)))
      by_cases hk2 : kd = 2
      · subst hk2
        have HF1 := hide (bFill_any HTA.out.T (footF_ok hb bs) h HKW.out en (fun j _ => by have := HNX.out.1 j; omega))
        by_cases hh : h = hart
        · subst hh
          have HF2 := hide (fun W (hTw : Two W t hb ob u hb' ob' w1.heap.size bs bs' (fillLs 3 4 ls nx h key en) ls' (fillNx 3 ls nx h key) nx') => bFill_any hTw.U (footF_ok hb' bs') h HKW.out en (fun j _ => by have := HNX.out.2 j; omega))
          have e7 := HWA.out
          subst e7
          go_wp2_with (first | (go_at_call 13; have hg4 := HTW4.out; refine (HF2.out _ hg4).mono ?_; rintro e w5 ⟨⟨x5, rfl⟩, hT5, ho5⟩; have HB5 := hide (HBX.out _ (HO4.out.trans (HOF'.out _ _ ho5))); have HTW5 := hide (HTW4.out.two hT5 ho5); have HO5 := hide (HO4.out.trans (HOF'.out _ _ ho5)); have y0 := HB5.out.cell 0; have y1 := HB5.out.cell 1; have y2 := HB5.out.cell 2; have y3 := HB5.out.cell 3; have y4 := HB5.out.cell 4; clear hT5 ho5 HF2 hg4) | (go_at_call 13; refine HF1.out.mono ?_; rintro e w4 ⟨⟨x, rfl⟩, hT4, ho4⟩; have HB4 := hide (HBX.out _ (HOF.out _ _ ho4)); have HTW4 := hide (HTA.out.one hT4 ho4); have HO4 := hide (HOF.out _ _ ho4); have g0 := HB4.out.cell 0; have g1 := HB4.out.cell 1; have g2 := HB4.out.cell 2; have g3 := HB4.out.cell 3; have g4 := HB4.out.cell 4; clear hT4 ho4 HF1))
          have HD := hide (done_step (wr := wr) (k := k) HTW5.out (HSM.out.fill_eq key en) (fun j => by have := fillNx_le 3 ls nx h key j; have := HNX.out.1 j; omega) (fun j => by have := fillNx_le 3 ls' nx' h key j; have := HNX.out.2 j; omega) (HOO.out.trans HO5.out))
          go_wp2
          go_roundw
          case rel => exact HD.out.rel HKL.out
          case measure => have := HKL.out; simp [intOf]; omega
        · have HF2 := hide HWA.out
          have e7 := HWA.out
          subst e7
          go_wp2_with (go_at_call 13; refine HF1.out.mono ?_; rintro e w4 ⟨⟨x, rfl⟩, hT4, ho4⟩; have HB4 := hide (HBX.out _ (HOF.out _ _ ho4)); have HTW4 := hide (HTA.out.one hT4 ho4); have HO4 := hide (HOF.out _ _ ho4); have g0 := HB4.out.cell 0; have g1 := HB4.out.cell 1; have g2 := HB4.out.cell 2; have g3 := HB4.out.cell 3; have g4 := HB4.out.cell 4; clear hT4 ho4 HF1)
          have HD := hide (done_step (wr := wr) (k := k) HTW4.out (HSM.out.fill_ne hh key en) (fun j => by have := fillNx_le 3 ls nx h key j; have := HNX.out.1 j; omega) (fun j => by have := HNX.out.2 j; omega) (HOO.out.trans HO4.out))
          go_wp2
          go_roundw
          case rel => exact HD.out.rel HKL.out
          case measure => have := HKL.out; simp [intOf]; omega
      · by_cases hk3 : kd = 3
        · subst hk3
          have HF1 := hide (bFlush_any HTA.out.T (footF_ok hb bs) h key.1)
          by_cases hh : h = hart
          · subst hh
            have HF2 := hide (fun W (hTw : Two W t hb ob u hb' ob' w1.heap.size bs bs' (flushLs 3 ls h key.1) ls' nx nx') => bFlush_any hTw.U (footF_ok hb' bs') h key.1)
            have e7 := HWA.out
            subst e7
            go_wp2_with (first | (go_at_call 19; have hg4 := HTW4.out; refine (HF2.out _ hg4).mono ?_; rintro e w5 ⟨⟨x5, rfl⟩, hT5, ho5⟩; have HB5 := hide (HBX.out _ (HO4.out.trans (HOF'.out _ _ ho5))); have HTW5 := hide (HTW4.out.two hT5 ho5); have HO5 := hide (HO4.out.trans (HOF'.out _ _ ho5)); have y0 := HB5.out.cell 0; have y1 := HB5.out.cell 1; have y2 := HB5.out.cell 2; have y3 := HB5.out.cell 3; have y4 := HB5.out.cell 4; clear hT5 ho5 HF2 hg4) | (go_at_call 19; refine HF1.out.mono ?_; rintro e w4 ⟨⟨x, rfl⟩, hT4, ho4⟩; have HB4 := hide (HBX.out _ (HOF.out _ _ ho4)); have HTW4 := hide (HTA.out.one hT4 ho4); have HO4 := hide (HOF.out _ _ ho4); have g0 := HB4.out.cell 0; have g1 := HB4.out.cell 1; have g2 := HB4.out.cell 2; have g3 := HB4.out.cell 3; have g4 := HB4.out.cell 4; clear hT4 ho4 HF1))
            have HD := hide (done_step (wr := wr) (k := k) HTW5.out (HSM.out.flush_eq key.1) (fun j => by have := HNX.out.1 j; omega) (fun j => by have := HNX.out.2 j; omega) (HOO.out.trans HO5.out))
            go_wp2
            go_roundw
            case rel => exact HD.out.rel HKL.out
            case measure => have := HKL.out; simp [intOf]; omega
          · have HF2 := hide HWA.out
            have e7 := HWA.out
            subst e7
            go_wp2_with (go_at_call 19; refine HF1.out.mono ?_; rintro e w4 ⟨⟨x, rfl⟩, hT4, ho4⟩; have HB4 := hide (HBX.out _ (HOF.out _ _ ho4)); have HTW4 := hide (HTA.out.one hT4 ho4); have HO4 := hide (HOF.out _ _ ho4); have g0 := HB4.out.cell 0; have g1 := HB4.out.cell 1; have g2 := HB4.out.cell 2; have g3 := HB4.out.cell 3; have g4 := HB4.out.cell 4; clear hT4 ho4 HF1)
            have HD := hide (done_step (wr := wr) (k := k) HTW4.out (HSM.out.flush_ne hh key.1) (fun j => by have := HNX.out.1 j; omega) (fun j => by have := HNX.out.2 j; omega) (HOO.out.trans HO4.out))
            go_wp2
            go_roundw
            case rel => exact HD.out.rel HKL.out
            case measure => have := HKL.out; simp [intOf]; omega
        · have HD := hide (done_step (wr := wr) (k := k) HTA.out HSM.out (fun j => by have := HNX.out.1 j; omega) (fun j => by have := HNX.out.2 j; omega) HOO.out)
          have e7 := HWA.out
          subst e7
          go_wp2
          go_roundw
          case rel => exact HD.out.rel HKL.out
          case measure => have := HKL.out; simp [intOf]; omega
    · have HOO := hide (show Below w.heap.size w wr from (HOW.out.below (Nat.le_refl _) (by simp)).trans (ho.below HOW.out.size (fun q hq => (HFT.out q hq).1)))
      have hkn : ¬ (k : Int) < n := by omega
      by_cases hgood : 0 ≤ hart ∧ hart < 3
      · obtain ⟨j, rfl⟩ := Int.eq_ofNat_of_zero_le hgood.1
        have hj : j < 3 := by omega
        obtain ⟨L, hL⟩ : ∃ L, (ls j).map (·.1) = L := ⟨_, rfl⟩
        have hs := (hsame j hj rfl).1
        have hL4 : L.length ≤ 4 := by
          have := hTw.T.len j hj
          rw [← hL, List.length_map]
          omega
        have HK1 := hide (bKept_row hTw.T j hj (by decide) hL)
        have HK2 := hide (fun W (hW : Only [] wr W) => bKept_row (hTw.new hW).U j hj (by decide) (hs ▸ hL))
        have HL1 := hide (fun W (hW : Only [] wr W) (x f : K2) (hp : (x, f) ∈ ls j) => bLook_is (hTw.new hW).T j hj hp)
        have HL2 := hide (fun W (hW : Only [] wr W) (x f : K2) (hp : (x, f) ∈ ls j) => bLook_is (hTw.new hW).U j hj (hs ▸ hp))
        have HIN := hide (show ∀ x ∈ L, ∃ f, (x, f) ∈ ls j from fun x hx => by
          rw [← hL] at hx
          obtain ⟨⟨x', f⟩, h1, rfl⟩ := List.mem_map.1 hx
          exact ⟨f, h1⟩)
        clear hTw hsame hnx hnx' ho hk hlt hL hs hgood
        go_wp2_with (first | (go_at_call 18; refine HK1.out.mono ?_; rintro e w4 ⟨A4, p4, rfl, hr4, ho4⟩; have HR4 := hide hr4; have HO4 := hide ho4; clear hr4 ho4 HK1) | (go_at_call 18; refine (HK2.out _ HO4.out).mono ?_; rintro e w5 ⟨A5, p5, rfl, hr5, ho5⟩; have HR5 := hide hr5; have HO5 := hide ho5; clear hr5 ho5 HK2))
        have HR4' := hide (HR4.out.new HO5.out)
        have HO6 := hide (HO4.out.trans HO5.out)
        go_loopw [13] (fun i wq => LookRel w5 L i wq) (fun i _ => L.length - (intOf i).toNat)
        case atStart => exact ⟨0, Nat.zero_le _, rfl, Only.refl _ _⟩
        case round =>
          obtain ⟨m, hm, rfl, hoq⟩ := hrel
          by_cases hml : m < L.length
          · have hx := gk_get hml
            obtain ⟨b4, rfl, hb4, hc4⟩ := HR4'.out (by omega)
            obtain ⟨b5, rfl, hb5, hc5⟩ := HR5.out (by omega)
            obtain ⟨f, hf⟩ := HIN.out _ (gk_mem hml)
            have HC := hide (fun W (hW : Only [] wr W) => (show W.cell? ⟨b4, m * 2, none⟩ = some (.int .i64 (gk L m).1) ∧ W.cell? ⟨b4, m * 2 + 1, none⟩ = some (.int .i64 (gk L m).2) ∧ W.cell? ⟨b5, m * 2, none⟩ = some (.int .i64 (gk L m).1) ∧ W.cell? ⟨b5, m * 2 + 1, none⟩ = some (.int .i64 (gk L m).2) from
              ⟨((hoq.trans hW).cell hb4 (by simp)).trans (hc4 m _ hx).1, ((hoq.trans hW).cell hb4 (by simp)).trans (hc4 m _ hx).2, ((hoq.trans hW).cell hb5 (by simp)).trans (hc5 m _ hx).1, ((hoq.trans hW).cell hb5 (by simp)).trans (hc5 m _ hx).2⟩))
            have HLA := hide (HL1.out wr (HO6.out.trans hoq) _ f hf)
            have HLB := hide (fun W (hW : Only [] wr W) => HL2.out W ((HO6.out.trans hoq).trans hW) _ f hf)
            have HOQ := hide hoq
            have hmi : (m : Int) < L.length := by omega
            obtain ⟨k0, k1, k2, k3⟩ := HC.out wr (Only.refl _ _)
            clear hx hb4 hc4 hb5 hc5 hf hoq
            go_wp2_with (first | (go_at_call 20; refine HLA.out.mono ?_; rintro e w7 ⟨rfl, ho7⟩; have HO7 := hide ho7; obtain ⟨y0, y1, y2, y3⟩ := HC.out _ ho7; clear ho7 HLA) | (go_at_call 20; refine (HLB.out _ HO7.out).mono ?_; rintro e w8 ⟨rfl, ho8⟩; have HO8 := hide (HO7.out.trans ho8); obtain ⟨z0, z1, z2, z3⟩ := HC.out _ HO8.out; clear ho8 HLB))
            go_quiet (fail)
            go_wp2
            go_roundw
            case rel => exact ⟨m + 1, hml, by go_num, HOQ.out.trans (HO8.out.drewN _)⟩
            case measure => simp [intOf]; omega
          · have HOQ := hide (HO6.out.trans hoq)
            have hmi : ¬ (m : Int) < L.length := by omega
            clear hoq
            go_wp2
            go_ret
            exact ⟨rfl, HOO.out.trans (HOQ.out.below (by have := HOO.out.size; omega) (by simp))⟩
      · have HK1 := hide (bKept_bad hTw.T hart hgood)
        have HK2 := hide (fun W (hW : Only [] wr W) => bKept_bad (hTw.new hW).U hart hgood)
        clear hTw hsame hnx hnx' ho hk hlt hgood
        go_wp2_with (first | (go_at_call 18; refine HK1.out.mono ?_; rintro e w4 ⟨rfl, ho4⟩; have HO4 := hide ho4; clear ho4 HK1) | (go_at_call 18; refine (HK2.out _ HO4.out).mono ?_; rintro e w5 ⟨rfl, ho5⟩; have HO5 := hide (HO4.out.trans ho5); clear ho5 HK2))
        refine wp_loop_rounds 1 ?_
        rw [rounds_succ]
        go_wp2
        go_ret
        exact ⟨rfl, HOO.out.trans (HO5.out.below (by have := HOO.out.size; omega) (by simp))⟩

theorem tlbApart_law {H : Type} {enc : TypeId × Value → H} {D : DataW H} (hart : Int) (A : Option Addr) (n cp : Nat) (w : World) (h : Rd enc Try.prog w 22 [.slice A n cp] D) :
    Calls Try.prog 5 #[.slice A n cp, .int .i64 hart] w fun e w' => e = .returned (.bool true) ∧ Below w.heap.size w w' := by
  obtain ⟨hn, hops⟩ := Rd.ops7 h
  exact tlbApart_walk A n cp hart w hn hops
end Go.Proofs.Ytdkbjnnflpopdaa
