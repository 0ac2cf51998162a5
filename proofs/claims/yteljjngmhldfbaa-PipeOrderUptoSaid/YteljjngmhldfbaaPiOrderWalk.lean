/-
  The walk of 'PipeOrder': bytes come in order.
-/
import Derived.Test.YteljjngmhldfbaaPiOps
import Derived.Deep.Cut
import Derived.Deep.CutRange
import Derived.Deep.CutBlock
namespace Go.Proofs.Yteljjngmhldfbaa
open Go.ChangeShapes Go.WideShapes Go.ChangeAt Go.RowKit
set_option linter.unusedVariables false
set_option linter.unusedSimpArgs false
theorem readP_split (B : List Int) (m : Bool) (n : Int) : (readP B m n).1 ++ (readP B m n).2.2 = B := by
  unfold readP
  by_cases h1 : n < 0
  · simp [h1]
  · by_cases h2 : n = 0
    · simp [h2]
    · by_cases h3 : B = []
      · simp [h1, h2, h3]
      · simp [h1, h2, h3]
theorem writeP_split (B zs : List Int) : ∃ mm : Nat, ∃ e : Int, writeP B 1 zs = ((mm : Int), e, B ++ zs.take mm) ∧ mm ≤ zs.length ∧ mm ≤ 512 := by
  unfold writeP
  rw [if_neg (by omega)]
  by_cases h1 : zs = []
  · exact ⟨0, 0, by rw [if_pos h1]; simp, Nat.zero_le _, by omega⟩
  · by_cases h2 : B.length = 512
    · exact ⟨0, 211, by rw [if_neg h1, if_pos h2]; simp, Nat.zero_le _, by omega⟩
    · exact ⟨min zs.length (512 - B.length), 0, by rw [if_neg h1, if_neg h2], by omega, by omega⟩
/-- The law's state: what was written, what was read, what the pipe holds. -/
structure PoR (w wr : World) (p : Nat) (v4 v5 : Value) (I O : List Int) : Prop where
  in_ : BRow wr w.heap.size v4 I
  out : BRow wr w.heap.size v5 O
  apart : ∀ q, v4.ownBlock = some q → v5.ownBlock ≠ some q
  f4 : v4.ownBlock ≠ some p
  f5 : v5.ownBlock ≠ some p
  pipe : ∃ B, Pi wr p B 1 1 ∧ I = O ++ B
  lp : w.heap.size ≤ p
  only : Only [] w wr
  u8 : U8 I
section
variable {w wr w' : World} {p : Nat} {v4 v5 v' : Value} {I O B zs : List Int}
theorem PoR.quiet (h : PoR w wr p v4 v5 I O) (ho : Only [] wr w') : PoR w w' p v4 v5 I O := by
  obtain ⟨B, hp, e⟩ := h.pipe
  exact ⟨h.in_.only ho (by simp), h.out.only ho (by simp), h.apart, h.f4, h.f5, ⟨B, hp.only ho (by simp), e⟩, h.lp, h.only.trans ho, h.u8⟩
/-- Behind a call of the pipe, ahead of the append: the rows as they were. -/
theorem PoR.rows (h : PoR w wr p v4 v5 I O) (ho : Only [p] wr w') : BRow w' w.heap.size v4 I ∧ BRow w' w.heap.size v5 O ∧ Only [] w w' :=
  ⟨h.in_.only ho (fun q hq hm => by simp at hm; subst hm; exact h.f4 hq), h.out.only ho (fun q hq hm => by simp at hm; subst hm; exact h.f5 hq), h.only.trans' ho (fun q hq hm => by simp at hm; have := h.lp; omega)⟩
theorem PoR.read {w2 : World} (h : PoR w wr p v4 v5 I O) (ho : Only [p] wr w') (hp : Pi w' p B 1 1) (hI : I = (O ++ zs) ++ B)
    (hr : BRow w2 w.heap.size v' (O ++ zs)) (ho2 : Only v5.ownBlock.toList w' w2) (hk : ∀ q, v'.ownBlock = some q → v5.ownBlock = some q ∨ w'.heap.size ≤ q) : PoR w w2 p v4 v' I (O ++ zs) := by
  obtain ⟨r1, r2, r3⟩ := h.rows ho
  refine ⟨r1.only ho2 (fun q hq hm => h.apart q hq (by simpa using hm)), hr, fun q hq hq' => ?_, h.f4, fun e => ?_, ⟨B, hp.only ho2 (fun hm => h.f5 (by simpa using hm)), hI⟩, h.lp, r3.trans' ho2 (fun q hq hm => ?_), h.u8⟩
  · rcases hk q hq' with e | e
    · exact h.apart q hq e
    · have := (r1.at_ hq).2.1; omega
  · rcases hk p e with e | e
    · exact h.f5 e
    · have := hp.lt; omega
  · have := (r2.at_ (by simpa using hm)).1; omega
theorem PoR.write {w2 : World} (h : PoR w wr p v4 v5 I O) (ho : Only [p] wr w') (hp : Pi w' p B 1 1) (hI : I ++ zs = O ++ B) (hu : U8 zs)
    (hr : BRow w2 w.heap.size v' (I ++ zs)) (ho2 : Only v4.ownBlock.toList w' w2) (hk : ∀ q, v'.ownBlock = some q → v4.ownBlock = some q ∨ w'.heap.size ≤ q) : PoR w w2 p v' v5 (I ++ zs) O := by
  obtain ⟨r1, r2, r3⟩ := h.rows ho
  refine ⟨hr, r2.only ho2 (fun q hq hm => h.apart q (by simpa using hm) hq), fun q hq' hq => ?_, fun e => ?_, h.f5, ⟨B, hp.only ho2 (fun hm => h.f4 (by simpa using hm)), hI⟩, h.lp, r3.trans' ho2 (fun q hq hm => ?_), h.u8.append hu⟩
  · rcases hk q hq' with e | e
    · exact h.apart q e hq
    · have := (r2.at_ hq).2.1; omega
  · rcases hk p e with e | e
    · exact h.f4 e
    · have := hp.lt; omega
  · have := (r1.at_ (by simpa using hm)).1; omega
end
/-- How long a slice is. -/
def lenOf (v : Value) : Nat := match v with | .slice _ n _ => n | _ => 0
def PoL (w : World) (p : Nat) (v4 v5 iv : Value) (wr : World) (m : Nat) : Prop := ∃ (i : Nat) (I O : List Int), iv = .int .i64 i ∧ i ≤ m ∧ I.length ≤ 512 * i ∧ PoR w wr p v4 v5 I O
set_option maxRecDepth 100000 in
set_option maxHeartbeats 2000000 in
theorem pipeOrder_walk' (A : Option Addr) (m c : Nat) (w : World) (hm : m ≤ 1048576) (hops : ∀ i, i < m → OpAt21 w A i) :
    Calls Try.prog 5 #[.slice A m c] w fun e w' => e = .returned (.bool true) ∧ Below w.heap.size w w' := by
  have HOP := hide hops
  clear hops
  go_enter Try.func5, Try.ntmps5
  go_wp2_with fail
  refine (piNew_is _).mono ?_
  rintro e w1 ⟨rfl, ho1, hp1⟩
  have HO1 := hide ho1
  have HP1 := hide hp1
  clear ho1 hp1
  go_wp2_with fail
  refine (lives_is _).mono ?_
  rintro e w2 ⟨rfl, ho2⟩
  have HR2 := hide (show PoR w w2 w.heap.size (.slice none 0 0) (.slice none 0 0) [] [] from ⟨KRow.nil .u8 5 w2 w.heap.size, KRow.nil .u8 5 w2 w.heap.size, (by simp [Value.ownBlock]), (by simp [Value.ownBlock]), (by simp [Value.ownBlock]), ⟨[], HP1.out.only ho2 (by simp), rfl⟩, Nat.le_refl _, HO1.out.trans ho2, (by intro x hx; simp at hx)⟩)
  clear ho2 HO1 HP1
  go_wp2_with fail
  go_loopw [4, 5, 6] (fun v4 v5 iv wr => PoL w w.heap.size v4 v5 iv wr m) (fun _ _ iv _ => m - (intOf iv).toNat)
  case atStart => exact ⟨0, [], [], rfl, Nat.zero_le _, Nat.zero_le _, HR2.out⟩
  case round =>
    obtain ⟨i, I, O, rfl, hi, hlen, hR⟩ := hrel
    obtain ⟨A4, d4, e4, hs4, hn4, hb4⟩ := hR.in_.sees
    obtain ⟨A5, d5, e5, hs5, hn5, hb5⟩ := hR.out.sees
    have HRR := hide hR
    have HLEN := hide hlen
    by_cases hlt : i < m
    · obtain ⟨q, o, k, wrb, n, BA, bn, bc, zs, rfl, hq, c0, c1, c2, c3, hsz, huz, hBA, hbc, hbc2, hbl⟩ := HOP.out i hlt
      have x0 := (hR.only.cell hq (by simp)).trans c0
      have x2 := (hR.only.cell hq (by simp)).trans c2
      have x3 := (hR.only.cell hq (by simp)).trans c3
      have hl64 : (i : Int) + 1 ≤ 9223372036854775807 := by omega
      subst e4 e5
      have HC := hide (And.intro c0 (And.intro c2 c3))
      have HQ := hide hq
      clear c0 c1 c2 c3 hs4 hn4 hb4 hs5 hn5 hb5 hR hlen
      by_cases k3 : k = 3
      · subst k3
        obtain ⟨B, hp, hIB⟩ := HRR.out.pipe
        have HP := hide hp
        have HIB := hide hIB
        clear hp hIB
        go_wp2_with fail
        refine (piRead_is HP.out n).mono ?_
        have hsp := readP_split B (decide ((0 : Int) < 1)) n
        generalize readP B (decide ((0 : Int) < 1)) n = rp at *
        obtain ⟨X, er, B'⟩ := rp
        rintro e w5 ⟨v5, rfl, hv5, ho5, hp5⟩
        obtain ⟨A6, c6, rfl, hs6, hA6, hb6⟩ := hv5.form
        have HS6 := hide (show Sees w5 A6 X.length X from hs6)
        have HA6 := hide (show A6 = none → X.length = 0 ∧ c6 = 0 from hA6)
        have HO5 := hide ho5
        have HP5 := hide (show Pi w5 w.heap.size B' 1 1 from hp5)
        have hXB : X ++ B' = B := hsp
        have HI := hide (show I = (O ++ X) ++ B' by rw [List.append_assoc, hXB]; exact HIB.out)
        have HROW := hide (HRR.out.rows ho5)
        have HBG := hide (show O.length + X.length ≤ 140737488355328 by have h1 := congrArg List.length HI.out; have h2 := HLEN.out; simp only [List.length_append] at h1; omega)
        have hX : (X, er, B').1 = X := rfl
        rw [hX]
        obtain ⟨O', hO'⟩ : ∃ O', O' = O ++ X := ⟨_, rfl⟩
        have HARM := hide (fun (v7 : Value) (w7 : World) (hr7 : BRow w7 w.heap.size v7 (O ++ X)) (ho7 : Only (Value.slice A5 O.length d5).ownBlock.toList w5 w7) (hk7 : ∀ q, v7.ownBlock = some q → (Value.slice A5 O.length d5).ownBlock = some q ∨ w5.heap.size ≤ q) =>
          (show ∃ A7 d7, v7 = .slice A7 O'.length d7 ∧ PoR w w7 w.heap.size (.slice A4 I.length d4) (.slice A7 O'.length d7) I O' ∧ Pi w7 w.heap.size B' 1 1 ∧ w7.cell? ⟨q, o + i * 4, none⟩ = some (.int .i64 3) from by
            have hPR := HRR.out.read HO5.out HP5.out HI.out hr7 ho7 hk7
            rw [← hO'] at hPR hr7
            obtain ⟨A7, d7, e7, -⟩ := hr7.sees
            subst e7
            exact ⟨A7, d7, rfl, hPR, HP5.out.only ho7 (fun hm => HRR.out.f5 (by simpa using hm)), (hPR.only.cell HQ.out (by simp)).trans HC.out.1⟩))
        have HFIN := hide (show ((B'.length : Int) != (I.length : Int) - (O'.length : Int)) = false by
          have h1 := congrArg List.length HI.out
          rw [← hO', List.length_append] at h1
          simp only [bne_eq_false_iff_eq]
          omega)
        have hB5 := HP5.out.few
        have hB5d : decide ((512 : Int) < B'.length) = false := decide_eq_false (by omega)
        have hB5e : decide (512 < B'.length) = false := decide_eq_false (by omega)
        have hfin := HFIN.out
        have hw1 : (O'.length : Int) ≤ I.length := by
          have h1 := congrArg List.length HI.out
          rw [← hO', List.length_append] at h1
          omega
        have hw2 : (I.length : Int) ≤ 536870912 := by have := HLEN.out; omega
        clear hv5 ho5 hp5 hs6 hA6 hb6 hsp hXB hX HIB HP
        have HOO := hide hO'
        clear hO'
        go_wp2_with (at_builtin; refine wpList_append_b (v := .slice A5 O.length d5) rfl _ _ rfl rfl HROW.out.2.1 A6 X.length c6 rfl HA6.out HS6.out HBG.out HROW.out.2.2.size ?_; intro v7 w7 hr7 ho7 hk7; obtain ⟨A7, d7, rfl, hPR, hp7, y0⟩ := HARM.out v7 w7 hr7 ho7 hk7; have HPR := hide hPR; have HP7 := hide hp7; clear hr7 ho7 hk7 hPR hp7)
        clear hB5
        go_wp2_with (go_at_call 17; refine (piLen_is HP7.out).mono ?_; rintro e w' ⟨rfl, rfl⟩)
        go_roundw
        case rel => exact ⟨i + 1, I, O', by go_num, hlt, by have := HLEN.out; omega, HPR.out⟩
        case measure => simp [intOf]; omega
      · have k3b : (k == 3) = false := by simp [k3]
        by_cases k4 : k = 4
        · subst k4
          obtain ⟨B, hp, hIB⟩ := HRR.out.pipe
          have HP := hide hp
          have HIB := hide hIB
          have HSZ := hide hsz
          have HBL := hide hbl
          have HLP := hide (show w.heap.size ≤ w.heap.size from Nat.le_refl _)
          clear hp hIB k3b k3
          go_wp2_with fail
          refine (piWrite_is HP.out (HSZ.out.only HRR.out.only (by simp)) (fun h0 ad e => by have := HBL.out h0 ad e; show ad.block ≠ w.heap.size; omega) huz hbc (by omega)).mono ?_
          obtain ⟨mm, er, hw, hmm1, hmm2⟩ := writeP_split B zs
          rw [hw]
          rintro e w5 ⟨rfl, ho5, hp5⟩
          obtain ⟨Z, hZ⟩ : ∃ Z, Z = zs.take mm := ⟨_, rfl⟩
          obtain ⟨B', hB'⟩ : ∃ B', B' = B ++ Z := ⟨_, rfl⟩
          have hzl : zs.length = bn := HSZ.out.1
          have HO5 := hide (show Only [w.heap.size] wr w5 from ho5)
          have HP5 := hide (show Pi w5 w.heap.size B' 1 1 by rw [hB', hZ]; exact hp5)
          have hZl : Z.length = mm := by rw [hZ, List.length_take]; omega
          have HSZ5 := hide (show Sees w5 BA mm Z from by
            have h1 := (HSZ.out.only HRR.out.only (by simp)).only ho5 (fun h0 b e hb hm => by have := HBL.out h0 b e; simp at hm; omega)
            exact ⟨hZl, fun h0 => by
              obtain ⟨b, o', e, hb, hc⟩ := h1.2 (by omega)
              exact ⟨b, o', e, hb, fun j hj => by rw [hZ, gb_take hj]; exact hc j (by omega)⟩⟩)
          have HBA := hide (show BA = none → mm = 0 ∧ bc = 0 from fun e => by have := hBA e; omega)
          obtain ⟨I', hI'⟩ : ∃ I', I' = I ++ Z := ⟨_, rfl⟩
          have HI := hide (show I ++ Z = O ++ B' by rw [hB', ← List.append_assoc, ← HIB.out])
          have HROW := hide (HRR.out.rows ho5)
          have HBG := hide (show I.length + mm ≤ 140737488355328 by have h2 := HLEN.out; omega)
          have y0 : w5.cell? ⟨q, o + i * 4, none⟩ = some (.int .i64 4) := (HROW.out.2.2.cell HQ.out (by simp)).trans HC.out.1
          have y3 : w5.cell? ⟨q, o + i * 4 + 3, none⟩ = some (.slice BA bn bc) := (HROW.out.2.2.cell HQ.out (by simp)).trans HC.out.2.2
          have HARM := hide (fun (v7 : Value) (w7 : World) (hr7 : BRow w7 w.heap.size v7 (I ++ Z)) (ho7 : Only (Value.slice A4 I.length d4).ownBlock.toList w5 w7) (hk7 : ∀ q, v7.ownBlock = some q → (Value.slice A4 I.length d4).ownBlock = some q ∨ w5.heap.size ≤ q) =>
            (show ∃ A7 d7, v7 = .slice A7 I'.length d7 ∧ PoR w w7 w.heap.size (.slice A7 I'.length d7) (.slice A5 O.length d5) I' O ∧ Pi w7 w.heap.size B' 1 1 from by
              have hPR := HRR.out.write HO5.out HP5.out HI.out (by rw [hZ]; exact huz.take _) hr7 ho7 hk7
              rw [← hI'] at hPR hr7
              obtain ⟨A7, d7, e7, -⟩ := hr7.sees
              subst e7
              exact ⟨A7, d7, rfl, hPR, HP5.out.only ho7 (fun hm => HRR.out.f4 (by simpa using hm))⟩))
          have HFIN := hide (show ((B'.length : Int) != (I'.length : Int) - (O.length : Int)) = false by
            have h1 := congrArg List.length HI.out
            rw [← hI', List.length_append] at h1
            simp only [bne_eq_false_iff_eq]
            omega)
          have hB5 := HP5.out.few
          have hB5d : decide ((512 : Int) < B'.length) = false := decide_eq_false (by omega)
          have hB5e : decide (512 < B'.length) = false := decide_eq_false (by omega)
          have hfin := HFIN.out
          have hw1 : (O.length : Int) ≤ I'.length := by
            have h1 := congrArg List.length HI.out
            rw [← hI', List.length_append] at h1
            omega
          have hIl : I'.length = I.length + mm := by rw [hI', List.length_append, hZl]
          have HIL := hide hIl
          have hw2 : (I'.length : Int) ≤ 536870912 := by have := HLEN.out; omega
          have q1 : decide ((mm : Int) < 0) = false := decide_eq_false (by omega)
          have q2 : decide ((bn : Int) < mm) = false := decide_eq_false (by omega)
          have q2b : decide (bn < mm) = false := decide_eq_false (by omega)
          have q3 : (mm : Int) ≤ bc := by omega
          have HMM := hide hmm2
          have HHI := hide hI'
          clear ho5 hp5 hw hZ hB' hzl hI' hIl hB5 hmm1 hmm2 hZl hsz hbl hBA
          go_wp2_with (at_builtin; refine wpList_append_b (v := .slice A4 I.length d4) rfl _ _ rfl rfl HROW.out.1 BA mm bc rfl HBA.out HSZ5.out HBG.out HROW.out.2.2.size ?_; intro v7 w7 hr7 ho7 hk7; obtain ⟨A7, d7, rfl, hPR, hp7⟩ := HARM.out v7 w7 hr7 ho7 hk7; have HPR := hide hPR; have HP7 := hide hp7; clear hr7 ho7 hk7 hPR hp7)
          go_wp2_with (go_at_call 17; refine (piLen_is HP7.out).mono ?_; rintro e w' ⟨rfl, rfl⟩)
          go_roundw
          case rel => exact ⟨i + 1, I', O, by go_num, hlt, by have := HLEN.out; have := HMM.out; have := HIL.out; omega, HPR.out⟩
          case measure => simp [intOf]; omega
        · have k4b : (k == 4) = false := by simp [k4]
          obtain ⟨B, hp, hIB⟩ := HRR.out.pipe
          have HP := hide hp
          have hfin : ((B.length : Int) != (I.length : Int) - (O.length : Int)) = false := by
            have h1 := congrArg List.length hIB
            rw [List.length_append] at h1
            simp only [bne_eq_false_iff_eq]
            omega
          have hw1 : (O.length : Int) ≤ I.length := by
            have h1 := congrArg List.length hIB
            rw [List.length_append] at h1
            omega
          have hw2 : (I.length : Int) ≤ 536870912 := by have := HLEN.out; omega
          have hB5 := hp.few
          have hB5d : decide ((512 : Int) < B.length) = false := decide_eq_false (by omega)
          have hB5e : decide (512 < B.length) = false := decide_eq_false (by omega)
          clear k3 k4 hp hIB hB5
          go_wp2_with (go_at_call 17; refine (piLen_is HP.out).mono ?_; rintro e w' ⟨rfl, rfl⟩)
          go_roundw
          case rel => exact ⟨i + 1, I, O, by go_num, hlt, by have := HLEN.out; omega, HRR.out⟩
          case measure => simp [intOf]; omega
    · obtain rfl : i = m := by omega
      have hIL : I.length ≤ 536870912 := by omega
      have HIL := hide hIL
      subst e4 e5
      clear hs4 hn4 hb4 hs5 hn5 hb5 hR hlen hIL
      go_wp2_with fail
      go_loopw [5] (fun v5 wr2 => ∃ O2, PoR w wr2 w.heap.size (.slice A4 I.length d4) v5 I O2) (fun v5 _ => I.length - lenOf v5)
      case atStart => exact ⟨O, HRR.out⟩
      case round =>
        obtain ⟨O2, hR2⟩ := hrel
        obtain ⟨A5, d5, e5, hs5, hn5, hb5⟩ := hR2.out.sees
        obtain ⟨B, hp, hIB⟩ := hR2.pipe
        subst e5
        have HP := hide hp
        have HIB := hide hIB
        have HR2b := hide hR2
        by_cases hB : B = []
        · subst hB
          obtain rfl : I = O2 := by rw [hIB, List.append_nil]
          obtain ⟨A4', d4', e4', hs4', hn4', hb4'⟩ := hR2.in_.sees
          injection e4' with e1 e2 e3
          subst e1 e3
          have HSA := hide (same21_is (c := d4) (c' := d5) hs4' (fun e => (hn4' e).1) hs5 (fun e => (hn5 e).1) hR2.u8)
          clear hs5 hn5 hb5 hp hIB hs4' hn4' hb4' e2 hR2
          go_wp2_with (first | (go_at_call 17; refine (piLen_is HP.out).mono ?_; rintro e w' ⟨rfl, rfl⟩) | (go_at_call 18; refine HSA.out.mono ?_; rintro e w' ⟨rfl, rfl⟩))
          go_ret
          exact ⟨rfl, HR2b.out.only.below (Nat.le_refl _) (by simp)⟩
        · have hpos : 0 < B.length := List.length_pos_iff.2 hB
          have hd : decide (0 < B.length) = true := decide_eq_true hpos
          have hr : readP B (decide ((0 : Int) < 1)) 100 = (B.take 100, 0, B.drop 100) := by
            unfold readP
            rw [if_neg (by omega), if_neg (by omega), if_neg hB]
            rfl
          have HRD := hide hr
          obtain ⟨X, hX⟩ : ∃ X, X = B.take 100 := ⟨_, rfl⟩
          obtain ⟨B', hB'⟩ : ∃ B', B' = B.drop 100 := ⟨_, rfl⟩
          have hXl : 0 < X.length := by rw [hX, List.length_take]; omega
          have HXL := hide hXl
          have HI := hide (show I = (O2 ++ X) ++ B' by rw [List.append_assoc, hX, hB', List.take_append_drop]; exact hIB)
          have HX := hide hX
          have HB' := hide hB'
          have hdx : ((X.length : Int) == 0) = false := beq_eq_false_iff_ne.2 (by omega)
          clear hs5 hn5 hb5 hp hIB hr hR2 hX hB' hpos hXl
          go_wp2_with (go_at_call 17; refine (piLen_is HP.out).mono ?_; rintro e w' ⟨rfl, rfl⟩)
          refine (piRead_is HP.out 100).mono ?_
          rw [HRD.out, ← HX.out, ← HB'.out]
          rintro e w5 ⟨v5, rfl, hv5, ho5, hp5⟩
          obtain ⟨A6, c6, rfl, hs6, hA6, hb6⟩ := hv5.form
          have HS6 := hide (show Sees w5 A6 X.length X from hs6)
          have HA6 := hide (show A6 = none → X.length = 0 ∧ c6 = 0 from hA6)
          have HROW := hide (HR2b.out.rows ho5)
          have HBG := hide (show O2.length + X.length ≤ 140737488355328 by have h1 := congrArg List.length HI.out; have h2 := HIL.out; simp only [List.length_append] at h1; omega)
          have HARM := hide (fun (v7 : Value) (w7 : World) (hr7 : BRow w7 w.heap.size v7 (O2 ++ X)) (ho7 : Only (Value.slice A5 O2.length d5).ownBlock.toList w5 w7) (hk7 : ∀ q, v7.ownBlock = some q → (Value.slice A5 O2.length d5).ownBlock = some q ∨ w5.heap.size ≤ q) =>
            (show ∃ A7 d7, v7 = .slice A7 (O2 ++ X).length d7 ∧ PoR w w7 w.heap.size (.slice A4 I.length d4) (.slice A7 (O2 ++ X).length d7) I (O2 ++ X) from by
              have hPR := HR2b.out.read ho5 hp5 HI.out hr7 ho7 hk7
              obtain ⟨A7, d7, e7, -⟩ := hr7.sees
              subst e7
              exact ⟨A7, d7, rfl, hPR⟩))
          have hX2 : (X, (0 : Int), B').1 = X := rfl
          rw [hX2]
          clear hv5 ho5 hp5 hs6 hA6 hb6 hX2
          go_wp2_with (at_builtin; refine wpList_append_b (v := .slice A5 O2.length d5) rfl _ _ rfl rfl HROW.out.2.1 A6 X.length c6 rfl HA6.out HS6.out HBG.out HROW.out.2.2.size ?_; intro v7 w7 hr7 ho7 hk7; obtain ⟨A7, d7, rfl, hPR⟩ := HARM.out v7 w7 hr7 ho7 hk7; have HPR := hide hPR; clear hr7 ho7 hk7 hPR)
          go_roundw
          case rel => exact ⟨O2 ++ X, by rw [← List.length_append]; exact HPR.out⟩
          case measure =>
            have h1 := congrArg List.length HI.out
            have h2 := HXL.out
            simp only [List.length_append] at h1
            simp only [lenOf, List.length_append]
            omega
theorem pipeOrder_walk {H : Type} {enc : TypeId × Value → H} (A : Option Addr) (m c : Nat) {w : World} {d : DataW H} (r : Rd enc Try.prog w 22 [.slice A m c] d) (hk : Rows.uptoSmall H [d] = true) :
    Calls Try.prog 5 #[.slice A m c] w fun e w' => e = .returned (.bool true) ∧ Below w.heap.size w w' :=
  pipeOrder_walk' A m c w (r.few21 hk) r.ops21.2
end Go.Proofs.Yteljjngmhldfbaa
