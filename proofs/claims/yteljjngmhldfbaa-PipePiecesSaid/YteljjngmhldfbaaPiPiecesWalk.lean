/-
  The walk of 'PipePieces': however a text is cut, the same bytes come.
-/
import Derived.Test.YteljjngmhldfbaaPiRow
import Derived.Test.YteljjngmhldfbaaPiEndsWalk
import Derived.Deep.Cut
import Derived.Deep.CutRange
import Derived.Deep.CutBlock
namespace Go.Proofs.Yteljjngmhldfbaa
open Go.ChangeShapes Go.WideShapes Go.ChangeAt Go.RowKit
set_option linter.unusedVariables false
set_option linter.unusedSimpArgs false
/-- The loop's state: G bytes have come, T were written. -/
structure PcR (w wr : World) (p : Nat) (xs : List Int) (v : Value) (G T : Nat) : Prop where
  row : BRow wr w.heap.size v (xs.take G)
  pipe : Pi wr p ((xs.drop G).take (T - G)) 1 1
  lp : w.heap.size ≤ p
  far : v.ownBlock ≠ some p
  only : Only [] w wr
  le : G ≤ T ∧ T ≤ xs.length ∧ T - G ≤ 512
def PcL (w : World) (p : Nat) (xs : List Int) (v : Value) (tv iv kv : Value) (wr : World) : Prop :=
  ∃ G T i k : Nat, tv = .int .i64 T ∧ iv = .int .i64 i ∧ kv = .int .i64 k ∧ i ≤ G ∧ k ≤ G ∧ PcR w wr p xs v G T
theorem tmod_nat (i n : Nat) (h : 0 < n) : ((i : Int).tmod n) = ((i % n : Nat) : Int) := by
  rw [Int.tmod_eq_emod_of_nonneg (by omega)]; rfl
def TestIn (wr : World) (m1 : Nat) (z : List Int) (i : Nat) (t : Value) (wx : World) : Prop := ∃ b : Bool, t = .bool b ∧ wx = wr ∧ (b = true → 0 < m1 ∧ 0 < gb z (i % m1))
theorem row_at {w wr : World} {A : Option Addr} {m c : Nat} {z : List Int} (h : IsRow .i64 w A m c z) (ho : Only [] w wr) (h0 : 0 < m) :
    ∃ b o, A = some ⟨b, o, none⟩ ∧ m ≤ c ∧ c ≤ 9223372036854775807 ∧ ∀ j, j < m → wr.cell? ⟨b, o + j, none⟩ = some (.int .i64 (gb z j)) := by
  obtain ⟨b, o, e, hb, hl, hm, hz, hc, -⟩ := h.at_ h0
  exact ⟨b, o, e, hl, by unfold maxLen at hm; omega, fun j hj => by rw [ho.cell hb (by simp)]; exact hc j (by omega)⟩
set_option maxRecDepth 100000 in
set_option maxHeartbeats 1500000 in
theorem pipePieces_walk' (A : Option Addr) (m c : Nat) (xs : List Int) (A1 : Option Addr) (m1 c1 : Nat) (z1 : List Int) (A2 : Option Addr) (m2 c2 : Nat) (z2 : List Int) (w : World)
    (hs : Sees w A m xs) (hu : U8 xs) (hA : A = none → m = 0 ∧ c = 0) (hmc : m ≤ c) (hc : c ≤ maxLen) (hbig : m ≤ 140737488355328) (h1 : IsRow .i64 w A1 m1 c1 z1) (h2 : IsRow .i64 w A2 m2 c2 z2) :
    Calls Try.prog 8 #[.slice A m c, .slice A1 m1 c1, .slice A2 m2 c2] w fun e w' => e = .returned (.bool true) ∧ Below w.heap.size w w' := by
  have HS := hide hs
  have HU := hide hu
  have HMC := hide hmc
  have HA := hide hA
  have HB := hide hbig
  have HC := hide hc
  have HXL := hide (show xs.length = m from hs.1)
  have H1 := hide h1
  have H2 := hide h2
  clear hs hu hmc hc hA hbig h1 h2
  go_enter Try.func8, Try.ntmps8
  go_wp2_with fail
  refine (piNew_is _).mono ?_
  rintro e w1 ⟨rfl, ho1, hp1⟩
  have HO1 := hide ho1
  have HP1 := hide hp1
  clear ho1 hp1
  go_wp2_with fail
  refine (lives_is _).mono ?_
  rintro e w2 ⟨rfl, ho2⟩
  have HR2 := hide (show PcR w w2 w.heap.size xs (.slice none 0 0) 0 0 from ⟨by simpa using KRow.nil .u8 5 w2 w.heap.size, by simpa using HP1.out.only ho2 (by simp), Nat.le_refl _, by simp [Value.ownBlock], HO1.out.trans ho2, by omega⟩)
  have HPI := hide (show w.heap.size ≤ w.heap.size from Nat.le_refl _)
  clear ho2 HO1 HP1
  go_wp2_with fail
  go_loopw [8, 9, 10, 11] (fun gv tv iv kv wr => PcL w w.heap.size xs gv tv iv kv wr) (fun _ _ iv _ _ => m - (intOf iv).toNat)
  case atStart => exact ⟨0, 0, 0, 0, rfl, rfl, rfl, Nat.le_refl _, Nat.le_refl _, HR2.out⟩
  case round =>
    obtain ⟨G, T, i, k, rfl, rfl, rfl, hiG, hkG, hR⟩ := hrel
    obtain ⟨gA, gc, rfl, hgs, hgn, hgb⟩ := hR.row.sees
    have hGm : (xs.take G).length = G := by rw [List.length_take]; have := hR.le; omega
    rw [hGm] at hR hgs hgn ⊢
    have hle := hR.le
    have hxl := HXL.out
    rw [hxl] at hle
    have hb := HB.out
    by_cases hlt : G < m
    · have hltI : (G : Int) < m := by omega
      have HRR := hide hR
      clear hR hgs hgn hgb hxl
      go_upto_region 8 with fail
      go_cut [40] from 28 to 40 (fun t wx => TestIn wr m1 z1 i t wx)
      case first =>
        by_cases h0 : 0 < m1
        · obtain ⟨b1, o1, e1, l1, l2, hc1⟩ := row_at H1.out HRR.out.only h0
          have kc := hc1 (i % m1) (Nat.mod_lt _ h0)
          have kt := tmod_nat i m1 h0
          have kt2 : (i : Int) % (m1 : Int) = ((i % m1 : Nat) : Int) := by omega
          have kd : decide (0 < m1) = true := decide_eq_true h0
          have kl : i % m1 < m1 := Nat.mod_lt _ h0
          have klI : ((i % m1 : Nat) : Int) < m1 := by omega
          obtain ⟨x, hx⟩ : ∃ x, x = gb z1 (i % m1) := ⟨_, rfl⟩
          rw [← hx] at kc
          have HX := hide hx
          have H0 := hide h0
          subst e1
          generalize i % m1 = j at kc kt kt2 kl klI
          clear hx
          clear hc1
          go_wp2
          go_meet
          case rel => exact ⟨_, rfl, rfl, fun h => ⟨H0.out, by rw [← HX.out]; simpa using h⟩⟩
        · obtain rfl : m1 = 0 := by omega
          go_wp2
          go_meet
          case rel => exact ⟨_, rfl, rfl, fun h => by simp at h⟩
      case rest =>
        obtain ⟨b, rfl, rfl, hb1⟩ := hcut
        have HB1 := hide hb1
        clear hb1
        go_upto_if 40 with fail
        go_cut [12] from 41 to 47 (fun nv wx => wx = wc ∧ ∃ n : Int, nv = .int .i64 n ∧ 1 ≤ n)
        case first =>
          cases b with
          | true =>
            obtain ⟨h0, hx0⟩ := HB1.out rfl
            obtain ⟨b1, o1, e1, l1, l2, hc1⟩ := row_at H1.out HRR.out.only h0
            have kc := hc1 (i % m1) (Nat.mod_lt _ h0)
            have kt := tmod_nat i m1 h0
            have kt2 : (i : Int) % (m1 : Int) = ((i % m1 : Nat) : Int) := by omega
            have kl : i % m1 < m1 := Nat.mod_lt _ h0
            have klI : ((i % m1 : Nat) : Int) < m1 := by omega
            obtain ⟨x, hx⟩ : ∃ x, x = gb z1 (i % m1) := ⟨_, rfl⟩
            rw [← hx] at kc
            have HX := hide (show 1 ≤ x by rw [hx]; omega)
            subst e1
            generalize i % m1 = j at kc kt kt2 kl klI
            clear hx hx0 hc1
            refine wp_cond_true rfl ?_
            go_wp2
            go_meet
            case rel => exact ⟨rfl, _, rfl, HX.out⟩
          | false =>
            refine wp_cond_false rfl ?_
            go_wp2
            go_meet
            case rel => exact ⟨rfl, 1, rfl, Int.le_refl _⟩
        case rest =>
          obtain ⟨rfl, n, rfl, hn1⟩ := hcut
          have HN1 := hide hn1
          have hiL : (i : Int) + 1 ≤ 9223372036854775807 := by omega
          have hTm : (T : Int) ≤ m := by omega
          have hmI : (m : Int) ≤ 140737488355328 := by omega
          clear hn1
          go_upto_if 55 with fail
          go_cut [12] from 48 to 59 (fun nv wx => wx = wc ∧ ∃ n' : Nat, nv = .int .i64 n' ∧ T + n' ≤ m ∧ (T < m → 1 ≤ n'))
          case first =>
            by_cases hcl : (m : Int) - T < n
            · have hd : decide ((m : Int) - T < n) = true := decide_eq_true hcl
              have HQ := hide (show ((m - T : Nat) : Int) = (m : Int) - T by omega)
              clear hcl
              refine wp_cond_true (congrArg Value.bool hd) ?_
              go_wp2
              go_meet
              case rel => exact ⟨rfl, m - T, by rw [HQ.out], by omega, fun h => by omega⟩
            · have hd : decide ((m : Int) - T < n) = false := decide_eq_false hcl
              have HQ := hide (show ((n.toNat : Nat) : Int) = n by have := HN1.out; omega)
              have HCL := hide hcl
              clear hcl
              refine wp_cond_false (congrArg Value.bool hd) ?_
              go_wp2
              go_meet
              case rel => exact ⟨rfl, n.toNat, by rw [HQ.out], by have := HCL.out; have := HQ.out; omega, fun h => by have := HN1.out; have := HQ.out; omega⟩
          case rest =>
            obtain ⟨rfl, n', rfl, hn2, hn3⟩ := hcut
            obtain ⟨bt, ot, eA, hbt, hct⟩ := HS.out.2 (by omega)
            have HA2 := hide eA
            subst eA
            have hTc : (T : Int) + n' ≤ c := by have := HMC.out; omega
            have hTw : (T : Int) + n' ≤ 140737488355328 := by omega
            have hn2I : (T : Int) + n' ≤ m := by omega
            have hcw : (c : Int) ≤ 9223372036854775807 := by have := HC.out; unfold maxLen at this; omega
            have hTn : (T : Int) ≤ (T : Int) + n' := by omega
            have hsub : ((T : Int) + n').toNat - T = n' := by omega
            obtain ⟨At, hAt⟩ : ∃ At : Option Addr, (if c = T then some (⟨bt, ot, none⟩ : Addr) else some ⟨bt, ot + T, none⟩) = At := ⟨_, rfl⟩
            have HAT := hide (show 0 < n' → At = some ⟨bt, ot + T, none⟩ by intro h; rw [← hAt, if_neg (by omega)])
            have HPW := hide (piece_write xs G T n' (by omega) (by rw [HXL.out]; exact hn2) (by omega))
            have HSP := hide (show ∀ W, Only [] w W → Sees W At n' ((xs.drop T).take n') from fun W hW => ⟨by rw [List.length_take, List.length_drop, HXL.out]; omega, fun h => ⟨bt, ot + T, HAT.out h, Nat.lt_of_lt_of_le hbt hW.size, fun j hj => by
              rw [hW.cell hbt (by simp), Nat.add_assoc, hct _ (by omega), gb_take hj, gb_drop]⟩⟩)
            have HN2 := hide (And.intro hn2 hn3)
            have HBT := hide hbt
            clear hct hbt hn2 hn3
            go_wp2_with fail
            refine (piWrite_is HRR.out.pipe (HSP.out _ HRR.out.only) (fun h0 ad e => by
              rw [HAT.out h0] at e
              injection e with e
              subst e
              have := HBT.out
              show bt ≠ w.heap.size
              omega) ((HU.out.drop _).take _) (by omega) (by omega)).mono ?_
            obtain ⟨mm, er, hmm1, hmm2, hw, her, hmm3⟩ := HPW.out
            rw [hw]
            rintro e w5 ⟨rfl, ho5, hp5⟩
            have HP5 := hide (show Pi w5 w.heap.size ((xs.drop G).take (T + mm - G)) 1 1 from hp5)
            have HO5 := hide (show Only [w.heap.size] wc w5 from ho5)
            have HMM := hide (And.intro hmm1 (And.intro hmm2 hmm3))
            have k1 : decide ((mm : Int) < 0) = false := decide_eq_false (by omega)
            have k2 : decide ((n' : Int) < mm) = false := decide_eq_false (by omega)
            have k2b : decide (n' < mm) = false := decide_eq_false (by omega)
            have hTmm : (T : Int) + mm ≤ 140737488355328 := by omega
            have HER := hide her
            clear ho5 hp5 hw hmm1 hmm2 hmm3 her
            go_upto_region 14 with fail
            go_cut [85] from 71 to 85 (fun t wx => wx = w5 ∧ t = .bool false)
            case first =>
              rcases HER.out with rfl | rfl
              · go_wp2
                go_meet
                case rel => exact ⟨rfl, rfl⟩
              · go_wp2
                go_meet
                case rel => exact ⟨rfl, rfl⟩
            case rest =>
              obtain ⟨rfl, rfl⟩ := hcut
              have hkL : (k : Int) + 1 ≤ 9223372036854775807 := by omega
              go_upto_region 18 with fail
              go_cut [101] from 89 to 101 (fun t wx => TestIn wc m2 z2 k t wx)
              case first =>
                by_cases h0 : 0 < m2
                · obtain ⟨b1, o1, e1, l1, l2, hc1⟩ := row_at H2.out (HRR.out.only.trans' HO5.out (fun q hq hm => by simp at hm; omega)) h0
                  have kc := hc1 (k % m2) (Nat.mod_lt _ h0)
                  have kt := tmod_nat k m2 h0
                  have kt2 : (k : Int) % (m2 : Int) = ((k % m2 : Nat) : Int) := by omega
                  have kd : decide (0 < m2) = true := decide_eq_true h0
                  have kl : k % m2 < m2 := Nat.mod_lt _ h0
                  have klI : ((k % m2 : Nat) : Int) < m2 := by omega
                  obtain ⟨x, hx⟩ : ∃ x, x = gb z2 (k % m2) := ⟨_, rfl⟩
                  rw [← hx] at kc
                  have HX := hide hx
                  have H0 := hide h0
                  subst e1
                  generalize k % m2 = j at kc kt kt2 kl klI
                  clear hx hc1
                  go_wp2
                  go_meet
                  case rel => exact ⟨_, rfl, rfl, fun h => ⟨H0.out, by rw [← HX.out]; simpa using h⟩⟩
                · obtain rfl : m2 = 0 := by omega
                  go_wp2
                  go_meet
                  case rel => exact ⟨_, rfl, rfl, fun h => by simp at h⟩
              case rest =>
                obtain ⟨b2, rfl, rfl, hb2⟩ := hcut
                have HB2 := hide hb2
                clear hb2
                go_upto_if 101 with fail
                go_cut [12] from 102 to 108 (fun nv wx => wx = wc ∧ ∃ n : Int, nv = .int .i64 n ∧ 1 ≤ n)
                case first =>
                  cases b2 with
                  | true =>
                    obtain ⟨h0, hx0⟩ := HB2.out rfl
                    obtain ⟨b1, o1, e1, l1, l2, hc1⟩ := row_at H2.out (HRR.out.only.trans' HO5.out (fun q hq hm => by simp at hm; omega)) h0
                    have kc := hc1 (k % m2) (Nat.mod_lt _ h0)
                    have kt := tmod_nat k m2 h0
                    have kt2 : (k : Int) % (m2 : Int) = ((k % m2 : Nat) : Int) := by omega
                    have kl : k % m2 < m2 := Nat.mod_lt _ h0
                    have klI : ((k % m2 : Nat) : Int) < m2 := by omega
                    obtain ⟨x, hx⟩ : ∃ x, x = gb z2 (k % m2) := ⟨_, rfl⟩
                    rw [← hx] at kc
                    have HX := hide (show 1 ≤ x by rw [hx]; omega)
                    subst e1
                    generalize k % m2 = j at kc kt kt2 kl klI
                    clear hx hx0 hc1
                    refine wp_cond_true rfl ?_
                    go_wp2
                    go_meet
                    case rel => exact ⟨rfl, _, rfl, HX.out⟩
                  | false =>
                    refine wp_cond_false rfl ?_
                    go_wp2
                    go_meet
                    case rel => exact ⟨rfl, 1, rfl, Int.le_refl _⟩
                case rest =>
                  obtain ⟨rfl, n2, rfl, hn1⟩ := hcut
                  have hGT' : G < T + mm := by
                    have h1 := HMM.out
                    have h2 := HN2.out
                    omega
                  have HRD := hide (piece_read xs G (T + mm) n2 hGT' (by rw [HXL.out]; have h1 := HMM.out; have h2 := HN2.out; omega) (by omega))
                  clear hn1
                  go_wp2_with fail
                  refine (piRead_is HP5.out n2).mono ?_
                  obtain ⟨r, hr1, hr2, hr3, hr⟩ := HRD.out
                  rw [hr]
                  rintro e w6 ⟨v6, rfl, hv6, ho6, hp6⟩
                  have hrl : ((xs.drop G).take r).length = r := by rw [List.length_take, List.length_drop, HXL.out]; have h1 := HMM.out; have h2 := HN2.out; omega
                  obtain ⟨A6, c6, rfl, hs6, hA6, hb6⟩ := hv6.form
                  have hs6 : Sees w6 A6 ((xs.drop G).take r).length ((xs.drop G).take r) := hs6
                  rw [hrl] at hs6 hA6 ⊢
                  have HS6 := hide hs6
                  have HA6 := hide hA6
                  have HO6 := hide ho6
                  have HP6 := hide (show Pi w6 w.heap.size ((xs.drop (G + r)).take (T + mm - (G + r))) 1 1 from hp6)
                  have HRR2 := hide (And.intro hr1 (And.intro hr2 hr3))
                  have k3 : decide (n2 < (r : Int)) = false := decide_eq_false (by omega)
                  have k4 : ((r : Int) == 0) = false := beq_eq_false_iff_ne.2 (by omega)
                  clear hr hv6 ho6 hp6 hs6 hA6 hb6 hr1 hr2 hr3
                  have HROW := hide ((HRR.out.row.only HO5.out (fun q hq hm => by simp at hm; subst hm; exact HRR.out.far hq)).only HO6.out (fun q hq hm => by simp at hm; subst hm; exact HRR.out.far hq))
                  have HON := hide ((HRR.out.only.trans' HO5.out (fun q hq hm => by simp at hm; omega)).trans' HO6.out (fun q hq hm => by simp at hm; omega))
                  have HFAR := hide HRR.out.far
                  have HGL := hide hGm
                  have HTK := hide (show xs.take G ++ (xs.drop G).take r = xs.take (G + r) from (List.take_add).symm)
                  have HBG := hide (show (xs.take G).length + r ≤ 140737488355328 by rw [hGm]; have h1 := HMM.out; have h2 := HN2.out; have h3 := HRR2.out; omega)
                  clear hGm hrl
                  go_wp2_with (at_builtin; go_loud (refine wpList_append_b rfl _ _ rfl rfl HROW.out A6 r c6 rfl HA6.out HS6.out HBG.out HON.out.size ?_); intro v7 w7 hr7 ho7 hk7; have HR7 := hide hr7; have HO7 := hide (show Only (Value.slice gA G gc).ownBlock.toList w6 w7 from ho7); have HK7 := hide (show ∀ q, v7.ownBlock = some q → (Value.slice gA G gc).ownBlock = some q ∨ w6.heap.size ≤ q from hk7); clear hr7 ho7 hk7)
                  go_roundw
                  case rel =>
                    refine ⟨G + r, T + mm, i + 1, k + 1, by go_num, by go_num, by go_num, by have := HRR2.out; omega, by have := HRR2.out; omega, ?_⟩
                    refine ⟨by rw [← HTK.out]; exact HR7.out, HP6.out.only HO7.out (fun hm => HFAR.out (by simpa using hm)), Nat.le_refl _, fun e => ?_, HON.out.trans' HO7.out (fun q hq hm => ?_), ?_⟩
                    · rcases HK7.out _ e with e2 | e2
                      · exact HFAR.out e2
                      · have := HP6.out.lt; omega
                    · have := (HROW.out.at_ (by simpa using hm)).1
                      omega
                    · have h1 := HMM.out; have h2 := HN2.out; have h3 := HRR2.out; have h4 := HXL.out; omega
                  case measure =>
                    have h1 := HMM.out; have h2 := HN2.out; have h3 := HRR2.out
                    simp [intOf]
                    omega
    · obtain rfl : G = m := by omega
      have HGL := hide hGm
      have hsx : xs.take G = xs := List.take_of_length_le (by have := HXL.out; omega)
      rw [hsx] at hgs
      have HSA := hide (same21_is (c := gc) (c' := c) hgs (fun e => by have := hgn e; omega) (HS.out.only hR.only (by simp)) (fun e => (HA.out e).1) HU.out)
      have HON := hide hR.only
      clear hR hgs hgn hgb hxl hsx hGm
      go_wp2_with (go_at_call 18; refine HSA.out.mono ?_; rintro e w' ⟨rfl, rfl⟩)
      go_ret
      exact ⟨rfl, HON.out.below (Nat.le_refl _) (by simp)⟩
theorem IsRow.nil_cap {k : IntKind} {w : World} {A : Option Addr} {m c : Nat} {z : List Int} (h : IsRow k w A m c z) : A = none → m = 0 ∧ c = 0 := by
  rcases h with ⟨_, h0, h1, _⟩ | ⟨x, h0, _⟩
  · exact fun _ => ⟨h0, h1⟩
  · intro e; rw [h0] at e; cases e
theorem pipePieces_walk {H : Type} {enc : TypeId × Value → H} (A : Option Addr) (m c : Nat) (A1 : Option Addr) (m1 c1 : Nat) (z1 : List Int) (A2 : Option Addr) (m2 c2 : Nat) (z2 : List Int) {w : World} {d : DataW H} (r : Rd enc Try.prog w 29 [.slice A m c] d)
    (h1 : IsRow .i64 w A1 m1 c1 z1) (h2 : IsRow .i64 w A2 m2 c2 z2) :
    Calls Try.prog 8 #[.slice A m c, .slice A1 m1 c1, .slice A2 m2 c2] w fun e w' => e = .returned (.bool true) ∧ Below w.heap.size w w' := by
  obtain ⟨A', n', c', zs, e, hr, hb⟩ := r.ints Try.underlying29 Try.underlying5 (by kernel_rfl)
  simp only [List.cons.injEq, Value.slice.injEq, and_true] at e
  obtain ⟨rfl, rfl, rfl⟩ := e
  obtain ⟨q1, q2, q3, q4⟩ := IsRow.sees hr
  have hb1 : Try.prog.bytesOf 5 = 1 := by kernel_rfl
  rw [hb1] at hb
  exact pipePieces_walk' A m c _ A1 m1 c1 z1 A2 m2 c2 z2 w q1 q2 hr.nil_cap q3 q4 (by unfold reachBytes at hb; omega) h1 h2
end Go.Proofs.Yteljjngmhldfbaa
