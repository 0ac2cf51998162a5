/-
  The document's own disk: Crash.
-/
import Derived.Test.YtpkoihbebhmicaaRFlush
import Derived.Test.YtpkoihbebhmicaaDiskCrash
import Derived.BigQuiet
import Derived.StillTailTactics
namespace Go.Proofs.Ytpkoihbebhmicaa
open Go.ChangeShapes Go.WideShapes Go.ChangeAt Go.RowKit
set_option linter.unusedVariables false

def RKeep (w0 : World) (m n : Nat) (l : List (Int × Int)) (i : Value) (wr : World) : Prop :=
  ∃ (k : Nat) (z : Int), k ≤ m ∧ i = .int .i64 k ∧ 0 ≤ z ∧ keepB n z (l.drop k) = keepB n 0 l ∧ (k = 0 → z = 0) ∧ (∀ p, 0 < k → l[k - 1]? = some p → z = p.1 + 1) ∧ Only [] w0 wr
def RCrR (w0 : World) (g pb pc : Nat) (pr : List Value) (pv : Value) (N : Nat) (plat : List Int) (ws : List WR) (left : Int) (stops : Bool) (rd wt fl : Int) (m : Nat) (t : List (Int × Int)) (i : Value) (wr : World) : Prop :=
  ∃ k : Nat, k ≤ m ∧ i = .int .i64 k ∧ Only [pb] w0 wr ∧ IsR2 wr g pb pc pr pv N (crashAll plat (ofW ws) (t.take k)) ws left stops rd wt fl

/-- What a crash leaves. -/
def RCrashed (w w' : World) (e : Ending) (g pb pc : Nat) (pr : List Value) (pv : Value) (N : Nat) (plat : List Int) (ws : List WR) (left : Int) (stops : Bool) (rd wt fl : Int) (l : List (Int × Int)) : Prop :=
  (keepB ws.length 0 l = false ∧ e = .returned (.int .i64 1) ∧ Only [] w w') ∨
  (keepB ws.length 0 l = true ∧ e = .returned (.int .i64 0) ∧ Only [g, pb] w w' ∧ IsR2 w' g pb pc pr (.slice none 0 0) N (crashAll plat (ofW ws) l) [] 0 false rd wt fl)

section
variable {w : World} {g pb pc : Nat} {pr : List Value} {pv : Value} {N : Nat} {plat : List Int} {ws : List WR} {left : Int} {stops : Bool} {rd wt fl : Int} (h : IsR2 w g pb pc pr pv N plat ws left stops rd wt fl)
include h

set_option maxRecDepth 100000 in
set_option maxHeartbeats 1000000 in
theorem rcrash_is (A : Option Addr) (m c : Nat) (l : List (Int × Int)) (ht : Torns w A m l) (hm : m ≤ 9223372036854775807) (hA : 0 < m → ∀ b, A = some b → b.block ≠ pb ∧ b.block ≠ g) :
    Calls Try.prog 31 #[.pointer (some ⟨g, 0, none⟩), .slice A m c] w fun e w' => RCrashed w w' e g pb pc pr pv N plat ws left stops rd wt fl l := by
  have HT := hide ht
  have HA := hide hA
  have hfew : ws.length ≤ 4398046511000 := h.few
  obtain ⟨A', cap, rfl, hA1, hA2⟩ := sec_form h.own
  have HD := hide h
  clear h ht hA hA1 hA2
  go_enter Try.func31, Try.ntmps31
  go_wp2
  go_loopw [11] (fun i wr => RKeep w m ws.length l i wr) (fun i _ => m - (intOf i).toNat)
  case atStart => exact ⟨0, 0, Nat.zero_le _, rfl, Int.le_refl _, rfl, fun _ => rfl, fun p h0 => absurd h0 (by omega), Only.refl _ _⟩
  case round =>
    obtain ⟨k, z, hk, rfl, hz, hkp, hz0, hzk, ho⟩ := hrel
    have HO := hide ho
    have HKP := hide hkp
    by_cases hlt : k < m
    · obtain ⟨b, o, rfl, hbl, hcs⟩ := HT.out.2 (by omega)
      obtain ⟨p, hp⟩ : ∃ p, l[k]? = some p := ⟨_, List.getElem?_eq_getElem (by rw [HT.out.1]; exact hlt)⟩
      obtain ⟨s0, s1⟩ := hcs k p hp
      have e0 := (ho.cell hbl (by simp)).trans s0
      have e1 := (ho.cell hbl (by simp)).trans s1
      have hc2 : ∀ o, (wr.alloc o).cell? ⟨g, 2, none⟩ = some (.slice A' ws.length cap) := fun o => (((HD.out.quiet ho).str.alloc o).cell 2).trans rfl
      have HKD := hide (show keepB ws.length z (l.drop k) = (decide (z ≤ p.1 ∧ p.1 < ws.length ∧ 1 ≤ p.2 ∧ p.2 ≤ 512) && keepB ws.length (p.1 + 1) (l.drop (k + 1))) from by rw [keep_drop hp]; rfl)
      have HLP := hide (show ∀ p', 0 < k + 1 → l[k + 1 - 1]? = some p' → p.1 + 1 = p'.1 + 1 from fun p' _ h' => by
        rw [show k + 1 - 1 = k by omega, hp] at h'
        cases h'
        rfl)
      have HQ := hide (show 0 < k → ∃ q : Int × Int, z = q.1 + 1 ∧ ∀ o1, (wr.alloc o1).cell? ⟨b, o + (k - 1) * 2, none⟩ = some (.int .i64 q.1) from fun h0 => by
        obtain ⟨q, hq⟩ : ∃ q, l[k - 1]? = some q := ⟨_, List.getElem?_eq_getElem (by rw [HT.out.1]; omega)⟩
        exact ⟨q, hzk q h0 hq, fun o1 => Lib.cell?_alloc_some _ ((ho.cell hbl (by simp)).trans (hcs (k - 1) q hq).1)⟩)
      clear ho hkp hcs s0 s1 hp hzk
      obtain ⟨pa, pn⟩ := p
      simp only at e0 e1 HKD HLP
      by_cases hok : z ≤ pa ∧ pa < ws.length ∧ 1 ≤ pn ∧ pn ≤ 512
      · have HK2 := hide (show keepB ws.length (pa + 1) (l.drop (k + 1)) = keepB ws.length 0 l from by rw [← HKP.out, HKD.out, decide_eq_true hok, Bool.true_and])
        obtain ⟨q1, q2, q3, q4⟩ := hok
        have d1 : decide (pa < 0) = false := by simp; omega
        have d2 : decide ((ws.length : Int) ≤ pa) = false := by simp; omega
        have d3 : decide (pn < 1) = false := by simp; omega
        have d4 : decide (512 < pn) = false := by simp; omega
        by_cases hk0 : k = 0
        · have d5 : decide (0 < k) = false := by simp; omega
          clear hz0 hk0
          go_wp2
          go_quiet (fail)
          go_wp2
          go_roundw
          case rel => exact ⟨k + 1, pa + 1, hlt, by go_num, by omega, HK2.out, fun h => absurd h (by omega), HLP.out, (HO.out.alloc _).drewN _⟩
          case measure => simp [intOf]; omega
        · obtain ⟨q, hzq, hcq⟩ := HQ.out (by omega)
          have d5 : decide (0 < k) = true := by simp; omega
          have d6 : decide (pa ≤ q.1) = false := by simp; omega
          have k1 : IntKind.i64.wrap ((k : Int) - 1) = (k : Int) - 1 := by rw [IntKind.wrap_i64]; omega
          have k2 : ((k : Int) - 1).toNat = k - 1 := by omega
          have k3 : (k : Int) - 1 < m := by omega
          have k4 : 0 ≤ (k : Int) - 1 := by omega
          clear hz0
          go_wp2
          go_quiet (fail)
          go_wp2
          go_roundw
          case rel => exact ⟨k + 1, pa + 1, hlt, by go_num, by omega, HK2.out, fun h => absurd h (by omega), HLP.out, (HO.out.alloc _).drewN _⟩
          case measure => simp [intOf]; omega
      · have HK2 := hide (show keepB ws.length 0 l = false from by rw [← HKP.out, HKD.out, decide_eq_false hok, Bool.false_and])
        by_cases t1 : pa < 0
        · have d1 : decide (pa < 0) = true := by simp; omega
          clear hok hz0
          go_wp2
          go_quiet (fail)
          go_wp2
          go_ret
          exact .inl ⟨HK2.out, rfl, (HO.out.alloc _).drewN _⟩
        · have d1 : decide (pa < 0) = false := by simp; omega
          by_cases t2 : (ws.length : Int) ≤ pa
          · have d2 : decide ((ws.length : Int) ≤ pa) = true := by simp; omega
            clear hok t1 hz0
            go_wp2
            go_quiet (fail)
            go_wp2
            go_ret
            exact .inl ⟨HK2.out, rfl, (HO.out.alloc _).drewN _⟩
          · have d2 : decide ((ws.length : Int) ≤ pa) = false := by simp; omega
            by_cases t3 : pn < 1
            · have d3 : decide (pn < 1) = true := by simp; omega
              clear hok t1 t2 hz0
              go_wp2
              go_quiet (fail)
              go_wp2
              go_ret
              exact .inl ⟨HK2.out, rfl, (HO.out.alloc _).drewN _⟩
            · have d3 : decide (pn < 1) = false := by simp; omega
              by_cases t4 : 512 < pn
              · have d4 : decide (512 < pn) = true := by simp; omega
                clear hok t1 t2 t3 hz0
                go_wp2
                go_quiet (fail)
                go_wp2
                go_ret
                exact .inl ⟨HK2.out, rfl, (HO.out.alloc _).drewN _⟩
              · have d4 : decide (512 < pn) = false := by simp; omega
                have hk0 : 0 < k := by
                  rcases Nat.eq_zero_or_pos k with e | e
                  · have := hz0 e; omega
                  · exact e
                obtain ⟨q, hzq, hcq⟩ := HQ.out hk0
                have d5 : decide (0 < k) = true := by simp; omega
                have d6 : decide (pa ≤ q.1) = true := by simp; omega
                have k1 : IntKind.i64.wrap ((k : Int) - 1) = (k : Int) - 1 := by rw [IntKind.wrap_i64]; omega
                have k2 : ((k : Int) - 1).toNat = k - 1 := by omega
                have k3 : (k : Int) - 1 < m := by omega
                have k4 : 0 ≤ (k : Int) - 1 := by omega
                clear hok t1 t2 t3 t4 hz0
                go_wp2
                go_quiet (fail)
                go_wp2
                go_ret
                exact .inl ⟨HK2.out, rfl, (HO.out.alloc _).drewN _⟩
    · obtain rfl : k = m := by omega
      have hl : l.drop k = [] := List.drop_eq_nil_of_le (by rw [HT.out.1]; exact Nat.le_refl _)
      have hk2 : keepB ws.length 0 l = true := by rw [← hkp, hl]; rfl
      have HK2 := hide hk2
      have HV := hide (keep_valid hk2 (Int.le_refl 0))
      clear ho hkp hl hk2 hz0 hzk hz HKP
      revert HO
      generalize wr = W1
      intro HO
      go_wp2
      have HD1 := hide (HD.out.quiet HO.out)
      go_loopw [57] (fun i w2 => RCrR W1 g pb pc pr (.slice A' ws.length cap) N plat ws left stops rd wt fl k l i w2) (fun i _ => k - (intOf i).toNat)
      case atStart => exact ⟨0, Nat.zero_le _, rfl, Only.refl _ _, HD1.out⟩
      case round =>
        obtain ⟨j, hj, rfl, ho, hd⟩ := hrel
        have HO2 := hide ho
        have HD2 := hide hd
        by_cases hjt : j < k
        · obtain ⟨b, o, rfl, hbl, hcs⟩ := HT.out.2 (by omega)
          obtain ⟨p, hp⟩ : ∃ p, l[j]? = some p := ⟨_, List.getElem?_eq_getElem (by rw [HT.out.1]; exact hjt)⟩
          obtain ⟨s0, s1⟩ := hcs j p hp
          have hall : Only [pb] w wr := (HO.out.mono (by simp)).trans ho
          have hbp := (HA.out (by omega) _ rfl).1
          have e0 := (hall.cell hbl (by simpa using hbp)).trans s0
          have e1 := (hall.cell hbl (by simpa using hbp)).trans s1
          obtain ⟨v1, v2, v3, v4⟩ := HV.out j p hp
          obtain ⟨x, hxk⟩ : ∃ x, ws[p.1.toNat]? = some x := ⟨_, List.getElem?_eq_getElem (by omega)⟩
          have HSN := hide (crash_snoc plat ws l j p hp x hxk)
          have HA3 : ∃ q, A' = some ⟨q, 0, none⟩ ∧ wr.cell? ⟨q, p.1.toNat * 2, none⟩ = some (.int .i64 x.sec) ∧ wr.cell? ⟨q, p.1.toNat * 2 + 1, none⟩ = some (.slice (some ⟨x.blk, 0, none⟩) 512 (512 + x.rest.length)) := by
            obtain ⟨A2, cap2, e, hA, hA2⟩ := sec_form hd.own
            cases e
            rcases A' with _ | b
            · exact absurd (hA rfl).1 (by omega)
            · obtain ⟨q, rfl, hq, _, _, hc⟩ := hA2 b rfl
              exact ⟨q, rfl, (hc _ x hxk).1, (hc _ x hxk).2⟩
          obtain ⟨q, rfl, q0, q1⟩ := HA3
          have hmem : x ∈ ws := List.mem_iff_getElem?.2 ⟨_, hxk⟩
          have HLY := hide (fun w' (r : Only [] wr w') => r2lay_is (hd.quiet r) x hmem p.2.toNat (by omega))
          obtain ⟨pa, pn⟩ := p
          obtain ⟨pa, rfl⟩ := Int.eq_ofNat_of_zero_le v1
          obtain ⟨pn, rfl⟩ := Int.eq_ofNat_of_zero_le (show 0 ≤ pn by simp only at v3; omega)
          simp only [Int.toNat_natCast] at v1 v2 v3 v4 e0 e1 q0 q1 HLY HSN
          have HQ := hide (fun w' (r : Only [] wr w') => (show w'.cell? ⟨g, 2, none⟩ = some (.slice (some ⟨q, 0, none⟩) ws.length cap) ∧ w'.cell? ⟨q, pa * 2, none⟩ = some (.int .i64 x.sec) ∧ w'.cell? ⟨q, pa * 2 + 1, none⟩ = some (.slice (some ⟨x.blk, 0, none⟩) 512 (512 + x.rest.length)) from by
            have hq : q < wr.heap.size := World.block_lt_of_cell? _ _ q0
            exact ⟨(HD2.out.quiet r).c2, (r.cell hq (by simp)).trans q0, (r.cell hq (by simp)).trans q1⟩))
          have hpl : pa < ws.length := by omega
          clear ho hd hcs s0 s1 hp hxk hall hbp hmem v1 v2 v3
          have ho0 : Only [] wr (wr.alloc (.cells #[.int .i64 pa, .int .i64 pn] 52)) := (Only.refl [] _).alloc _
          have HO0 := hide ho0
          have hbv := Blk.new wr 52 #[.int .i64 pa, .int .i64 pn]
          have HV1 := hide hbv
          clear hbv ho0 q0 q1
          go_wp2_with fail
          revert HO0 HV1
          generalize wr.alloc (.cells #[.int .i64 pa, .int .i64 pn] 52) = W0
          intro HO0 HV1
          have g1 := (HQ.out W0 HO0.out).1
          have g2 := (HQ.out W0 HO0.out).2.1
          have g3 := (HQ.out W0 HO0.out).2.2
          have g4 : W0.cell? ⟨wr.heap.size, 0, none⟩ = some (.int .i64 pa) := (HV1.out.cell 0).trans rfl
          have g5 : W0.cell? ⟨wr.heap.size, 1, none⟩ = some (.int .i64 pn) := (HV1.out.cell 1).trans rfl
          have hpl2 : (pa : Int) < ws.length := by omega
          have hpl3 : (0 : Int) ≤ pa := by omega
          go_still_tail 11, (by kernel_rfl)
          change wpList _ _ _ _ _ W0.drew
          go_wp2_with (go_at_call 43; refine (HLY.out W0.drew HO0.out.drew).mono ?_; rintro e w' ⟨rfl, ho3, hd3⟩; have HD3 := hide hd3; have HO3 := hide ho3; clear ho3 hd3)
          go_roundw
          case rel => exact ⟨j + 1, hjt, by go_num, (HO2.out.trans (HO0.out.drew.mono (by simp))).trans HO3.out, by rw [HSN.out]; exact HD3.out⟩
          case measure => simp [intOf]; omega
        · obtain rfl : j = k := by omega
          have hlw : l.take j = l := List.take_of_length_le (by rw [HT.out.1]; exact Nat.le_refl _)
          rw [hlw] at hd
          have hf2 := hd.fr 2
          have hf3 := hd.fr 3
          have hf4 := hd.fr 4
          have HFG := hide hd.forget
          have HOO := hide ((HO.out.mono (S' := [g, pb]) (by simp)).trans (HO2.out.mono (by intro k _ hk; simp at hk ⊢; omega)))
          have hc2 := hd.c2
          have hc3 := hd.c3
          have hc4 := hd.c4
          clear hd ho hlw
          go_wp2
          go_ret
          have ho4 : Only [g] (wr.setCell ⟨g, 2, none⟩ (.slice none 0 0)) ((wr.setCell ⟨g, 2, none⟩ (.slice none 0 0)).setCell ⟨g, 4, none⟩ (.bool false)) := (Only.refl _ _).setCell _ (by simp)
          have h4 := HFG.out.2.restr (left' := left) (stops' := false) (rd' := rd) (wt' := wt) (fl' := fl) ho4 (HFG.out.2.str.set_ 4 _)
          have ho5 : Only [g] ((wr.setCell ⟨g, 2, none⟩ (.slice none 0 0)).setCell ⟨g, 4, none⟩ (.bool false)) (((wr.setCell ⟨g, 2, none⟩ (.slice none 0 0)).setCell ⟨g, 4, none⟩ (.bool false)).setCell ⟨g, 3, none⟩ (.int .i64 0)) := (Only.refl _ _).setCell _ (by simp)
          have h5 := h4.restr (left' := 0) (stops' := false) (rd' := rd) (wt' := wt) (fl' := fl) ho5 (h4.str.set_ 3 _)
          exact .inr ⟨HK2.out, rfl, HOO.out.trans (((HFG.out.1.trans ho4).trans ho5).mono (by intro k _ hk; simp at hk ⊢; omega)), h5⟩
end
end Go.Proofs.Ytpkoihbebhmicaa
