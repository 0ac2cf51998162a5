/-
  The document's own frames (parapetref06): fill out of the longest list; New, Alloc, Incr.
-/
import Derived.Test.YtfbegickdnjfcaaRef06b
namespace Go.Proofs.Ytfbegickdnjfcaa
open Go.ChangeShapes Go.WideShapes Go.ChangeAt Go.RowKit
set_option linter.unusedVariables false
set_option linter.unusedSimpArgs false
section
variable {w w' w1 w5 : World} {a cC bL : Nat} {vs : Nat → Value} {Z Z1 : List Nat} {first harts : Nat} {ns ns1 ns2 : Nat → List Int} {S : List Nat} {v5 : Value} {zs : List Int}
set_option maxRecDepth 100000 in
set_option maxHeartbeats 2000000 in
theorem rfill_other (R : R6 w a cC bL vs Z first harts ns) (h : Nat) (hh : h < harts) (he : (ns (4 + h)).length = 0) (h0 : (ns 12).length = 0) :
    Calls Try.prog 45 #[.pointer (some ⟨a, 0, none⟩), .int .i64 h] w fun e w' => e = .returned (.tuple #[]) ∧ DidR w w' a cC bL Z first harts (refillN ns h) := by
  have h8 := R.hh
  obtain ⟨q, hq⟩ : ∃ q, richN ns 8 = q := ⟨_, rfl⟩
  have hqs : richN ns harts = q := by
    have := richN_stop ns harts h8.1 R.emp (8 - harts) (by omega)
    rw [show harts + (8 - harts) = 8 by omega] at this
    rw [← this, hq]
  have hqh : q < harts := by rw [← hqs]; exact richN_lt' ns harts h8.1
  obtain ⟨m, hm⟩ : ∃ m, ((ns (4 + q)).length + 1) / 2 = m := ⟨_, rfl⟩
  have hfq := R.few (4 + q)
  have HE := hide (show refillN ns h = upd (upd ns (4 + q) ((ns (4 + q)).drop m)) (4 + h) ((ns (4 + q)).take m) from by
    unfold refillN
    rw [if_neg (by omega), hq]
    have hn := List.eq_nil_of_length_eq_zero he
    split
    · rename_i h1
      have h2 := List.eq_nil_of_length_eq_zero h1
      funext o
      by_cases e1 : o = 4 + h
      · subst e1; rw [upd_same, h2, hn, List.take_nil]
      · rw [upd_far _ _ e1]
        by_cases e2 : o = 4 + q
        · subst e2; rw [upd_same, h2, List.drop_nil]
        · rw [upd_far _ _ e2]
    · rename_i h1
      have hne : 4 + h ≠ 4 + q := fun e => h1 (by rw [← e]; exact he)
      unfold moveN
      rw [hn, List.nil_append, hm]
      funext o
      by_cases e1 : o = 4 + h
      · subst e1; rw [upd_far _ _ hne, upd_same, upd_same]
      · rw [upd_far _ _ e1]
        by_cases e2 : o = 4 + q
        · subst e2; rw [upd_same, upd_same]
        · rw [upd_far _ _ e2, upd_far _ _ e1, upd_far _ _ e2])
  rw [HE.out]
  have HR := hide R
  have hrq : RSlot harts (4 + q) := .inr ⟨by omega, by omega⟩
  obtain ⟨A, c, hv, hA, q1, q2, hsee⟩ := R.form hrq
  have c2 := R.c2
  have c3 := R.c3
  obtain ⟨A12, c12, hv12, -⟩ := R.form (.inl rfl)
  rw [hv12, h0] at c3
  have hlq := R.cl q hqh
  rw [hv] at hlq
  have hhi : (h : Int) < harts := by omega
  have hqi : (q : Int) < harts := by omega
  have hL : ((ns (4 + q)).length : Int) ≤ 4096 := by omega
  have hdiv : (((ns (4 + q)).length : Int) + 1) / 2 = (m : Int) := by omega
  have hml : m ≤ (ns (4 + q)).length := by omega
  have HQS := hide hqs
  clear R hq hqs hm HE hv12 hv
  go_enter Try.func45, Try.ntmps45
  go_wp2
  go_loopw [5, 48] (fun rv iv wr => ∃ k : Nat, k ≤ harts ∧ iv = .int .i64 k ∧ rv = .int .i64 (richN ns k) ∧ wr = w) (fun _ iv _ => harts - (intOf iv).toNat)
  case atStart => exact ⟨0, Nat.zero_le _, rfl, rfl, rfl⟩
  case round =>
    obtain ⟨k, hk, rfl, rfl, rfl⟩ := hrel
    by_cases hlt : k < harts
    · obtain ⟨Ak, ck, hvk, -⟩ := HR.out.form (o := 4 + k) (.inr ⟨by omega, by omega⟩)
      have hrl : richN ns k < harts := by
        by_cases e : k = 0
        · subst e; show 0 < harts; omega
        · have := richN_lt' ns k (by omega); omega
      obtain ⟨Ar, cr, hvr, -⟩ := HR.out.form (o := 4 + richN ns k) (.inr ⟨by omega, by omega⟩)
      have hck := HR.out.cl k hlt
      have hcr := HR.out.cl (richN ns k) hrl
      rw [hvk] at hck
      rw [hvr] at hcr
      have hrli : (richN ns k : Int) < harts := by omega
      have hki : (k : Int) < harts := by omega
      clear hvk hvr hdiv
      by_cases hcmp : (ns (4 + richN ns k)).length < (ns (4 + k)).length
      · have HE := hide (show richN ns (k + 1) = k by rw [richN, if_pos hcmp])
        go_wp2
        go_roundw
        case rel => exact ⟨k + 1, by omega, by go_num, by rw [HE.out], trivial⟩
        case measure => simp [intOf]; omega
      · have HE := hide (show richN ns (k + 1) = richN ns k by rw [richN, if_neg hcmp])
        go_wp2
        go_roundw
        case rel => exact ⟨k + 1, by omega, by go_num, by rw [HE.out], trivial⟩
        case measure => simp [intOf]; omega
    · obtain rfl : k = harts := by omega
      rw [HQS.out]
      obtain ⟨w, rfl⟩ : ∃ w : World, w = wr := ⟨_, rfl⟩
      go_wp2
      rw [hdiv]
      have c2a : ∀ o, (w.alloc o).cell? ⟨a, 2, none⟩ = some (.slice (some ⟨bL, 0, none⟩) k k) := fun o => Lib.cell?_alloc_some _ c2
      have hlqa : ∀ o, (w.alloc o).cell? ⟨bL, q, none⟩ = some (.slice A (ns (4 + q)).length c) := fun o => Lib.cell?_alloc_some _ hlq
      have HTD := hide (show ((ns (4 + q)).drop m).length = (ns (4 + q)).length - m by rw [List.length_drop])
      have HMB2 := hide (show (ns (4 + q)).length - m ≤ 100000 by omega)
      have HP := hide (fun A5 c5 w5 (hcp : Copied w w5 (.slice A5 ((ns (4 + q)).length - m) c5) ((ns (4 + q)).drop m)) => (show (w5.cell? ⟨a, 2, none⟩ = some (.slice (some ⟨bL, 0, none⟩) k k) ∧ w5.cell? ⟨bL, q, none⟩ = some (.slice A (ns (4 + q)).length c) ∧ w5.frozen? ⟨bL, q, none⟩ = false) ∧
          DidR w (w5.setCell ⟨bL, q, none⟩ (.slice A5 ((ns (4 + q)).length - m) c5)) a cC bL Z first k (upd ns (4 + q) ((ns (4 + q)).drop m)) ∧ Only [a, cC, bL] w (w5.setCell ⟨bL, q, none⟩ (.slice A5 ((ns (4 + q)).length - m) c5)) from by
        have R5 := HR.out.only hcp.only (by simp)
        refine ⟨⟨R5.c2, ?_, R5.lst.frozen _⟩, HR.out.copyList hqh hcp (by rw [List.length_drop]; omega), ?_⟩
        · exact (R5.cl q hqh).trans ((HR.out.cl q hqh).symm.trans hlq)
        · exact (hcp.only.mono (by simp)).trans ((Only.refl _ _).setCell _ (by simp))))
      have hm9 : (m : Int) ≤ (ns (4 + q)).length := by omega
      have hc9 : ((ns (4 + q)).length : Int) ≤ c := by omega
      have hcm9 : (c : Int) ≤ 9223372036854775807 := by unfold maxLen at q2; omega
      rcases Nat.eq_zero_or_pos (ns (4 + q)).length with hz | hp
      · obtain rfl : m = 0 := by omega
        have HNN := hide (show ∀ zs : List Int, zs.length = 0 → ∀ (W : World) (ad : Addr) (j : Nat) (u : Value), (i64l zs)[j]? = some u → W.cell? (ad.add j) = some u from fun zs hz W ad j u hu => by
          rw [List.eq_nil_of_length_eq_zero hz] at hu
          simp [i64l] at hu)
        have HZD := hide (show ((ns (4 + q)).drop 0).length = 0 by rw [List.length_drop]; omega)
        have HZT := hide (show ((ns (4 + q)).take 0).length = 0 by rw [List.length_take]; omega)
        clear hdiv
        simp only [hz, Nat.sub_zero] at HP HTD HMB2
        cases A with
        | none =>
          obtain rfl : c = 0 := (hA rfl).2
          clear hA
          go_region_law (refine step_copy rfl _ _ rfl w.heap.size (by simp [Act.eval]) (Blk.new w 3 #[]) (none) (0) (0) (by simp [Act.eval]) (fun _ => ⟨by omega, rfl⟩) ((ns (4 + q)).drop 0) HTD.out (fun ad e => by cases e) HMB2.out w (by repeat (first | exact Only.refl _ _ | apply Only.drew | apply Only.alloc)) (Nat.le_refl _) ?_; intro A5 c5 w5 hcp; obtain ⟨⟨k1, k2, k3⟩, k4, k5⟩ := HP.out A5 c5 w5 hcp; have HD5 := hide (And.intro k4 k5); clear hcp k4 k5)
          all_goals
            obtain ⟨⟨vs1, Z1, R1, T1, O1⟩, O1'⟩ := HD5.out
            clear HD5 k1 k2 k3 c2 c3 c2a hlqa hlq HP
            generalize w5.setCell ⟨bL, q, none⟩ (.slice A5 (0) c5) = w6 at R1 T1 O1 O1' ⊢
            have c2 := R1.c2
            have c2a : ∀ o, (w6.alloc o).cell? ⟨a, 2, none⟩ = some (.slice (some ⟨bL, 0, none⟩) k k) := fun o => Lib.cell?_alloc_some _ c2
            have HTK := hide (show ((ns (4 + q)).take 0).length = 0 by rw [List.length_take]; omega)
            have HMB3 := hide (show 0 ≤ 100000 by omega)
            have HNX := hide (fun (W : World) (_ : Only [] w6 W) (ad : Addr) (_ : (none : Option Addr) = some ad) (j : Nat) (u : Value) => HNN.out _ HZT.out W ad j u)
            have HP2 := hide (fun A7 c7 w7 (hcp : Copied w6 w7 (.slice A7 0 c7) ((ns (4 + q)).take 0)) => (show (w7.cell? ⟨a, 2, none⟩ = some (.slice (some ⟨bL, 0, none⟩) k k) ∧ w7.cell? ⟨bL, h, none⟩ = some (vs1 (4 + h)) ∧ w7.frozen? ⟨bL, h, none⟩ = false) ∧
                DidR w (w7.setCell ⟨bL, h, none⟩ (.slice A7 0 c7)) a cC bL Z first k (upd (upd ns (4 + q) ((ns (4 + q)).drop 0)) (4 + h) ((ns (4 + q)).take 0)) from by
              have R7 := R1.only hcp.only (by simp)
              refine ⟨⟨R7.c2, R7.cl h hh, R7.lst.frozen _⟩, ?_⟩
              obtain ⟨vs2, Z2, R2, T2, O2⟩ := R1.copyList hh hcp (by rw [List.length_take]; omega)
              exact ⟨vs2, Z2, R2, T1.trans T2, O1.trans O2⟩))
            clear R1 T1 O1 O1'
            go_wp2
            go_region_law (refine step_copy rfl _ _ rfl w6.heap.size (by simp [Act.eval]) (Blk.new w6 3 #[]) (none) 0 0 (by simp [Act.eval]) (fun _ => ⟨rfl, rfl⟩) ((ns (4 + q)).take 0) HTK.out (HNX.out _ (by repeat (first | exact Only.refl _ _ | apply Only.drew | apply Only.alloc))) HMB3.out w6 (by repeat (first | exact Only.refl _ _ | apply Only.drew | apply Only.alloc)) (Nat.le_refl _) ?_; intro A7 c7 w7 hcp; obtain ⟨⟨k1, k2, k3⟩, k4⟩ := HP2.out A7 c7 w7 hcp; have HD7 := hide k4; clear hcp k4)
            all_goals
              refine bodyPost_end (results_none rfl _ _ _) rfl ?_
              exact ⟨rfl, HD7.out⟩
        | some ad =>
          clear hA
          obtain ⟨b12, o12, p12⟩ := ad
          go_region_law (refine step_copy rfl _ _ rfl w.heap.size (by simp [Act.eval]) (Blk.new w 3 #[]) (some ⟨b12, o12, p12⟩) (0) (c - 0) (by simp [Act.eval]) (fun e => by cases e) ((ns (4 + q)).drop 0) HTD.out (fun ad _ j u => HNN.out _ HZD.out _ ad j u) HMB2.out w (by repeat (first | exact Only.refl _ _ | apply Only.drew | apply Only.alloc)) (Nat.le_refl _) ?_; intro A5 c5 w5 hcp; obtain ⟨⟨k1, k2, k3⟩, k4, k5⟩ := HP.out A5 c5 w5 hcp; have HD5 := hide (And.intro k4 k5); clear hcp k4 k5)
          all_goals
            obtain ⟨⟨vs1, Z1, R1, T1, O1⟩, O1'⟩ := HD5.out
            clear HD5 k1 k2 k3 c2 c3 c2a hlqa hlq HP
            generalize w5.setCell ⟨bL, q, none⟩ (.slice A5 (0) c5) = w6 at R1 T1 O1 O1' ⊢
            have c2 := R1.c2
            have c2a : ∀ o, (w6.alloc o).cell? ⟨a, 2, none⟩ = some (.slice (some ⟨bL, 0, none⟩) k k) := fun o => Lib.cell?_alloc_some _ c2
            have HTK := hide (show ((ns (4 + q)).take 0).length = 0 by rw [List.length_take]; omega)
            have HMB3 := hide (show 0 ≤ 100000 by omega)
            have HNX := hide (fun (W : World) (_ : Only [] w6 W) (ad : Addr) (_ : (some ⟨b12, o12, p12⟩ : Option Addr) = some ad) (j : Nat) (u : Value) => HNN.out _ HZT.out W ad j u)
            have HP2 := hide (fun A7 c7 w7 (hcp : Copied w6 w7 (.slice A7 0 c7) ((ns (4 + q)).take 0)) => (show (w7.cell? ⟨a, 2, none⟩ = some (.slice (some ⟨bL, 0, none⟩) k k) ∧ w7.cell? ⟨bL, h, none⟩ = some (vs1 (4 + h)) ∧ w7.frozen? ⟨bL, h, none⟩ = false) ∧
                DidR w (w7.setCell ⟨bL, h, none⟩ (.slice A7 0 c7)) a cC bL Z first k (upd (upd ns (4 + q) ((ns (4 + q)).drop 0)) (4 + h) ((ns (4 + q)).take 0)) from by
              have R7 := R1.only hcp.only (by simp)
              refine ⟨⟨R7.c2, R7.cl h hh, R7.lst.frozen _⟩, ?_⟩
              obtain ⟨vs2, Z2, R2, T2, O2⟩ := R1.copyList hh hcp (by rw [List.length_take]; omega)
              exact ⟨vs2, Z2, R2, T1.trans T2, O1.trans O2⟩))
            clear R1 T1 O1 O1'
            go_wp2
            go_region_law (refine step_copy rfl _ _ rfl w6.heap.size (by simp [Act.eval]) (Blk.new w6 3 #[]) (some ⟨b12, o12, p12⟩) 0 c (by simp [Act.eval]) (fun e => by cases e) ((ns (4 + q)).take 0) HTK.out (HNX.out _ (by repeat (first | exact Only.refl _ _ | apply Only.drew | apply Only.alloc))) HMB3.out w6 (by repeat (first | exact Only.refl _ _ | apply Only.drew | apply Only.alloc)) (Nat.le_refl _) ?_; intro A7 c7 w7 hcp; obtain ⟨⟨k1, k2, k3⟩, k4⟩ := HP2.out A7 c7 w7 hcp; have HD7 := hide k4; clear hcp k4)
            all_goals
              refine bodyPost_end (results_none rfl _ _ _) rfl ?_
              exact ⟨rfl, HD7.out⟩
      · obtain ⟨b12, o12, A', rfl, hA', hnw2⟩ := SeesZ.tail hsee rfl hml hp
        have HNW2 := hide hnw2
        have HHD := hide (SeesZ.head (m := m) hsee)
        have hmc9 : (m : Int) ≤ c := by omega
        have hmc8 : m ≤ c := by omega
        clear hnw2 hA hdiv
        go_region_law (refine step_copy rfl _ _ rfl w.heap.size (by simp [Act.eval]) (Blk.new w 3 #[]) (some A') ((ns (4 + q)).length - m) (c - m) (by simp [Act.eval]) (fun e => by cases e) ((ns (4 + q)).drop m) HTD.out (HNW2.out _ (by repeat (first | exact Only.refl _ _ | apply Only.drew | apply Only.alloc))) HMB2.out w (by repeat (first | exact Only.refl _ _ | apply Only.drew | apply Only.alloc)) (Nat.le_refl _) ?_; intro A5 c5 w5 hcp; obtain ⟨⟨k1, k2, k3⟩, k4, k5⟩ := HP.out A5 c5 w5 hcp; have HD5 := hide (And.intro k4 k5); clear hcp k4 k5)
        all_goals
          obtain ⟨⟨vs1, Z1, R1, T1, O1⟩, O1'⟩ := HD5.out
          clear HD5 k1 k2 k3 c2 c3 c2a hlqa hlq HP
          generalize w5.setCell ⟨bL, q, none⟩ (.slice A5 ((ns (4 + q)).length - m) c5) = w6 at R1 T1 O1 O1' ⊢
          have c2 := R1.c2
          have c2a : ∀ o, (w6.alloc o).cell? ⟨a, 2, none⟩ = some (.slice (some ⟨bL, 0, none⟩) k k) := fun o => Lib.cell?_alloc_some _ c2
          have HTK := hide (show ((ns (4 + q)).take m).length = m by rw [List.length_take]; omega)
          have HMB3 := hide (show m ≤ 100000 by omega)
          have HNX := hide (fun (W : World) (hW : Only [] w6 W) => HHD.out W (O1'.trans (hW.mono (by simp))))
          have HP2 := hide (fun A7 c7 w7 (hcp : Copied w6 w7 (.slice A7 m c7) ((ns (4 + q)).take m)) => (show (w7.cell? ⟨a, 2, none⟩ = some (.slice (some ⟨bL, 0, none⟩) k k) ∧ w7.cell? ⟨bL, h, none⟩ = some (vs1 (4 + h)) ∧ w7.frozen? ⟨bL, h, none⟩ = false) ∧
              DidR w (w7.setCell ⟨bL, h, none⟩ (.slice A7 m c7)) a cC bL Z first k (upd (upd ns (4 + q) ((ns (4 + q)).drop m)) (4 + h) ((ns (4 + q)).take m)) from by
            have R7 := R1.only hcp.only (by simp)
            refine ⟨⟨R7.c2, R7.cl h hh, R7.lst.frozen _⟩, ?_⟩
            obtain ⟨vs2, Z2, R2, T2, O2⟩ := R1.copyList hh hcp (by rw [List.length_take]; omega)
            exact ⟨vs2, Z2, R2, T1.trans T2, O1.trans O2⟩))
          clear R1 T1 O1 O1'
          go_wp2
          go_region_law (refine step_copy rfl _ _ rfl w6.heap.size (by simp [Act.eval]) (Blk.new w6 3 #[]) (some ⟨b12, o12, none⟩) m c (by simp [Act.eval]) (fun e => by cases e) ((ns (4 + q)).take m) HTK.out (HNX.out _ (by repeat (first | exact Only.refl _ _ | apply Only.drew | apply Only.alloc))) HMB3.out w6 (by repeat (first | exact Only.refl _ _ | apply Only.drew | apply Only.alloc)) (Nat.le_refl _) ?_; intro A7 c7 w7 hcp; obtain ⟨⟨k1, k2, k3⟩, k4⟩ := HP2.out A7 c7 w7 hcp; have HD7 := hide k4; clear hcp k4)
          all_goals
            refine bodyPost_end (results_none rfl _ _ _) rfl ?_
            exact ⟨rfl, HD7.out⟩
end
end Go.Proofs.Ytfbegickdnjfcaa
