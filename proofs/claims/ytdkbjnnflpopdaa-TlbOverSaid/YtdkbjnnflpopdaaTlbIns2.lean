/-
  Translations (parapet/tlb): the walk of the insertion sort.
-/
import Derived.Test.YtdkbjnnflpopdaaTlbIns
namespace Go.Proofs.Ytdkbjnnflpopdaa
open Go.ChangeShapes Go.WideShapes Go.ChangeAt Go.RowKit Go.Maps Go.Shelf
set_option linter.unusedVariables false

def cmpF (Bx : Nat) : Value := .func (.func 39) #[] #[.pointer (some ⟨Bx, 0, none⟩)]
section
variable {w : World} {b Bx g cap : Nat} {D : DataW Unit} {l : List (K2 × K2)} {ks : List K2} {rest : List Value}
def OutR (w : World) (g : Nat) (rest : List Value) (t : K2 → Int) (ks : List K2) (iv : Value) (wr : World) : Prop :=
  ∃ (i : Nat) (L : List K2), 1 ≤ i ∧ (i ≤ ks.length ∨ i = 1) ∧ iv = .int .i64 i ∧ InOut t ks L i ∧ KBlk wr g L rest ∧ Only [g] w wr
def InR (w : World) (g : Nat) (rest : List Value) (t : K2 → Int) (ks : List K2) (i : Nat) (jv : Value) (wr : World) : Prop :=
  ∃ (j : Nat) (L : List K2), j ≤ i ∧ jv = .int .i64 j ∧ InIn t ks L i j ∧ KBlk wr g L rest ∧ Only [g] w wr

set_option maxRecDepth 100000 in
set_option maxHeartbeats 4000000 in
theorem ins_is (hB : KBlk w g ks rest) (hm : w.cell? ⟨Bx, 0, none⟩ = some (.map (some b))) (hBl : Bx < w.heap.size) (hBg : Bx ≠ g) (hown : w.ownsMap Try.prog 33 elemF b l.length D) (hbg : b ≠ g) (H : Holds D l) (hks : ∀ k ∈ ks, ∃ f, (k, f) ∈ l) (hlen : ks.length ≤ 64) :
    Calls Try.prog 68 #[.slice (some ⟨g, 0, none⟩) ks.length cap, .int .i64 0, .int .i64 ks.length, cmpF Bx] w fun e w' => e = .returned (.tuple #[]) ∧ ∃ L : List K2, InOut (tau l) ks L ks.length ∧ KBlk w' g L rest ∧ Only [g] w w' := by
  have HB := hide hB
  have HM := hide (fun W (ho : Only [g] w W) => And.intro ((ho.cell (b := Bx) (o := 0) (s := none) hBl (by simpa using hBg)).trans hm) (own_only hown ho (by simpa using hbg)))
  have HH := hide H
  have HKS := hide hks
  have HBG := hide hBg
  clear hB hm hown H hks
  unfold cmpF
  go_enter Try.func68, Try.ntmps68
  go_wp2
  go_loopw [8] (fun iv wr => OutR w g rest (tau l) ks iv wr) (fun iv _ => ks.length - (intOf iv).toNat)
  case atStart => exact ⟨1, ks, Nat.le_refl _, .inr rfl, rfl, ⟨List.Perm.refl _, fun p q h1 h2 => by omega⟩, HB.out, Only.refl _ _⟩
  case round =>
    obtain ⟨i, L, hi1, hil, rfl, hio, hkb, ho⟩ := hrel
    by_cases hlt : i < ks.length
    · have hli : (i : Int) < ks.length := by omega
      have HIO := hide hio
      have HKB := hide hkb
      have HO := hide ho
      clear hio hkb ho
      go_wp2
      go_loopw [9] (fun jv wz => InR w g rest (tau l) ks i jv wz) (fun jv _ => (intOf jv).toNat)
      case atStart => exact ⟨i, L, Nat.le_refl _, rfl, HIO.out.begin, HKB.out, HO.out⟩
      case round =>
        clear HIO HKB HO
        obtain ⟨j, L2, hji, rfl, hin, hkb, ho⟩ := hrel
        have hLl : L2.length = ks.length := hin.1.length_eq
        rcases j with _ | j
        · have HE := hide (show OutR w g rest (tau l) ks (.int .i64 ((i + 1 : Nat) : Int)) wr from ⟨i + 1, L2, by omega, .inl (by omega), rfl, hin.done hji (.inl rfl), hkb, ho⟩)
          have HE2 := hide (show ∀ n, OutR w g rest (tau l) ks (.int .i64 ((i + 1 : Nat) : Int)) (wr.drewN n) from fun n => by
            obtain ⟨i', L', h1, h2, h3, h4, h5, h6⟩ := HE.out
            exact ⟨i', L', h1, h2, h3, h4, h5.drewN n, h6.drewN n⟩)
          clear hin hkb ho HE
          go_wp2_with fail
          go_quiet (fail)
          go_wp2
          go_roundw
          case rel => 
            have := HE2.out nq
            rw [show ((i + 1 : Nat) : Int) = (i : Int) + 1 by omega] at this
            exact this
          case measure => simp [intOf]; omega
        · have hjl : j + 1 < L2.length := by omega
          obtain ⟨c0, c1⟩ := hkb.cells (i := j) (by omega)
          obtain ⟨c2, c3⟩ := hkb.cells (i := j + 1) hjl
          obtain ⟨fa, hfa⟩ := HKS.out _ (hin.1.mem_iff.1 (gk_mem (L := L2) (p := j) (by omega)))
          obtain ⟨fc, hfc⟩ := HKS.out _ (hin.1.mem_iff.1 (gk_mem (L := L2) (p := j + 1) hjl))
          have HCMP := hide (fun W (ho2 : Only [] wr W) => kept1_is (HM.out W (ho.trans (ho2.mono (by simp)))).1 (HM.out W (ho.trans (ho2.mono (by simp)))).2 HH.out hfc hfa)
          have hta := tau_is HH.out hfa
          have htc := tau_is HH.out hfc
          have hjk : (j : Int) + 1 < ks.length := by omega
          have hwj : IntKind.i64.wrap ((j : Int) + 1 - 1) = (j : Int) := by rw [IntKind.wrap_i64]; omega
          have hS0 : wr.cell? ⟨g, j * 2, none⟩ = some (.int .i64 (gk L2 j).1) ∧ wr.cell? ⟨g, j * 2 + 1, none⟩ = some (.int .i64 (gk L2 j).2) ∧ wr.cell? ⟨g, (j + 1) * 2, none⟩ = some (.int .i64 (gk L2 (j + 1)).1) ∧ wr.cell? ⟨g, (j + 1) * 2 + 1, none⟩ = some (.int .i64 (gk L2 (j + 1)).2) := ⟨c0, c1, c2, c3⟩
          have HS := hide (fun W (ho2 : Only [] wr W) => (show W.cell? ⟨g, j * 2, none⟩ = some (.int .i64 (gk L2 j).1) ∧ W.cell? ⟨g, j * 2 + 1, none⟩ = some (.int .i64 (gk L2 j).2) ∧ W.cell? ⟨g, (j + 1) * 2, none⟩ = some (.int .i64 (gk L2 (j + 1)).1) ∧ W.cell? ⟨g, (j + 1) * 2 + 1, none⟩ = some (.int .i64 (gk L2 (j + 1)).2) from by
            have hk2 := hkb.only ho2 (by simp)
            obtain ⟨e0, e1⟩ := KBlk.cells hk2 (i := j) (by omega)
            obtain ⟨e2, e3⟩ := KBlk.cells hk2 (i := j + 1) hjl
            exact ⟨e0, e1, e2, e3⟩))
          have HIN := hide hin
          have HKB := hide hkb
          have HO := hide ho
          have HJ := hide (And.intro hji hjl)
          have HTA := hide hta
          have HTC := hide htc
          clear c0 c1 c2 c3 hin hkb ho hfa hfc hta htc hS0
          obtain ⟨k0, k1, k2, k3⟩ := HS.out wr (Only.refl _ _)
          have hq0 : (0 : Int) ≤ (j : Int) + 1 := by omega
          have hq2 : (0 : Int) ≤ (j : Int) := by omega
          have hq3 : (j : Int) < ks.length := by omega
          have hw0 : IntKind.i64.wrap (j : Int) = (j : Int) := by rw [IntKind.wrap_i64]; omega
          have hq4 : (j : Int) + 1 - 1 = (j : Int) := by omega
          have hq1 : ((j : Int) + 1).toNat = j + 1 := by omega
          go_wp2_with fail
          go_region_held3 (fun w' => w'.cell? ⟨g, j * 2, none⟩ = some (.int .i64 (gk L2 j).1) ∧ w'.cell? ⟨g, j * 2 + 1, none⟩ = some (.int .i64 (gk L2 j).2) ∧ w'.cell? ⟨g, (j + 1) * 2, none⟩ = some (.int .i64 (gk L2 (j + 1)).1) ∧ w'.cell? ⟨g, (j + 1) * 2 + 1, none⟩ = some (.int .i64 (gk L2 (j + 1)).2)) (first | assumption | exact HK2.out | exact HS.out _ (by repeat (first | exact Only.refl _ _ | apply Only.drew)) | go_keep) (first | (go_at_call 39; refine (HCMP.out _ (by repeat (first | exact Only.refl _ _ | apply Only.drew | apply Only.alloc))).mono ?_; rintro e w2 ⟨rfl, ho2⟩; have HO2 := hide (show Only [] wr w2 from Only.trans (by repeat (first | exact Only.refl _ _ | apply Only.drew)) ho2); have HK2 := hide (HS.out w2 HO2.out); clear ho2))
          obtain ⟨k0', k1', k2', k3'⟩ := HK2.out
          have hkb2 := HKB.out.only HO2.out (by simp)
          have ho2 := HO.out.trans (HO2.out.mono (by simp))
          by_cases hc : fc.2 < fa.2
          · have hcd : cmp3 fc.2 fa.2 < 0 := by unfold cmp3; rw [if_pos hc]; omega
            have hstep := HIN.out.step HJ.out.1 (by rw [hLl]; exact hlt) (by rw [HTA.out, HTC.out]; exact hc)
            have z0 := hkb2.frozen (j * 2)
            have z1 := hkb2.frozen (j * 2 + 1)
            have z2 := hkb2.frozen ((j + 1) * 2)
            have z3 := hkb2.frozen ((j + 1) * 2 + 1)
            have HKB2 := hide hkb2
            have HO3 := hide ho2
            have HST := hide hstep
            have hj0 : j < L2.length := Nat.lt_of_succ_lt hjl
            have hkb3 := KBlk.set (KBlk.set hkb2 hjl (gk L2 j)) (i := j) (by rw [List.length_set]; exact hj0) (gk L2 (j + 1))
            have HE := hide (show InR w g rest (tau l) ks i (.int .i64 (j : Int)) ((((w2.setCell ⟨g, (j + 1) * 2, none⟩ (.int .i64 (gk L2 j).1)).setCell ⟨g, (j + 1) * 2 + 1, none⟩ (.int .i64 (gk L2 j).2)).setCell ⟨g, j * 2, none⟩ (.int .i64 (gk L2 (j + 1)).1)).setCell ⟨g, j * 2 + 1, none⟩ (.int .i64 (gk L2 (j + 1)).2)).drew from
              ⟨j, swap L2 j, Nat.le_of_succ_le hji, rfl, hstep, hkb3, (((((ho2.setCell _ (by simp)).setCell _ (by simp)).setCell _ (by simp)).setCell _ (by simp))).drew⟩)
            clear hkb2 hkb3 hj0 ho2 hstep hc HCMP HS HK2 k0 k1 k2 k3
            go_wp2_with fail
            go_region
            go_wp2
            refine ⟨HE.out, ?_⟩
            clear hq1 hq4 hw0 hwj
            simp [intOf]
          · have hcd : 0 ≤ cmp3 fc.2 fa.2 := by
              unfold cmp3
              rw [if_neg hc]
              split <;> omega
            have hdone := HIN.out.done HJ.out.1 (.inr (by rw [show j + 1 - 1 = j from rfl, HTA.out, HTC.out]; exact Int.not_lt.1 hc))
            have HE := hide (show OutR w g rest (tau l) ks (.int .i64 ((i : Int) + 1)) w2 from ⟨i + 1, L2, Nat.le_add_left _ _, .inl hlt, rfl, hdone, hkb2, ho2⟩)
            clear hkb2 ho2 hdone hc HCMP HS HK2 k0 k1 k2 k3 k0' k1' k2' k3'
            go_wp2
            refine ⟨HE.out, ?_⟩
            clear hq1 hq4 hw0 hwj
            show ks.length - ((i : Int) + 1).toNat < ks.length - (i : Int).toNat
            have := hlt
            omega
    · have HE := hide (show InOut (tau l) ks L ks.length ∧ KBlk wr g L rest ∧ Only [g] w wr from ⟨⟨hio.1, fun p q h1 h2 => hio.2 p q h1 (by omega)⟩, hkb, ho⟩)
      clear hio hkb ho
      go_wp2
      refine bodyPost_end (results_none rfl _ _ _) rfl ?_
      exact ⟨rfl, L, HE.out⟩
end
end Go.Proofs.Ytdkbjnnflpopdaa
