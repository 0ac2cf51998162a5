/-
  Processes and threads (parapet/proc): rows of ints that are seen; sameInts.
-/
import Derived.Test.YtdnnilpifnigiaaRqRow
import Derived.StillTailTactics
import Derived.RegionTactic
namespace Go.Proofs.Ytdnnilpifnigiaa
open Go.ChangeShapes Go.WideShapes Go.ChangeAt Go.RowKit Go.Maps
set_option linter.unusedVariables false
set_option linter.unusedSimpArgs false
section
variable {w w' : World} {S : List Nat}
/-- The slice v shows the ints zs; behind its block's start, within the world. -/
def ZsAt (w : World) (v : Value) (zs : List Int) : Prop :=
  ∃ A c, v = .slice A zs.length c ∧ (A = none → zs.length = 0 ∧ c = 0) ∧ zs.length ≤ c ∧ ∀ ad, A = some ad → ∃ b o, ad = ⟨b, o, none⟩ ∧ b < w.heap.size ∧ ∀ j u, (i64l zs)[j]? = some u → w.cell? ⟨b, o + j, none⟩ = some u
theorem IRow.sees {v : Value} {ns : List Int} (h : IRow w v ns) : ZsAt w v ns := by
  obtain ⟨A, c, e, h1, h2, _, h3⟩ := h.form2
  refine ⟨A, c, e, h1, h2, fun ad ha => ?_⟩
  obtain ⟨b, rfl, hb, hc⟩ := h3 ad ha
  exact ⟨b, 0, rfl, hb, fun j u hu => by rw [Nat.zero_add]; exact hc j u hu⟩
theorem ZsAt.only {v : Value} {zs : List Int} (h : ZsAt w v zs) (ho : Only S w w') (hs : ∀ b o n c, v = .slice (some ⟨b, o, none⟩) n c → b ∉ S) : ZsAt w' v zs := by
  obtain ⟨A, c, rfl, h1, h2, h3⟩ := h
  refine ⟨A, c, rfl, h1, h2, fun ad ha => ?_⟩
  obtain ⟨b, o, rfl, hb, hc⟩ := h3 ad ha
  exact ⟨b, o, rfl, Nat.lt_of_lt_of_le hb ho.size, fun j u hu => (ho.cell hb (hs _ _ _ _ (by rw [ha]))).trans (hc j u hu)⟩
theorem ZsAt.quiet {v : Value} {zs : List Int} (h : ZsAt w v zs) (ho : Only [] w w') : ZsAt w' v zs := h.only ho (by simp)
theorem ZsAt.take {A : Option Addr} {n c : Nat} {zs : List Int} (h : ZsAt w (.slice A n c) zs) {k : Nat} (hk : k ≤ zs.length) : ZsAt w (.slice A k c) (zs.take k) := by
  obtain ⟨A', c', e, h1, h2, h3⟩ := h
  injection e with e1 e2 e3
  subst e1 e2 e3
  have hl : (zs.take k).length = k := by rw [List.length_take]; omega
  refine ⟨A, c, by rw [hl], fun ha => ?_, by omega, fun ad ha => ?_⟩
  · have := h1 ha
    exact ⟨by omega, this.2⟩
  · obtain ⟨b, o, rfl, hb, hc⟩ := h3 ad ha
    refine ⟨b, o, rfl, hb, fun j u hu => hc j u ?_⟩
    unfold i64l at hu ⊢
    rw [List.map_take, List.getElem?_take] at hu
    split at hu
    · exact hu
    · cases hu
theorem ZsAt.cell {A : Option Addr} {n c : Nat} {zs : List Int} (h : ZsAt w (.slice A n c) zs) {i : Nat} (hi : i < zs.length) : ∃ b o, A = some ⟨b, o, none⟩ ∧ w.cell? ⟨b, o + i, none⟩ = some (.int .i64 zs[i]) := by
  obtain ⟨A', c', e, h1, h2, h3⟩ := h
  injection e with e1 e2 e3
  subst e1 e2 e3
  rcases A with _ | ad
  · have := h1 rfl; omega
  · obtain ⟨b, o, rfl, hb, hc⟩ := h3 ad rfl
    exact ⟨b, o, rfl, hc i _ (by simp [i64l, hi])⟩
set_option maxHeartbeats 2000000 in
set_option maxRecDepth 100000 in
theorem same24_is {v x : Value} {xs zs : List Int} (h : ZsAt w v xs) (h' : ZsAt w x zs) (hbig : xs.length < 4000000000000) (hbig2 : zs.length < 4000000000000) : Calls Try.prog 26 #[v, x] w fun e w' => e = .returned (.bool (decide (xs = zs))) ∧ Only [] w w' := by
  obtain ⟨A, c, rfl, _⟩ := id h
  obtain ⟨B, d, rfl, _⟩ := id h'
  have HA := hide h
  have HB := hide h'
  have HG := hide (And.intro hbig hbig2)
  clear h h' hbig hbig2
  by_cases hl : xs.length = zs.length
  · have e1 : (((xs.length : Nat) : Int) != ((zs.length : Nat) : Int)) = false := by simp [hl]
    go_enter Try.func26, Try.ntmps26
    go_wp2
    go_loopw [13] (fun iv wr => ∃ i : Nat, i ≤ xs.length ∧ iv = .int .i64 i ∧ xs.take i = zs.take i ∧ Only [] w wr) (fun iv _ => xs.length - (intOf iv).toNat)
    case atStart => exact ⟨0, Nat.zero_le _, rfl, rfl, Only.refl _ _⟩
    case round =>
      obtain ⟨i, hi, rfl, ht, hw⟩ := hrel
      have HT := hide ht
      have HW := hide hw
      by_cases hlt : i < xs.length
      · have hltI : (i : Int) < xs.length := by omega
        have hltZ : (i : Int) < zs.length := by omega
        have hlt2 : i < zs.length := by omega
        obtain ⟨b, o, rfl, c0⟩ := (HA.out.quiet hw).cell hlt
        obtain ⟨b2, o2, rfl, c2⟩ := (HB.out.quiet hw).cell hlt2
        have HN := hide (show xs = xs.take i ++ xs[i] :: xs.drop (i + 1) by rw [List.getElem_cons_drop, List.take_append_drop])
        have HN2 := hide (show zs = zs.take i ++ zs[i] :: zs.drop (i + 1) by rw [List.getElem_cons_drop, List.take_append_drop])
        have HP := hide (show xs.take (i + 1) = xs.take i ++ [xs[i]] by rw [List.take_add_one]; simp [hlt])
        have HP2 := hide (show zs.take (i + 1) = zs.take i ++ [zs[i]] by rw [List.take_add_one]; simp [hlt2])
        have HLT := hide (show (xs.take i).length = (zs.take i).length by rw [ht])
        clear ht hw
        generalize xs[i] = p at *
        generalize zs[i] = q at *
        by_cases he : p = q
        · have e2 : (p != q) = false := by simp [he]
          go_wp2
          go_region
          go_wp2
          have e3 : wrap64 ((i : Int) + 1) = ((i + 1 : Nat) : Int) := by
            have := HG.out.1
            rw [wrap64]
            omega
          rw [e3]
          refine ⟨⟨i + 1, hlt, rfl, by rw [HP.out, HP2.out, HT.out, he], HW.out.drew⟩, ?_⟩
          simp [intOf]
          omega
        · have e2 : (p != q) = true := by simp [he]
          go_wp2
          go_region
          go_wp2
          go_ret
          refine ⟨?_, HW.out.drew⟩
          have : xs ≠ zs := fun e => by
            have h1 := HN.out.symm.trans (e.trans HN2.out)
            rw [HT.out] at h1
            have h2 := List.append_cancel_left h1
            injection h2 with h2 _
            exact he h2
          rw [show decide (xs = zs) = false by simp [this]]
          rfl
      · obtain rfl : i = xs.length := by omega
        go_wp2
        go_ret
        refine ⟨?_, hw⟩
        have : xs = zs := by
          have := ht
          rw [List.take_length, hl, List.take_length] at this
          exact this
        rw [show decide (xs = zs) = true by simp [this]]
        rfl
  · have e1 : (((xs.length : Nat) : Int) != ((zs.length : Nat) : Int)) = true := by simp; omega
    go_enter Try.func26, Try.ntmps26
    go_wp2
    go_ret
    refine ⟨?_, Only.refl _ _⟩
    rw [show decide (xs = zs) = false by simp; intro e; exact hl (by rw [e])]
    rfl
end
end Go.Proofs.Ytdnnilpifnigiaa
