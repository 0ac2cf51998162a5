/-
  The document's own gate: Take.
-/
import Derived.Test.YtflgcnlncljefaaResvRefDo
namespace Go.Proofs.Ytflgcnlncljefaa
open Go.ChangeShapes Go.WideShapes Go.ChangeAt Go.RowKit
set_option linter.unusedVariables false
section
variable {w w' : World} {g : Nat} {H L R : Int} {v : Value} {ss : List ST} {S F : List Nat} {s : GS}
theorem IsR9.froz (h : IsR9 w g H L v ss) {A : Option Addr} {n cap : Nat} (hv : v = .slice A n cap) {b o : Nat} (hA : A = some ⟨b, o, none⟩) (hp : 0 < ss.length) (k : Nat) : w.frozen? ⟨b, k, none⟩ = false := by
  obtain ⟨b', cap', cur, e, hbk, _⟩ := h.row.blk hp
  rw [hv, hA] at e
  injection e with e
  injection e with e
  injection e with e
  subst e
  exact hbk.frozen _

set_option maxHeartbeats 1500000 in
set_option maxRecDepth 100000 in
theorem r9Take_is (h : Rf w g H s F) (id n : Int) : Calls Try.prog 25 #[.pointer (some ⟨g, 0, none⟩), .int .i64 id, .int .i64 n] w fun e w' => DidT9 H (takeF s id n) w g F e w' := by
  have HG := hide h
  obtain ⟨v, hi, hok, rfl⟩ := h
  have HAT := hide (r9find_o hi hok.few id)
  by_cases h1 : n < 0
  · have HE := hide (show takeF s id n = (1, s) by unfold takeF; rw [if_pos h1])
    clear hi hok
    go_enter Try.func25, Try.ntmps25
    go_wp2
    go_ret
    rw [HE.out]
    exact ⟨rfl, HG.out.did (Only.refl _ _)⟩
  · rcases atI_cases s.ss id with ⟨ha, _⟩ | ⟨i, t, ht, hid, ha, _⟩
    · have HE := hide (show takeF s id n = (4, s) by unfold takeF; rw [if_neg h1, if_pos (inB_no ha)])
      rw [ha] at HAT
      clear hi hok
      go_enter Try.func25, Try.ntmps25
      go_wp2_with (go_at_call 36; refine HAT.out.mono ?_; rintro e w' ⟨rfl, rfl⟩)
      go_ret
      rw [HE.out]
      exact ⟨rfl, HG.out.did (Only.refl _ _)⟩
    · rw [ha] at HAT
      have hib := inB_yes ht ha
      have hlt : i < s.ss.length := (List.getElem?_eq_some_iff.1 ht).1
      obtain ⟨A, cap, hv, hA⟩ := hi.row.form
      subst hv
      obtain ⟨b, rfl, hbl⟩ := hA (by omega)
      obtain ⟨q0, q1, q2, q3⟩ := hi.row.cell rfl rfl ht
      have k1 : w.cell? ⟨g, 1, none⟩ = some (.int .i64 s.L) := hi.blk.cell 1
      have k2 : w.cell? ⟨g, 2, none⟩ = some (.slice (some ⟨b, 0, none⟩) s.ss.length cap) := hi.blk.cell 2
      have hil : (i : Int) < (s.ss.length : Nat) := by omega
      have hi0 : ¬ (i : Int) < 0 := by omega
      have hi1 : (0 : Int) ≤ i := by omega
      cases hw : t.waits with
      | true =>
        have HE := hide (show takeF s id n = (4, s) by unfold takeF; rw [if_neg h1, if_pos (by rw [hib, hw]; rfl)])
        rw [hw] at q3
        clear hi hok hib ha
        go_enter Try.func25, Try.ntmps25
        go_wp2_with (go_at_call 36; refine HAT.out.mono ?_; rintro e w' ⟨rfl, rfl⟩)
        go_ret
        rw [HE.out]
        exact ⟨rfl, HG.out.did (Only.refl _ _)⟩
      | false =>
        rw [hw] at q3 hib
        by_cases hn : t.bound < n
        · have HE := hide (show takeF s id n = (90, s) by unfold takeF; rw [if_neg h1, if_neg (by rw [hib]; simp), ha, Int.toNat_natCast, ht]; simp only []; rw [if_pos hn])
          clear hi hok hib ha
          go_enter Try.func25, Try.ntmps25
          go_wp2_with (go_at_call 36; refine HAT.out.mono ?_; rintro e w' ⟨rfl, rfl⟩)
          go_ret
          rw [HE.out]
          exact ⟨rfl, HG.out.did (Only.refl _ _)⟩
        · have HE := hide (show takeF s id n = (0, ⟨s.L + n, s.ss.set i { t with bound := t.bound - n, taken := t.taken + n }⟩) by unfold takeF; rw [if_neg h1, if_neg (by rw [hib]; simp), ha, Int.toNat_natCast, ht]; simp only []; rw [if_neg hn])
          have hsp := resvL_split ht
          rw [hw] at hsp
          have hpe := (hok.erase i).r0
          have hb0 : 0 ≤ resvL s.ss - n := by have : 0 ≤ resvL (s.ss.eraseIdx i) := hpe; have := hok.at_ ht; simp at hsp; omega
          have hz := hok.size
          have hl0 := hok.l0
          have hsu := hok.sum
          have hsb := hok.at_ ht
          have HBD := hide (show 0 ≤ n ∧ n ≤ t.bound ∧ 0 ≤ t.taken ∧ t.bound + t.taken ≤ H ∧ 0 ≤ s.L ∧ 0 ≤ resvL s.ss - n ∧ s.L + resvL s.ss ≤ H from ⟨by omega, by omega, hsb.2.1, hsb.2.2, hl0, hb0, hsu⟩)
          have e1 : IntKind.i64.wrap (t.bound - n) = t.bound - n := by rw [IntKind.wrap_i64]; omega
          have e2 : IntKind.i64.wrap (t.taken + n) = t.taken + n := by rw [IntKind.wrap_i64]; omega
          have e4 : IntKind.i64.wrap (s.L + n) = s.L + n := by rw [IntKind.wrap_i64]; omega
          have f1 := hi.froz rfl rfl (by omega) (i * 4 + 1)
          have HOK := hide hok
          have HT := hide ht
          have HLT := hide hlt
          have HWF := hide hw
          have HI := hide hi
          have hbo : (Value.slice (some ⟨b, 0, none⟩) s.ss.length cap).ownBlock = some b := slice_own hi.row (by omega) rfl rfl
          have HBO := hide hbo
          clear hi hok hib ha hsp hpe hb0 hz hl0 hsu hsb hbo
          go_enter Try.func25, Try.ntmps25
          go_wp2_with (go_at_call 36; refine HAT.out.mono ?_; rintro e w' ⟨rfl, rfl⟩)
          go_region
          have HI2 := hide (show IsR9 (w.setCell ⟨b, i * 4 + 1, none⟩ (.int .i64 (t.bound - n))).drew g H s.L (.slice (some ⟨b, 0, none⟩) s.ss.length cap) (s.ss.set i { t with bound := t.bound - n }) from (HI.out.put rfl rfl (k := 1) (u := .int .i64 (t.bound - n)) (by decide) HT.out (s' := { t with bound := t.bound - n }) rfl).drewN 1)
          have HO2 := hide (show Only (footG g (.slice (some ⟨b, 0, none⟩) s.ss.length cap)) w (w.setCell ⟨b, i * 4 + 1, none⟩ (.int .i64 (t.bound - n))).drew from ((Only.refl _ w).setCell _ (by simp [footG, HBO.out])).drew)
          clear q0 q1 q2 q3 k1 k2 f1
          revert HI2 HO2
          generalize (w.setCell ⟨b, i * 4 + 1, none⟩ (.int .i64 (t.bound - n))).drew = w2
          intro HI2 HO2
          have ht5 : (s.ss.set i { t with bound := t.bound - n })[i]? = some { t with bound := t.bound - n } := by rw [List.getElem?_set_self HLT.out]
          have HT5 := hide ht5
          obtain ⟨q0, q1, q2, q3⟩ := HI2.out.row.cell rfl rfl ht5
          have k2 : w2.cell? ⟨g, 2, none⟩ = some (.slice (some ⟨b, 0, none⟩) s.ss.length cap) := HI2.out.blk.cell 2
          have f2 := HI2.out.froz rfl rfl (by simp; have := HLT.out; omega) (i * 4 + 2)
          clear ht5 q0 q1 q3
          go_wp2_with fail
          go_region
          have HI3 := hide (show IsR9 (w2.setCell ⟨b, i * 4 + 2, none⟩ (.int .i64 (t.taken + n))).drew g H s.L (.slice (some ⟨b, 0, none⟩) s.ss.length cap) (s.ss.set i { t with bound := t.bound - n, taken := t.taken + n }) from by
            have h6 := HI2.out.put rfl rfl (k := 2) (u := .int .i64 (t.taken + n)) (by decide) HT5.out (s' := { t with bound := t.bound - n, taken := t.taken + n }) rfl
            rw [List.set_set] at h6
            exact h6.drewN 1)
          have HO3 := hide (show Only (footG g (.slice (some ⟨b, 0, none⟩) s.ss.length cap)) w (w2.setCell ⟨b, i * 4 + 2, none⟩ (.int .i64 (t.taken + n))).drew from (HO2.out.setCell _ (by simp [footG, HBO.out])).drew)
          clear q2 k2 f2
          revert HI3 HO3
          generalize (w2.setCell ⟨b, i * 4 + 2, none⟩ (.int .i64 (t.taken + n))).drew = w3
          intro HI3 HO3
          have k1 : w3.cell? ⟨g, 1, none⟩ = some (.int .i64 s.L) := HI3.out.blk.cell 1
          have f3 := HI3.out.blk.frozen 1
          go_wp2
          go_ret
          rw [HE.out]
          have hB := HBD.out
          have hok := HOK.out
          have hrv : resvL (s.ss.set i { t with bound := t.bound - n, taken := t.taken + n }) = resvL s.ss - n := by
            rw [resvL_set HT.out, HWF.out]
            simp
            omega
          refine ⟨rfl, _, .same (HO3.out.setCell (p := ⟨g, 1, none⟩) _ (by simp [footG])), _, HI3.out.setL (s.L + n), ⟨hok.size, by show 0 ≤ s.L + n; omega, by show 0 ≤ resvL (s.ss.set i _); omega, by show s.L + n + resvL (s.ss.set i _) ≤ H; omega, fun y hy => ?_, by simp; exact hok.few⟩, rfl⟩
          rcases List.mem_or_eq_of_mem_set hy with hy | hy
          · exact hok.seat y hy
          · subst hy
            simp only []
            omega
end
end Go.Proofs.Ytflgcnlncljefaa
