/-
  The gate (parapet/resv): Give, Leave, Take.
-/
import Derived.Test.YtflgcnlncljefaaResvDoes
namespace Go.Proofs.Ytflgcnlncljefaa
open Go.ChangeShapes Go.WideShapes Go.ChangeAt Go.RowKit
set_option linter.unusedVariables false
section
variable {w w' : World} {g : Nat} {H L R : Int} {v : Value} {ss : List ST} {S F : List Nat} {s : GS}

set_option maxHeartbeats 1500000 in
set_option maxRecDepth 100000 in
theorem gGive_is (h : Gt w g H s F) (n : Int) : Calls Try.prog 16 #[.pointer (some ⟨g, 0, none⟩), .int .i64 n] w fun e w' => DidL H (giveF H s n) w g F e w' := by
  have HG := hide h
  obtain ⟨v, hi, hok, rfl⟩ := h
  have HCL := hide (gclosed_is hi)
  have c1 : w.cell? ⟨g, 1, none⟩ = some (.int .i64 s.L) := hi.blk.cell 1
  by_cases h1 : n < 0
  · have HE := hide (show giveF H s n = ([], 1, s) by unfold giveF; rw [if_pos (.inl h1)])
    clear hi hok
    go_enter Try.func16, Try.ntmps16
    go_wp2_with (go_at_call 31; refine HCL.out.mono ?_; rintro e w' ⟨rfl, rfl⟩)
    go_ret2
    rw [HE.out]
    exact ⟨_, rfl, KRow.nil _ _ _ _, HG.out.did (Only.refl _ _)⟩
  · by_cases h2 : s.L < n
    · have HE := hide (show giveF H s n = ([], 1, s) by unfold giveF; rw [if_pos (.inr h2)])
      clear hi hok
      go_enter Try.func16, Try.ntmps16
      go_wp2_with (go_at_call 31; refine HCL.out.mono ?_; rintro e w' ⟨rfl, rfl⟩)
      go_ret2
      rw [HE.out]
      exact ⟨_, rfl, KRow.nil _ _ _ _, HG.out.did (Only.refl _ _)⟩
    · have HE := hide (show giveF H s n = ((admS H (s.L - n) s.ss).2, 0, ⟨s.L - n, (admS H (s.L - n) s.ss).1⟩) by unfold giveF; rw [if_neg (by omega)])
      have hf := hi.blk.frozen 1
      have hwr : IntKind.i64.wrap (s.L - n) = s.L - n := by rw [IntKind.wrap_i64]; have := hok.size; have := hok.sum; have := hok.r0; omega
      have HSM := hide (show GS.ok H ⟨s.L - n, s.ss⟩ from ⟨hok.size, by show 0 ≤ s.L - n; omega, hok.r0, by have := hok.sum; show s.L - n + resvL s.ss ≤ H; omega, hok.seat, hok.few⟩)
      have HAD := hide (gadmit_is (hi.setL (s.L - n)) HSM.out)
      have HW := hide (Only.setCell (Only.refl (g :: v.ownBlock.toList) w) (p := ⟨g, 1, none⟩) (.int .i64 (s.L - n)) (by simp))
      clear hi hok
      go_enter Try.func16, Try.ntmps16
      go_wp2_with (first | (go_at_call 31; refine HCL.out.mono ?_; rintro e w' ⟨rfl, rfl⟩) | (go_at_call 33; refine HAD.out.mono ?_; rintro e w5 ⟨v5, rfl, hk5, hg5, ho5⟩; obtain ⟨A5, c5, rfl, _⟩ := hk5.form; have HK5 := hide hk5; have HG5 := hide hg5; have HO5 := hide ho5; clear hk5 hg5 ho5))
      go_ret2
      rw [HE.out]
      exact ⟨_, rfl, HK5.out.lower (by have := HW.out.size; omega), admitted HW.out (fun q hq => .inl hq) HG5.out HSM.out HO5.out⟩

/-- One that is there is so at one place. -/
theorem GS.ok.erase (h : s.ok H) (i : Nat) : GS.ok H ⟨s.L, s.ss.eraseIdx i⟩ := by
  have hs : ∀ x ∈ s.ss.eraseIdx i, x ∈ s.ss := fun x hx => List.mem_of_mem_eraseIdx hx
  have hp : 0 ≤ resvL (s.ss.eraseIdx i) := resvL_pos fun x hx => (h.seat x (hs x hx)).1
  refine ⟨h.size, h.l0, hp, ?_, fun x hx => h.seat x (hs x hx), Nat.le_trans (List.length_eraseIdx_le ..) h.few⟩
  have := h.sum
  show s.L + resvL (s.ss.eraseIdx i) ≤ H
  rcases Nat.lt_or_ge i s.ss.length with hi | hi
  · have e := resvL_split (List.getElem?_eq_getElem hi)
    have := (h.seat _ (List.getElem_mem hi)).1
    split at e <;> omega
  · rw [List.eraseIdx_of_length_le hi]
    exact this

set_option maxHeartbeats 1500000 in
set_option maxRecDepth 100000 in
theorem gLeave_is (h : Gt w g H s F) (id : Int) : Calls Try.prog 17 #[.pointer (some ⟨g, 0, none⟩), .int .i64 id] w fun e w' => DidL H (leaveF H s id) w g F e w' := by
  have HG := hide h
  obtain ⟨v, hi, hok, rfl⟩ := h
  have HCL := hide (gclosed_is hi)
  have HAT := hide (gat_is hi id)
  rcases atI_cases s.ss id with ⟨ha, hn⟩ | ⟨i, t, ht, hid, ha, _⟩
  · have HE := hide (show leaveF H s id = ([], 4, s) by unfold leaveF; rw [ha, if_pos (by omega)])
    rw [ha] at HAT
    clear hi hok hn ha
    go_enter Try.func17, Try.ntmps17
    go_wp2_with (first | (go_at_call 31; refine HCL.out.mono ?_; rintro e w' ⟨rfl, rfl⟩) | (go_at_call 32; refine HAT.out.mono ?_; rintro e w1 ⟨rfl, ho⟩; have HO := hide ho; clear ho))
    go_ret2
    rw [HE.out]
    exact ⟨_, rfl, KRow.nil _ _ _ _, HG.out.did HO.out⟩
  · have HE := hide (show leaveF H s id = ((admS H s.L (s.ss.eraseIdx i)).2, 0, ⟨s.L, (admS H s.L (s.ss.eraseIdx i)).1⟩) by unfold leaveF; rw [ha, if_neg (by omega), Int.toNat_natCast])
    rw [ha] at HAT
    have hlt : i < s.ss.length := (List.getElem?_eq_some_iff.1 ht).1
    obtain ⟨A, cap, hv, hA⟩ := hi.row.form
    subst hv
    obtain ⟨b, rfl, hbl⟩ := hA (by omega)
    have HI := hide hi
    have HSM := hide (hok.erase i)
    have hfw := hok.few
    have hle : (i : Int) + 1 ≤ 64 := by omega
    have HR := hide (resvL_split ht)
    have hsb := hok.seat t (List.mem_of_getElem? ht)
    have hrb : 0 ≤ resvL s.ss ∧ resvL s.ss ≤ 1073741824 ∧ 0 ≤ t.bound ∧ t.bound ≤ 1073741824 := by have := hok.size; have := hok.r0; have := hok.sum; have := hok.l0; omega
    have HT := hide ht
    have HFE := hide hfw
    have HST := hide (fun (w1 : World) (R : Int) (h1 : IsGt w1 g H s.L R (.slice (some ⟨b, 0, none⟩) s.ss.length cap) s.ss) (A' : Option Addr) (n' c' : Nat) (w2 : World) (hr : SRw w2 (.slice A' n' c') (s.ss.eraseIdx i)) (ho2 : Only (Value.slice (some ⟨b, 0, none⟩) s.ss.length cap).ownBlock.toList w1 w2) =>
      (show w2.cell? ⟨g, 3, none⟩ = some (.slice (some ⟨b, 0, none⟩) s.ss.length cap) ∧ w2.frozen? ⟨g, 3, none⟩ = false ∧ IsGt (w2.setCell ⟨g, 3, none⟩ (.slice A' n' c')) g H s.L R (.slice A' n' c') (s.ss.eraseIdx i) from by
        have hb : Blk w2 g 59 _ := h1.blk.only ho2 (fun hm => h1.far g (by simpa using hm) rfl)
        exact ⟨hb.cell 3, hb.frozen 3, h1.setV hr ho2 (Nat.le_trans (List.length_eraseIdx_le ..) hfw)⟩))
    have HDE := hide (fun (w1 : World) (R : Int) (h1 : IsGt w1 g H s.L R (.slice (some ⟨b, 0, none⟩) s.ss.length cap) s.ss) => deleteS_is h1.row hfw i hlt)
    clear hi hok ha hA hsb hid
    cases hw : t.waits with
    | true =>
      have HRE := hide (show resvL s.ss = resvL (s.ss.eraseIdx i) by have := HR.out; rw [this, if_pos hw]; omega)
      go_enter Try.func17, Try.ntmps17
      go_wp2_with (first | (go_at_call 31; refine HCL.out.mono ?_; rintro e w' ⟨rfl, rfl⟩) | (go_at_call 32; refine HAT.out.mono ?_; rintro e w1 ⟨rfl, ho⟩; have HO := hide ho; have hi1 := (HI.out.only ho (by simp) (by simp)); have k3 := hi1.blk.cell 3; obtain ⟨q0, q1, q2, q3⟩ := hi1.row.cell rfl rfl ht; rw [hw] at q3; rw [HRE.out] at hi1; have HI1 := hide hi1; clear ho hi1) | (go_at_call 34; refine (HDE.out _ _ HI1.out).mono ?_; rintro e w2 ⟨v2, rfl, hr2, hown2, ho2⟩; obtain ⟨A2, c2, rfl, _⟩ := hr2.form; obtain ⟨j1, j2, j3⟩ := HST.out _ _ HI1.out _ _ _ _ hr2 ho2; have HO2 := hide ho2; have HOW := hide hown2; have HAD := hide (gadmit_is j3 HSM.out); clear hr2 hown2 ho2 j3) | (go_at_call 33; refine HAD.out.mono ?_; rintro e w5 ⟨v5, rfl, hk5, hg5, ho5⟩; obtain ⟨A5, c5, rfl, _⟩ := hk5.form; have HK5 := hide hk5; have HG5 := hide hg5; have HO5 := hide ho5; clear hk5 hg5 ho5))
      go_ret2
      rw [HE.out]
      refine ⟨_, rfl, HK5.out.lower (by have := HO.out.size; have := HO2.out.size; simp [World.setCell]; omega), admitted (((HO.out.mono (by simp)).trans (HO2.out.mono (fun k _ hk => List.mem_cons_of_mem _ hk))).setCell (p := ⟨g, 3, none⟩) _ (by simp)) (fun q hq => .inl (by rw [← HOW.out]; exact hq)) HG5.out HSM.out HO5.out⟩
    | false =>
      have HRE := hide (show resvL s.ss - t.bound = resvL (s.ss.eraseIdx i) by have := HR.out; rw [this, hw]; simp; omega)
      have hwr : IntKind.i64.wrap (resvL s.ss - t.bound) = resvL s.ss - t.bound := by rw [IntKind.wrap_i64]; omega
      go_enter Try.func17, Try.ntmps17
      go_wp2_with (first | (go_at_call 31; refine HCL.out.mono ?_; rintro e w' ⟨rfl, rfl⟩) | (go_at_call 32; refine HAT.out.mono ?_; rintro e w1 ⟨rfl, ho⟩; have HO := hide ho; have hi1 := (HI.out.only ho (by simp) (by simp)); have k3 := hi1.blk.cell 3; obtain ⟨q0, q1, q2, q3⟩ := hi1.row.cell rfl rfl ht; rw [hw] at q3; have HI1 := hide hi1; clear ho hi1))
      have k2 := HI1.out.blk.cell 2
      have kf := HI1.out.blk.frozen 2
      clear q0 q2 q3
      go_region
      have HI2 := hide (show IsGt (w1.setCell ⟨g, 2, none⟩ (.int .i64 (resvL s.ss - t.bound))).drew g H s.L (resvL s.ss - t.bound) (.slice (some ⟨b, 0, none⟩) s.ss.length cap) s.ss from (HI1.out.setR _).drewN 1)
      have HOX := hide (show Only (g :: (Value.slice (some ⟨b, 0, none⟩) s.ss.length cap).ownBlock.toList) w (w1.setCell ⟨g, 2, none⟩ (.int .i64 (resvL s.ss - t.bound))).drew from ((HO.out.mono (by simp)).setCell (p := ⟨g, 2, none⟩) _ (by simp)).drew)
      clear HI1 HO k2 k3 kf q1
      revert HI2 HOX
      generalize (w1.setCell ⟨g, 2, none⟩ (.int .i64 (resvL s.ss - t.bound))).drew = wz
      rw [HRE.out]
      intro HI1 HO
      have k3 := HI1.out.blk.cell 3
      go_wp2_with (first | (go_at_call 34; refine (HDE.out _ _ HI1.out).mono ?_; rintro e w2 ⟨v2, rfl, hr2, hown2, ho2⟩; obtain ⟨A2, c2, rfl, _⟩ := hr2.form; obtain ⟨j1, j2, j3⟩ := HST.out _ _ HI1.out _ _ _ _ hr2 ho2; have HO2 := hide ho2; have HOW := hide hown2; have HAD := hide (gadmit_is j3 HSM.out); clear hr2 hown2 ho2 j3) | (go_at_call 33; refine HAD.out.mono ?_; rintro e w5 ⟨v5, rfl, hk5, hg5, ho5⟩; obtain ⟨A5, c5, rfl, _⟩ := hk5.form; have HK5 := hide hk5; have HG5 := hide hg5; have HO5 := hide ho5; clear hk5 hg5 ho5))
      go_ret2
      rw [HE.out]
      refine ⟨_, rfl, HK5.out.lower (by have := HO.out.size; have := HO2.out.size; simp [World.setCell]; omega), admitted ((HO.out.trans (HO2.out.mono (fun k _ hk => List.mem_cons_of_mem _ hk))).setCell (p := ⟨g, 3, none⟩) _ (by simp)) (fun q hq => .inl (by rw [← HOW.out]; exact hq)) HG5.out HSM.out HO5.out⟩
end
end Go.Proofs.Ytflgcnlncljefaa
