/-
  The pipe (parapet/pipe): put, Write, Open, Close.
-/
import Derived.Test.YteljjngmhldfbaaPiRead
namespace Go.Proofs.Yteljjngmhldfbaa
open Go.ChangeShapes Go.WideShapes Go.ChangeAt Go.RowKit
set_option linter.unusedVariables false
section
variable {w w' : World} {g f : Nat} {R B : List Int} {r q : Int} {S : List Nat}
theorem IsPi.lay {R' xs : List Int} {c : Int} (h : Blk w g 60 (pipeC R' f B.length r q).toArray) (hR : R'.length = 512) (hc : c = ((B.length + xs.length : Nat) : Int)) :
    Blk (w.setCell ⟨g, 514, none⟩ (.int .i64 c)) g 60 (pipeC R' f (B.length + xs.length) r q).toArray := by
  subst hc
  have h2 := h.set_ 514 (.int .i64 ((B.length + xs.length : Nat) : Int))
  rw [pipeC_set hR 1] at h2
  exact h2
set_option maxRecDepth 100000 in
theorem piput_is (h : IsPi w g R f B r q) {A : Option Addr} {m c : Nat} {xs : List Int} (hm : 1 ≤ m) (hs : Sees w A m xs) (hne : ∀ ad, A = some ad → ad.block ≠ g) (hu : U8 xs) (hroom : B.length + m ≤ 512) (hcap : m ≤ c) : Calls Try.prog 43 #[.pointer (some ⟨g, 0, none⟩), .slice A m c] w fun e w' => e = .returned (.tuple #[]) ∧ Only [g] w w' ∧ Pi w' g (B ++ xs) r q := by
  have hxl := hs.1
  obtain ⟨b, o, rfl, hb, hcc⟩ := hs.2 (by omega)
  have hbg : b ≠ g := hne _ rfl
  have hfew := h.ring.few
  have hat := h.ring.at_
  have hrl := h.ring.len
  have hlt := h.blk.lt
  have H := hide h
  have c1 := h.c513
  have c2 := h.c514
  obtain ⟨s, hs1⟩ : ∃ s, s = (f + B.length) % 512 := ⟨_, rfl⟩
  obtain ⟨k, hk⟩ : ∃ k, k = min m (512 - s) := ⟨_, rfl⟩
  have hsI : ((f : Int) + B.length) % 512 = s := by omega
  have hsI2 : ((f : Int) + B.length).tmod 512 = s := by rw [Int.tmod_eq_emod_of_nonneg (by omega)]; omega
  have hs0 : (s : Int) ≤ 512 := by omega
  have hs3 : ¬ 512 = s := by omega
  have hkm : k ≤ m := by omega
  have hkI : (k : Int) ≤ m := by omega
  have HB0 := hide (fun W (hW : Only [] w W) => h.blk.only hW (by simp))
  have HS1 := hide (fun W (hW : Only [g] w W) => (show Sees W (some ⟨b, o, none⟩) k (xs.take k) from
    ⟨by rw [List.length_take]; omega, fun _ => ⟨b, o, rfl, Nat.lt_of_lt_of_le hb hW.size, fun i hi => by
      rw [hW.cell hb (by simpa using hbg), gb_take hi]
      exact hcc i (by omega)⟩⟩))
  have HS2 := hide (fun W (hW : Only [g] w W) => (show Sees W (some ⟨b, o + k, none⟩) (m - k) (xs.drop k) from
    ⟨by rw [List.length_drop]; omega, fun _ => ⟨b, o + k, rfl, Nat.lt_of_lt_of_le hb hW.size, fun i hi => by
      rw [hW.cell hb (by simpa using hbg), gb_drop, Nat.add_assoc]
      exact hcc _ (by omega)⟩⟩))
  have HL1 := hide (show (xs.take k).length = k by rw [List.length_take]; omega)
  have HL2 := hide (show (xs.drop k).length = m - k by rw [List.length_drop]; omega)
  have HN1 := hide (show k = Nat.min m (512 - s) from hk)
  have HN2 := hide (show m - k = Nat.min (m - k) 512 by show m - k = min (m - k) 512; omega)
  have HF1 := hide (show (1 + s) + k ≤ (pipeC R f B.length r q).length by rw [pipeC_length hrl]; omega)
  have HF2 := hide (show 1 + (m - k) ≤ (pipeC (Go.splice R s (xs.take k)) f B.length r q).length by
    rw [pipeC_length (by rw [length_splice _ _ _ (by rw [HL1.out]; omega)]; exact hrl)]; omega)
  have HY1 := hide (pipeC_lay (f := f) (c := B.length) (r := r) (q := q) hrl s (xs.take k) (by rw [HL1.out]; omega))
  have HY2 := hide (pipeC_lay (R := Go.splice R s (xs.take k)) (f := f) (c := B.length) (r := r) (q := q) (by rw [length_splice _ _ _ (by rw [HL1.out]; omega)]; exact hrl) 0 (xs.drop k) (by rw [HL2.out]; omega))
  have HR := hide (show Ring (Go.splice (Go.splice R s (xs.take k)) 0 (xs.drop k)) f (B ++ xs) by
    have := h.ring.put hu (by rw [hxl]; exact hroom)
    rw [hxl, ← hs1, ← hk] at this
    exact this)
  obtain ⟨A, hA⟩ : ∃ A : Option Addr, (if c = k then some (⟨b, o, none⟩ : Addr) else some ⟨b, o + k, none⟩) = A := ⟨_, rfl⟩
  have HA := hide (show 0 < m - k → A = some ⟨b, o + k, none⟩ by intro h; rw [← hA, if_neg (by omega)])
  have hcapI : (m : Int) ≤ c := by omega
  clear hs1 hk hs hcc h
  go_enter Try.func43, Try.ntmps43
  go_wp2
  go_region
  go_wp2_with (refine wpList_copy_u8 rfl _ _ rfl (some ⟨g, 1 + s, none⟩) (some ⟨b, o, none⟩) (512 - s) (512 - s) m c rfl rfl g (1 + s) 60 _ (HB0.out _ (by repeat (first | exact Only.refl _ _ | apply Only.drew | apply Only.drewN))) (xs.take k) k HL1.out HN1.out (fun _ => ⟨rfl, HS1.out _ (by repeat (first | exact Only.refl _ _ | apply Only.drew | apply Only.drewN))⟩) HF1.out ?_; intro w2 hb2 ho2; have HB2 := hide hb2.out; have HO2 := hide ho2; clear hb2 ho2)
  rw [HY1.out] at HB2
  have HO3 := hide (show Only [g] w w2 from (show Only [g] w _ by repeat (first | exact HO2.out | exact Only.refl _ _ | apply Only.drew | apply Only.drewN)).trans HO2.out)
  go_region_law (refine step_copy_u8 rfl _ _ rfl (some ⟨g, 1, none⟩) A 512 512 (m - k) (c - k) (by simp [Act.eval, Act.put]) (by simp [Act.eval, Act.put]) g 1 60 _ HB2.out (xs.drop k) (m - k) HL2.out HN2.out (fun hp => ⟨rfl, by rw [HA.out hp]; exact HS2.out _ (HO3.out.trans (by repeat (first | exact Only.refl _ _ | apply Only.drew)))⟩) HF2.out ?_; intro w3 hb3 ho3)
  have HB3 := hide (show Blk w3 g 60 (pipeC (Go.splice (Go.splice R s (xs.take k)) 0 (xs.drop k)) f B.length r q).toArray by rw [← HY2.out]; exact hb3.out)
  have HO4 := hide (show Only [g] w w3 from (show Only [g] w w2.drew from HO3.out.drew).trans ho3)
  have hrl3 : (Go.splice (Go.splice R s (xs.take k)) 0 (xs.drop k)).length = 512 := HR.out.len
  have c3 : w3.cell? ⟨g, 514, none⟩ = some (.int .i64 (B.length : Nat)) := by rw [HB3.out.cell]; exact pipeC_far hrl3 1
  have f3 := HB3.out.frozen 514
  have HRL := hide hrl3
  clear hb3 ho3 hrl3 hA c1 c2
  go_wp2
  go_end0
  refine ⟨rfl, HO4.out.setCell _ (by simp), _, f, ?_, HR.out, H.out.rd, H.out.wr⟩
  have := IsPi.lay (xs := xs) (c := (B.length : Int) + m) HB3.out HRL.out (by omega)
  rw [List.length_append]
  exact this
/-- What a write tells, and what it leaves. -/
def writeP (B : List Int) (r : Int) (xs : List Int) : Int × Int × List Int :=
  if r = 0 then (0, 210, B) else if xs = [] then (0, 0, B) else if B.length = 512 then (0, 211, B) else (((min xs.length (512 - B.length) : Nat) : Int), 0, B ++ xs.take (min xs.length (512 - B.length)))
set_option maxRecDepth 100000 in
theorem piWrite_is (h : Pi w g B r q) {A : Option Addr} {m c : Nat} {xs : List Int} (hs : Sees w A m xs) (hne : 0 < m → ∀ ad, A = some ad → ad.block ≠ g) (hu : U8 xs) (hcap : m ≤ c) (hm : m ≤ 9223372036854775807) :
    Calls Try.prog 16 #[.pointer (some ⟨g, 0, none⟩), .slice A m c] w fun e w' => e = .returned (.tuple #[.int .i64 (writeP B r xs).1, .int .i64 (writeP B r xs).2.1]) ∧ Only [g] w w' ∧ Pi w' g (writeP B r xs).2.2 r q := by
  have HP := hide h
  obtain ⟨R, f, h⟩ := h
  have hfew := h.ring.few
  have c3 := h.c514
  have c4 := h.c515
  have hxl := hs.1
  have HC := hide (piclosed_is h)
  by_cases k1 : r = 0
  · have HR := hide (show writeP B r xs = (0, 210, B) by simp [writeP, k1])
    have k1b : (r == 0) = true := by simp [k1]
    clear k1 h hs
    go_enter Try.func16, Try.ntmps16
    go_wp2_with (go_at_call 40; refine HC.out.mono ?_; rintro e w' ⟨rfl, rfl⟩)
    go_ret2
    rw [HR.out]
    exact ⟨rfl, Only.refl _ _, HP.out⟩
  · have k1b : (r == 0) = false := by simp [k1]
    by_cases k2 : xs = []
    · have HR := hide (show writeP B r xs = (0, 0, B) by simp [writeP, k1, k2])
      obtain rfl : m = 0 := by rw [← hxl, k2]; rfl
      clear k1 k2 h hs hxl
      go_enter Try.func16, Try.ntmps16
      go_wp2_with (go_at_call 40; refine HC.out.mono ?_; rintro e w' ⟨rfl, rfl⟩)
      go_ret2
      rw [HR.out]
      exact ⟨rfl, Only.refl _ _, HP.out⟩
    · have hpos : 0 < m := by rw [← hxl]; exact List.length_pos_iff.2 k2
      have k2b : ((m : Int) == 0) = false := by simp; omega
      by_cases k3 : B.length = 512
      · have HR := hide (show writeP B r xs = (0, 211, B) by simp [writeP, k1, k2, k3])
        have k3b : ((B.length : Int) == 512) = true := by simp; omega
        clear k1 k2 k3 h hs hxl
        go_enter Try.func16, Try.ntmps16
        go_wp2_with (go_at_call 40; refine HC.out.mono ?_; rintro e w' ⟨rfl, rfl⟩)
        go_ret2
        rw [HR.out]
        exact ⟨rfl, Only.refl _ _, HP.out⟩
      · have HR := hide (fun (n : Nat) (hn : n = min m (512 - B.length)) => show writeP B r xs = ((n : Int), 0, B ++ xs.take n) by simp only [writeP, k1, k2, k3, if_false, hxl, ← hn])
        have k3b : ((B.length : Int) == 512) = false := by simp; omega
        have HT := hide (fun (n : Nat) (hn : n = min m (512 - B.length)) => piput_is (A := A) (m := n) (c := c) (xs := xs.take n) h (by omega) ⟨by rw [List.length_take]; omega, fun h0 => by
          obtain ⟨b, o, e, hb, hc⟩ := hs.2 hpos
          exact ⟨b, o, e, hb, fun i hi => by rw [gb_take hi]; exact hc i (by omega)⟩⟩ (hne hpos) (hu.take _) (by omega) (by omega))
        have hc1 : (512 - (B.length : Int)) ≤ 512 := by omega
        have hB : B.length < 512 := by omega
        clear k1 k2 k3 h hs hxl
        by_cases hmin : m ≤ 512 - B.length
        · have hmI : ¬ 512 - (B.length : Int) < m := by omega
          have HN := hide (show m = min m (512 - B.length) by omega)
          have hmc : (m : Int) ≤ c := by omega
          clear hmin
          go_enter Try.func16, Try.ntmps16
          go_wp2_with (go_at_call 40; refine HC.out.mono ?_; rintro e w' ⟨rfl, rfl⟩)
          refine (HT.out m HN.out).mono ?_
          rintro e w5 ⟨rfl, ho5, hp5⟩
          have HO := hide ho5
          have HQ := hide hp5
          clear ho5 hp5
          go_wp2
          go_ret2
          rw [HR.out m HN.out]
          exact ⟨rfl, HO.out, HQ.out⟩
        · have hmI : 512 - (B.length : Int) < m := by omega
          have HN := hide (show 512 - B.length = min m (512 - B.length) by omega)
          have HE := hide (show ((512 - B.length : Nat) : Int) = 512 - (B.length : Int) by omega)
          have hmc : 512 - (B.length : Int) ≤ c := by omega
          clear hmin
          go_enter Try.func16, Try.ntmps16
          go_wp2_with (go_at_call 40; refine HC.out.mono ?_; rintro e w' ⟨rfl, rfl⟩)
          refine (HT.out (512 - B.length) HN.out).mono ?_
          rintro e w5 ⟨rfl, ho5, hp5⟩
          have HO := hide ho5
          have HQ := hide hp5
          clear ho5 hp5
          go_wp2
          go_ret2
          rw [HR.out (512 - B.length) HN.out, HE.out]
          exact ⟨rfl, HO.out, HQ.out⟩
end
end Go.Proofs.Yteljjngmhldfbaa
