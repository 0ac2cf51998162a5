/-
  The walk of 'PhysOnce': it answers true, and turns nothing that was there.
-/
import Derived.Test.YtfkbgnoppigdnaaPhysLives
namespace Go.Proofs.Ytfkbgnoppigdnaa
open Go.ChangeShapes Go.WideShapes Go.ChangeAt Go.RowKit
set_option linter.unusedVariables false

theorem new_four (w : World) : Calls Try.prog 14 #[.int .i64 4] w fun e w' => ∃ g d xs, e = .returned (.tuple #[.pointer (some ⟨g, 0, none⟩), .int .i64 0]) ∧ w.heap.size ≤ g ∧ w.heap.size ≤ d ∧ IsMem w' g d 1024 xs [] ∧ Only [] w w' ∧ xs.length = 1024 ∧ U8 xs :=
  (new_ok 4 w (by decide) (by decide)).mono fun e w' ⟨g, d, he, hg, hd, hm, ho⟩ => ⟨g, d, _, he, hg, hd, hm, ho, by rw [List.length_replicate]; rfl, U8.replicate _⟩

set_option maxRecDepth 100000 in
set_option maxHeartbeats 1000000 in
theorem physOnce_bad (a old : Int) (A : Option Addr) (n c : Nat) (w : World) (hb : a < 0 ∨ 1024 < a + 4 ∨ a % 4 ≠ 0) :
    Calls Try.prog 5 #[.int .i64 a, .int .u32 old, .slice A n c] w fun e w' => e = .returned (.bool true) ∧ Below w.heap.size w w' := by
  have HB := hide hb
  clear hb
  go_enter Try.func5, Try.ntmps5
  go_wp2_with fail
  refine (lives_ok _).mono ?_
  rintro e w1 ⟨rfl, ho1⟩
  go_wp2_with fail
  refine (new_four _).mono ?_
  rintro e w2 ⟨g, d, xs, rfl, hg, hd, hm, ho, hl, hu⟩
  have HS := hide (store32_bad hm a old (by have := HB.out; omega))
  have HC := hide (cas_bad hm a old 1 (by have := HB.out; omega))
  have HO := hide (ho1.trans ho)
  clear hl hm hu ho ho1
  go_wp2_with (first | (go_at_call 17; refine HS.out.mono ?_; rintro e w' ⟨rfl, rfl⟩) | (go_at_call 25; refine HC.out.mono ?_; rintro e w' ⟨rfl, rfl⟩))
  go_ret
  exact ⟨rfl, HO.out.below (Nat.le_refl _) (by simp)⟩

/-- The loop: behind k rounds the memory's word at a is what 'now' says. -/
def OnceRel (a : Int) (n g d : Nat) (w : World) (now i : Value) (wr : World) : Prop :=
  ∃ (k : Nat) (m : Int) (ys : List Int), k ≤ n ∧ i = .int .i64 k ∧ now = .int .u32 m ∧ IsMem wr g d 1024 ys [] ∧ U8 ys ∧ ys.length = 1024 ∧ word ys a.toNat = m ∧ w.heap.size ≤ d ∧ Only [] w wr

set_option maxRecDepth 100000 in
set_option maxHeartbeats 1000000 in
theorem physOnce_good (a old : Int) (A : Option Addr) (n c : Nat) (zs : List Int) (w : World) (hr : IsRow .u32 w A n c zs) (h0 : 0 ≤ old) (h1 : old ≤ 4294967295) (ha : 0 ≤ a) (hb : a + 4 ≤ 1024) (h4 : a % 4 = 0) :
    Calls Try.prog 5 #[.int .i64 a, .int .u32 old, .slice A n c] w fun e w' => e = .returned (.bool true) ∧ Below w.heap.size w w' := by
  have HR := hide hr
  have HA := hide (And.intro ha (And.intro hb h4))
  have HN : n ≤ 9223372036854775807 := by
    rcases hr with ⟨_, h0, _⟩ | ⟨x, rfl, hl, hm, _⟩
    · omega
    · unfold maxLen at hm; omega
  clear hr hb h4
  go_enter Try.func5, Try.ntmps5
  go_wp2_with fail
  refine (lives_ok _).mono ?_
  rintro e w1 ⟨rfl, ho1⟩
  go_wp2_with fail
  refine (new_four _).mono ?_
  rintro e w2 ⟨g, d, xs, rfl, hg, hd, hm, ho, hl, hu⟩
  have HL := hide hl
  clear hl
  go_wp2_with fail
  refine (store32_ok hm a old ha (by rw [HL.out]; exact HA.out.2.1) HA.out.2.2 h0 h1).mono ?_
  rintro e w3 ⟨rfl, ho3, hm3⟩
  have hi : a.toNat + 4 ≤ xs.length := by rw [HL.out]; have := HA.out; omega
  have HO := hide ((ho1.trans ho).trans' ho3 (by intro k hk hk'; simp at hk'; have := ho1.size; omega))
  have HS := hide (show IsMem w3 g d 1024 (putw xs a.toNat old) [] ∧ U8 (putw xs a.toNat old) ∧ (putw xs a.toNat old).length = 1024 ∧ word (putw xs a.toNat old) a.toNat = old ∧ w.heap.size ≤ d from
    ⟨hm3, hu.putw _ h0 h1, (length_putw _ _ _).trans HL.out, word_putw _ _ _ hi h0 h1, by have := ho1.size; omega⟩)
  clear hm hm3 hu hi ho ho1 ho3
  go_wp2
  go_loopw [11, 12] (fun now i wr => OnceRel a n g d w now i wr) (fun _ i _ => n - (intOf i).toNat)
  case atStart => exact ⟨0, _, _, Nat.zero_le _, rfl, rfl, HS.out.1, HS.out.2.1, HS.out.2.2.1, HS.out.2.2.2.1, HS.out.2.2.2.2, HO.out⟩
  case round =>
    obtain ⟨k, m, ys, hk, rfl, rfl, hm, hu, hl, hw, hd2, hO⟩ := hrel
    have HL := hide hl
    have HW := hide hw
    have HO2 := hide hO
    clear hl hw hO HS HO
    by_cases hlt : k < n
    · obtain ⟨b, o, rfl, hb2, hnc, hcm, hz, hcell, hwf⟩ := HR.out.at_ (by omega)
      have hck := (HO2.out.cell hb2 (by simp)).trans (hcell k (by omega))
      have hbd := hwf k (by omega)
      have hx0 : 0 ≤ gb zs k ∧ gb zs k ≤ 4294967295 := by simpa [Lit.wf, IntKind.min, IntKind.max, IntKind.signed, IntKind.bits] using hbd
      have hal : a.toNat + 4 ≤ ys.length := by rw [HL.out]; have := HA.out; omega
      have hbr : b < wr.heap.size := Nat.lt_of_lt_of_le hb2 HO2.out.size
      have hbd2 : b ≠ d := by omega
      clear hcell hwf hbd hb2
      by_cases he : m = old
      · have HC := hide (cas_yes hm hu a old (gb zs k) ha (by rw [HL.out]; exact HA.out.2.1) HA.out.2.2 hx0.1 hx0.2 (HW.out.trans he))
        have e1 : (old != m) = false := by rw [bne_eq_false_iff_eq]; exact he.symm
        have e2 : (m == old) = true := beq_iff_eq.2 he
        have HN := hide (show (putw ys a.toNat (gb zs k)).length = 1024 ∧ U8 (putw ys a.toNat (gb zs k)) ∧ word (putw ys a.toNat (gb zs k)) a.toNat = gb zs k from ⟨(length_putw _ _ _).trans HL.out, hu.putw _ hx0.1 hx0.2, word_putw _ _ _ hal hx0.1 hx0.2⟩)
        have HO3 := hide (fun (w5 : World) (ho5 : Only [d] wr w5) => HO2.out.trans' ho5 (by intro k hk hk'; simp at hk'; omega))
        have HCL := hide (fun (w5 : World) (ho5 : Only [d] wr w5) => (ho5.cell (b := b) (o := o + k) (s := none) hbr (by simpa using hbd2)).trans hck)
        clear he hm hu hal
        go_wp2_with (go_at_call 25; refine HC.out.mono ?_; rintro e w5 ⟨rfl, ho5, hm5⟩; have hck5 := HCL.out _ ho5)
        go_roundw
        case rel => exact ⟨k + 1, _, _, hlt, by go_num, rfl, hm5, HN.out.2.1, HN.out.1, HN.out.2.2, hd2, HO3.out _ ho5⟩
        case measure => simp [intOf]; omega
      · have HC := hide (cas_no hm hu a old (gb zs k) ha (by rw [HL.out]; exact HA.out.2.1) HA.out.2.2 (by rw [HW.out]; exact he))
        rw [HW.out] at HC
        have e1 : (m != m) = false := by rw [bne_eq_false_iff_eq]
        have e2 : (m == old) = false := beq_eq_false_iff_ne.2 he
        have HM := hide hm
        have HU := hide hu
        clear he hm hu hal
        go_wp2_with (go_at_call 25; refine HC.out.mono ?_; rintro e w5 ⟨rfl, ho5⟩)
        go_roundw
        case rel => exact ⟨k + 1, m, ys, hlt, by go_num, rfl, HM.out.only ho5 (by simp) (by simp), HU.out, HL.out, HW.out, hd2, HO2.out.trans ho5⟩
        case measure => simp [intOf]; omega
    · have HF := hide (load32_ok hm hu a ha (by rw [HL.out]; exact HA.out.2.1) HA.out.2.2)
      rw [HW.out] at HF
      clear hm hu
      go_wp2_with (go_at_call 26; refine HF.out.mono ?_; rintro e w5 ⟨rfl, ho5⟩)
      go_ret
      exact ⟨rfl, (HO2.out.trans ho5).below (Nat.le_refl _) (by simp)⟩

theorem physOnce_walk (a old : Int) (A : Option Addr) (n c : Nat) (zs : List Int) (w : World) (w1 : (Lit.int .u32 old).wf = true) (hr : IsRow .u32 w A n c zs) :
    Calls Try.prog 5 #[.int .i64 a, .int .u32 old, .slice A n c] w fun e w' => e = .returned (.bool true) ∧ Below w.heap.size w w' := by
  have hx0 : 0 ≤ old ∧ old ≤ 4294967295 := by simpa [Lit.wf, IntKind.min, IntKind.max, IntKind.signed, IntKind.bits] using w1
  by_cases h : a < 0 ∨ 1024 < a + 4 ∨ a % 4 ≠ 0
  · exact physOnce_bad a old A n c w h
  · exact physOnce_good a old A n c zs w hr hx0.1 hx0.2 (by omega) (by omega) (by omega)
end Go.Proofs.Ytfkbgnoppigdnaa
