/-
  Sleepers (parapet/waitq): Sleep that is refused.
-/
import Derived.Test.YtokclkiidhcffaaWqSleep
namespace Go.Proofs.Ytokclkiidhcffaa
open Go.ChangeShapes Go.WideShapes Go.ChangeAt Go.RowKit Go.Maps
set_option linter.unusedVariables false
section
variable {w w' w1 : World} {g : Nat} {L1 : List (Int × List CH)} {L2 : List (CH × List Int)} {F : List Nat} {S : List Nat}
theorem wq_sleep_low (h : Wq w g L1 L2 F) {t : Int} (ht1 : t < 1) (A : Option Addr) (n c : Nat) :
    Calls Try.prog 13 #[.pointer (some ⟨g, 0, none⟩), .int .i64 t, .slice A n c] w fun e w' => e = .returned (.int .i64 1) ∧ Only [] w w' := by
  have HC := hide (wq_closed h)
  have z6 : decide (t < 1) = true := by simp; omega
  clear h
  go_enter Try.func13, Try.ntmps13
  go_wp2_with (go_at_call 20; refine HC.out.mono ?_; rintro e w' ⟨rfl, rfl⟩)
  go_ret
  exact ⟨rfl, Only.refl _ _⟩
theorem wq_sleep_none (h : Wq w g L1 L2 F) {t : Int} (ht1 : 1 ≤ t) (A : Option Addr) (c : Nat) :
    Calls Try.prog 13 #[.pointer (some ⟨g, 0, none⟩), .int .i64 t, .slice A 0 c] w fun e w' => e = .returned (.int .i64 1) ∧ Only [] w w' := by
  have HC := hide (wq_closed h)
  have z1 : ¬ t < 1 := by omega
  have z6 : decide (t < 1) = false := by simp; omega
  clear h
  go_enter Try.func13, Try.ntmps13
  go_wp2_with (go_at_call 20; refine HC.out.mono ?_; rintro e w' ⟨rfl, rfl⟩)
  go_ret
  exact ⟨rfl, Only.refl _ _⟩
theorem wq_sleep_many (h : Wq w g L1 L2 F) {t : Int} (ht1 : 1 ≤ t) (A : Option Addr) (n c : Nat) (hn : 16 < n) :
    Calls Try.prog 13 #[.pointer (some ⟨g, 0, none⟩), .int .i64 t, .slice A n c] w fun e w' => e = .returned (.int .i64 1) ∧ Only [] w w' := by
  have HC := hide (wq_closed h)
  have z1 : ¬ t < 1 := by omega
  have z6 : decide (t < 1) = false := by simp; omega
  have z2 : ((n : Int) == 0) = false := by simp only [beq_eq_false_iff_ne]; omega
  have z3 : (16 : Int) < n := by omega
  have z5 : decide ((16 : Int) < n) = true := by simp; omega
  clear h
  go_enter Try.func13, Try.ntmps13
  go_wp2_with (go_at_call 20; refine HC.out.mono ?_; rintro e w' ⟨rfl, rfl⟩)
  go_ret
  exact ⟨rfl, Only.refl _ _⟩
theorem wq_sleep_same (h : Wq w g L1 L2 F) {t : Int} (ht1 : 1 ≤ t) {v : Value} {l : List CH} (hv : ChansAt w v l) (hcap : ∀ A n c, v = .slice A n c → n ≤ c) (hl1 : 1 ≤ l.length) (hl16 : l.length ≤ 16) (hnd : ¬ l.Nodup) :
    Calls Try.prog 13 #[.pointer (some ⟨g, 0, none⟩), .int .i64 t, v] w fun e w' => e = .returned (.int .i64 1) ∧ Only [] w w' := by
  have HC := hide (wq_closed h)
  have HR := hide (repeats_is hv hcap (by omega))
  rw [show (!decide l.Nodup) = true by simp [hnd]] at HR
  obtain ⟨A, cap, rfl, hA⟩ := hv.parts
  have z1 : ¬ t < 1 := by omega
  have z2 : ((l.length : Int) == 0) = false := by simp only [beq_eq_false_iff_ne]; omega
  have z3 : ¬ (16 : Int) < l.length := by omega
  have z5 : decide ((16 : Int) < l.length) = false := by simp; omega
  have z6 : decide (t < 1) = false := by simp; omega
  clear h hv hcap hA hnd
  go_enter Try.func13, Try.ntmps13
  go_wp2_with (first | (go_at_call 20; refine HC.out.mono ?_; rintro e w' ⟨rfl, rfl⟩) | (go_at_call 32; refine HR.out.mono ?_; rintro e w1 ⟨rfl, ho⟩; have HO := hide ho; clear ho))
  go_ret
  exact ⟨rfl, HO.out⟩
/-- A thread that sleeps, or all that may. -/
theorem wq_sleep_full (h : Wq w g L1 L2 F) (hl : L1.length = 64) {t : Int} (ht1 : 1 ≤ t) (ht : iW t) (hn : t ∉ L1.map (·.1)) {v : Value} {l : List CH} (hv : ChansAt w v l) (hcap : ∀ A n c, v = .slice A n c → n ≤ c) (hl1 : 1 ≤ l.length) (hl16 : l.length ≤ 16) (hnd : l.Nodup) :
    Calls Try.prog 13 #[.pointer (some ⟨g, 0, none⟩), .int .i64 t, v] w fun e w' => e = .returned (.int .i64 2) ∧ Only [] w w' := by
  have HC := hide (wq_closed h)
  have HR := hide (repeats_is hv hcap (by omega))
  rw [show (!decide l.Nodup) = false by simp [hnd]] at HR
  obtain ⟨m1, hm, _⟩ := wq_on_map h ht hn (by rw [hl]; decide)
  have HM := hide hm
  obtain ⟨A, cap, rfl, hA⟩ := hv.parts
  have z1 : ¬ t < 1 := by omega
  have z2 : ((l.length : Int) == 0) = false := by simp only [beq_eq_false_iff_ne]; omega
  have z3 : ¬ (16 : Int) < l.length := by omega
  have z4 : ((L1.length : Int) == 64) = true := by rw [hl]; rfl
  have z5 : decide ((16 : Int) < l.length) = false := by simp; omega
  have z6 : decide (t < 1) = false := by simp; omega
  clear h hv hcap hA hnd hm hl
  go_enter Try.func13, Try.ntmps13
  go_wp2_with (first | (go_at_call 20; refine HC.out.mono ?_; rintro e w' ⟨rfl, rfl⟩) | (go_at_call 32; refine HR.out.mono ?_; rintro e w1 ⟨rfl, ho⟩; obtain ⟨x1, x2, x3⟩ := HM.out w1 ho; have HO := hide ho; clear ho))
  go_ret
  exact ⟨rfl, HO.out⟩
theorem wq_on_yes (h : Wq w g L1 L2 F) {t : Int} (hn : t ∈ L1.map (·.1)) : ∃ m1 A n c, 0 < n ∧ ∀ W, Only [] w W → W.cell? ⟨g, 0, none⟩ = some (.map (some m1)) ∧ (Instr.lookup 51 (.map (some m1)) (.int .i64 t) false).run Try.prog W = .ok (.slice A n c) W := by
  obtain ⟨m1, m2, R1, R2, h, rfl, rfl, rfl⟩ := h
  rw [viewE_keys] at hn
  obtain ⟨e, he, rfl⟩ := List.mem_map.1 hn
  obtain ⟨b, cap, cur, e1, _⟩ := (h.on.row e he).blk (List.length_pos_iff.2 (h.on.ne e he))
  refine ⟨m1, some ⟨e.s.b, 0, none⟩, e.s.n, e.s.c, ?_, fun W hw => ⟨(h.quiet hw).c0, (h.quiet hw).look1 he⟩⟩
  simp only [svO, Value.slice.injEq] at e1
  rw [e1.2.1]
  exact List.length_pos_iff.2 (h.on.ne e he)
theorem wq_sleep_twice (h : Wq w g L1 L2 F) {t : Int} (ht1 : 1 ≤ t) (hn : t ∈ L1.map (·.1)) {v : Value} {l : List CH} (hv : ChansAt w v l) (hcap : ∀ A n c, v = .slice A n c → n ≤ c) (hl1 : 1 ≤ l.length) (hl16 : l.length ≤ 16) (hnd : l.Nodup) :
    Calls Try.prog 13 #[.pointer (some ⟨g, 0, none⟩), .int .i64 t, v] w fun e w' => e = .returned (.int .i64 101) ∧ Only [] w w' := by
  have HC := hide (wq_closed h)
  have HR := hide (repeats_is hv hcap (by omega))
  rw [show (!decide l.Nodup) = false by simp [hnd]] at HR
  obtain ⟨m1, A0, n0, c0, hp, hm⟩ := wq_on_yes h hn
  have HM := hide hm
  obtain ⟨A, cap, rfl, hA⟩ := hv.parts
  have z1 : ¬ t < 1 := by omega
  have z2 : ((l.length : Int) == 0) = false := by simp only [beq_eq_false_iff_ne]; omega
  have z3 : ¬ (16 : Int) < l.length := by omega
  have z4 : (0 : Int) < n0 := by omega
  have z5 : decide ((16 : Int) < l.length) = false := by simp; omega
  have z6 : decide (t < 1) = false := by simp; omega
  clear h hv hcap hA hnd hm hn
  go_enter Try.func13, Try.ntmps13
  go_wp2_with (first | (go_at_call 20; refine HC.out.mono ?_; rintro e w' ⟨rfl, rfl⟩) | (go_at_call 32; refine HR.out.mono ?_; rintro e w1 ⟨rfl, ho⟩; obtain ⟨x1, x2⟩ := HM.out w1 ho; have HO := hide ho; clear ho))
  go_ret
  exact ⟨rfl, HO.out⟩
end
end Go.Proofs.Ytokclkiidhcffaa
