/-
  Open files (parapet/fdtab): tables: Get, Install, Dup, Close.
-/
import Derived.Test.YtfplfpfnlffnjaaFdTab
namespace Go.Proofs.Ytfplfpfnlffnjaa
open Go.ChangeShapes Go.WideShapes Go.ChangeAt Go.RowKit Go.Maps
set_option linter.unusedVariables false
set_option linter.unusedSimpArgs false
section
variable {w w' w1 : World} {t f m : Nat} {O : List (Int × F5)} {T : List Int} {S : List Nat} {k : Int} {x : F5}
theorem IsTa.tf (h : IsTa w t f T) (hf : IsFi w f m O) : t ≠ f ∧ t ≠ m := by
  obtain ⟨D, d1, d2⟩ := hf.own
  exact ⟨h.blk.ne_ hf.blk (by decide), (ownsMap_ne d1 h.blk).symm⟩
theorem tget_bad (h : IsTa w t f T) {a : Int} (ha : a < 0 ∨ 16 ≤ a) : Calls Try.prog 15 #[.pointer (some ⟨t, 0, none⟩), .int .i64 a] w fun e w' => e = .returned (.tuple #[.int .i64 0, .int .i64 220]) ∧ w = w' := by
  have HC := hide (tbclosed_is h)
  clear h
  rcases ha with ha | ha
  · go_enter Try.func15, Try.ntmps15
    go_wp2_with (go_at_call 37; refine HC.out.mono ?_; rintro e w' ⟨rfl, rfl⟩)
    go_ret2
    exact ⟨rfl, rfl⟩
  · have h1 : ¬ a < 0 := by omega
    go_enter Try.func15, Try.ntmps15
    go_wp2_with (go_at_call 37; refine HC.out.mono ?_; rintro e w' ⟨rfl, rfl⟩)
    go_ret2
    exact ⟨rfl, rfl⟩
theorem tget_free (h : IsTa w t f T) {i : Nat} (hi : i < 16) (hg : gb T i = -1) : Calls Try.prog 15 #[.pointer (some ⟨t, 0, none⟩), .int .i64 i] w fun e w' => e = .returned (.tuple #[.int .i64 0, .int .i64 220]) ∧ w = w' := by
  have HC := hide (tbclosed_is h)
  have ci := h.ci hi
  rw [hg] at ci
  have h1 : ¬ (i : Int) < 0 := by omega
  have h2 : ¬ (16 : Int) ≤ i := by omega
  have h3 : (i : Int) < 16 := by omega
  clear h
  go_enter Try.func15, Try.ntmps15
  go_wp2_with (go_at_call 37; refine HC.out.mono ?_; rintro e w' ⟨rfl, rfl⟩)
  go_ret2
  exact ⟨rfl, rfl⟩
theorem tget_ok (h : IsTa w t f T) {i : Nat} (hi : i < 16) (hg : gb T i ≠ -1) : Calls Try.prog 15 #[.pointer (some ⟨t, 0, none⟩), .int .i64 i] w fun e w' => e = .returned (.tuple #[.int .i64 (gb T i), .int .i64 0]) ∧ w = w' := by
  have HC := hide (tbclosed_is h)
  have ci := h.ci hi
  have h1 : ¬ (i : Int) < 0 := by omega
  have h2 : ¬ (16 : Int) ≤ i := by omega
  have h3 : (i : Int) < 16 := by omega
  have h4 : (gb T i == -1) = false := by simp only [beq_eq_false_iff_ne]; exact hg
  clear h
  generalize gb T i = y at *
  go_enter Try.func15, Try.ntmps15
  go_wp2_with (go_at_call 37; refine HC.out.mono ?_; rintro e w' ⟨rfl, rfl⟩)
  go_ret2
  exact ⟨rfl, rfl⟩
theorem install_none (h : IsTa w t f T) (hf : IsFi w f m O) (hk : iW k) (hn : k ∉ O.map (·.1)) : Calls Try.prog 11 #[.pointer (some ⟨t, 0, none⟩), .int .i64 k] w fun e w' => e = .returned (.tuple #[.int .i64 0, .int .i64 221]) ∧ Only [] w w' := by
  have HC := hide (tbclosed_is h)
  have HH := hide (fdhas_is hf hk)
  rw [show hasB O k = false from decide_eq_false hn] at HH
  have c0 := h.c0
  clear h hf hn hk
  go_enter Try.func11, Try.ntmps11
  go_wp2_with (first | (go_at_call 37; refine HC.out.mono ?_; rintro e w' ⟨rfl, rfl⟩) | (go_at_call 40; refine HH.out.mono ?_; rintro e w' ⟨rfl, ho⟩; have HO := hide ho; clear ho))
  go_ret2
  exact ⟨rfl, HO.out⟩
theorem install_full (h : IsTa w t f T) (hf : IsFi w f m O) (hk : iW k) (hn : k ∈ O.map (·.1)) (hF : freeT T = -1) : Calls Try.prog 11 #[.pointer (some ⟨t, 0, none⟩), .int .i64 k] w fun e w' => e = .returned (.tuple #[.int .i64 0, .int .i64 2]) ∧ Only [] w w' := by
  have HC := hide (tbclosed_is h)
  have HH := hide (fdhas_is hf hk)
  rw [show hasB O k = true from decide_eq_true hn] at HH
  have HX := hide (fun W (ho : Only [] w W) => index_is (h.quiet ho))
  rw [hF] at HX
  have c0 := h.c0
  clear h hf hn hk
  go_enter Try.func11, Try.ntmps11
  go_wp2_with (first | (go_at_call 37; refine HC.out.mono ?_; rintro e w' ⟨rfl, rfl⟩) | (go_at_call 40; refine HH.out.mono ?_; rintro e w' ⟨rfl, ho⟩; have HO := hide ho; clear ho) | (go_at_call 41; refine (HX.out _ HO.out).mono ?_; rintro e w' ⟨rfl, rfl⟩))
  go_ret2
  exact ⟨rfl, HO.out⟩
theorem install_ok (h : IsTa w t f T) (hf : IsFi w f m O) (hk : iW k) (hn : k ∈ O.map (·.1)) {i : Nat} (hi : i < 16) (hF : freeT T = i) : Calls Try.prog 11 #[.pointer (some ⟨t, 0, none⟩), .int .i64 k] w fun e w' => e = .returned (.tuple #[.int .i64 i, .int .i64 0]) ∧ IsTa w' t f (T.set i k) ∧ Only [t] w w' := by
  have HC := hide (tbclosed_is h)
  have HH := hide (fdhas_is hf hk)
  rw [show hasB O k = true from decide_eq_true hn] at HH
  have HX := hide (fun W (ho : Only [] w W) => index_is (h.quiet ho))
  rw [hF] at HX
  have c0 := h.c0
  have hkr : -1 ≤ k ∧ k < 64 := by
    obtain ⟨p, hp, e⟩ := List.mem_map.1 hn
    have := hf.ids p hp
    omega
  have HW := hide (show ∀ W, Only [] w W → W.cell? ⟨t, 1 + i, none⟩ = some (.int .i64 (gb T i)) ∧ W.frozen? ⟨t, 1 + i, none⟩ = false ∧ IsTa (W.setCell ⟨t, 1 + i, none⟩ (.int .i64 k)) t f (T.set i k) ∧ Only [t] w (W.setCell ⟨t, 1 + i, none⟩ (.int .i64 k)) from fun W ho =>
    ⟨(h.quiet ho).ci hi, (h.quiet ho).fr _, (h.quiet ho).set i hkr, (ho.mono (by simp)).setCell _ (by simp)⟩)
  have h1 : ¬ (i : Int) < 0 := by omega
  have h3 : (i : Int) < 16 := by omega
  clear h hf hn hk
  go_enter Try.func11, Try.ntmps11
  go_wp2_with (first | (go_at_call 37; refine HC.out.mono ?_; rintro e w' ⟨rfl, rfl⟩) | (go_at_call 40; refine HH.out.mono ?_; rintro e w' ⟨rfl, ho⟩; obtain ⟨k1, k2, k3, k4⟩ := HW.out _ ho; have HO := hide ho; have HK := hide (And.intro k3 k4); clear ho k3 k4) | (go_at_call 41; refine (HX.out _ HO.out).mono ?_; rintro e w' ⟨rfl, rfl⟩))
  go_ret2
  exact ⟨rfl, HK.out.1, HK.out.2⟩
end
end Go.Proofs.Ytfplfpfnlffnjaa
