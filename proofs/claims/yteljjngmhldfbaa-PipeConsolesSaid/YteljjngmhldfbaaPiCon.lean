/-
  The console (parapet/pipe): what it holds; New, and the calls that only look.
-/
import Derived.Test.YteljjngmhldfbaaPiOpen
import Derived.Test.YteljjngmhldfbaaKRow
namespace Go.Proofs.Yteljjngmhldfbaa
open Go.ChangeShapes Go.WideShapes Go.ChangeAt Go.RowKit
set_option linter.unusedVariables false
set_option linter.unusedSimpArgs false

abbrev BRow (w : World) (B : Nat) (v : Value) (ns : List Int) : Prop := KRow .u8 5 w B v ns
/-- A console in block g: what waits lies in v1, what was written in v2; no two blocks are one, and none lies below B. -/
structure IsCo (w : World) (g B : Nat) (v1 v2 : Value) (I : List Int) (en : Bool) (O : List Int) : Prop where
  blk : Blk w g 65 #[.bool true, v1, .bool en, v2]
  in_ : BRow w B v1 I
  out : BRow w B v2 O
  apart : ∀ q, v1.ownBlock = some q → v2.ownBlock ≠ some q
  few : I.length ≤ 65536 ∧ O.length ≤ 1048576
  u8 : U8 I ∧ U8 O
section
variable {w w' : World} {g B : Nat} {v1 v2 : Value} {I O : List Int} {en : Bool} {S : List Nat}
theorem IsCo.c0 (h : IsCo w g B v1 v2 I en O) : w.cell? ⟨g, 0, none⟩ = some (.bool true) := h.blk.cell 0
theorem IsCo.c1 (h : IsCo w g B v1 v2 I en O) : w.cell? ⟨g, 1, none⟩ = some v1 := h.blk.cell 1
theorem IsCo.c2 (h : IsCo w g B v1 v2 I en O) : w.cell? ⟨g, 2, none⟩ = some (.bool en) := h.blk.cell 2
theorem IsCo.c3 (h : IsCo w g B v1 v2 I en O) : w.cell? ⟨g, 3, none⟩ = some v2 := h.blk.cell 3
/-- The console's blocks. -/
def coF (g : Nat) (v1 v2 : Value) : List Nat := g :: (v1.ownBlock.toList ++ v2.ownBlock.toList)
theorem IsCo.only (h : IsCo w g B v1 v2 I en O) (ho : Only S w w') (hs : ∀ q ∈ coF g v1 v2, q ∉ S) : IsCo w' g B v1 v2 I en O :=
  ⟨h.blk.only ho (hs _ (by simp [coF])), h.in_.only ho (fun q hq => hs _ (by simp [coF, hq])), h.out.only ho (fun q hq => hs _ (by simp [coF, hq])), h.apart, h.few, h.u8⟩
theorem IsCo.quiet (h : IsCo w g B v1 v2 I en O) (ho : Only [] w w') : IsCo w' g B v1 v2 I en O := h.only ho (by simp)
theorem coNew_is (w : World) : Calls Try.prog 13 #[] w fun e w' => e = .returned (.pointer (some ⟨w.heap.size, 0, none⟩)) ∧ Only [] w w' ∧ IsCo w' w.heap.size w.heap.size (.slice none 0 0) (.slice none 0 0) [] false [] := by
  have HF := hide (show IsCo (w.alloc (.cells #[.bool true, .slice none 0 0, .bool false, .slice none 0 0] 65)) w.heap.size w.heap.size (.slice none 0 0) (.slice none 0 0) [] false [] from
    ⟨Blk.new w 65 _, KRow.nil _ _ _ _, KRow.nil _ _ _ _, (fun q h => by simp [Value.ownBlock] at h), ⟨Nat.zero_le _, Nat.zero_le _⟩, (fun x hx => absurd hx (by simp)), (fun x hx => absurd hx (by simp))⟩)
  have HO := hide ((Only.refl [] w).alloc (.cells #[.bool true, .slice none 0 0, .bool false, .slice none 0 0] 65))
  go_enter Try.func13, Try.ntmps13
  go_wp2
  go_ret
  exact ⟨rfl, HO.out, HF.out⟩
theorem coclosed_is (h : IsCo w g B v1 v2 I en O) : Calls Try.prog 45 #[.pointer (some ⟨g, 0, none⟩)] w fun e w' => e = .returned (.bool false) ∧ w = w' := by
  have c0 := h.c0
  clear h
  go_enter Try.func45, Try.ntmps45
  go_wp2
  go_ret
  exact ⟨rfl, rfl⟩
theorem coWaiting_is (h : IsCo w g B v1 v2 I en O) : Calls Try.prog 29 #[.pointer (some ⟨g, 0, none⟩)] w fun e w' => e = .returned (.int .i64 (I.length : Nat)) ∧ w = w' := by
  obtain ⟨A, c, rfl, -⟩ := h.in_.form
  have c1 := h.c1
  have HC := hide (coclosed_is h)
  clear h
  go_enter Try.func29, Try.ntmps29
  go_wp2_with (go_at_call 45; refine HC.out.mono ?_; rintro e w' ⟨rfl, rfl⟩)
  go_ret
  exact ⟨rfl, rfl⟩
theorem coReady_is (h : IsCo w g B v1 v2 I en O) (b : Bool) : Calls Try.prog 27 #[.pointer (some ⟨g, 0, none⟩), .bool b] w fun e w' => e = .returned (.bool (b || decide (0 < I.length) || en)) ∧ w = w' := by
  obtain ⟨A, c, rfl, -⟩ := h.in_.form
  have c1 := h.c1
  have c2 := h.c2
  have HC := hide (coclosed_is h)
  clear h
  cases b
  · by_cases h1 : 0 < I.length
    · have k1 : decide (0 < I.length) = true := decide_eq_true h1
      have k2 : decide ((0 : Int) < I.length) = true := decide_eq_true (by omega)
      have HK := hide k1
      clear h1
      go_enter Try.func27, Try.ntmps27
      go_wp2_with (go_at_call 45; refine HC.out.mono ?_; rintro e w' ⟨rfl, rfl⟩)
      go_ret
      exact ⟨by rw [HK.out]; rfl, rfl⟩
    · have k1 : decide (0 < I.length) = false := decide_eq_false h1
      have k2 : decide ((0 : Int) < I.length) = false := decide_eq_false (by omega)
      have HK := hide k1
      clear h1
      go_enter Try.func27, Try.ntmps27
      go_wp2_with (go_at_call 45; refine HC.out.mono ?_; rintro e w' ⟨rfl, rfl⟩)
      go_ret
      exact ⟨by rw [HK.out]; rfl, rfl⟩
  · go_enter Try.func27, Try.ntmps27
    go_wp2_with (go_at_call 45; refine HC.out.mono ?_; rintro e w' ⟨rfl, rfl⟩)
    go_ret
    exact ⟨rfl, rfl⟩
theorem coEnd_is (h : IsCo w g B v1 v2 I en O) : Calls Try.prog 24 #[.pointer (some ⟨g, 0, none⟩)] w fun e w' => e = .returned (.tuple #[]) ∧ Only [g] w w' ∧ IsCo w' g B v1 v2 I true O := by
  have c2 := h.c2
  have f2 := h.blk.frozen 2
  have n1 := h.in_.apart h.blk (by decide)
  have n2 := h.out.apart h.blk (by decide)
  have ho : Only [g] w (w.setCell ⟨g, 2, none⟩ (.bool true)) := (Only.refl _ _).setCell _ (by simp)
  have HF := hide (show IsCo (w.setCell ⟨g, 2, none⟩ (.bool true)) g B v1 v2 I true O from
    ⟨h.blk.set_ 2 (.bool true), h.in_.only ho (fun q hq => by simpa using n1 q hq), h.out.only ho (fun q hq => by simpa using n2 q hq), h.apart, h.few, h.u8⟩)
  have HO := hide ho
  have HC := hide (coclosed_is h)
  clear h ho n1 n2
  go_enter Try.func24, Try.ntmps24
  go_wp2_with (go_at_call 45; refine HC.out.mono ?_; rintro e w' ⟨rfl, rfl⟩)
  go_end0
  exact ⟨rfl, HO.out, HF.out⟩
set_option maxRecDepth 100000 in
/-- A read that gets nothing. -/
theorem coRead_none (h : IsCo w g B v1 v2 I en O) {n e1 : Int} (hg : grantP n I.length (!en) = (0, e1)) : Calls Try.prog 21 #[.pointer (some ⟨g, 0, none⟩), .int .i64 n] w fun e w' => e = .returned (.tuple #[.slice none 0 0, .int .i64 e1]) ∧ Only [] w w' := by
  obtain ⟨A, c, rfl, -⟩ := h.in_.form
  have hfew := h.few.1
  have c1 := h.c1
  have c2 := h.c2
  have HC := hide (coclosed_is h)
  have HG := hide (fun W => (granted_is n I.length (!en) W (by omega)).mono (R' := fun e w' => e = .returned (.tuple #[.int .i64 (grantP n I.length (!en)).1, .int .i64 (grantP n I.length (!en)).2]) ∧ w' = W) fun _ _ h => ⟨h.1, h.2.symm⟩)
  rw [hg] at HG
  clear h hg
  go_enter Try.func21, Try.ntmps21
  go_wp2_with (go_at_call 45; refine HC.out.mono ?_; rintro e w' ⟨rfl, rfl⟩)
  go_quiet (first | (go_at_call 41; exact Calls.quiet_of_same (HG.out _)))
  go_wp2_with fail
  go_ret2
  exact ⟨rfl, by repeat (first | exact Only.refl _ _ | apply Only.drew | apply Only.drewN)⟩
end
end Go.Proofs.Yteljjngmhldfbaa
