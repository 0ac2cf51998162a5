/-
  InsnRuns: its loop's regions 7 and 8. (Written by gen_runs.py.)
-/
import Derived.Test.YtkoibmpncfbnpaaInsnFewWalk
import Derived.Deep.CutRange
namespace Go.Proofs.Ytkoibmpncfbnpaa
open Go.ChangeShapes Go.WideShapes Go.ChangeAt Go.RowKit
set_option linter.unusedVariables false
set_option linter.unusedSimpArgs false

/-- What holds in every world of a round: both processors, the words. -/
structure RunS (w : World) (n g5 : Nat) (ds : List Int) (q : Addr) (z : Int) (W : World) : Prop where
  c : Blk W n 35 (u32A ds)
  x : Blk W g5 35 (u32A ds)
  below : Below w.heap.size w W
  cell : W.cell? q = some (.int .u32 z)
  lt : q.block < W.heap.size
theorem RunS.later {w W W' : World} {n g5 : Nat} {ds : List Int} {q : Addr} {z : Int} (h : RunS w n g5 ds q z W) (hb : Below W.heap.size W W') : RunS w n g5 ds q z W' :=
  ⟨below_blk hb h.c h.c.lt, below_blk hb h.x h.x.lt, h.below.trans (hb.mono h.below.size), (hb.cell h.lt).trans h.cell, Nat.lt_of_lt_of_le h.lt hb.size⟩
theorem RunS.alloc {w W : World} {n g5 : Nat} {ds : List Int} {q : Addr} {z : Int} (h : RunS w n g5 ds q z W) (o : Obj) : RunS w n g5 ds q z (W.alloc o) :=
  h.later ((Below.refl _ _).alloc (Nat.le_refl _) o)
theorem RunS.row {w W : World} {n g5 g : Nat} {ds : List Int} {q : Addr} {z : Int} {c : Array Value} (h : RunS w n g5 ds q z W) (h1 : w.heap.size ≤ g) (h2 : g ≠ n) (h3 : g ≠ g5) (h4 : q.block < w.heap.size) : RunS w n g5 ds q z (W.setRow g c) := by
  have hb : Below w.heap.size W (W.setRow g c) := below_setRow (Below.refl _ _) h1
  exact ⟨h.c.rowFar (Ne.symm h2) _, h.x.rowFar (Ne.symm h3) _, h.below.trans hb, (hb.cell h4).trans h.cell, by simpa [World.setRow] using h.lt⟩
/-- What a step leaves: two blocks, somewhere, with the processor and the act. -/
def RunMid (w : World) (n g5 : Nat) (ds fs : List Int) (k ad sz rg va ol : Int) (q : Addr) (z : Int) (p p' : Value) (W : World) : Prop :=
  ∃ g g', p = .pointer (some ⟨g, 0, none⟩) ∧ p' = .pointer (some ⟨g', 0, none⟩) ∧ Blk W g 35 (u32A fs) ∧ Blk W g' 37 (actC k ad sz rg va ol) ∧ g ≠ n ∧ g ≠ g5 ∧ RunS w n g5 ds q z W
theorem RunS.drew {w W : World} {n g5 : Nat} {ds : List Int} {q : Addr} {z : Int} (h : RunS w n g5 ds q z W) : RunS w n g5 ds q z W.drew :=
  ⟨h.c, h.x, h.below.drew, h.cell, h.lt⟩
/-- The same, and what the first step left. -/
structure RunT (w : World) (n g5 : Nat) (ds : List Int) (q : Addr) (z : Int) (g7 g8 : Nat) (es : List Int) (av : Array Value) (W : World) : Prop where
  base : RunS w n g5 ds q z W
  d7 : Blk W g7 35 (u32A es)
  d8 : Blk W g8 37 av
section
variable {w W W' : World} {n g5 g7 g8 g : Nat} {ds es : List Int} {q : Addr} {z : Int} {av c : Array Value}
theorem RunT.later (h : RunT w n g5 ds q z g7 g8 es av W) (hb : Below W.heap.size W W') : RunT w n g5 ds q z g7 g8 es av W' := ⟨h.base.later hb, below_blk hb h.d7 h.d7.lt, below_blk hb h.d8 h.d8.lt⟩
theorem RunT.alloc (h : RunT w n g5 ds q z g7 g8 es av W) (o : Obj) : RunT w n g5 ds q z g7 g8 es av (W.alloc o) := ⟨h.base.alloc o, h.d7.alloc o, h.d8.alloc o⟩
theorem RunT.drew (h : RunT w n g5 ds q z g7 g8 es av W) : RunT w n g5 ds q z g7 g8 es av W.drew := ⟨h.base.drew, h.d7, h.d8⟩
theorem RunT.row (h : RunT w n g5 ds q z g7 g8 es av W) (h1 : w.heap.size ≤ g) (h2 : g ≠ n) (h3 : g ≠ g5) (h4 : q.block < w.heap.size) (h5 : g ≠ g7) (h6 : g ≠ g8) : RunT w n g5 ds q z g7 g8 es av (W.setRow g c) :=
  ⟨h.base.row h1 h2 h3 h4, h.d7.rowFar (Ne.symm h5) _, h.d8.rowFar (Ne.symm h6) _⟩
end
/-- What the second step leaves. -/
def RunEnd (w : World) (n g5 : Nat) (ds es : List Int) (k ad sz rg va ol : Int) (q : Addr) (z : Int) (g7 g8 : Nat) (p p' : Value) (W : World) : Prop :=
  ∃ g g', p = .pointer (some ⟨g, 0, none⟩) ∧ p' = .pointer (some ⟨g', 0, none⟩) ∧ Blk W g 35 (u32A es) ∧ Blk W g' 37 (actC k ad sz rg va ol) ∧ g ≠ n ∧ g ≠ g5 ∧ RunT w n g5 ds q z g7 g8 es (actC k ad sz rg va ol) W
/-- What holds in every world of the last statement of a round. -/
structure RunU (w : World) (g7 g8 g9 g10 : Nat) (es : List Int) (k ad sz rg va ol : Int) (W : World) : Prop where
  c7 : Blk W g7 35 (u32A es)
  a8 : Blk W g8 37 (actC k ad sz rg va ol)
  c9 : Blk W g9 35 (u32A es)
  a10 : Blk W g10 37 (actC k ad sz rg va ol)
  below : Below w.heap.size w W
section
variable {w W W' : World} {g7 g8 g9 g10 g : Nat} {es : List Int} {k ad sz rg va ol : Int} {c : Array Value}
theorem RunU.later (h : RunU w g7 g8 g9 g10 es k ad sz rg va ol W) (hb : Below W.heap.size W W') : RunU w g7 g8 g9 g10 es k ad sz rg va ol W' :=
  ⟨below_blk hb h.c7 h.c7.lt, below_blk hb h.a8 h.a8.lt, below_blk hb h.c9 h.c9.lt, below_blk hb h.a10 h.a10.lt, h.below.trans (hb.mono h.below.size)⟩
theorem RunU.drew (h : RunU w g7 g8 g9 g10 es k ad sz rg va ol W) : RunU w g7 g8 g9 g10 es k ad sz rg va ol W.drew := ⟨h.c7, h.a8, h.c9, h.a10, h.below.drew⟩
theorem RunU.row (h : RunU w g7 g8 g9 g10 es k ad sz rg va ol W) (h0 : w.heap.size ≤ g) (h1 : g ≠ g7) (h2 : g ≠ g8) (h3 : g ≠ g9) (h4 : g ≠ g10) : RunU w g7 g8 g9 g10 es k ad sz rg va ol (W.setRow g c) :=
  ⟨h.c7.rowFar (Ne.symm h1) _, h.a8.rowFar (Ne.symm h2) _, h.c9.rowFar (Ne.symm h3) _, h.a10.rowFar (Ne.symm h4) _, below_setRow h.below h0⟩
end
end Go.Proofs.Ytkoibmpncfbnpaa
