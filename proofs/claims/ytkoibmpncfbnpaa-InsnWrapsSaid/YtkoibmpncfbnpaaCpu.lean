/-
  The processor as a list of 17 numbers (16 registers, and where it stands), and the few laws by which a walk reads and writes it whole.
-/
import Derived.Test.YtkoibmpncfbnpaaInsnEncode
import Derived.Deep.Cut
import Derived.Deep.RegionLaw
import Derived.StillTailTactics
import Derived.BigRegion
namespace Go.Proofs.Ytkoibmpncfbnpaa
open Go.ChangeShapes Go.WideShapes Go.ChangeAt Go.RowKit
set_option linter.unusedVariables false

/-- Numbers as cells. -/
def u32A (cs : List Int) : Array Value := (cs.map (Value.int .u32)).toArray
theorem size_u32A (cs : List Int) : (u32A cs).size = cs.length := by simp [u32A]
theorem u32A_get (cs : List Int) (i : Nat) (h : i < cs.length) : (u32A cs)[i]? = some (.int .u32 (gb cs i)) := by
  simp [u32A, gb, List.getElem?_eq_getElem h, List.getD]
theorem u32A_set (cs : List Int) (i : Nat) (x : Int) : (u32A cs).setIfInBounds i (.int .u32 x) = u32A (cs.set i x) := by
  simp [u32A, List.map_set]
theorem u32A_one (cs : List Int) : (u32A cs).all (·.oneCell') = true := by
  simp [u32A, Value.oneCell']

/-- A processor: 17 words. -/
def IsCpu (cs : List Int) : Prop := cs.length = 17 ∧ ∀ x ∈ cs, 0 ≤ x ∧ x < 4294967296
theorem IsCpu.get {cs : List Int} (h : IsCpu cs) (i : Nat) : 0 ≤ gb cs i ∧ gb cs i < 4294967296 := by
  unfold gb
  by_cases hi : i < cs.length
  · have : cs.getD i 0 = cs[i] := by simp [List.getD, List.getElem?_eq_getElem hi]
    rw [this]; exact h.2 _ (List.getElem_mem hi)
  · have : cs.getD i 0 = 0 := by simp [List.getD, List.getElem?_eq_none (Nat.le_of_not_lt hi)]
    omega
theorem IsCpu.set {cs : List Int} (h : IsCpu cs) (i : Nat) {x : Int} (h0 : 0 ≤ x) (h1 : x < 4294967296) : IsCpu (cs.set i x) := by
  refine ⟨by rw [List.length_set]; exact h.1, fun y hy => ?_⟩
  rcases List.mem_or_eq_of_mem_set hy with h' | h'
  · exact h.2 y h'
  · subst h'; exact ⟨h0, h1⟩

theorem info_cpu : (Try.prog.info? 35).map (·.size) = some 17 := by kernel_rfl
theorem info_act : (Try.prog.info? 37).map (·.size) = some 6 := by kernel_rfl

/-- What an act tells. -/
def actV (k addr size reg value old : Int) : Value := .agg #[.int .i64 k, .int .u32 addr, .int .i64 size, .int .i64 reg, .int .u32 value, .int .u32 old]
def actC (k addr size reg value old : Int) : Array Value := #[.int .i64 k, .int .u32 addr, .int .i64 size, .int .i64 reg, .int .u32 value, .int .u32 old]

theorem below_blk {w w' : World} {B g : Nat} {t : TypeId} {cs : Array Value} (h : Below B w w') (hb : Blk w g t cs) (hg : g < B) : Blk w' g t cs := (h.block g hg).trans hb

section
variable {P : Program}
/-- A processor is read whole out of its block. -/
theorem cpu_load {ops : Array Oper} {rest : List Oper} {ds ty ps af} {a : Act} {w : World} {Q : Exit → Act → World → Prop} (x : Operand)
    {g : Nat} {cs : List Int} (hg : Blk w g 35 (u32A cs)) (hx : a.eval x = .pointer (some ⟨g, 0, none⟩)) (hl : cs.length = 17)
    (h : wpList Try.prog ops Q rest (a.put ds (.agg (u32A cs))) w) : wpList Try.prog ops Q (⟨ds, .load 35 x, ty, ps, af, none⟩ :: rest) a w :=
  wpList_load_row rfl 35 x rfl _ hx 35 (u32A cs) (0, 0) _ hg Try.underlying35 rfl (by rw [info_cpu, size_u32A, hl]) h
/-- A processor is laid whole into a block. -/
theorem cpu_store {ops : Array Oper} {rest : List Oper} {ds ty ps af} {a : Act} {w : World} {Q : Exit → Act → World → Prop} (x y : Operand)
    {g : Nat} (cs : List Int) (hg : ∃ old : Array Value, old.size = 17 ∧ Blk w g 35 old) (hx : a.eval x = .pointer (some ⟨g, 0, none⟩)) (hy : a.eval y = .agg (u32A cs)) (hl : cs.length = 17)
    (h : wpList Try.prog ops Q rest (a.put ds undef) (w.setRow g (u32A cs))) : wpList Try.prog ops Q (⟨ds, .store 35 x y, ty, ps, af, none⟩ :: rest) a w := by
  obtain ⟨old, h1, h2⟩ := hg
  exact wpList_store_row rfl 35 x y rfl _ (u32A cs) hx hy 35 old h2 (by rw [info_cpu, size_u32A, hl]) (by rw [h1, size_u32A, hl]) (u32A_one cs) h
theorem act_store {ops : Array Oper} {rest : List Oper} {ds ty ps af} {a : Act} {w : World} {Q : Exit → Act → World → Prop} (x y : Operand)
    {g : Nat} (k ad sz rg va ol : Int) (hg : ∃ old : Array Value, old.size = 6 ∧ Blk w g 37 old) (hx : a.eval x = .pointer (some ⟨g, 0, none⟩)) (hy : a.eval y = actV k ad sz rg va ol)
    (h : wpList Try.prog ops Q rest (a.put ds undef) (w.setRow g (actC k ad sz rg va ol))) : wpList Try.prog ops Q (⟨ds, .store 37 x y, ty, ps, af, none⟩ :: rest) a w := by
  obtain ⟨old, h1, h2⟩ := hg
  exact wpList_store_row rfl 37 x y rfl _ (actC k ad sz rg va ol) hx hy 37 old h2 (by rw [info_act]; rfl) (by rw [h1]; rfl) (by simp [actC, Value.oneCell']) h

/-- The same, as steps of a region that draws its order. -/
theorem step_cpu_load {ops : Array Oper} {ds ty ps af} {a : Act} {w : World} {K : Act → World → Prop} {Q : Exit → Act → World → Prop} {E : Prop} (x : Operand)
    {g : Nat} {cs : List Int} (hg : Blk w g 35 (u32A cs)) (hx : a.eval x = .pointer (some ⟨g, 0, none⟩)) (hl : cs.length = 17)
    (h : K (a.put ds (.agg (u32A cs))) w) : if Region.wanted ⟨ds, .load 35 x, ty, ps, af, none⟩ (yielded ops a.tmps) = true then Oper.wp Try.prog ⟨ds, .load 35 x, ty, ps, af, none⟩ a w K Q else E := by
  rw [if_pos (by simp [Region.wanted])]
  exact wp_load_row 35 x rfl _ hx 35 (u32A cs) (0, 0) _ hg Try.underlying35 rfl (by rw [info_cpu, size_u32A, hl]) h
theorem step_cpu_store {ops : Array Oper} {ds ty ps af} {a : Act} {w : World} {K : Act → World → Prop} {Q : Exit → Act → World → Prop} {E : Prop} (x y : Operand)
    {g : Nat} (cs : List Int) (hg : ∃ old : Array Value, old.size = 17 ∧ Blk w g 35 old) (hx : a.eval x = .pointer (some ⟨g, 0, none⟩)) (hy : a.eval y = .agg (u32A cs)) (hl : cs.length = 17)
    (h : K (a.put ds undef) (w.setRow g (u32A cs))) : if Region.wanted ⟨ds, .store 35 x y, ty, ps, af, none⟩ (yielded ops a.tmps) = true then Oper.wp Try.prog ⟨ds, .store 35 x y, ty, ps, af, none⟩ a w K Q else E := by
  obtain ⟨old, h1, h2⟩ := hg
  rw [if_pos (by simp [Region.wanted])]
  exact wp_store_row 35 x y rfl _ (u32A cs) hx hy 35 old h2 (by rw [info_cpu, size_u32A, hl]) (by rw [h1, size_u32A, hl]) (u32A_one cs) h
theorem step_act_store {ops : Array Oper} {ds ty ps af} {a : Act} {w : World} {K : Act → World → Prop} {Q : Exit → Act → World → Prop} {E : Prop} (x y : Operand)
    {g : Nat} (k ad sz rg va ol : Int) (hg : ∃ old : Array Value, old.size = 6 ∧ Blk w g 37 old) (hx : a.eval x = .pointer (some ⟨g, 0, none⟩)) (hy : a.eval y = actV k ad sz rg va ol)
    (h : K (a.put ds undef) (w.setRow g (actC k ad sz rg va ol))) : if Region.wanted ⟨ds, .store 37 x y, ty, ps, af, none⟩ (yielded ops a.tmps) = true then Oper.wp Try.prog ⟨ds, .store 37 x y, ty, ps, af, none⟩ a w K Q else E := by
  obtain ⟨old, h1, h2⟩ := hg
  rw [if_pos (by simp [Region.wanted])]
  exact wp_store_row 37 x y rfl _ (actC k ad sz rg va ol) hx hy 37 old h2 (by rw [info_act]; rfl) (by rw [h1]; rfl) (by simp [actC, Value.oneCell']) h

theorem step_results {fn : Func} {p q : Tmp} (hf : fn.results = #[.cell p 35, .cell q 37]) {tmps : Array Value} {w : World} {r b : Nat} {cs : List Int} {k ad sz rg va ol : Int}
    (hp : tmps.getD p undef = .pointer (some ⟨r, 0, none⟩)) (hq : tmps.getD q undef = .pointer (some ⟨b, 0, none⟩)) (hl : cs.length = 17)
    (h1 : Blk w r 35 (u32A cs)) (h2 : Blk w b 37 (actC k ad sz rg va ol)) :
    (results fn tmps).run Try.prog w = .ok (.tuple #[.agg (u32A cs), actV k ad sz rg va ol]) w := by
  have hp' : tmps[p]?.getD undef = .pointer (some ⟨r, 0, none⟩) := by simpa using hp
  have hq' : tmps[q]?.getD undef = .pointer (some ⟨b, 0, none⟩) := by simpa using hq
  have e1 := run_loadVar_row (P := Try.prog) w r 35 35 (u32A cs) (0, 0) _ h1 Try.underlying35 rfl (by rw [info_cpu, size_u32A, hl])
  have e2 := run_loadVar_row (P := Try.prog) w b 37 37 (actC k ad sz rg va ol) (0, 0) _ h2 Try.underlying37 rfl (by rw [info_act]; rfl)
  simp [results, hf, hp', hq', asAddr, Sem.run_bind, e1, e2, actV, actC]
theorem finish_results {fn : Func} {p : Tmp} (hf : fn.results = #[.cell p 35]) {tmps : Array Value} {w : World} {r : Nat} {cs : List Int}
    (hp : tmps.getD p undef = .pointer (some ⟨r, 0, none⟩)) (hl : cs.length = 17) (h1 : Blk w r 35 (u32A cs)) :
    (results fn tmps).run Try.prog w = .ok (.agg (u32A cs)) w :=
  results_cell_row hf tmps w r 35 (u32A cs) (0, 0) _ hp h1 Try.underlying35 rfl (by rw [info_cpu, size_u32A, hl])
theorem below_setRow {B g : Nat} {w w' : World} {c : Array Value} (h : Below B w w') (hg : B ≤ g) : Below B w (w'.setRow g c) :=
  h.trans ⟨rfl, rfl, rfl, by simp [World.setRow], fun k hk => setRow_other w' g k c (by omega)⟩

/-- The world in which a step goes on: its own processor, and the two results' blocks. -/
structure Boxed (w w1 : World) (cs : List Int) (g r a : Nat) : Prop where
  cpu : Blk w1 g 35 (u32A cs)
  res : ∃ old : Array Value, old.size = 17 ∧ Blk w1 r 35 old
  act : ∃ old : Array Value, old.size = 6 ∧ Blk w1 a 37 old
  below : Below w.heap.size w w1
  le : w.heap.size ≤ g ∧ w.heap.size ≤ r ∧ w.heap.size ≤ a
  ne : g ≠ r ∧ g ≠ a ∧ r ≠ a

theorem Boxed.alloc {w w1 : World} {cs : List Int} {g r a : Nat} (h : Boxed w w1 cs g r a) (o : Obj) : Boxed w (w1.alloc o) cs g r a :=
  ⟨h.cpu.alloc o, h.res.imp fun _ h => ⟨h.1, h.2.alloc o⟩, h.act.imp fun _ h => ⟨h.1, h.2.alloc o⟩, h.below.alloc h.below.size o, h.le, h.ne⟩
theorem Boxed.later {w w1 w2 : World} {cs : List Int} {g r a : Nat} (h : Boxed w w1 cs g r a) (hb : Below w1.heap.size w1 w2) : Boxed w w2 cs g r a :=
  ⟨below_blk hb h.cpu h.cpu.lt, h.res.imp fun _ h => ⟨h.1, below_blk hb h.2 h.2.lt⟩, h.act.imp fun _ h => ⟨h.1, below_blk hb h.2 h.2.lt⟩, h.below.trans (hb.mono h.below.size), h.le, h.ne⟩
theorem Boxed.drewN {w w1 : World} {cs : List Int} {g r a : Nat} (h : Boxed w w1 cs g r a) (n : Nat) : Boxed w (w1.drewN n) cs g r a :=
  ⟨h.cpu, h.res, h.act, below_drewN h.below n, h.le, h.ne⟩
theorem Boxed.drew {w w1 : World} {cs : List Int} {g r a : Nat} (h : Boxed w w1 cs g r a) : Boxed w w1.drew cs g r a :=
  ⟨h.cpu, h.res, h.act, h.below.drew, h.le, h.ne⟩
theorem Boxed.set {w w1 : World} {cs : List Int} {g r a : Nat} (h : Boxed w w1 cs g r a) (i : Nat) (x : Int) : Boxed w (w1.setCell ⟨g, i, none⟩ (.int .u32 x)) (cs.set i x) g r a :=
  ⟨by rw [← u32A_set]; exact h.cpu.set_ i _, h.res.imp fun _ k => ⟨k.1, k.2.far (Ne.symm h.ne.1) _⟩, h.act.imp fun _ k => ⟨k.1, k.2.far (Ne.symm h.ne.2.1) _⟩, h.below.setCell h.le.1 _, h.le, h.ne⟩
theorem Boxed.row {w w1 : World} {cs : List Int} {g r a : Nat} (h : Boxed w w1 cs g r a) (ds : List Int) (hd : ds.length = 17) : Boxed w (w1.setRow r (u32A ds)) cs g r a :=
  ⟨h.cpu.rowFar h.ne.1 _, h.res.imp' (fun _ => u32A ds) fun _ k => ⟨by rw [size_u32A, hd], k.2.row _⟩, h.act.imp fun _ k => ⟨k.1, k.2.rowFar (Ne.symm h.ne.2.2) _⟩, below_setRow h.below h.le.2.1, h.le, h.ne⟩
/-- The end of a step: both results laid down. -/
theorem Boxed.end_ {w w1 : World} {cs : List Int} {g r a : Nat} (h : Boxed w w1 cs g r a) (ds : List Int) (k ad sz rg va ol : Int) :
    Blk ((w1.setRow r (u32A ds)).setRow a (actC k ad sz rg va ol)) r 35 (u32A ds) ∧ Blk ((w1.setRow r (u32A ds)).setRow a (actC k ad sz rg va ol)) a 37 (actC k ad sz rg va ol) ∧ Below w.heap.size w ((w1.setRow r (u32A ds)).setRow a (actC k ad sz rg va ol)) := by
  obtain ⟨_, _, h1⟩ := h.res
  obtain ⟨_, _, h2⟩ := h.act
  exact ⟨(h1.row _).rowFar h.ne.2.2 _, (h2.rowFar (Ne.symm h.ne.2.2) _).row _, below_setRow (below_setRow h.below h.le.2.1) h.le.2.2⟩
end

theorem still_cpu_load {ops : Array Oper} {ds ty ps af} {a : Act} {w : World} {K : Act → Prop} {E : Prop} (x : Operand)
    {g : Nat} {cs : List Int} (hg : Blk w g 35 (u32A cs)) (hx : a.eval x = .pointer (some ⟨g, 0, none⟩)) (hl : cs.length = 17)
    (h : K (a.put ds (.agg (u32A cs)))) : if Region.wanted ⟨ds, .load 35 x, ty, ps, af, none⟩ (yielded ops a.tmps) = true then Oper.still Try.prog ⟨ds, .load 35 x, ty, ps, af, none⟩ a w K else E := by
  rw [if_pos (by simp [Region.wanted])]
  unfold Oper.still
  simp only [execOp, hx, Instr.loadAt, Instr.sureAddr, Sem.run_bind, Sem.run_pure, Result.andThen_ok, run_loadVar_row w g 35 35 (u32A cs) (0, 0) _ hg Try.underlying35 rfl (by rw [info_cpu, size_u32A, hl])]
  exact ⟨rfl, h⟩
/-- A second processor, made as the first one: the step goes on in it. -/
theorem Boxed.copy {w w1 : World} {cs : List Int} {g r a : Nat} (h : Boxed w w1 cs g r a) (old : Array Value) (ds : List Int) :
    Boxed w ((w1.alloc (.cells old 35)).setRow w1.heap.size (u32A ds)) ds w1.heap.size r a ∧ Blk ((w1.alloc (.cells old 35)).setRow w1.heap.size (u32A ds)) g 35 (u32A cs) := by
  obtain ⟨o1, l1, h1⟩ := h.res
  obtain ⟨o2, l2, h2⟩ := h.act
  have n0 := h.cpu.lt
  have n1 := h1.lt
  have n2 := h2.lt
  exact ⟨⟨(Blk.new w1 _ _).row _, ⟨o1, l1, (h1.alloc _).rowFar (by omega) _⟩, ⟨o2, l2, (h2.alloc _).rowFar (by omega) _⟩, below_setRow (h.below.alloc h.below.size _) h.below.size, ⟨h.below.size, h.le.2.1, h.le.2.2⟩, ⟨by omega, by omega, h.ne.2.2⟩⟩,
    (h.cpu.alloc _).rowFar (by omega) _⟩
theorem boxed_second {P : Program} {c : Code} {Q : Exit → Act → World → Prop} {a : Act} {w w1 : World} {cs : List Int} {g r b xb : Nat} {ps : Array Value} (h : Boxed w w1 cs g r b) (hx : Blk w1 xb 24 ps) (old : Array Value)
    (k : ∀ (W' : World), Boxed w W' cs w1.heap.size r b → Blk W' g 35 (u32A cs) → Blk W' xb 24 ps → Code.wp P c Q a W') :
    Code.wp P c Q a ((w1.alloc (.cells old 35)).drew.setRow w1.heap.size (u32A cs)) := by
  have h1 := (h.copy old cs).1
  have h2 := (h.copy old cs).2
  refine k _ ⟨h1.cpu, h1.res, h1.act, below_setRow (h.below.alloc h.below.size _).drew h.below.size, h1.le, h1.ne⟩ h2 ((hx.alloc _).drew.rowFar (by have := hx.lt; omega) _)
/-- From here on the world is known by this alone. -/
theorem boxed_from {P : Program} {c : Code} {Q : Exit → Act → World → Prop} {a : Act} {w W : World} {ds : List Int} {g r b : Nat} (h : Boxed w W ds g r b)
    (k : ∀ (W' : World) (ds' : List Int), Boxed w W' ds' g r b → Hid (ds' = ds) → Code.wp P c Q a W') : Code.wp P c Q a W := k W ds h rfl

/-- .. and by a block more, with the instruction's parts. -/
theorem boxed_insn {P : Program} {c : Code} {Q : Exit → Act → World → Prop} {a : Act} {w w1 : World} {ds : List Int} {g r b : Nat} {o A B i : Int} (h : Boxed w w1 ds g r b)
    (k : ∀ W' : World, Boxed w W' ds g r b → Blk W' w1.heap.size 24 #[.int .i64 o, .int .i64 A, .int .i64 B, .int .i64 i] → Code.wp P c Q a W') :
    Code.wp P c Q a (w1.alloc (.cells #[.int .i64 o, .int .i64 A, .int .i64 B, .int .i64 i] 24)) := k _ (h.alloc _) (Blk.new _ _ _)

theorem boxed_from_x {P : Program} {c : Code} {Q : Exit → Act → World → Prop} {a : Act} {w W : World} {ds : List Int} {g r b xb : Nat} {ps : Array Value} (h : Boxed w W ds g r b) (hx : Blk W xb 24 ps)
    (k : ∀ (W' : World) (ds' : List Int), Boxed w W' ds' g r b → Blk W' xb 24 ps → Hid (ds' = ds) → Code.wp P c Q a W') : Code.wp P c Q a W := k W ds h hx rfl

theorem boxed_of {w w1 : World} {cs : List Int} (hb : Below (((w.alloc (.cells (u32A cs) 35)).alloc (.cells (u32A (List.replicate 17 0)) 35)).alloc (.cells (actC 0 0 0 0 0 0) 37)).heap.size (((w.alloc (.cells (u32A cs) 35)).alloc (.cells (u32A (List.replicate 17 0)) 35)).alloc (.cells (actC 0 0 0 0 0 0) 37)) w1) :
    Boxed w w1 cs w.heap.size (w.heap.size + 1) (w.heap.size + 1 + 1) := by
  have e1 : (w.alloc (.cells (u32A cs) 35)).heap.size = w.heap.size + 1 := by simp
  have e2 : ((w.alloc (.cells (u32A cs) 35)).alloc (.cells (u32A (List.replicate 17 0)) 35)).heap.size = w.heap.size + 1 + 1 := by simp
  refine ⟨below_blk hb (((Blk.new w 35 (u32A cs)).alloc _).alloc _) (by simp; omega), ⟨_, ?_, below_blk hb (t := 35) (cs := u32A (List.replicate 17 0)) ?_ (by simp)⟩, ⟨_, ?_, below_blk hb (t := 37) (cs := actC 0 0 0 0 0 0) ?_ (by simp)⟩, ?_, by omega, by omega⟩
  · simp [size_u32A]
  · have h := Blk.new (w.alloc (.cells (u32A cs) 35)) 35 (u32A (List.replicate 17 0))
    rw [e1] at h
    exact h.alloc _
  · rfl
  · have h := Blk.new ((w.alloc (.cells (u32A cs) 35)).alloc (.cells (u32A (List.replicate 17 0)) 35)) 37 (actC 0 0 0 0 0 0)
    rw [e2] at h
    exact h
  · exact (((Below.refl _ _).alloc (Nat.le_refl _) _).alloc (by simp) _).alloc (by simp; omega) _ |>.trans (hb.mono (by simp; omega))
end Go.Proofs.Ytkoibmpncfbnpaa
