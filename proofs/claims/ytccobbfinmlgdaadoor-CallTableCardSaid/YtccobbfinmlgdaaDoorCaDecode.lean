/-
  Calls: Decode of the program and of the document.
-/
import Derived.Test.YtccobbfinmlgdaaDoorCaCpu
namespace Go.Proofs.YtccobbfinmlgdaaDoor
open Go.ChangeShapes Go.WideShapes Go.ChangeAt Go.RowKit
set_option linter.unusedVariables false

/-- The number of a call; 0 of one above what an int of 32 bits holds. -/
def numT (x : Int) : Int := if x ≤ 2147483647 then x else 0
def errT (x : Int) : Int := if 1 ≤ numT x ∧ numT x ≤ 30 then 0 else 260
def trapA (n b c d e : Int) : Array Value := #[.int .i64 n, .int .u32 b, .int .u32 c, .int .u32 d, .int .u32 e]
theorem info_trap : (Tryd.prog.info? 40).map (·.size) = some 5 := by kernel_rfl
theorem trap_results {fn : Func} {p q : Tmp} (hf : fn.results = #[.cell p 40, .tmp q]) {tmps : Array Value} {w : World} {r : Nat} {v : Value} {n b c d e : Int}
    (hp : tmps.getD p undef = .pointer (some ⟨r, 0, none⟩)) (hq : tmps.getD q undef = v) (h1 : Blk w r 40 (trapA n b c d e)) :
    (results fn tmps).run Tryd.prog w = .ok (.tuple #[.agg (trapA n b c d e), v]) w := by
  have hp' : tmps[p]?.getD undef = .pointer (some ⟨r, 0, none⟩) := by simpa using hp
  have hq' : tmps[q]?.getD undef = v := by simpa using hq
  have e1 := run_loadVar_row (P := Tryd.prog) w r 40 40 (trapA n b c d e) (0, 0) _ h1 Tryd.underlying40 rfl (by rw [info_trap]; rfl)
  simp [results, hf, hp', hq', asAddr, e1]
theorem trap_load {ops : Array Oper} {rest : List Oper} {ds ty ps af} {a : Act} {w : World} {Q : Exit → Act → World → Prop} (x : Operand)
    {g : Nat} {n b c d e : Int} (hg : Blk w g 40 (trapA n b c d e)) (hx : a.eval x = .pointer (some ⟨g, 0, none⟩))
    (h : wpList Tryd.prog ops Q rest (a.put ds (.agg (trapA n b c d e))) w) : wpList Tryd.prog ops Q (⟨ds, .load 40 x, ty, ps, af, none⟩ :: rest) a w :=
  wpList_load_row rfl 40 x rfl _ hx 40 (trapA n b c d e) (0, 0) _ hg Tryd.underlying40 rfl (by rw [info_trap]; rfl) h
theorem trap_store {ops : Array Oper} {rest : List Oper} {ds ty ps af} {a : Act} {w : World} {Q : Exit → Act → World → Prop} (x y : Operand)
    {g : Nat} (n b c d e : Int) {cs0 : Array Value} (h0 : cs0.size = 5) (hg : Blk w g 40 cs0) (hx : a.eval x = .pointer (some ⟨g, 0, none⟩)) (hy : a.eval y = .agg (trapA n b c d e))
    (h : wpList Tryd.prog ops Q rest (a.put ds undef) (w.setRow g (trapA n b c d e))) : wpList Tryd.prog ops Q (⟨ds, .store 40 x y, ty, ps, af, none⟩ :: rest) a w :=
  wpList_store_row rfl 40 x y rfl _ (trapA n b c d e) hx hy 40 cs0 hg (by rw [info_trap]; rfl) (by rw [h0]; rfl) (by simp [trapA, Value.oneCell']) h
theorem run_arrayAt (b : Nat) (u : World) : (Instr.arrayAt 38 (.slice (some ⟨b, 2, none⟩) 14 14)).run Tryd.prog u = .ok (.pointer (some ⟨b, 2, none⟩)) u := by kernel_rfl
def cpuV (x0 x1 x2 x3 x4 x5 x6 x7 x8 x9 x10 x11 x12 x13 x14 x15 x16 : Int) : Value := .agg #[.int .u32 x0, .int .u32 x1, .int .u32 x2, .int .u32 x3, .int .u32 x4, .int .u32 x5, .int .u32 x6, .int .u32 x7, .int .u32 x8, .int .u32 x9, .int .u32 x10, .int .u32 x11, .int .u32 x12, .int .u32 x13, .int .u32 x14, .int .u32 x15, .int .u32 x16]
theorem isCall_is (n : Int) (w : World) : Calls Tryd.prog 36 #[.int .i64 n] w fun e w' => e = .returned (.bool (decide (1 ≤ n ∧ n ≤ 30))) ∧ w = w' := by
  by_cases h : 1 ≤ n ∧ n ≤ 30
  · refine (cisCall_yes n h.1 h.2).mono ?_
    rintro e w' ⟨rfl, rfl⟩
    exact ⟨by simp [h], rfl⟩
  · refine (cisCall_no n h).mono ?_
    rintro e w' ⟨rfl, rfl⟩
    exact ⟨by simp only [h, decide_false], rfl⟩
theorem trap_blk {w W : World} {cs : Array Value} (h : W.heap[w.heap.size + 1]? = some (.cells cs 40 (0, 0))) : Blk W (w.heap.size + 1) 40 cs := h
set_option maxRecDepth 100000 in
set_option maxHeartbeats 2000000 in
theorem cdecode_is (x0 x1 x2 x3 x4 x5 x6 x7 x8 x9 x10 x11 x12 x13 x14 x15 x16 : Int) (h0 : 0 ≤ x1) (h1 : x1 < 4294967296) (w : World) :
    Calls Tryd.prog 20 #[cpuV x0 x1 x2 x3 x4 x5 x6 x7 x8 x9 x10 x11 x12 x13 x14 x15 x16] w fun e w' =>
    e = .returned (.tuple #[.agg (trapA (numT x1) x2 x3 x4 x5), .int .i64 (errT x1)]) ∧ Only [] w w' := by
  have ha := run_arrayAt
  unfold cpuV
  by_cases hb : x1 ≤ 2147483647
  · have HN := hide (show numT x1 = x1 from if_pos hb)
    have HC := hide (fun w => isCall_is x1 w)
    have e1 : IntKind.i64.wrap x1 = x1 := by rw [IntKind.wrap_i64]; omega
    by_cases hc : 1 ≤ x1 ∧ x1 ≤ 30
    · have HE := hide (show errT x1 = 0 by unfold errT; rw [HN.out]; exact if_pos hc)
      have HC2 := hide (fun w => show Calls Tryd.prog 36 #[.int .i64 x1] w fun e w' => e = .returned (.bool true) ∧ w = w' by have := HC.out w; rw [decide_eq_true hc] at this; exact this)
      clear hc HC
      go_enter Tryd.func20, Tryd.ntmps20
      go_wp2_with (go_at_call 36; refine (HC2.out _).mono ?_; rintro e w' ⟨rfl, rfl⟩)
      refine bodyPost_ret (trap_results (p := 2) (q := 3) (r := w.heap.size + 1) (n := x1) (b := x2) (c := x3) (d := x4) (e := x5) rfl rfl rfl (Blk.alloc (show Blk _ (w.heap.size + 1) 40 _ from heap_alloc2_new w _ _) _)) rfl ⟨?_, (((Only.refl [] w).alloc _).alloc _).alloc _⟩
      rw [HN.out, HE.out]
      rfl
    · have HE := hide (show errT x1 = 260 by unfold errT; rw [HN.out]; exact if_neg hc)
      have HC2 := hide (fun w => show Calls Tryd.prog 36 #[.int .i64 x1] w fun e w' => e = .returned (.bool false) ∧ w = w' by have := HC.out w; rw [decide_eq_false hc] at this; exact this)
      clear hc HC
      go_enter Tryd.func20, Tryd.ntmps20
      go_wp2_with (go_at_call 36; refine (HC2.out _).mono ?_; rintro e w' ⟨rfl, rfl⟩)
      refine bodyPost_ret (trap_results (p := 2) (q := 3) (r := w.heap.size + 1) (n := x1) (b := x2) (c := x3) (d := x4) (e := x5) rfl rfl rfl (Blk.alloc (show Blk _ (w.heap.size + 1) 40 _ from heap_alloc2_new w _ _) _)) rfl ⟨?_, (((Only.refl [] w).alloc _).alloc _).alloc _⟩
      rw [HN.out, HE.out]
      rfl
  · have HN := hide (show numT x1 = 0 from if_neg hb)
    have HE := hide (show errT x1 = 260 by unfold errT; rw [HN.out]; exact if_neg (by omega))
    have HC2 := hide (fun w => cisCall_no (w := w) 0 (by omega))
    have hb2 : decide (x1 ≤ 2147483647) = false := by simpa using hb
    clear hb
    · go_enter Tryd.func20, Tryd.ntmps20
      go_wp2_with (go_at_call 36; refine (HC2.out _).mono ?_; rintro e w' ⟨rfl, rfl⟩)
      refine bodyPost_ret (trap_results (p := 2) (q := 3) (r := w.heap.size + 1) (n := 0) (b := x2) (c := x3) (d := x4) (e := x5) rfl rfl rfl (Blk.alloc (show Blk _ (w.heap.size + 1) 40 _ from heap_alloc2_new w _ _) _)) rfl ⟨?_, (((Only.refl [] w).alloc _).alloc _).alloc _⟩
      rw [HN.out, HE.out]
      rfl
theorem nm_empty {n : Int} (h : ¬ (1 ≤ n ∧ n ≤ 30)) : (entF n).nm = ⟨#[]⟩ := by rw [entF_no h]
theorem nm_some {n : Int} (h : 1 ≤ n ∧ n ≤ 30) : (entF n).nm ≠ ⟨#[]⟩ := by
  have hx : ∀ i : Nat, i < 30 → (entL.getD i ⟨⟨#[]⟩, 0, []⟩).nm ≠ ⟨#[]⟩ := by decide +kernel
  unfold entF
  rw [if_pos h]
  exact hx _ (by omega)
/-- The two blocks of 'Decode', behind a call. -/
theorem two_blks {w W : World} {a : Obj} {t : TypeId} {A B : Array Value} (h : Only [] (((w.alloc a).alloc (.cells A t)).alloc (.cells B t)) W) : Blk W (w.heap.size + 1) t A ∧ Blk W (w.heap.size + 1 + 1) t B ∧ Only [] w W := by
  refine ⟨(Blk.alloc (show Blk _ (w.heap.size + 1) t _ from heap_alloc2_new w _ _) _).only h (by simp), ?_, ((((Only.refl [] w).alloc _).alloc _).alloc _).trans h⟩
  have e : ((w.alloc a).alloc (.cells A t)).heap.size = w.heap.size + 1 + 1 := by simp
  rw [← e]
  exact (Blk.new _ t B).only h (by simp)
end Go.Proofs.YtccobbfinmlgdaaDoor
