/-
  What an instruction asks of the memory (touch of parapet/insn), and what it tells.
-/
import Derived.Test.YtkoibmpncfbnpaaCpu
import Derived.Test.YtkoibmpncfbnpaaInsnShift
namespace Go.Proofs.Ytkoibmpncfbnpaa
open Go.ChangeShapes Go.WideShapes Go.ChangeAt Go.RowKit
set_option linter.unusedVariables false

theorem bl_alloc {w w1 : World} {o : Obj} (h : Below w.heap.size w w1) : Below w.heap.size w (w1.alloc o) := h.alloc h.size o
theorem bl_drew {w w1 : World} (h : Below w.heap.size w w1) : Below w.heap.size w w1.drew := h.drew
theorem bl_drewN {w w1 : World} {n : Nat} (h : Below w.heap.size w w1) : Below w.heap.size w (w1.drewN n) := below_drewN h n
theorem bl_set0 {w w1 : World} {k : Nat} {u : Value} (h : Below w.heap.size w w1) : Below w.heap.size w (w1.setCell ⟨w.heap.size, k, none⟩ u) := h.setCell (Nat.le_refl _) u
theorem bl_set1 {w w1 : World} {k : Nat} {u : Value} (h : Below w.heap.size w w1) : Below w.heap.size w (w1.setCell ⟨w.heap.size + 1, k, none⟩ u) := h.setCell (Nat.le_succ _) u
theorem bl_set2 {w w1 : World} {k : Nat} {u : Value} (h : Below w.heap.size w w1) : Below w.heap.size w (w1.setCell ⟨w.heap.size + 1 + 1, k, none⟩ u) := h.setCell (Nat.le_succ_of_le (Nat.le_succ _)) u

/-- What an instruction asks of the memory: a, b: its registers; i: its number; x: register 15. -/
def askV (o A a b i x : Int) : Value :=
  if o = 17 then actV 2 ((b + i) % 4294967296) 4 A 0 0
  else if o = 19 then actV 2 ((b + i) % 4294967296) 1 A 0 0
  else if o = 18 then actV 3 ((b + i) % 4294967296) 4 0 a 0
  else if o = 20 then actV 3 ((b + i) % 4294967296) 1 0 (a % 256) 0
  else actV 4 ((b + i) % 4294967296) 4 0 a x

set_option maxRecDepth 100000 in
set_option maxHeartbeats 1000000 in
theorem touch_17 (A B i : Int) (cs : List Int) (hc : IsCpu cs) (g : Nat) (w : World) (hg : Blk w g 35 (u32A cs)) (A0 : 0 ≤ A) (A1 : A ≤ 15) (B0 : 0 ≤ B) (B1 : B ≤ 15) (i0 : -32768 ≤ i) (i1 : i ≤ 32767) :
    Calls Try.prog 20 #[.pointer (some ⟨g, 0, none⟩), insnV 17 A B i] w fun e w' => e = .returned (askV 17 A (gb cs A.toNat) (gb cs B.toNat) i (gb cs 15)) ∧ Below w.heap.size w w' := by
  have cA : w.cell? ⟨g, A.toNat, none⟩ = some (.int .u32 (gb cs A.toNat)) := (hg.cell _).trans (u32A_get cs _ (by rw [hc.1]; omega))
  have cB : w.cell? ⟨g, B.toNat, none⟩ = some (.int .u32 (gb cs B.toNat)) := (hg.cell _).trans (u32A_get cs _ (by rw [hc.1]; omega))
  have c15 : w.cell? ⟨g, 15, none⟩ = some (.int .u32 (gb cs 15)) := (hg.cell _).trans (u32A_get cs _ (by rw [hc.1]; decide))
  have hlt := hg.lt
  have hlt1 : g < w.heap.size + 1 := by omega
  have hlt2 : g < w.heap.size + 1 + 1 := by omega
  have hlt3 : g < w.heap.size + 1 + 1 + 1 := by omega
  have B2 : B < 16 := by omega
  have A2 : A < 16 := by omega
  have a0 := hc.get A.toNat
  have b0 := hc.get B.toNat
  have x0 := hc.get 15
  generalize gb cs A.toNat = a at *
  generalize gb cs B.toNat = b at *
  generalize gb cs 15 = x at *
  obtain ⟨a0, a1⟩ := a0
  obtain ⟨b0, b1⟩ := b0
  have HG := hide hg
  clear hg hc
  unfold insnV
  go_enter Try.func20, Try.ntmps20
  go_wp2
  go_quiet (fail)
  go_wp2
  go_region
  all_goals go_wp2
  all_goals (try go_region)
  all_goals go_wp2
  refine bodyPost_ret (v := askV 17 A a b i x) ?_ rfl ⟨rfl, ?_⟩
  · simp [results, Try.results20, askV, actV, go_sem]
  repeat (first | with_reducible exact Below.refl _ _ | with_reducible refine bl_drew ?_ | with_reducible refine bl_drewN ?_ | with_reducible refine bl_set0 ?_ | with_reducible refine bl_set1 ?_ | with_reducible refine bl_set2 ?_ | with_reducible refine bl_alloc ?_)

set_option maxRecDepth 100000 in
set_option maxHeartbeats 1000000 in
theorem touch_18 (A B i : Int) (cs : List Int) (hc : IsCpu cs) (g : Nat) (w : World) (hg : Blk w g 35 (u32A cs)) (A0 : 0 ≤ A) (A1 : A ≤ 15) (B0 : 0 ≤ B) (B1 : B ≤ 15) (i0 : -32768 ≤ i) (i1 : i ≤ 32767) :
    Calls Try.prog 20 #[.pointer (some ⟨g, 0, none⟩), insnV 18 A B i] w fun e w' => e = .returned (askV 18 A (gb cs A.toNat) (gb cs B.toNat) i (gb cs 15)) ∧ Below w.heap.size w w' := by
  have cA : w.cell? ⟨g, A.toNat, none⟩ = some (.int .u32 (gb cs A.toNat)) := (hg.cell _).trans (u32A_get cs _ (by rw [hc.1]; omega))
  have cB : w.cell? ⟨g, B.toNat, none⟩ = some (.int .u32 (gb cs B.toNat)) := (hg.cell _).trans (u32A_get cs _ (by rw [hc.1]; omega))
  have c15 : w.cell? ⟨g, 15, none⟩ = some (.int .u32 (gb cs 15)) := (hg.cell _).trans (u32A_get cs _ (by rw [hc.1]; decide))
  have hlt := hg.lt
  have hlt1 : g < w.heap.size + 1 := by omega
  have hlt2 : g < w.heap.size + 1 + 1 := by omega
  have hlt3 : g < w.heap.size + 1 + 1 + 1 := by omega
  have B2 : B < 16 := by omega
  have A2 : A < 16 := by omega
  have a0 := hc.get A.toNat
  have b0 := hc.get B.toNat
  have x0 := hc.get 15
  generalize gb cs A.toNat = a at *
  generalize gb cs B.toNat = b at *
  generalize gb cs 15 = x at *
  obtain ⟨a0, a1⟩ := a0
  obtain ⟨b0, b1⟩ := b0
  have HG := hide hg
  clear hg hc
  unfold insnV
  go_enter Try.func20, Try.ntmps20
  go_wp2
  go_quiet (fail)
  go_wp2
  go_region
  all_goals go_wp2
  all_goals (try go_region)
  all_goals go_wp2
  refine bodyPost_ret (v := askV 18 A a b i x) ?_ rfl ⟨rfl, ?_⟩
  · simp [results, Try.results20, askV, actV, go_sem]
  repeat (first | with_reducible exact Below.refl _ _ | with_reducible refine bl_drew ?_ | with_reducible refine bl_drewN ?_ | with_reducible refine bl_set0 ?_ | with_reducible refine bl_set1 ?_ | with_reducible refine bl_set2 ?_ | with_reducible refine bl_alloc ?_)

set_option maxRecDepth 100000 in
set_option maxHeartbeats 1000000 in
theorem touch_19 (A B i : Int) (cs : List Int) (hc : IsCpu cs) (g : Nat) (w : World) (hg : Blk w g 35 (u32A cs)) (A0 : 0 ≤ A) (A1 : A ≤ 15) (B0 : 0 ≤ B) (B1 : B ≤ 15) (i0 : -32768 ≤ i) (i1 : i ≤ 32767) :
    Calls Try.prog 20 #[.pointer (some ⟨g, 0, none⟩), insnV 19 A B i] w fun e w' => e = .returned (askV 19 A (gb cs A.toNat) (gb cs B.toNat) i (gb cs 15)) ∧ Below w.heap.size w w' := by
  have cA : w.cell? ⟨g, A.toNat, none⟩ = some (.int .u32 (gb cs A.toNat)) := (hg.cell _).trans (u32A_get cs _ (by rw [hc.1]; omega))
  have cB : w.cell? ⟨g, B.toNat, none⟩ = some (.int .u32 (gb cs B.toNat)) := (hg.cell _).trans (u32A_get cs _ (by rw [hc.1]; omega))
  have c15 : w.cell? ⟨g, 15, none⟩ = some (.int .u32 (gb cs 15)) := (hg.cell _).trans (u32A_get cs _ (by rw [hc.1]; decide))
  have hlt := hg.lt
  have hlt1 : g < w.heap.size + 1 := by omega
  have hlt2 : g < w.heap.size + 1 + 1 := by omega
  have hlt3 : g < w.heap.size + 1 + 1 + 1 := by omega
  have B2 : B < 16 := by omega
  have A2 : A < 16 := by omega
  have a0 := hc.get A.toNat
  have b0 := hc.get B.toNat
  have x0 := hc.get 15
  generalize gb cs A.toNat = a at *
  generalize gb cs B.toNat = b at *
  generalize gb cs 15 = x at *
  obtain ⟨a0, a1⟩ := a0
  obtain ⟨b0, b1⟩ := b0
  have HG := hide hg
  clear hg hc
  unfold insnV
  go_enter Try.func20, Try.ntmps20
  go_wp2
  go_quiet (fail)
  go_wp2
  go_region
  all_goals go_wp2
  all_goals (try go_region)
  all_goals go_wp2
  refine bodyPost_ret (v := askV 19 A a b i x) ?_ rfl ⟨rfl, ?_⟩
  · simp [results, Try.results20, askV, actV, go_sem]
  repeat (first | with_reducible exact Below.refl _ _ | with_reducible refine bl_drew ?_ | with_reducible refine bl_drewN ?_ | with_reducible refine bl_set0 ?_ | with_reducible refine bl_set1 ?_ | with_reducible refine bl_set2 ?_ | with_reducible refine bl_alloc ?_)

set_option maxRecDepth 100000 in
set_option maxHeartbeats 1000000 in
theorem touch_20 (A B i : Int) (cs : List Int) (hc : IsCpu cs) (g : Nat) (w : World) (hg : Blk w g 35 (u32A cs)) (A0 : 0 ≤ A) (A1 : A ≤ 15) (B0 : 0 ≤ B) (B1 : B ≤ 15) (i0 : -32768 ≤ i) (i1 : i ≤ 32767) :
    Calls Try.prog 20 #[.pointer (some ⟨g, 0, none⟩), insnV 20 A B i] w fun e w' => e = .returned (askV 20 A (gb cs A.toNat) (gb cs B.toNat) i (gb cs 15)) ∧ Below w.heap.size w w' := by
  have cA : w.cell? ⟨g, A.toNat, none⟩ = some (.int .u32 (gb cs A.toNat)) := (hg.cell _).trans (u32A_get cs _ (by rw [hc.1]; omega))
  have cB : w.cell? ⟨g, B.toNat, none⟩ = some (.int .u32 (gb cs B.toNat)) := (hg.cell _).trans (u32A_get cs _ (by rw [hc.1]; omega))
  have c15 : w.cell? ⟨g, 15, none⟩ = some (.int .u32 (gb cs 15)) := (hg.cell _).trans (u32A_get cs _ (by rw [hc.1]; decide))
  have hlt := hg.lt
  have hlt1 : g < w.heap.size + 1 := by omega
  have hlt2 : g < w.heap.size + 1 + 1 := by omega
  have hlt3 : g < w.heap.size + 1 + 1 + 1 := by omega
  have B2 : B < 16 := by omega
  have A2 : A < 16 := by omega
  have a0 := hc.get A.toNat
  have b0 := hc.get B.toNat
  have x0 := hc.get 15
  generalize gb cs A.toNat = a at *
  generalize gb cs B.toNat = b at *
  generalize gb cs 15 = x at *
  obtain ⟨a0, a1⟩ := a0
  obtain ⟨b0, b1⟩ := b0
  have HG := hide hg
  clear hg hc
  unfold insnV
  go_enter Try.func20, Try.ntmps20
  go_wp2
  go_quiet (fail)
  go_wp2
  go_region
  all_goals go_wp2
  all_goals (try go_region)
  all_goals go_wp2
  refine bodyPost_ret (v := askV 20 A a b i x) ?_ rfl ⟨rfl, ?_⟩
  · simp [results, Try.results20, askV, actV, go_sem]
  repeat (first | with_reducible exact Below.refl _ _ | with_reducible refine bl_drew ?_ | with_reducible refine bl_drewN ?_ | with_reducible refine bl_set0 ?_ | with_reducible refine bl_set1 ?_ | with_reducible refine bl_set2 ?_ | with_reducible refine bl_alloc ?_)

set_option maxRecDepth 100000 in
set_option maxHeartbeats 1000000 in
theorem touch_27 (A B i : Int) (cs : List Int) (hc : IsCpu cs) (g : Nat) (w : World) (hg : Blk w g 35 (u32A cs)) (A0 : 0 ≤ A) (A1 : A ≤ 15) (B0 : 0 ≤ B) (B1 : B ≤ 15) (i0 : -32768 ≤ i) (i1 : i ≤ 32767) :
    Calls Try.prog 20 #[.pointer (some ⟨g, 0, none⟩), insnV 27 A B i] w fun e w' => e = .returned (askV 27 A (gb cs A.toNat) (gb cs B.toNat) i (gb cs 15)) ∧ Below w.heap.size w w' := by
  have cA : w.cell? ⟨g, A.toNat, none⟩ = some (.int .u32 (gb cs A.toNat)) := (hg.cell _).trans (u32A_get cs _ (by rw [hc.1]; omega))
  have cB : w.cell? ⟨g, B.toNat, none⟩ = some (.int .u32 (gb cs B.toNat)) := (hg.cell _).trans (u32A_get cs _ (by rw [hc.1]; omega))
  have c15 : w.cell? ⟨g, 15, none⟩ = some (.int .u32 (gb cs 15)) := (hg.cell _).trans (u32A_get cs _ (by rw [hc.1]; decide))
  have hlt := hg.lt
  have hlt1 : g < w.heap.size + 1 := by omega
  have hlt2 : g < w.heap.size + 1 + 1 := by omega
  have hlt3 : g < w.heap.size + 1 + 1 + 1 := by omega
  have B2 : B < 16 := by omega
  have A2 : A < 16 := by omega
  have a0 := hc.get A.toNat
  have b0 := hc.get B.toNat
  have x0 := hc.get 15
  generalize gb cs A.toNat = a at *
  generalize gb cs B.toNat = b at *
  generalize gb cs 15 = x at *
  obtain ⟨a0, a1⟩ := a0
  obtain ⟨b0, b1⟩ := b0
  have q0 := x0.1
  have q1 := x0.2
  have HG := hide hg
  clear hg hc
  unfold insnV
  go_enter Try.func20, Try.ntmps20
  go_wp2
  go_quiet (fail)
  go_wp2
  go_region
  all_goals go_wp2
  all_goals (try go_region)
  all_goals go_wp2
  refine bodyPost_ret (v := askV 27 A a b i x) ?_ rfl ⟨rfl, ?_⟩
  · simp [results, Try.results20, askV, actV, go_sem]
  repeat (first | with_reducible exact Below.refl _ _ | with_reducible refine bl_drew ?_ | with_reducible refine bl_drewN ?_ | with_reducible refine bl_set0 ?_ | with_reducible refine bl_set1 ?_ | with_reducible refine bl_set2 ?_ | with_reducible refine bl_alloc ?_)

theorem touch_is (o A B i : Int) (ho : o = 17 ∨ o = 18 ∨ o = 19 ∨ o = 20 ∨ o = 27) (cs : List Int) (hc : IsCpu cs) (g : Nat) (w : World) (hg : Blk w g 35 (u32A cs)) (A0 : 0 ≤ A) (A1 : A ≤ 15) (B0 : 0 ≤ B) (B1 : B ≤ 15) (i0 : -32768 ≤ i) (i1 : i ≤ 32767) :
    Calls Try.prog 20 #[.pointer (some ⟨g, 0, none⟩), insnV o A B i] w fun e w' => e = .returned (askV o A (gb cs A.toNat) (gb cs B.toNat) i (gb cs 15)) ∧ Below w.heap.size w w' := by
  rcases ho with rfl | rfl | rfl | rfl | rfl
  · exact touch_17 A B i cs hc g w hg A0 A1 B0 B1 i0 i1
  · exact touch_18 A B i cs hc g w hg A0 A1 B0 B1 i0 i1
  · exact touch_19 A B i cs hc g w hg A0 A1 B0 B1 i0 i1
  · exact touch_20 A B i cs hc g w hg A0 A1 B0 B1 i0 i1
  · exact touch_27 A B i cs hc g w hg A0 A1 B0 B1 i0 i1
end Go.Proofs.Ytkoibmpncfbnpaa
