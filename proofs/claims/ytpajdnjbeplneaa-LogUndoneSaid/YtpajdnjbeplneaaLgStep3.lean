/-
  The log (parapet/wlog): Step.
-/
import Derived.Test.YtpajdnjbeplneaaLgStep2
import Derived.Deep.CutRange
namespace Go.Proofs.Ytpajdnjbeplneaa
open Go.ChangeShapes Go.WideShapes Go.ChangeAt Go.RowKit Go.Maps
set_option linter.unusedVariables false
/-- What a commit turns. -/
structure LP where
  gen : Int
  G : PG
  st : Nat
  nx : Nat
  plat : List Int
  l : List (Nat × List Int)
/-- One operation of the disk. -/
def doP (a : Nat) (p : LP) : LP := match p.st with
  | 1 => { p with l := p.l ++ [(a + 1 + p.nx, (p.G.getD p.nx (0, [])).2)] }
  | 3 => { p with gen := (p.gen + 1) % 18446744073709551616, l := p.l ++ [(a, hdrF ((p.gen + 1) % 18446744073709551616) (p.G.map (·.1)))] }
  | 5 => { p with l := p.l ++ [((p.G.getD p.nx (0, [])).1.toNat, (p.G.getD p.nx (0, [])).2)] }
  | 7 => { p with l := p.l ++ [(a, hdrF p.gen [])] }
  | _ => { p with plat := layAll p.plat p.l, l := [] }
def eachP (p : LP) : Bool := decide (p.st = 1 ∨ p.st = 5)
def nextP (p : LP) : LP :=
  if eachP p = true ∧ p.nx + 1 ≠ p.G.length then { p with nx := p.nx + 1 }
  else if p.st = 8 then { p with st := 0, nx := 0, G := [] }
  else { p with st := p.st + 1, nx := 0 }
def stepP (a : Nat) (p : LP) : LP := nextP (doP a p)
/-- A commit runs, and stands where it may stand. -/
def RunsP (p : LP) : Prop := 1 ≤ p.st ∧ p.st ≤ 8 ∧ (eachP p = true → p.nx < p.G.length) ∧ (eachP p = false → p.nx = 0) ∧ (p.st ≤ 5 → 0 < p.G.length)
/-- The step that was taken from the table. -/
def StepM (w : World) (fn : Nat) (each : Bool) (t : Value) (wx : World) : Prop := ∃ q, t = .pointer (some ⟨q, 0, none⟩) ∧ Blk wx q 92 #[.func (.func fn) #[] #[], .bool each] ∧ Only [] w wx ∧ w.heap.size ≤ q
theorem stepM_new {w w2 : World} {fn : Nat} {each : Bool} (ho : Only [] w w2) : StepM w fn each (.pointer (some ⟨w2.heap.size, 0, none⟩)) (w2.alloc (.cells #[.func (.func fn) #[] #[], .bool each] 92)) :=
  ⟨_, rfl, Blk.new _ _ _, ho.alloc _, ho.size⟩
theorem stepM_old {w w2 : World} {fn : Nat} {each : Bool} (ho : Only [] w w2) (hn : Blk w2 w.heap.size 92 #[.nilFunc, .bool false]) : StepM w fn each (.pointer (some ⟨w.heap.size, 0, none⟩)) ((w2.setCell ⟨w.heap.size, 0, none⟩ (.func (.func fn) #[] #[])).setCell ⟨w.heap.size, 1, none⟩ (.bool each)) :=
  ⟨_, rfl, (hn.set_ 0 _).set_ 1 _, (ho.setCell (p := ⟨w.heap.size, 0, none⟩) _ (fun h => absurd h (Nat.lt_irrefl _))).setCell (p := ⟨w.heap.size, 1, none⟩) _ (fun h => absurd h (Nat.lt_irrefl _)), Nat.le_refl _⟩
section
variable {w w' w1 : World} {g gd N a sz : Nat} {gen gen' : Int} {v v' : Value} {m m' : Nat} {L L' : List GB} {SS SS' : Option SG} {plat plat' : List Int} {l l' : List (Nat × List Int)} {rd wt fl rd' wt' fl' : Int} {k k' : Nat} {FD FD' F T : List Nat} {G : PG} {S : Option PG}
theorem empty_is (w : World) : Calls Try.prog 51 #[] w fun e w' => ∃ m, e = .returned (.agg #[.slice none 0 0, .map (some m)]) ∧ IsGr w' (.slice none 0 0) m [] ∧ w.heap.size ≤ m ∧ Only [] w w' := by
  have hmm := @run_makeMap Try.prog
  go_enter Try.func51, Try.ntmps51
  go_wp2
  have hb : Blk ((w.alloc (.cells #[.slice none 0 0, .map (some (w.heap.size + 1))] 81)).alloc (.map #[] 0)) w.heap.size 81 #[.slice none 0 0, .map (some (w.heap.size + 1))] := (Blk.new w _ _).alloc _
  have c0 := hb.cell 0
  have c1 := hb.cell 1
  have hm : ((w.alloc (.cells #[.slice none 0 0, .map (some (w.heap.size + 1))] 81)).alloc (.map #[] 0)).heap[w.heap.size + 1]? = some (.map #[] 0) := by
    have h := heap_alloc_new (w.alloc (.cells #[.slice none 0 0, .map (some (w.heap.size + 1))] 81)) (.map #[] 0)
    rw [show (w.alloc (.cells #[.slice none 0 0, .map (some (w.heap.size + 1))] 81)).heap.size = w.heap.size + 1 by simp] at h
    exact h
  have ho : Only [] w ((w.alloc (.cells #[.slice none 0 0, .map (some (w.heap.size + 1))] 81)).alloc (.map #[] 0)) := ((Only.refl [] w).alloc _).alloc _
  generalize (w.alloc (.cells #[.slice none 0 0, .map (some (w.heap.size + 1))] 81)).alloc (.map #[] 0) = W at *
  refine bodyPost_ret (v := .agg #[.slice none 0 0, .map (some (w.heap.size + 1))]) (by simp [results, Try.results51, go_sem, c0, c1]) rfl ⟨_, rfl, ⟨KRow.nil _ _ _ _, ⟨.map [], ?_, MHolds.empty⟩, by simp⟩, by omega, ho⟩
  obtain ⟨es, clock, h1, F, hs, hD⟩ := World.ownsMap_made w Try.prog 3 elemSl
  rw [heap_alloc_new w (.map #[] 0)] at h1
  injection h1 with h1
  injection h1 with e1 e2
  subst e1; subst e2
  exact ⟨#[], 0, hm, F, hs, hD⟩
/-- A group that is new and empty takes the old one's place. -/
theorem LgI.fresh {st nx st' : Int} (h : LgI w g gd N a sz gen v m L SS st nx plat l rd wt fl k FD) (hg : IsGr w (.slice none 0 0) m' []) (hm : m' ∉ FD) (hs : ∀ s, SS = some s → s.m ≠ m') (hmg : m' ≠ g) {w1 : World} (ho : Only [g] w w1) (hb : Blk w1 g 84 #[.pointer (some ⟨gd, 0, none⟩), .int .i64 a, .int .i64 sz, .int .u64 gen, .slice none 0 0, .map (some m'), bfV SS, .int .i64 st', .int .i64 nx]) : LgI w1 g gd N a sz gen (.slice none 0 0) m' [] SS st' nx plat l rd wt fl k FD := by
  obtain ⟨f1, f2, f3, f4⟩ := h.far_g
  have hgF : g ∉ FD := h.dis g (.inl (mem_footL.2 (.inl rfl)))
  refine ⟨hb, hg.only ho (fun q hq => by simp [Value.ownBlock] at hq) (by simpa using hmg) (by simp), fun s hs' => ?_, h.dk.only ho (fun q hq hm => hgF (by simp at hm; exact hm ▸ hq)), fun q hq => ?_, h.gen_, h.rng, ⟨by have := h.rng; simp; omega, by simp⟩, h.oks⟩
  · obtain ⟨k1, k2, k3, k4⟩ := h.sv s hs'
    obtain ⟨j1, j2, j3⟩ := f3 s hs'
    exact ⟨k1.only ho (by simpa using j1), k2.only ho (fun q hq => by simpa using j3 q hq) (by simpa using j2) (fun x hx => by simpa using f4 x (mem_bytesL.2 (.inr ⟨s, hs', hx⟩))), hs s hs', fun q hq e => by simp [Value.ownBlock] at e⟩
  · rcases hq with hq | ⟨x, hx, rfl⟩
    · rcases mem_footL.1 hq with e | e | e | e
      · exact h.dis q (.inl (mem_footL.2 (.inl e)))
      · rw [e]; exact hm
      · simp [Value.ownBlock] at e
      · exact h.dis q (.inl (mem_footL.2 (.inr (.inr (.inr e)))))
    · rcases mem_bytesL.1 hx with e | e
      · cases e
      · exact h.dis x.b (.inr ⟨x, mem_bytesL.2 (.inr e), rfl⟩)
end
end Go.Proofs.Ytpajdnjbeplneaa
