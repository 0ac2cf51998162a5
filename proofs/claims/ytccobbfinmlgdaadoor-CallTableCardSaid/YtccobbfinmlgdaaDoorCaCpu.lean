/-
  The processor as an argument (out of Cpu, ReadInsn, for a seat without the instructions).
-/
import Derived.Test.YtccobbfinmlgdaaDoorCaTold
import Derived.Test.YtccobbfinmlgdaaDoorRead
import Derived.Laws.ResultCell
namespace Go.Proofs.YtccobbfinmlgdaaDoor
open Go.ChangeShapes Go.WideShapes Go.ChangeAt Go.RowKit Go.Deep
set_option linter.unusedVariables false

/-- Numbers as cells. -/
def u32A (cs : List Int) : Array Value := (cs.map (Value.int .u32)).toArray
theorem size_u32A (cs : List Int) : (u32A cs).size = cs.length := by simp [u32A]
theorem u32A_get (cs : List Int) (i : Nat) (h : i < cs.length) : (u32A cs)[i]? = some (.int .u32 (gb cs i)) := by
  simp [u32A, gb, List.getElem?_eq_getElem h, List.getD]
theorem u32A_set (cs : List Int) (i : Nat) (x : Int) : (u32A cs).setIfInBounds i (.int .u32 x) = u32A (cs.set i x) := by
  simp [u32A, List.map_set]
theorem u32A_one (cs : List Int) : (u32A cs).all (·.oneCell') = true := by
  simp [u32A, Value.oneCell']

/-- A processor: 17 words. -/
def IsCpu (cs : List Int) : Prop := cs.length = 17 ∧ ∀ x ∈ cs, 0 ≤ x ∧ x < 4294967296
theorem IsCpu.get {cs : List Int} (h : IsCpu cs) (i : Nat) : 0 ≤ gb cs i ∧ gb cs i < 4294967296 := by
  unfold gb
  by_cases hi : i < cs.length
  · have : cs.getD i 0 = cs[i] := by simp [List.getD, List.getElem?_eq_getElem hi]
    rw [this]; exact h.2 _ (List.getElem_mem hi)
  · have : cs.getD i 0 = 0 := by simp [List.getD, List.getElem?_eq_none (Nat.le_of_not_lt hi)]
    omega
theorem IsCpu.set {cs : List Int} (h : IsCpu cs) (i : Nat) {x : Int} (h0 : 0 ≤ x) (h1 : x < 4294967296) : IsCpu (cs.set i x) := by
  refine ⟨by rw [List.length_set]; exact h.1, fun y hy => ?_⟩
  rcases List.mem_or_eq_of_mem_set hy with h' | h'
  · exact h.2 y h'
  · subst h'; exact ⟨h0, h1⟩

theorem info_cpu : (Tryd.prog.info? 37).map (·.size) = some 17 := by kernel_rfl
theorem take_one {α : Type} (l : List α) (i : Nat) (h : i < l.length) : (l.drop i).take 1 = [l[i]] := by
  rw [List.drop_eq_getElem_cons h]; rfl

theorem wf_u32 {x : Int} (h : (Lit.int .u32 x).wf = true) : 0 ≤ x ∧ x < 4294967296 := by
  have : 0 ≤ x ∧ x ≤ 4294967295 := by simpa [Lit.wf, IntKind.min, IntKind.max, IntKind.signed, IntKind.bits] using h
  omega

section
variable {H : Type} {enc : TypeId × Value → H} {w : World} {base : Nat} {d : DataW H}
theorem words_of {l : List Value} (h : ∀ (i : Nat) (hi : i < l.length), ∃ x, l[i] = .int .u32 x ∧ 0 ≤ x ∧ x < 4294967296) : ∃ xs : List Int, l = xs.map (Value.int .u32) ∧ ∀ x ∈ xs, 0 ≤ x ∧ x < 4294967296 := by
  induction l with
  | nil => exact ⟨[], rfl, by simp⟩
  | cons y r ih =>
    obtain ⟨x, hx, hb⟩ := h 0 (by simp)
    obtain ⟨xs, hxs, hbs⟩ := ih (fun i hi => h (i + 1) (by simp; omega))
    refine ⟨x :: xs, ?_, ?_⟩
    · simp only [List.getElem_cons_zero] at hx
      rw [hx, hxs]; rfl
    · intro z hz
      rcases List.mem_cons.1 hz with rfl | hz
      · exact hb
      · exact hbs z hz

set_option maxRecDepth 100000 in
theorem Rd.cpu {v : Value} (o : Value.okWide Tryd.prog w .any base 37 v) (h : Rd enc Tryd.prog w 37 v.cells.toList d) : ∃ cs, v = .agg (u32A cs) ∧ IsCpu cs := by
  obtain ⟨ar, rfl, hsz⟩ := okWide_struct Tryd.underlying37 o
  rw [show Tryd.prog.cellsOf 37 = 17 by kernel_rfl] at hsz
  obtain ⟨l⟩ := ar
  have hl : l.length = 17 := hsz
  obtain ⟨⟨n, ps, hn⟩, _⟩ := h
  have hn' : DataW.trod enc Tryd.prog w 0 (fun _ => true) true n 37 l = some (d, ps) := hn
  obtain ⟨ys, n', _, _, hlen, hyl, hfs⟩ := DataW.trod_struct Tryd.underlying37 hn'
  have c1 : Tryd.prog.cellsOf 34 = 1 := by kernel_rfl
  have c16 : Tryd.prog.cellsOf 35 = 16 := by kernel_rfl
  have h0 : DataW.trod enc Tryd.prog w 0 (fun _ => true) true n' 35 ((l.drop 0).take (Tryd.prog.cellsOf 35)) = ys[0]? := hfs 0 _ rfl
  have h1 : DataW.trod enc Tryd.prog w 0 (fun _ => true) true n' 34 ((l.drop 16).take (Tryd.prog.cellsOf 34)) = ys[1]? := hfs 1 _ rfl
  have y2 : ys.length = 2 := hyl
  rw [c16, List.drop_zero, List.getElem?_eq_getElem (by omega)] at h0
  rw [c1, take_one l 16 (by omega), List.getElem?_eq_getElem (by omega)] at h1
  obtain ⟨xs, m, _, _, _, hxl, hxs⟩ := DataW.trod_array Tryd.underlying35 h0
  have key : ∀ (i : Nat) (hi : i < l.length), ∃ x, l[i] = .int .u32 x ∧ 0 ≤ x ∧ x < 4294967296 := by
    intro i hi
    by_cases h16 : i < 16
    · have hx := hxs i h16
      simp only [c1, Nat.mul_one] at hx
      rw [take_one _ i (by simp; omega), List.getElem?_eq_getElem (by omega)] at hx
      obtain ⟨x, e, _, hw⟩ := DataW.trod_int Tryd.underlying34 hx
      injection e with e _
      exact ⟨x, by simpa using e, wf_u32 hw⟩
    · have hi16 : i = 16 := by omega
      subst hi16
      obtain ⟨x, e, _, hw⟩ := DataW.trod_int Tryd.underlying34 h1
      injection e with e _
      exact ⟨x, e, wf_u32 hw⟩
  obtain ⟨cs, hcs, hb⟩ := words_of key
  refine ⟨cs, by rw [hcs]; rfl, ?_, hb⟩
  have := congrArg List.length hcs
  simp at this
  omega
end
end Go.Proofs.YtccobbfinmlgdaaDoor
