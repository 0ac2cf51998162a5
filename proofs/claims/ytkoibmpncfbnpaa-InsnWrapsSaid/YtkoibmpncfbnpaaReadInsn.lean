/-
  What the arguments of layer 3's statements read as: an instruction is four ints, a processor 17 words.
-/
import Derived.Test.YtkoibmpncfbnpaaCpu
import Derived.Test.YtkoibmpncfbnpaaRead
namespace Go.Proofs.Ytkoibmpncfbnpaa
open Go.ChangeShapes Go.WideShapes Go.ChangeAt Go.RowKit Go.Deep
set_option linter.unusedVariables false

theorem take_one {α : Type} (l : List α) (i : Nat) (h : i < l.length) : (l.drop i).take 1 = [l[i]] := by
  rw [List.drop_eq_getElem_cons h]; rfl

theorem wf_i64 {x : Int} (h : (Lit.int .i64 x).wf = true) : I64 x := by
  have : -9223372036854775808 ≤ x ∧ x ≤ 9223372036854775807 := by simpa [Lit.wf, IntKind.min, IntKind.max, IntKind.signed, IntKind.bits] using h
  exact this
theorem wf_u32 {x : Int} (h : (Lit.int .u32 x).wf = true) : 0 ≤ x ∧ x < 4294967296 := by
  have : 0 ≤ x ∧ x ≤ 4294967295 := by simpa [Lit.wf, IntKind.min, IntKind.max, IntKind.signed, IntKind.bits] using h
  omega

section
variable {H : Type} {enc : TypeId × Value → H} {w : World} {base : Nat} {d : DataW H}
theorem insn_field {fs : Array Field} {cs : List Value} {ys : List (DataW H × List MemPlace)} {n' : Nat} (hyl : ys.length = fs.size)
    (hfs : ∀ (i : Nat) (f : Field), fs[i]? = some f → DataW.trod enc Try.prog w 0 (fun _ => true) true n' f.type (List.take (Try.prog.cellsOf f.type) (List.drop f.offset cs)) = ys[i]?)
    (j : Nat) (f : Field) (hj : fs[j]? = some f) (ht : f.type = 3) (hc : f.offset < cs.length) : ∃ x, cs[f.offset]? = some (.int .i64 x) ∧ (Lit.int .i64 x).wf = true := by
  have h := hfs j f hj
  rw [ht, show Try.prog.cellsOf 3 = 1 by kernel_rfl, take_one cs _ hc] at h
  have hl : j < ys.length := by rw [hyl]; exact (Array.getElem?_eq_some_iff.1 hj).1
  rw [List.getElem?_eq_getElem hl] at h
  obtain ⟨x, hx, _, hw⟩ := DataW.trod_int Try.underlying3 h
  injection hx with hx _
  exact ⟨x, by rw [List.getElem?_eq_getElem hc, hx], hw⟩

theorem Rd.insn {v : Value} (o : Value.okWide Try.prog w .any base 24 v) (h : Rd enc Try.prog w 24 v.cells.toList d) : ∃ a b c i, v = insnV a b c i ∧ I64 a ∧ I64 b ∧ I64 c ∧ I64 i := by
  obtain ⟨cs, rfl, hsz⟩ := okWide_struct Try.underlying24 o
  rw [show Try.prog.cellsOf 24 = 4 by kernel_rfl] at hsz
  obtain ⟨l⟩ := cs
  match l, hsz with
  | [c0, c1, c2, c3], _ =>
    obtain ⟨⟨n, ps, hn⟩, _⟩ := h
    obtain ⟨ys, n', _, _, hlen, hyl, hfs⟩ := DataW.trod_struct Try.underlying24 hn
    obtain ⟨a, e0, w0⟩ := insn_field hyl hfs 0 _ rfl rfl (by simp [Value.cells])
    obtain ⟨b, e1, w1⟩ := insn_field hyl hfs 1 _ rfl rfl (by simp [Value.cells])
    obtain ⟨c, e2, w2⟩ := insn_field hyl hfs 2 _ rfl rfl (by simp [Value.cells])
    obtain ⟨i, e3, w3⟩ := insn_field hyl hfs 3 _ rfl rfl (by simp [Value.cells])
    refine ⟨a, b, c, i, ?_, wf_i64 w0, wf_i64 w1, wf_i64 w2, wf_i64 w3⟩
    simp [Value.cells] at e0 e1 e2 e3
    subst e0 e1 e2 e3
    rfl

theorem words_of {l : List Value} (h : ∀ (i : Nat) (hi : i < l.length), ∃ x, l[i] = .int .u32 x ∧ 0 ≤ x ∧ x < 4294967296) : ∃ xs : List Int, l = xs.map (Value.int .u32) ∧ ∀ x ∈ xs, 0 ≤ x ∧ x < 4294967296 := by
  induction l with
  | nil => exact ⟨[], rfl, by simp⟩
  | cons y r ih =>
    obtain ⟨x, hx, hb⟩ := h 0 (by simp)
    obtain ⟨xs, hxs, hbs⟩ := ih (fun i hi => h (i + 1) (by simp; omega))
    refine ⟨x :: xs, ?_, ?_⟩
    · simp only [List.getElem_cons_zero] at hx
      rw [hx, hxs]; rfl
    · intro z hz
      rcases List.mem_cons.1 hz with rfl | hz
      · exact hb
      · exact hbs z hz

theorem Rd.cpu {v : Value} (o : Value.okWide Try.prog w .any base 35 v) (h : Rd enc Try.prog w 35 v.cells.toList d) : ∃ cs, v = .agg (u32A cs) ∧ IsCpu cs := by
  obtain ⟨ar, rfl, hsz⟩ := okWide_struct Try.underlying35 o
  rw [show Try.prog.cellsOf 35 = 17 by kernel_rfl] at hsz
  obtain ⟨l⟩ := ar
  have hl : l.length = 17 := hsz
  obtain ⟨⟨n, ps, hn⟩, _⟩ := h
  have hn' : DataW.trod enc Try.prog w 0 (fun _ => true) true n 35 l = some (d, ps) := hn
  obtain ⟨ys, n', _, _, hlen, hyl, hfs⟩ := DataW.trod_struct Try.underlying35 hn'
  have c1 : Try.prog.cellsOf 22 = 1 := by kernel_rfl
  have c16 : Try.prog.cellsOf 33 = 16 := by kernel_rfl
  have h0 : DataW.trod enc Try.prog w 0 (fun _ => true) true n' 33 ((l.drop 0).take (Try.prog.cellsOf 33)) = ys[0]? := hfs 0 _ rfl
  have h1 : DataW.trod enc Try.prog w 0 (fun _ => true) true n' 22 ((l.drop 16).take (Try.prog.cellsOf 22)) = ys[1]? := hfs 1 _ rfl
  have y2 : ys.length = 2 := hyl
  rw [c16, List.drop_zero, List.getElem?_eq_getElem (by omega)] at h0
  rw [c1, take_one l 16 (by omega), List.getElem?_eq_getElem (by omega)] at h1
  obtain ⟨xs, m, _, _, _, hxl, hxs⟩ := DataW.trod_array Try.underlying33 h0
  have key : ∀ (i : Nat) (hi : i < l.length), ∃ x, l[i] = .int .u32 x ∧ 0 ≤ x ∧ x < 4294967296 := by
    intro i hi
    by_cases h16 : i < 16
    · have hx := hxs i h16
      simp only [c1, Nat.mul_one] at hx
      rw [take_one _ i (by simp; omega), List.getElem?_eq_getElem (by omega)] at hx
      obtain ⟨x, e, _, hw⟩ := DataW.trod_int Try.underlying22 hx
      injection e with e _
      exact ⟨x, by simpa using e, wf_u32 hw⟩
    · have hi16 : i = 16 := by omega
      subst hi16
      obtain ⟨x, e, _, hw⟩ := DataW.trod_int Try.underlying22 h1
      injection e with e _
      exact ⟨x, e, wf_u32 hw⟩
  obtain ⟨cs, hcs, hb⟩ := words_of key
  refine ⟨cs, by rw [hcs]; rfl, ?_, hb⟩
  have := congrArg List.length hcs
  simp at this
  omega
end
end Go.Proofs.Ytkoibmpncfbnpaa
