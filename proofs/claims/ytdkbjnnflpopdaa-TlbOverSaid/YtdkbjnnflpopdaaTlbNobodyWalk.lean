/-
  The walk of 'TlbNobody'.
-/
import Derived.Test.YtdkbjnnflpopdaaTlbLives
import Derived.Test.YtdkbjnnflpopdaaRead
namespace Go.Proofs.Ytdkbjnnflpopdaa
open Go.ChangeShapes Go.WideShapes Go.ChangeAt Go.RowKit Go.Deep
set_option linter.unusedVariables false
section
variable {H : Type} {enc : TypeId × Value → H} {w : World} {base : Nat} {d : DataW H}
theorem take_oneK (cs : List Value) (i : Nat) (h : i < cs.length) : List.take 1 (List.drop i cs) = [cs[i]] := by
  rw [List.drop_eq_getElem_cons h]; rfl
theorem key_field {fs : Array Field} {cs : List Value} {ys : List (DataW H × List MemPlace)} {n' : Nat} (hyl : ys.length = fs.size)
    (hfs : ∀ (i : Nat) (f : Field), fs[i]? = some f → DataW.trod enc Try.prog w 0 (fun _ => true) true n' f.type (List.take (Try.prog.cellsOf f.type) (List.drop f.offset cs)) = ys[i]?)
    (j : Nat) (f : Field) (hj : fs[j]? = some f) (ht : f.type = 3) (hc : f.offset < cs.length) : ∃ x, cs[f.offset]? = some (.int .i64 x) ∧ (Lit.int .i64 x).wf = true := by
  have h := hfs j f hj
  rw [ht, show Try.prog.cellsOf 3 = 1 by kernel_rfl, take_oneK cs _ hc] at h
  have hl : j < ys.length := by rw [hyl]; exact (Array.getElem?_eq_some_iff.1 hj).1
  rw [List.getElem?_eq_getElem hl] at h
  obtain ⟨x, hx, _, hw⟩ := DataW.trod_int Try.underlying3 h
  injection hx with hx _
  exact ⟨x, by rw [List.getElem?_eq_getElem hc, hx], hw⟩
set_option maxRecDepth 100000 in
theorem Rd.key2 {v : Value} (o : Value.okWide Try.prog w .any base 33 v) (h : Rd enc Try.prog w 33 v.cells.toList d) : ∃ k : K2, k.wf ∧ v = .agg #[.int .i64 k.1, .int .i64 k.2] := by
  obtain ⟨cs, rfl, hsz⟩ := okWide_struct Try.underlying33 o
  rw [cellsKey] at hsz
  obtain ⟨l⟩ := cs
  match l, hsz with
  | [c0, c1], _ =>
    obtain ⟨⟨n, ps, hn⟩, _⟩ := h
    obtain ⟨ys, n', _, _, hlen, hyl, hfs⟩ := DataW.trod_struct Try.underlying33 hn
    obtain ⟨a, e0, w0⟩ := key_field hyl hfs 0 _ rfl rfl (by simp [Value.cells])
    obtain ⟨b, e1, w1⟩ := key_field hyl hfs 1 _ rfl rfl (by simp [Value.cells])
    refine ⟨(a, b), ⟨w0, w1⟩, ?_⟩
    simp [Value.cells] at e0 e1
    subst e0 e1
    rfl
set_option maxRecDepth 100000 in
theorem tlbNobody_walk (h : Int) {v : Value} (n : Int) (o : Value.okWide Try.prog w .any base 33 v) (r : Rd enc Try.prog w 33 v.cells.toList d) :
    Calls Try.prog 6 #[.int .i64 h, v, .int .i64 n] w fun e w' => e = .returned (.bool true) ∧ Below w.heap.size w w' := by
  obtain ⟨k, _, rfl⟩ := r.key2 o
  exact tlbNobody_is h k.1 k.2 n w
end
end Go.Proofs.Ytdkbjnnflpopdaa
