/-
  What an argument's reading says of memory: 'Rd': the cells cs of type t read as the datum d, and each string, slice and map in it is within the form's own reach. Over any program.
-/
import Derived.Test.YtccobbfinmlgdaaDoorLib
import Derived.Deep.Slices
import Derived.SizedLaws
namespace Go.Proofs.YtccobbfinmlgdaaDoor
open Go.ChangeShapes Go.WideShapes Go.ChangeAt Go.RowKit Go.Deep
set_option linter.unusedVariables false

def Rd {H : Type} (enc : TypeId × Value → H) (P : Program) (w : World) (t : TypeId) (cs : List Value) (d : DataW H) : Prop :=
  (∃ n ps, DataW.trod enc P w 0 (fun _ => true) true n t cs = some (d, ps)) ∧ ∀ x ∈ d.weights P t, x ≤ reachBytes

section
variable {H : Type} {enc : TypeId × Value → H} {P : Program} {w : World} {t e : TypeId} {k : IntKind} {cs : List Value} {d : DataW H} {v : Value}

theorem Rd.of {ps : List MemPlace} (h : DataW.Trod enc P w 0 (fun _ => true) true t v d ps) (hw : ∀ x ∈ d.weights P t, x ≤ reachBytes) : Rd enc P w t v.cells.toList d := by
  obtain ⟨n, hn⟩ := h
  exact ⟨⟨n, ps, hn⟩, hw⟩

theorem Rd.int (ht : P.underlying t = some (.int k)) (h : Rd enc P w t cs d) : ∃ x, cs = [.int k x] ∧ (Lit.int k x).wf = true := by
  obtain ⟨⟨n, ps, hn⟩, _⟩ := h
  obtain ⟨x, hx, _, hw⟩ := DataW.trod_int ht hn
  exact ⟨x, hx, hw⟩

theorem Rd.ints (ht : P.underlying t = some (.slice e)) (he : P.underlying e = some (.int k)) (hc : P.cellsOf e = 1) (h : Rd enc P w t cs d) :
    ∃ A n c zs, cs = [.slice A n c] ∧ IsRow k w A n c zs ∧ c * P.bytesOf e ≤ reachBytes := by
  obtain ⟨⟨f, ps, hf⟩, hw⟩ := h
  rcases open_ints ht he hc hf with ⟨hcs, hx⟩ | ⟨a, len, cap, zs, hcs, _, hl, hm, hz, hx, hcell, hwf⟩
  · exact ⟨none, 0, 0, [], hcs, .inl ⟨rfl, rfl, rfl, rfl⟩, by simp⟩
  · simp only [Prod.mk.injEq] at hx
    have hz' : zs.length = cap := by simpa using hz
    refine ⟨some a, len, cap, zs, hcs, .inr ⟨a, rfl, hl, hm, hz', hcell, hwf⟩, ?_⟩
    refine hw _ ?_
    rw [hx.1]
    simp only [DataW.weights, ht, List.mem_cons]
    left
    simp only [lits, List.length_map, List.length_take, List.length_drop]
    congr 1
    omega

theorem weightsAll_of {l : List (DataW H)} {x : DataW H} (hx : x ∈ l) {n : Nat} (hn : n ∈ x.weights P e) : n ∈ DataW.weightsAll P e l := by
  induction l with
  | nil => cases hx
  | cons y r ih =>
    simp only [DataW.weightsAll, List.mem_append]
    rcases List.mem_cons.1 hx with rfl | h
    · exact .inl hn
    · exact .inr (ih h)

/-- A slice of structs: each field of one cell is read at its place. -/
theorem Rd.structs {fs : Array Field} (ht : P.underlying t = some (.slice e)) (he : P.underlying e = some (.struct fs)) (h : Rd enc P w t cs d) :
    ∃ A n c, cs = [.slice A n c] ∧ n ≤ c ∧ c ≤ maxLen ∧ c * P.bytesOf e ≤ reachBytes ∧ (A = none → n = 0 ∧ c = 0) ∧
      ∀ i, i < n → ∀ (j : Nat) (f : Field), fs[j]? = some f → P.cellsOf f.type = 1 → f.offset < P.cellsOf e →
        ∃ (b o : Nat) (v : Value) (y : DataW H), A = some ⟨b, o, none⟩ ∧ b < w.heap.size ∧ w.cell? ⟨b, o + (i * P.cellsOf e + f.offset), none⟩ = some v ∧ Rd enc P w f.type [v] y := by
  obtain ⟨⟨fu, ps, hf⟩, hw⟩ := h
  rcases open_slice ht hf with ⟨hcs, hx⟩ | ⟨a, len, cap, m, n, D, Pl, hcs, _, hl, hm, hmm, hx, hi⟩
  · exact ⟨none, 0, 0, hcs, Nat.le_refl _, Nat.zero_le _, by simp, fun _ => ⟨rfl, rfl⟩, fun i hi => absurd hi (by omega)⟩
  · have hmc : m = cap := by simpa using hmm
    subst hmc
    simp only [Prod.mk.injEq] at hx
    refine ⟨some a, len, m, hcs, hl, hm, ?_, (fun h => by cases h), fun i hil j f hj h1 ho => ?_⟩
    · refine hw _ ?_
      rw [hx.1]
      simp only [DataW.weights, ht, List.mem_cons]
      left
      simp only [List.length_map, List.length_range]
      congr 1
      omega
    · obtain ⟨cs', hc', htr⟩ := hi i (by omega)
      obtain ⟨ys, n', _, hy, hlen, hyl, hfs⟩ := DataW.trod_struct he htr
      obtain ⟨_, hcl, hat⟩ := World.cells?_some hc'
      have hcell := hat f.offset ho
      have hget : cs'[f.offset]? = some (cs'[f.offset]'(by omega)) := List.getElem?_eq_getElem (by omega)
      have hfj := hfs j f hj
      have hone : (cs'.drop f.offset).take (P.cellsOf f.type) = [cs'[f.offset]'(by omega)] := by
        rw [h1, List.drop_eq_getElem_cons (by omega)]
        rfl
      rw [hone] at hfj
      have hjl : j < ys.length := by rw [hyl]; exact (Array.getElem?_eq_some_iff.1 hj).1
      rw [List.getElem?_eq_getElem hjl] at hfj
      rw [Addr.add_add, hget] at hcell
      have hspot : a.spot = none := by
        obtain ⟨cs0, hc0, _⟩ := hi 0 (by omega)
        obtain ⟨_, hcl0, hat0⟩ := World.cells?_some hc0
        have h0 := hat0 0 (by omega)
        rw [Addr.add_add, List.getElem?_eq_getElem (by omega : 0 < cs0.length)] at h0
        have ha0 : a.add (0 * P.cellsOf e + 0) = a := by unfold Addr.add; simp
        rw [ha0] at h0
        unfold World.cell? at h0
        split at h0
        · split at h0
          · cases h0
          · rename_i h; simpa using h
        · cases h0
      have hadd : a.add (i * P.cellsOf e + f.offset) = ⟨a.block, a.off + (i * P.cellsOf e + f.offset), none⟩ := by
        obtain ⟨b, o, sp⟩ := a
        simp only at hspot
        subst hspot
        unfold Addr.add
        by_cases hz : i * P.cellsOf e + f.offset = 0
        · rw [if_pos hz, hz]; rfl
        · rw [if_neg hz]
      rw [hadd] at hcell
      have hlt := World.block_lt_of_cell? w _ hcell
      have hA : (some a : Option Addr) = some ⟨a.block, a.off, none⟩ := by
        obtain ⟨b, o, sp⟩ := a
        simp only at hspot
        subst hspot
        rfl
      refine ⟨a.block, a.off, _, (ys[j]).1, hA, hlt, hcell, ⟨n', (ys[j]).2, hfj⟩, fun x hx' => hw x ?_⟩
      rw [hx.1]
      simp only [DataW.weights, ht, List.mem_cons, List.mem_append]
      right; left
      refine weightsAll_of (x := D i) (List.mem_map.2 ⟨i, List.mem_range.2 hil, rfl⟩) ?_
      have hD : D i = .agg (ys.map (·.1)) := by
        simp only [Prod.mk.injEq] at hy
        exact hy.1
      rw [hD]
      simp only [DataW.weights, he]
      exact DataW.weights_mem_each (j := j) (by simp [Array.getElem?_toList, hj]) (by simp [List.getElem?_map, List.getElem?_eq_getElem hjl]) x hx'
end
end Go.Proofs.YtccobbfinmlgdaaDoor
