/-
  Slabs (parapetlaw08): the calls of the laws, read.
-/
import Derived.Test.YtgoaebikgdecoaaDoorSlabFitsW
import Derived.Test.YtgoaebikgdecoaaDoorSlabNobodyWalk
namespace Go.Proofs.YtgoaebikgdecoaaDoor
open Go.ChangeShapes Go.WideShapes Go.ChangeAt Go.RowKit Go.Deep
set_option linter.unusedVariables false
section
variable {H : Type} {enc : TypeId × Value → H} {P : Program} {w : World} {d : DataW H}
/-- A slice of structs: all cells of each. -/
theorem Rd.structs_all {t e : TypeId} {cs : List Value} {fs : Array Field} (ht : P.underlying t = some (.slice e)) (he : P.underlying e = some (.struct fs)) (hpos : 0 < P.cellsOf e) (h : Rd enc P w t cs d) :
    ∃ A n c, cs = [.slice A n c] ∧ n ≤ c ∧ c * P.bytesOf e ≤ reachBytes ∧
      ∀ i, i < n → ∃ (b o : Nat) (xs : List Value) (ys : List (DataW H × List MemPlace)) (n' : Nat), A = some ⟨b, o, none⟩ ∧ b < w.heap.size ∧ xs.length = P.cellsOf e ∧ (∀ m, m < P.cellsOf e → w.cell? ⟨b, o + (i * P.cellsOf e + m), none⟩ = xs[m]?) ∧ ys.length = fs.size ∧
        ∀ (j : Nat) (f : Field), fs[j]? = some f → DataW.trod enc P w 0 (fun _ => true) true n' f.type (List.take (P.cellsOf f.type) (List.drop f.offset xs)) = ys[j]? := by
  obtain ⟨⟨fu, ps, hf⟩, hw⟩ := h
  rcases open_slice ht hf with ⟨hcs, hx⟩ | ⟨a, len, cap, m, n, D, Pl, hcs, _, hl, hm, hmm, hx, hi⟩
  · exact ⟨none, 0, 0, hcs, Nat.le_refl _, by simp, fun i hi => absurd hi (by omega)⟩
  · have hmc : m = cap := by simpa using hmm
    subst hmc
    simp only [Prod.mk.injEq] at hx
    refine ⟨some a, len, m, hcs, hl, ?_, fun i hil => ?_⟩
    · refine hw _ ?_
      rw [hx.1]
      simp only [DataW.weights, ht, List.mem_cons]
      left
      simp only [List.length_map, List.length_range]
      congr 1
      omega
    · obtain ⟨cs', hc', htr⟩ := hi i (by omega)
      obtain ⟨ys, n', _, hy, hlen, hyl, hfs⟩ := DataW.trod_struct he htr
      obtain ⟨_, hcl, hat⟩ := World.cells?_some hc'
      have hspot : a.spot = none := by
        obtain ⟨cs0, hc0, _⟩ := hi 0 (by omega)
        obtain ⟨_, hcl0, hat0⟩ := World.cells?_some hc0
        have h0 := hat0 0 hpos
        rw [Addr.add_add, List.getElem?_eq_getElem (by omega : 0 < cs0.length)] at h0
        have ha0 : a.add (0 * P.cellsOf e + 0) = a := by unfold Addr.add; simp
        rw [ha0] at h0
        unfold World.cell? at h0
        split at h0
        · split at h0
          · cases h0
          · rename_i h; simpa using h
        · cases h0
      have hadd : ∀ m, a.add (i * P.cellsOf e + m) = ⟨a.block, a.off + (i * P.cellsOf e + m), none⟩ := fun m => by
        obtain ⟨b, o, sp⟩ := a
        simp only at hspot
        subst hspot
        unfold Addr.add
        by_cases hz : i * P.cellsOf e + m = 0
        · rw [if_pos hz, hz]; rfl
        · rw [if_neg hz]
      have hcell : ∀ m, m < P.cellsOf e → w.cell? ⟨a.block, a.off + (i * P.cellsOf e + m), none⟩ = cs'[m]? := fun m hm => by
        have := hat m hm
        rw [Addr.add_add, hadd] at this
        exact this
      have hlt : a.block < w.heap.size := by
        have h0 := hcell 0 hpos
        rw [List.getElem?_eq_getElem (by omega : 0 < cs'.length)] at h0
        exact World.block_lt_of_cell? w ⟨a.block, _, none⟩ h0
      have hA : (some a : Option Addr) = some ⟨a.block, a.off, none⟩ := by
        obtain ⟨b, o, sp⟩ := a
        simp only at hspot
        subst hspot
        rfl
      exact ⟨_, _, cs', ys, n', hA, hlt, by omega, hcell, hyl, hfs⟩
end

def OpAt8 (w : World) (A : Option Addr) (i : Nat) : Prop :=
  ∃ (q o : Nat) (k x ow id : Int) (V : Option Addr) (vn vc : Nat), A = some ⟨q, o, none⟩ ∧ q < w.heap.size ∧ iW ow ∧ iW id ∧ w.cell? ⟨q, o + i * 5, none⟩ = some (.int .i64 k) ∧ w.cell? ⟨q, o + i * 5 + 1, none⟩ = some (.int .i64 x) ∧ w.cell? ⟨q, o + i * 5 + 2, none⟩ = some (.int .i64 ow) ∧
    w.cell? ⟨q, o + i * 5 + 3, none⟩ = some (.int .i64 id) ∧ w.cell? ⟨q, o + i * 5 + 4, none⟩ = some (.slice V vn vc)
theorem cells_op8 : Tryd.prog.cellsOf 33 = 5 := by kernel_rfl
theorem OpAt8.only {w w' : World} {A : Option Addr} {i : Nat} (h : OpAt8 w A i) (ho : Only [] w w') : OpAt8 w' A i := by
  obtain ⟨q, o, k, x, ow, id, V, vn, vc, e, hq, h1, h2, c0, c1, c2, c3, c4⟩ := h
  exact ⟨q, o, k, x, ow, id, V, vn, vc, e, Nat.lt_of_lt_of_le hq ho.size, h1, h2, (ho.cell hq (by simp)).trans c0, (ho.cell hq (by simp)).trans c1, (ho.cell hq (by simp)).trans c2, (ho.cell hq (by simp)).trans c3, (ho.cell hq (by simp)).trans c4⟩
section
variable {H : Type} {enc : TypeId × Value → H} {w : World} {d : DataW H}
set_option maxRecDepth 100000 in
theorem Rd.ops8 {A : Option Addr} {n c : Nat} (h : Rd enc Tryd.prog w 22 [.slice A n c] d) : n < 3000000000000 ∧ ∀ i, i < n → OpAt8 w A i := by
  obtain ⟨A', n', c', hv, hl, hb, hf⟩ := h.structs_all Tryd.underlying22 Tryd.underlying33 (by rw [cells_op8]; decide)
  injection hv with hv _
  injection hv with e1 e2 e3
  subst e1 e2 e3
  have hby : Tryd.prog.bytesOf 33 = 56 := by kernel_rfl
  rw [hby] at hb
  refine ⟨by unfold reachBytes at hb; omega, fun i hi => ?_⟩
  rw [cells_op8] at hf
  obtain ⟨q, o, xs, ys, nn, hA, hq, hxl, hc, hyl, hfs⟩ := hf i hi
  obtain ⟨a, e0, _⟩ := op8_field hyl hfs 0 _ rfl rfl (by rw [hxl]; decide)
  obtain ⟨b, e1, _⟩ := op8_field hyl hfs 1 _ rfl rfl (by rw [hxl]; decide)
  obtain ⟨cc, e2, w2⟩ := op8_field hyl hfs 2 _ rfl rfl (by rw [hxl]; decide)
  obtain ⟨dd, e3, w3⟩ := op8_field hyl hfs 3 _ rfl rfl (by rw [hxl]; decide)
  have h4 : 4 < xs.length := by rw [hxl]; decide
  obtain ⟨V, vn, vc, e4⟩ : ∃ V vn vc, xs[4]? = some (.slice V vn vc) := by
    have hk : DataW.trod enc Tryd.prog w 0 (fun _ => true) true nn 31 (List.take (Tryd.prog.cellsOf 31) (List.drop 4 xs)) = ys[4]? := hfs 4 _ rfl
    rw [List.getElem?_eq_getElem (by rw [hyl]; decide), show Tryd.prog.cellsOf 31 = 1 by kernel_rfl, take_one8 xs _ h4] at hk
    rw [List.getElem?_eq_getElem h4]
    rcases open_slice Tryd.underlying31 hk with ⟨hcs, _⟩ | ⟨a, len, cap, m, n, D, Pl, hcs, _⟩
    · injection hcs with hcs _
      exact ⟨_, _, _, congrArg some hcs⟩
    · injection hcs with hcs _
      exact ⟨_, _, _, congrArg some hcs⟩
  exact ⟨q, o, a, b, cc, dd, V, vn, vc, hA, hq, w2, w3, (hc 0 (by decide)).trans e0, (hc 1 (by decide)).trans e1, (hc 2 (by decide)).trans e2, (hc 3 (by decide)).trans e3, (hc 4 (by decide)).trans e4⟩
end
end Go.Proofs.YtgoaebikgdecoaaDoor
