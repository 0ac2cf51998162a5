/-
  Translations (parapet/tlb): the calls of the laws, read.
-/
import Derived.Test.YtdkbjnnflpopdaaTlbNobodyWalk
namespace Go.Proofs.Ytdkbjnnflpopdaa
open Go.ChangeShapes Go.WideShapes Go.ChangeAt Go.RowKit Go.Deep
set_option linter.unusedVariables false
section
variable {H : Type} {enc : TypeId × Value → H} {P : Program} {w : World} {d : DataW H}
/-- A slice of structs: all cells of each. -/
theorem Rd.structs_all {t e : TypeId} {cs : List Value} {fs : Array Field} (ht : P.underlying t = some (.slice e)) (he : P.underlying e = some (.struct fs)) (hpos : 0 < P.cellsOf e) (h : Rd enc P w t cs d) :
    ∃ A n c, cs = [.slice A n c] ∧ n ≤ c ∧ c * P.bytesOf e ≤ reachBytes ∧
      ∀ i, i < n → ∃ (b o : Nat) (xs : List Value) (ys : List (DataW H × List MemPlace)) (n' : Nat), A = some ⟨b, o, none⟩ ∧ b < w.heap.size ∧ xs.length = P.cellsOf e ∧ (∀ m, m < P.cellsOf e → w.cell? ⟨b, o + (i * P.cellsOf e + m), none⟩ = xs[m]?) ∧ ys.length = fs.size ∧
        ∀ (j : Nat) (f : Field), fs[j]? = some f → DataW.trod enc P w 0 (fun _ => true) true n' f.type (List.take (P.cellsOf f.type) (List.drop f.offset xs)) = ys[j]? := by
  obtain ⟨⟨fu, ps, hf⟩, hw⟩ := h
  rcases open_slice ht hf with ⟨hcs, hx⟩ | ⟨a, len, cap, m, n, D, Pl, hcs, _, hl, hm, hmm, hx, hi⟩
  · exact ⟨none, 0, 0, hcs, Nat.le_refl _, by simp, fun i hi => absurd hi (by omega)⟩
  · have hmc : m = cap := by simpa using hmm
    subst hmc
    simp only [Prod.mk.injEq] at hx
    refine ⟨some a, len, m, hcs, hl, ?_, fun i hil => ?_⟩
    · refine hw _ ?_
      rw [hx.1]
      simp only [DataW.weights, ht, List.mem_cons]
      left
      simp only [List.length_map, List.length_range]
      congr 1
      omega
    · obtain ⟨cs', hc', htr⟩ := hi i (by omega)
      obtain ⟨ys, n', _, hy, hlen, hyl, hfs⟩ := DataW.trod_struct he htr
      obtain ⟨_, hcl, hat⟩ := World.cells?_some hc'
      have hspot : a.spot = none := by
        obtain ⟨cs0, hc0, _⟩ := hi 0 (by omega)
        obtain ⟨_, hcl0, hat0⟩ := World.cells?_some hc0
        have h0 := hat0 0 hpos
        rw [Addr.add_add, List.getElem?_eq_getElem (by omega : 0 < cs0.length)] at h0
        have ha0 : a.add (0 * P.cellsOf e + 0) = a := by unfold Addr.add; simp
        rw [ha0] at h0
        unfold World.cell? at h0
        split at h0
        · split at h0
          · cases h0
          · rename_i h; simpa using h
        · cases h0
      have hadd : ∀ m, a.add (i * P.cellsOf e + m) = ⟨a.block, a.off + (i * P.cellsOf e + m), none⟩ := fun m => by
        obtain ⟨b, o, sp⟩ := a
        simp only at hspot
        subst hspot
        unfold Addr.add
        by_cases hz : i * P.cellsOf e + m = 0
        · rw [if_pos hz, hz]; rfl
        · rw [if_neg hz]
      have hcell : ∀ m, m < P.cellsOf e → w.cell? ⟨a.block, a.off + (i * P.cellsOf e + m), none⟩ = cs'[m]? := fun m hm => by
        have := hat m hm
        rw [Addr.add_add, hadd] at this
        exact this
      have hlt : a.block < w.heap.size := by
        have h0 := hcell 0 hpos
        rw [List.getElem?_eq_getElem (by omega : 0 < cs'.length)] at h0
        exact World.block_lt_of_cell? w ⟨a.block, _, none⟩ h0
      have hA : (some a : Option Addr) = some ⟨a.block, a.off, none⟩ := by
        obtain ⟨b, o, sp⟩ := a
        simp only at hspot
        subst hspot
        rfl
      exact ⟨_, _, cs', ys, n', hA, hlt, by omega, hcell, hyl, hfs⟩
end
def OpAt7 (w : World) (A : Option Addr) (i : Nat) : Prop :=
  ∃ (q o : Nat) (k h : Int) (key : K2) (e n : Int) (V : Option Addr) (vn vc : Nat), A = some ⟨q, o, none⟩ ∧ q < w.heap.size ∧ key.wf ∧ w.cell? ⟨q, o + i * 7, none⟩ = some (.int .i64 k) ∧ w.cell? ⟨q, o + i * 7 + 1, none⟩ = some (.int .i64 h) ∧ w.cell? ⟨q, o + i * 7 + 2, none⟩ = some (.int .i64 key.1) ∧
    w.cell? ⟨q, o + i * 7 + 3, none⟩ = some (.int .i64 key.2) ∧ w.cell? ⟨q, o + i * 7 + 4, none⟩ = some (.int .u32 e) ∧ w.cell? ⟨q, o + i * 7 + 5, none⟩ = some (.int .i64 n) ∧ w.cell? ⟨q, o + i * 7 + 6, none⟩ = some (.slice V vn vc)
theorem cells_op7 : Try.prog.cellsOf 37 = 7 := by kernel_rfl
section
variable {H : Type} {enc : TypeId × Value → H} {w : World} {d : DataW H}
theorem u32_field {fs : Array Field} {cs : List Value} {ys : List (DataW H × List MemPlace)} {n' : Nat} (hyl : ys.length = fs.size)
    (hfs : ∀ (i : Nat) (f : Field), fs[i]? = some f → DataW.trod enc Try.prog w 0 (fun _ => true) true n' f.type (List.take (Try.prog.cellsOf f.type) (List.drop f.offset cs)) = ys[i]?)
    (j : Nat) (f : Field) (hj : fs[j]? = some f) (ht : f.type = 34) (hc : f.offset < cs.length) : ∃ x, cs[f.offset]? = some (.int .u32 x) := by
  have h := hfs j f hj
  rw [ht, show Try.prog.cellsOf 34 = 1 by kernel_rfl, take_oneK cs _ hc] at h
  have hl : j < ys.length := by rw [hyl]; exact (Array.getElem?_eq_some_iff.1 hj).1
  rw [List.getElem?_eq_getElem hl] at h
  obtain ⟨x, hx, _, hw⟩ := DataW.trod_int Try.underlying34 h
  injection hx with hx _
  exact ⟨x, by rw [List.getElem?_eq_getElem hc, hx]⟩
set_option maxRecDepth 100000 in
theorem Rd.ops7 {A : Option Addr} {n c : Nat} (h : Rd enc Try.prog w 22 [.slice A n c] d) : n < 2000000000000 ∧ ∀ i, i < n → OpAt7 w A i := by
  obtain ⟨A', n', c', hv, hl, hb, hf⟩ := h.structs_all Try.underlying22 Try.underlying37 (by rw [cells_op7]; decide)
  injection hv with hv _
  injection hv with e1 e2 e3
  subst e1 e2 e3
  have hby : Try.prog.bytesOf 37 = 72 := by kernel_rfl
  rw [hby] at hb
  refine ⟨by unfold reachBytes at hb; omega, fun i hi => ?_⟩
  rw [cells_op7] at hf
  obtain ⟨q, o, xs, ys, nn, hA, hq, hxl, hc, hyl, hfs⟩ := hf i hi
  obtain ⟨k, e0, _⟩ := key_field hyl hfs 0 _ rfl rfl (by rw [hxl]; decide)
  obtain ⟨hh, e1, _⟩ := key_field hyl hfs 1 _ rfl rfl (by rw [hxl]; decide)
  obtain ⟨e, e4⟩ := u32_field hyl hfs 3 _ rfl rfl (by rw [hxl]; decide)
  obtain ⟨m, e5, _⟩ := key_field hyl hfs 4 _ rfl rfl (by rw [hxl]; decide)
  have hk : DataW.trod enc Try.prog w 0 (fun _ => true) true nn 33 (List.take (Try.prog.cellsOf 33) (List.drop 2 xs)) = ys[2]? := hfs 2 _ rfl
  rw [List.getElem?_eq_getElem (by rw [hyl]; decide)] at hk
  obtain ⟨zs, n2, _, _, _, hzl, hgs⟩ := DataW.trod_struct Try.underlying33 hk
  have hkl : (List.take (Try.prog.cellsOf 33) (List.drop 2 xs)).length = 2 := by
    rw [cellsKey, List.length_take, List.length_drop, hxl]; decide
  obtain ⟨a, f0, w0⟩ := key_field hzl hgs 0 _ rfl rfl (by rw [hkl]; exact (by decide : 0 < 2))
  obtain ⟨b, f1, w1⟩ := key_field hzl hgs 1 _ rfl rfl (by rw [hkl]; exact (by decide : 1 < 2))
  rw [cellsKey] at f0 f1
  have e2 : xs[2]? = some (.int .i64 a) := by
    rw [List.getElem?_take, List.getElem?_drop] at f0
    simpa using f0
  have e3 : xs[3]? = some (.int .i64 b) := by
    rw [List.getElem?_take, List.getElem?_drop] at f1
    simpa using f1
  have h6 : 6 < xs.length := by rw [hxl]; decide
  obtain ⟨V, vn, vc, e6⟩ : ∃ V vn vc, xs[6]? = some (.slice V vn vc) := by
    have hk6 : DataW.trod enc Try.prog w 0 (fun _ => true) true nn 35 (List.take (Try.prog.cellsOf 35) (List.drop 6 xs)) = ys[5]? := hfs 5 _ rfl
    rw [List.getElem?_eq_getElem (by rw [hyl]; decide), show Try.prog.cellsOf 35 = 1 by kernel_rfl, take_oneK xs _ h6] at hk6
    rw [List.getElem?_eq_getElem h6]
    rcases open_slice Try.underlying35 hk6 with ⟨hcs, _⟩ | ⟨a, len, cap, m, n, D, Pl, hcs, _⟩
    · injection hcs with hcs _
      exact ⟨_, _, _, congrArg some hcs⟩
    · injection hcs with hcs _
      exact ⟨_, _, _, congrArg some hcs⟩
  exact ⟨q, o, k, hh, (a, b), e, m, V, vn, vc, hA, hq, ⟨w0, w1⟩, (hc 0 (by decide)).trans e0, (hc 1 (by decide)).trans e1, (hc 2 (by decide)).trans e2, (hc 3 (by decide)).trans e3, (hc 4 (by decide)).trans e4, (hc 5 (by decide)).trans e5, (hc 6 (by decide)).trans e6⟩
end
end Go.Proofs.Ytdkbjnnflpopdaa
