/-
  The law NamecKeeps: its calls, read: a kind, a name, an inode.
-/
import Derived.Test.YtjpojoflbjhjjaaNcXFd
import Derived.Test.YtjpojoflbjhjjaaNcLives
import Derived.Test.YtjpojoflbjhjjaaRead
namespace Go.Proofs.Ytjpojoflbjhjjaa
open Go.ChangeShapes Go.WideShapes Go.ChangeAt Go.RowKit Go.Maps Go.Deep
set_option linter.unusedVariables false
set_option linter.unusedSimpArgs false
section
variable {H : Type} {enc : TypeId × Value → H} {P : Program} {w : World} {d : DataW H}
/-- A slice of structs: all cells of each. -/
theorem Rd.structs_all {t e : TypeId} {cs : List Value} {fs : Array Field} (ht : P.underlying t = some (.slice e)) (he : P.underlying e = some (.struct fs)) (hpos : 0 < P.cellsOf e) (h : Rd enc P w t cs d) :
    ∃ A n c, cs = [.slice A n c] ∧ n ≤ c ∧ c * P.bytesOf e ≤ reachBytes ∧
      ∀ i, i < n → ∃ (b o : Nat) (xs : List Value) (ys : List (DataW H × List MemPlace)) (n' : Nat), A = some ⟨b, o, none⟩ ∧ b < w.heap.size ∧ xs.length = P.cellsOf e ∧ (∀ m, m < P.cellsOf e → w.cell? ⟨b, o + (i * P.cellsOf e + m), none⟩ = xs[m]?) ∧ ys.length = fs.size ∧
        ∀ (j : Nat) (f : Field), fs[j]? = some f → DataW.trod enc P w 0 (fun _ => true) true n' f.type (List.take (P.cellsOf f.type) (List.drop f.offset xs)) = ys[j]? := by
  obtain ⟨⟨fu, ps, hf⟩, hw⟩ := h
  rcases open_slice ht hf with ⟨hcs, hx⟩ | ⟨a, len, cap, m, n, D, Pl, hcs, _, hl, hm, hmm, hx, hi⟩
  · exact ⟨none, 0, 0, hcs, Nat.le_refl _, by simp, fun i hi => absurd hi (by omega)⟩
  · have hmc : m = cap := by simpa using hmm
    subst hmc
    simp only [Prod.mk.injEq] at hx
    refine ⟨some a, len, m, hcs, hl, ?_, fun i hil => ?_⟩
    · refine hw _ ?_
      rw [hx.1]
      simp only [DataW.weights, ht, List.mem_cons]
      left
      simp only [List.length_map, List.length_range]
      congr 1
      omega
    · obtain ⟨cs', hc', htr⟩ := hi i (by omega)
      obtain ⟨ys, n', _, hy, hlen, hyl, hfs⟩ := DataW.trod_struct he htr
      obtain ⟨_, hcl, hat⟩ := World.cells?_some hc'
      have hspot : a.spot = none := by
        obtain ⟨cs0, hc0, _⟩ := hi 0 (by omega)
        obtain ⟨_, hcl0, hat0⟩ := World.cells?_some hc0
        have h0 := hat0 0 hpos
        rw [Addr.add_add, List.getElem?_eq_getElem (by omega : 0 < cs0.length)] at h0
        have ha0 : a.add (0 * P.cellsOf e + 0) = a := by unfold Addr.add; simp
        rw [ha0] at h0
        unfold World.cell? at h0
        split at h0
        · split at h0
          · cases h0
          · rename_i h; simpa using h
        · cases h0
      have hadd : ∀ m, a.add (i * P.cellsOf e + m) = ⟨a.block, a.off + (i * P.cellsOf e + m), none⟩ := fun m => by
        obtain ⟨b, o, sp⟩ := a
        simp only at hspot
        subst hspot
        unfold Addr.add
        by_cases hz : i * P.cellsOf e + m = 0
        · rw [if_pos hz, hz]; rfl
        · rw [if_neg hz]
      have hcell : ∀ m, m < P.cellsOf e → w.cell? ⟨a.block, a.off + (i * P.cellsOf e + m), none⟩ = cs'[m]? := fun m hm => by
        have := hat m hm
        rw [Addr.add_add, hadd] at this
        exact this
      have hlt : a.block < w.heap.size := by
        have h0 := hcell 0 hpos
        rw [List.getElem?_eq_getElem (by omega : 0 < cs'.length)] at h0
        exact World.block_lt_of_cell? w ⟨a.block, _, none⟩ h0
      have hA : (some a : Option Addr) = some ⟨a.block, a.off, none⟩ := by
        obtain ⟨b, o, sp⟩ := a
        simp only at hspot
        subst hspot
        rfl
      exact ⟨_, _, cs', ys, n', hA, hlt, by omega, hcell, hyl, hfs⟩
end

theorem take_one19 {α : Type} (xs : List α) (k : Nat) (h : k < xs.length) : List.take 1 (List.drop k xs) = [xs[k]] := by
  rw [List.drop_eq_getElem_cons h]
  rfl
section
variable {H : Type} {enc : TypeId × Value → H} {w : World} {d : DataW H} {fs : Array Field} {cs : List Value} {ys : List (DataW H × List MemPlace)} {n' : Nat}
theorem fld_int (hyl : ys.length = fs.size) (hfs : ∀ (j : Nat) (f : Field), fs[j]? = some f → DataW.trod enc Try.prog w 0 (fun _ => true) true n' f.type (List.take (Try.prog.cellsOf f.type) (List.drop f.offset cs)) = ys[j]?)
    (j : Nat) (f : Field) (hj : fs[j]? = some f) (ht : f.type = 3) (hl : f.offset < cs.length) : ∃ x, cs[f.offset]? = some (.int .i64 x) ∧ (Lit.int .i64 x).wf = true := by
  have hk := hfs j f hj
  rw [List.getElem?_eq_getElem (by rw [hyl]; exact (Array.getElem?_eq_some_iff.1 hj).1), ht, show Try.prog.cellsOf 3 = 1 by kernel_rfl, take_one19 cs _ hl] at hk
  obtain ⟨x, hx, _, hw⟩ := DataW.trod_int Try.underlying3 hk
  injection hx with hx _
  exact ⟨x, by rw [List.getElem?_eq_getElem hl, hx], hw⟩
theorem fld_str (hyl : ys.length = fs.size) (hfs : ∀ (j : Nat) (f : Field), fs[j]? = some f → DataW.trod enc Try.prog w 0 (fun _ => true) true n' f.type (List.take (Try.prog.cellsOf f.type) (List.drop f.offset cs)) = ys[j]?)
    (j : Nat) (f : Field) (hj : fs[j]? = some f) (ht : f.type = 9) (hl : f.offset < cs.length) : ∃ x, cs[f.offset]? = some (.string x) ∧ x.size ≤ maxLen := by
  have hk := hfs j f hj
  rw [List.getElem?_eq_getElem (by rw [hyl]; exact (Array.getElem?_eq_some_iff.1 hj).1), ht, show Try.prog.cellsOf 9 = 1 by kernel_rfl, take_one19 cs _ hl] at hk
  obtain ⟨x, hx, _, hw⟩ := DataW.trod_string Try.underlying9 hk
  injection hx with hx _
  exact ⟨x, by rw [List.getElem?_eq_getElem hl, hx], hw⟩
end
def OpAt19 (w : World) (A : Option Addr) (i : Nat) : Prop :=
  ∃ (q o : Nat) (kd : Int) (k : NM) (n : Int), A = some ⟨q, o, none⟩ ∧ q < w.heap.size ∧ k.wf ∧ w.cell? ⟨q, o + i * 4, none⟩ = some (.int .i64 kd) ∧ w.cell? ⟨q, o + i * 4 + 1, none⟩ = some (.int .i64 k.dir) ∧ w.cell? ⟨q, o + i * 4 + 2, none⟩ = some (.string k.name) ∧ w.cell? ⟨q, o + i * 4 + 3, none⟩ = some (.int .i64 n)
theorem cells_op19 : Try.prog.cellsOf 44 = 4 := by kernel_rfl
theorem cells_name19 : Try.prog.cellsOf 42 = 2 := by kernel_rfl
section
variable {H : Type} {enc : TypeId × Value → H} {w : World} {d : DataW H} {A : Option Addr} {n c : Nat}
set_option maxRecDepth 100000 in
theorem Rd.ops19 (h : Rd enc Try.prog w 29 [.slice A n c] d) : n < 3600000000000 ∧ ∀ i, i < n → OpAt19 w A i := by
  obtain ⟨A', n', c', hv, hl, hb, hf⟩ := h.structs_all Try.underlying29 Try.underlying44 (by rw [cells_op19]; decide)
  injection hv with hv _
  injection hv with e1 e2 e3
  subst e1 e2 e3
  have hby : Try.prog.bytesOf 44 = 40 := by kernel_rfl
  rw [hby] at hb
  refine ⟨by unfold reachBytes at hb; omega, fun i hi => ?_⟩
  rw [cells_op19] at hf
  obtain ⟨q, o, xs, ys, nn, hA, hq, hxl, hc, hyl, hfs⟩ := hf i hi
  obtain ⟨k, e0, _⟩ := fld_int hyl hfs 0 _ rfl rfl (by rw [hxl]; decide)
  obtain ⟨m, e3, _⟩ := fld_int hyl hfs 2 _ rfl rfl (by rw [hxl]; decide)
  have hk : DataW.trod enc Try.prog w 0 (fun _ => true) true nn 42 (List.take (Try.prog.cellsOf 42) (List.drop 1 xs)) = ys[1]? := hfs 1 _ rfl
  rw [List.getElem?_eq_getElem (by rw [hyl]; decide)] at hk
  obtain ⟨zs, n2, _, _, _, hzl, hgs⟩ := DataW.trod_struct Try.underlying42 hk
  have hkl : (List.take (Try.prog.cellsOf 42) (List.drop 1 xs)).length = 2 := by
    rw [cells_name19, List.length_take, List.length_drop, hxl]; decide
  obtain ⟨a, f0, w0⟩ := fld_int hzl hgs 0 _ rfl rfl (by rw [hkl]; exact (by decide : 0 < 2))
  obtain ⟨b, f1, w1⟩ := fld_str hzl hgs 1 _ rfl rfl (by rw [hkl]; exact (by decide : 1 < 2))
  rw [cells_name19] at f0 f1
  have e1 : xs[1]? = some (.int .i64 a) := by
    rw [List.getElem?_take, List.getElem?_drop] at f0
    simpa using f0
  have e2 : xs[2]? = some (.string b) := by
    rw [List.getElem?_take, List.getElem?_drop] at f1
    simpa using f1
  exact ⟨q, o, k, ⟨a, b⟩, m, hA, hq, ⟨w0, w1⟩, (hc 0 (by decide)).trans e0, (hc 1 (by decide)).trans e1, (hc 2 (by decide)).trans e2, (hc 3 (by decide)).trans e3⟩
end
theorem weightsAll_mem {H : Type} {P : Program} {e : TypeId} {d : DataW H} {x : Nat} : ∀ {l : List (DataW H)}, d ∈ l → x ∈ d.weights P e → x ∈ DataW.weightsAll P e l
  | a :: r, hd, hx => by
    simp only [DataW.weightsAll, List.mem_append]
    rcases List.mem_cons.1 hd with rfl | hd
    · exact .inl hx
    · exact .inr (weightsAll_mem hd hx)
theorem weightsEach_mem {H : Type} {P : Program} {t : TypeId} {d : DataW H} {x : Nat} : ∀ {ts : List TypeId} {l : List (DataW H)} {j : Nat}, ts[j]? = some t → l[j]? = some d → x ∈ d.weights P t → x ∈ DataW.weightsEach P ts l
  | [], _, j, h, _, _ => by simp at h
  | _ :: _, [], j, _, h, _ => by simp at h
  | a :: r, b :: s, 0, h, h', hx => by
    simp only [List.getElem?_cons_zero, Option.some.injEq] at h h'
    subst h h'
    simp only [DataW.weightsEach, List.mem_append]
    exact .inl hx
  | a :: r, b :: s, j + 1, h, h', hx => by
    simp only [DataW.weightsEach, List.mem_append]
    exact .inr (weightsEach_mem (ts := r) (l := s) (j := j) (by simpa using h) (by simpa using h') hx)

section
variable {H : Type} {enc : TypeId × Value → H} {w : World} {d : DataW H} {A : Option Addr} {n c : Nat}
set_option maxRecDepth 100000 in
/-- A call's own name weighs no more than the reach. -/
theorem Rd.name19 (h : Rd enc Try.prog w 29 [.slice A n c] d) {i : Nat} (hi : i < n) {q o : Nat} (hA : A = some ⟨q, o, none⟩) {s : ByteArray} (hc : w.cell? ⟨q, o + (i * 4 + 2), none⟩ = some (.string s)) : s.size ≤ reachBytes := by
  subst hA
  obtain ⟨⟨fu, ps, hf⟩, hw⟩ := h
  rcases open_slice Try.underlying29 hf with ⟨hcs, hx⟩ | ⟨a, len, cap, m', n', D, Pl, hcs, _, hl, hm, hmm, hx, hi'⟩
  · injection hcs with hcs _
    injection hcs with e1 e2 e3
    omega
  · injection hcs with hcs _
    injection hcs with e1 e2 e3
    injection e1 with e1
    subst e1 e2 e3
    have hmc : m' = c := by simpa using hmm
    subst hmc
    simp only [Prod.mk.injEq] at hx
    obtain ⟨cs', hc', htr⟩ := hi' i (by omega)
    obtain ⟨ys, n2, _, hy, hlen, hyl, hfs⟩ := DataW.trod_struct Try.underlying44 htr
    obtain ⟨_, hcl, hat⟩ := World.cells?_some hc'
    rw [cells_op19] at hcl hat
    have h2 := hat 2 (by decide)
    rw [Addr.add_add, add_at, hc] at h2
    have hk : DataW.trod enc Try.prog w 0 (fun _ => true) true n2 42 (List.take (Try.prog.cellsOf 42) (List.drop 1 cs')) = ys[1]? := hfs 1 _ rfl
    have hy1 : 1 < ys.length := by rw [hyl]; decide
    rw [List.getElem?_eq_getElem hy1] at hk
    obtain ⟨zs, n3, _, hz, hzl0, hzl, hgs⟩ := DataW.trod_struct Try.underlying42 hk
    have hz1 : 1 < zs.length := by rw [hzl]; decide
    have hkl : (List.take (Try.prog.cellsOf 42) (List.drop 1 cs')).length = 2 := by
      rw [cells_name19, List.length_take, List.length_drop, hcl]; decide
    have hks : DataW.trod enc Try.prog w 0 (fun _ => true) true n3 9 (List.take (Try.prog.cellsOf 9) (List.drop 1 (List.take (Try.prog.cellsOf 42) (List.drop 1 cs')))) = zs[1]? := hgs 1 _ rfl
    rw [List.getElem?_eq_getElem hz1, show Try.prog.cellsOf 9 = 1 by kernel_rfl, take_one19 _ 1 (by rw [hkl]; decide)] at hks
    have e2 : (List.take (Try.prog.cellsOf 42) (List.drop 1 cs'))[1]'(by rw [hkl]; decide) = .string s := by
      rw [List.getElem_take, List.getElem_drop]
      rw [List.getElem?_eq_getElem (by omega : 2 < cs'.length)] at h2
      injection h2 with h2
      exact h2.symm
    rw [e2] at hks
    obtain ⟨x, hx1, hx2, hx3⟩ := DataW.trod_string Try.underlying9 hks
    injection hx1 with hx1 _
    injection hx1 with hx1
    subst hx1
    have hzd : (zs[1]).1 = .lit (.string s.data.toList) := by
      first | (rw [hx2]; done) | (simp only [Prod.mk.injEq] at hx2; exact hx2.1) | (have := congrArg Prod.fst hx2; exact this)
    have hin : s.data.toList.length ∈ d.weights Try.prog 29 := by
      rw [hx.1]
      simp only [DataW.weights, Try.underlying29, List.mem_cons, List.mem_append]
      right; left
      refine weightsAll_mem (d := D i) (List.mem_map.2 ⟨i, by simpa using hi, rfl⟩) ?_
      simp only [Prod.mk.injEq] at hy
      rw [hy.1]
      simp only [DataW.weights, Try.underlying44]
      refine weightsEach_mem (j := 1) (t := 42) (d := (ys[1]).1) rfl (by simp [hy1]) ?_
      have hyd : (ys[1]).1 = .agg (zs.map (·.1)) := by
        first | exact (Prod.mk.injEq _ _ _ _ ▸ hz).1 | (have := congrArg Prod.fst hz; exact this)
      rw [hyd]
      simp only [DataW.weights, Try.underlying42]
      refine weightsEach_mem (j := 1) (t := 9) (d := (zs[1]).1) rfl (by simp [hz1]) ?_
      rw [hzd]
      simp [DataW.weights]
    have := hw _ hin
    simpa using this
end
end Go.Proofs.Ytjpojoflbjhjjaa
