/-
  Sleepers (parapet/waitq): the calls of the laws, read.
-/
import Derived.Test.YtokclkiidhcffaaRead
import Derived.Test.YtokclkiidhcffaaWqMoveP
namespace Go.Proofs.Ytokclkiidhcffaa
open Go.ChangeShapes Go.WideShapes Go.ChangeAt Go.RowKit Go.Deep
set_option linter.unusedVariables false
section
variable {H : Type} {enc : TypeId × Value → H} {P : Program} {w : World} {d : DataW H}
/-- A slice of structs: all cells of each. -/
theorem trod_structs {t e : TypeId} {cs : List Value} {fs : Array Field} {fu : Nat} {y : DataW H × List MemPlace} (ht : P.underlying t = some (.slice e)) (he : P.underlying e = some (.struct fs)) (hpos : 0 < P.cellsOf e) (hf : DataW.trod enc P w 0 (fun _ => true) true fu t cs = some y) :
    ∃ A n c, cs = [.slice A n c] ∧ n ≤ c ∧ (A = none → n = 0 ∧ c = 0) ∧
      ∀ i, i < n → ∃ (b o : Nat) (xs : List Value) (ys : List (DataW H × List MemPlace)) (n' : Nat), A = some ⟨b, o, none⟩ ∧ b < w.heap.size ∧ xs.length = P.cellsOf e ∧ (∀ m, m < P.cellsOf e → w.cell? ⟨b, o + (i * P.cellsOf e + m), none⟩ = xs[m]?) ∧ ys.length = fs.size ∧
        ∀ (j : Nat) (f : Field), fs[j]? = some f → DataW.trod enc P w 0 (fun _ => true) true n' f.type (List.take (P.cellsOf f.type) (List.drop f.offset xs)) = ys[j]? := by
  rcases open_slice ht hf with ⟨hcs, hx⟩ | ⟨a, len, cap, m, n, D, Pl, hcs, _, hl, hm, hmm, hx, hi⟩
  · exact ⟨none, 0, 0, hcs, Nat.le_refl _, fun _ => ⟨rfl, rfl⟩, fun i hi => absurd hi (by omega)⟩
  · have hmc : m = cap := by simpa using hmm
    subst hmc
    refine ⟨some a, len, m, hcs, hl, (fun h => by cases h), fun i hil => ?_⟩
    obtain ⟨cs', hc', htr⟩ := hi i (by omega)
    obtain ⟨ys, n', _, hy, hlen, hyl, hfs⟩ := DataW.trod_struct he htr
    obtain ⟨_, hcl, hat⟩ := World.cells?_some hc'
    have hspot : a.spot = none := by
      obtain ⟨cs0, hc0, _⟩ := hi 0 (by omega)
      obtain ⟨_, hcl0, hat0⟩ := World.cells?_some hc0
      have h0 := hat0 0 hpos
      rw [Addr.add_add, List.getElem?_eq_getElem (by omega : 0 < cs0.length)] at h0
      have ha0 : a.add (0 * P.cellsOf e + 0) = a := by unfold Addr.add; simp
      rw [ha0] at h0
      unfold World.cell? at h0
      split at h0
      · split at h0
        · cases h0
        · rename_i h; simpa using h
      · cases h0
    have hadd : ∀ m, a.add (i * P.cellsOf e + m) = ⟨a.block, a.off + (i * P.cellsOf e + m), none⟩ := fun m => by
      obtain ⟨b, o, sp⟩ := a
      simp only at hspot
      subst hspot
      unfold Addr.add
      by_cases hz : i * P.cellsOf e + m = 0
      · rw [if_pos hz, hz]; rfl
      · rw [if_neg hz]
    have hcell : ∀ m, m < P.cellsOf e → w.cell? ⟨a.block, a.off + (i * P.cellsOf e + m), none⟩ = cs'[m]? := fun m hm => by
      have := hat m hm
      rw [Addr.add_add, hadd] at this
      exact this
    have hlt : a.block < w.heap.size := by
      have h0 := hcell 0 hpos
      rw [List.getElem?_eq_getElem (by omega : 0 < cs'.length)] at h0
      exact World.block_lt_of_cell? w ⟨a.block, _, none⟩ h0
    have hA : (some a : Option Addr) = some ⟨a.block, a.off, none⟩ := by
      obtain ⟨b, o, sp⟩ := a
      simp only at hspot
      subst hspot
      rfl
    exact ⟨_, _, cs', ys, n', hA, hlt, by omega, hcell, hyl, hfs⟩
theorem Rd.bound {t e : TypeId} (ht : P.underlying t = some (.slice e)) {A : Option Addr} {n c : Nat} (h : Rd enc P w t [.slice A n c] d) : c * P.bytesOf e ≤ reachBytes := by
  obtain ⟨⟨fu, ps, hf⟩, hw⟩ := h
  rcases open_slice ht hf with ⟨hcs, hx⟩ | ⟨a, len, cap, m, n', D, Pl, hcs, _, hl, hm, hmm, hx, hi⟩
  · injection hcs with hcs _
    injection hcs with _ _ e3
    subst e3
    simp
  · injection hcs with hcs _
    injection hcs with _ _ e3
    subst e3
    have hmc : m = c := by simpa using hmm
    subst hmc
    simp only [Prod.mk.injEq] at hx
    refine hw _ ?_
    rw [hx.1]
    simp only [DataW.weights, ht, List.mem_cons]
    left
    simp only [List.length_map, List.length_range]
    congr 1
    omega
end
section
variable {H : Type} {enc : TypeId × Value → H} {w : World} {d : DataW H}
theorem take_one12 (cs : List Value) (i : Nat) (h : i < cs.length) : List.take 1 (List.drop i cs) = [cs[i]] := by
  rw [List.drop_eq_getElem_cons h]; rfl
theorem int_field12 {fs : Array Field} {cs : List Value} {ys : List (DataW H × List MemPlace)} {n' : Nat} (hyl : ys.length = fs.size)
    (hfs : ∀ (i : Nat) (f : Field), fs[i]? = some f → DataW.trod enc Try.prog w 0 (fun _ => true) true n' f.type (List.take (Try.prog.cellsOf f.type) (List.drop f.offset cs)) = ys[i]?)
    (j : Nat) (f : Field) (hj : fs[j]? = some f) (ht : f.type = 3) (hc : f.offset < cs.length) : ∃ x, cs[f.offset]? = some (.int .i64 x) ∧ iW x := by
  have h := hfs j f hj
  rw [ht, show Try.prog.cellsOf 3 = 1 by kernel_rfl, take_one12 cs _ hc] at h
  have hl : j < ys.length := by rw [hyl]; exact (Array.getElem?_eq_some_iff.1 hj).1
  rw [List.getElem?_eq_getElem hl] at h
  obtain ⟨x, hx, _, hw⟩ := DataW.trod_int Try.underlying3 h
  injection hx with hx _
  exact ⟨x, by rw [List.getElem?_eq_getElem hc, hx], hw⟩
/-- A field that is a channel. -/
theorem chan_field12 {xs : List Value} {o n' : Nat} {y : DataW H × List MemPlace} (ho : o + 3 ≤ xs.length) (h : DataW.trod enc Try.prog w 0 (fun _ => true) true n' 32 (List.take (Try.prog.cellsOf 32) (List.drop o xs)) = some y) :
    ∃ c : CH, c.wf ∧ xs[o]? = some (.int .i64 c.kind) ∧ xs[o + 1]? = some (.int .i64 c.a) ∧ xs[o + 2]? = some (.int .i64 c.b) := by
  obtain ⟨zs, n2, _, _, _, hzl, hgs⟩ := DataW.trod_struct Try.underlying32 h
  have hkl : (List.take (Try.prog.cellsOf 32) (List.drop o xs)).length = 3 := by
    rw [cellsKey, List.length_take, List.length_drop]; omega
  obtain ⟨a, f0, w0⟩ := int_field12 hzl hgs 0 _ rfl rfl (by rw [hkl]; exact (by decide : 0 < 3))
  obtain ⟨b, f1, w1⟩ := int_field12 hzl hgs 1 _ rfl rfl (by rw [hkl]; exact (by decide : 1 < 3))
  obtain ⟨c, f2, w2⟩ := int_field12 hzl hgs 2 _ rfl rfl (by rw [hkl]; exact (by decide : 2 < 3))
  rw [cellsKey, List.getElem?_take, List.getElem?_drop] at f0 f1 f2
  refine ⟨⟨a, b, c⟩, ⟨w0, w1, w2⟩, ?_, ?_, ?_⟩
  · simpa using f0
  · simpa using f1
  · simpa using f2
/-- A slice of channels. -/
theorem chans_read {fu : Nat} {y : DataW H × List MemPlace} {cs : List Value} (h : DataW.trod enc Try.prog w 0 (fun _ => true) true fu 30 cs = some y) :
    ∃ A n c, ∃ l : List CH, cs = [.slice A n c] ∧ n ≤ c ∧ (A = none → n = 0 ∧ c = 0) ∧ l.length = n ∧ (∀ x ∈ l, x.wf) ∧ (0 < n → ChansAt w (.slice A n c) l ∧ ∃ b o, A = some ⟨b, o, none⟩ ∧ b < w.heap.size) := by
  obtain ⟨A, n, c, hcs, hl, hnil, hi⟩ := trod_structs Try.underlying30 Try.underlying32 (by rw [cellsKey]; decide) h
  by_cases h0 : n = 0
  · subst h0
    exact ⟨A, 0, c, [], hcs, hl, hnil, rfl, by simp, fun h => absurd h (by omega)⟩
  · obtain ⟨b, o, _, _, _, hA, hb, _⟩ := hi 0 (by omega)
    subst hA
    have hs : ∀ i, ∃ s : CH, i < n → s.wf ∧ ∀ k u, s.cells[k]? = some u → w.cell? ⟨b, o + (i * 3 + k), none⟩ = some u := fun i => by
      by_cases hlt : i < n
      · obtain ⟨b', o', xs, ys, n', hA, _, hxl, hc, hyl, hfs⟩ := hi i hlt
        injection hA with hA
        injection hA with e1 e2
        subst e1; subst e2
        rw [cellsKey] at hc hxl
        obtain ⟨x, e0, w0⟩ := int_field12 hyl hfs 0 _ rfl rfl (by rw [hxl]; exact (by decide : 0 < 3))
        obtain ⟨y, e1, w1⟩ := int_field12 hyl hfs 1 _ rfl rfl (by rw [hxl]; exact (by decide : 1 < 3))
        obtain ⟨z, e2, w2⟩ := int_field12 hyl hfs 2 _ rfl rfl (by rw [hxl]; exact (by decide : 2 < 3))
        refine ⟨⟨x, y, z⟩, fun _ => ⟨⟨w0, w1, w2⟩, fun k u hu => ?_⟩⟩
        rw [hc k (by have := (List.getElem?_eq_some_iff.1 hu).1; exact this), ← hu]
        match k with
        | 0 => exact e0
        | 1 => exact e1
        | 2 => exact e2
        | k + 3 => simp [CH.cells] at hu
      · exact ⟨⟨0, 0, 0⟩, fun h => absurd h hlt⟩
    obtain ⟨f, hf⟩ := Classical.axiomOfChoice hs
    have hget : ∀ i, i < n → ((List.range n).map f)[i]? = some (f i) := fun i hi => by simp [hi]
    refine ⟨_, n, c, (List.range n).map f, hcs, hl, hnil, by simp, fun x hx => ?_, fun _ => ⟨.inr ⟨b, o, c, by simp, fun _ => hb, fun j u hu => ?_⟩, b, o, rfl, hb⟩⟩
    · obtain ⟨i, hi, rfl⟩ := List.mem_map.1 hx
      exact (hf i (List.mem_range.1 hi)).1
    · have hj := (List.getElem?_eq_some_iff.1 hu).1
      rw [flatC_length, List.length_map, List.length_range] at hj
      have hjn : j / 3 < n := by omega
      have hk : ∃ v, (f (j / 3)).cells[j % 3]? = some v := by
        have h3 : j % 3 < (f (j / 3)).cells.length := Nat.mod_lt _ (by decide)
        exact ⟨_, List.getElem?_eq_getElem h3⟩
      obtain ⟨v, hv⟩ := hk
      have h1 := flatC_get (hget _ hjn) hv
      rw [show j / 3 * 3 + j % 3 = j by omega, hu] at h1
      injection h1 with h1
      subst h1
      have := (hf _ hjn).2 _ _ hv
      rwa [show j / 3 * 3 + j % 3 = j by omega] at this
/-- A call of the laws. -/
structure OP12 where
  kind : Int
  tid : Int
  A : Option Addr
  c : Nat
  l : List CH
  f : CH
  g : CH
  n : Int
structure OP12.Ok (x : OP12) (w : World) : Prop where
  tid : iW x.tid
  n : iW x.n
  f : x.f.wf
  g : x.g.wf
  l : ∀ y ∈ x.l, y.wf
  cap : x.l.length ≤ x.c
  nil_ : x.A = none → x.l.length = 0 ∧ x.c = 0
  at_ : 0 < x.l.length → ChansAt w (.slice x.A x.l.length x.c) x.l ∧ ∃ b o, x.A = some ⟨b, o, none⟩ ∧ b < w.heap.size
def OP12.cells (x : OP12) : List Value := [.int .i64 x.kind, .int .i64 x.tid, .slice x.A x.l.length x.c, .int .i64 x.f.kind, .int .i64 x.f.a, .int .i64 x.f.b, .int .i64 x.g.kind, .int .i64 x.g.a, .int .i64 x.g.b, .int .i64 x.n]
def OpAt12 (w : World) (A : Option Addr) (i : Nat) : Prop :=
  ∃ (q o : Nat) (x : OP12), A = some ⟨q, o, none⟩ ∧ q < w.heap.size ∧ x.Ok w ∧ ∀ k u, x.cells[k]? = some u → w.cell? ⟨q, o + (i * 10 + k), none⟩ = some u
theorem cells_op12 : Try.prog.cellsOf 34 = 10 := by kernel_rfl
theorem op12_fields {xs : List Value} {ys : List (DataW H × List MemPlace)} {n' : Nat} {fs : Array Field} (he : Try.prog.underlying 34 = some (.struct fs)) (hxl : xs.length = 10) (hyl : ys.length = fs.size)
    (hfs : ∀ (j : Nat) (f : Field), fs[j]? = some f → DataW.trod enc Try.prog w 0 (fun _ => true) true n' f.type (List.take (Try.prog.cellsOf f.type) (List.drop f.offset xs)) = ys[j]?) : ∃ x : OP12, x.Ok w ∧ xs = x.cells := by
  rw [Try.underlying34] at he
  injection he with he
  injection he with he
  subst he
  obtain ⟨k, e0, _⟩ := int_field12 hyl hfs 0 _ rfl rfl (by rw [hxl]; decide)
  obtain ⟨t, e1, wt⟩ := int_field12 hyl hfs 1 _ rfl rfl (by rw [hxl]; decide)
  obtain ⟨n, e9, wn⟩ := int_field12 hyl hfs 5 _ rfl rfl (by rw [hxl]; decide)
  have h2 := hfs 2 _ rfl
  have h3 := hfs 3 _ rfl
  have h4 := hfs 4 _ rfl
  rw [List.getElem?_eq_getElem (by rw [hyl]; decide)] at h2 h3 h4
  obtain ⟨f, wf, f0, f1, f2⟩ := chan_field12 (o := 3) (by rw [hxl]; decide) h3
  obtain ⟨g, wg, g0, g1, g2⟩ := chan_field12 (o := 6) (by rw [hxl]; decide) h4
  obtain ⟨A, m, c, l, hcs, hcap, hnil, hlen, hwf, hat⟩ := chans_read h2
  subst hlen
  have e2 : xs[2]? = some (.slice A l.length c) := by
    have h2l : 2 < xs.length := by rw [hxl]; decide
    have : List.take (Try.prog.cellsOf 30) (List.drop 2 xs) = [xs[2]] := by
      rw [show Try.prog.cellsOf 30 = 1 by kernel_rfl, take_one12 xs _ h2l]
    have hcs' : List.take (Try.prog.cellsOf 30) (List.drop 2 xs) = [.slice A l.length c] := hcs
    rw [this] at hcs'
    injection hcs' with hcs' _
    rw [List.getElem?_eq_getElem h2l, hcs']
  refine ⟨⟨k, t, A, c, l, f, g, n⟩, ⟨wt, wn, wf, wg, hwf, hcap, hnil, hat⟩, List.ext_getElem? fun i => ?_⟩
  match i with
  | 0 => exact e0
  | 1 => exact e1
  | 2 => exact e2
  | 3 => exact f0
  | 4 => exact f1
  | 5 => exact f2
  | 6 => exact g0
  | 7 => exact g1
  | 8 => exact g2
  | 9 => exact e9
  | i + 10 => rw [List.getElem?_eq_none (by omega)]; rfl
set_option maxRecDepth 100000 in
theorem Rd.ops12 {A : Option Addr} {n c : Nat} (h : Rd enc Try.prog w 22 [.slice A n c] d) : n < 2000000000000 ∧ ∀ i, i < n → OpAt12 w A i := by
  have hb := Rd.bound Try.underlying22 h
  obtain ⟨⟨fu, ps, hf⟩, _⟩ := h
  obtain ⟨A', n', c', hv, hl, _, hi⟩ := trod_structs Try.underlying22 Try.underlying34 (by rw [cells_op12]; decide) hf
  injection hv with hv _
  injection hv with e1 e2 e3
  subst e1 e2 e3
  have hby : Try.prog.bytesOf 34 = 96 := by kernel_rfl
  rw [hby] at hb
  refine ⟨by unfold reachBytes at hb; omega, fun i hil => ?_⟩
  rw [cells_op12] at hi
  obtain ⟨q, o, xs, ys, nn, hA, hq, hxl, hc, hyl, hfs⟩ := hi i hil
  obtain ⟨x, hx, rfl⟩ := op12_fields Try.underlying34 hxl hyl hfs
  refine ⟨q, o, x, hA, hq, hx, fun k u hu => ?_⟩
  rw [hc k (by have := (List.getElem?_eq_some_iff.1 hu).1; rwa [hxl] at this), hu]
theorem Rd.op12 {v : Value} {base : Nat} (o : Value.okWide Try.prog w .any base 34 v) (h : Rd enc Try.prog w 34 v.cells.toList d) : ∃ x : OP12, x.Ok w ∧ v = .agg x.cells.toArray := by
  obtain ⟨cs, rfl, hsz⟩ := okWide_struct Try.underlying34 o
  rw [cells_op12] at hsz
  obtain ⟨l⟩ := cs
  obtain ⟨⟨fu, ps, hf⟩, _⟩ := h
  obtain ⟨ys, n', _, hy, hlen, hyl, hfs⟩ := DataW.trod_struct Try.underlying34 hf
  obtain ⟨x, hx, e⟩ := op12_fields (xs := l) Try.underlying34 (by simpa using hsz) hyl hfs
  exact ⟨x, hx, by rw [e]⟩
theorem Rd.chan12 {v : Value} {base : Nat} (o : Value.okWide Try.prog w .any base 32 v) (h : Rd enc Try.prog w 32 v.cells.toList d) : ∃ c : CH, c.wf ∧ v = kV c := by
  obtain ⟨cs, rfl, hsz⟩ := okWide_struct Try.underlying32 o
  rw [cellsKey] at hsz
  obtain ⟨l⟩ := cs
  obtain ⟨⟨fu, ps, hf⟩, _⟩ := h
  have hl : l.length = 3 := by simpa using hsz
  obtain ⟨c, hw, h0, h1, h2⟩ := chan_field12 (xs := l) (o := 0) (by omega) (y := (_, _)) (by
    rw [cellsKey, List.drop_zero, List.take_of_length_le (by omega)]
    exact hf)
  refine ⟨c, hw, ?_⟩
  match l, hl with
  | [x, y, z], _ =>
    simp at h0 h1 h2
    subst h0 h1 h2
    rfl
end
end Go.Proofs.Ytokclkiidhcffaa
