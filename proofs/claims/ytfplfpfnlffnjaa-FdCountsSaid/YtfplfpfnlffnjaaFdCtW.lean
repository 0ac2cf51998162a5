/-
  Open files (parapet/fdtab): the law FdCounts: its calls, read; its world behind a call.
-/
import Derived.Test.YtfplfpfnlffnjaaFdCtP
import Derived.Test.YtfplfpfnlffnjaaRead
namespace Go.Proofs.Ytfplfpfnlffnjaa
open Go.ChangeShapes Go.WideShapes Go.ChangeAt Go.RowKit Go.Maps Go.Deep
set_option linter.unusedVariables false
set_option linter.unusedSimpArgs false
theorem cells_op22 : Try.prog.cellsOf 26 = 5 := by kernel_rfl
/-- What is known of call i of the list. -/
def OpAt22 (w : World) (A : Option Addr) (i : Nat) : Prop :=
  ∃ (q o : Nat) (a b c d e : Int), A = some ⟨q, o, none⟩ ∧ q < w.heap.size ∧ iW c ∧
    w.cell? ⟨q, o + i * 5, none⟩ = some (.int .i64 a) ∧ w.cell? ⟨q, o + i * 5 + 1, none⟩ = some (.int .i64 b) ∧ w.cell? ⟨q, o + i * 5 + 2, none⟩ = some (.int .i64 c) ∧
    w.cell? ⟨q, o + i * 5 + 3, none⟩ = some (.int .i64 d) ∧ w.cell? ⟨q, o + i * 5 + 4, none⟩ = some (.int .i64 e)
section
variable {H : Type} {enc : TypeId × Value → H} {w : World} {d : DataW H} {A : Option Addr} {n c : Nat}
theorem Rd.ops22 (h : Rd enc Try.prog w 22 [.slice A n c] d) : n < 3900000000000 ∧ ∀ i, i < n → OpAt22 w A i := by
  obtain ⟨A', n', c', hv, hl, hm, hb, _, hf⟩ := h.structs Try.underlying22 Try.underlying26
  injection hv with hv _
  injection hv with e1 e2 e3
  subst e1 e2 e3
  have hby : Try.prog.bytesOf 26 = 40 := by kernel_rfl
  rw [hby] at hb
  refine ⟨by unfold reachBytes at hb; omega, fun i hi => ?_⟩
  rw [cells_op22] at hf
  obtain ⟨q, o, v0, y0, hA, hq, c0, r0⟩ := hf i hi 0 _ rfl (by kernel_rfl) (by decide)
  obtain ⟨q1, o1, v1, y1, hA1, _, c1, r1⟩ := hf i hi 1 _ rfl (by kernel_rfl) (by decide)
  obtain ⟨q2, o2, v2, y2, hA2, _, c2, r2⟩ := hf i hi 2 _ rfl (by kernel_rfl) (by decide)
  obtain ⟨q3, o3, v3, y3, hA3, _, c3, r3⟩ := hf i hi 3 _ rfl (by kernel_rfl) (by decide)
  obtain ⟨q4, o4, v4, y4, hA4, _, c4, r4⟩ := hf i hi 4 _ rfl (by kernel_rfl) (by decide)
  have a1 : q1 = q ∧ o1 = o := by rw [hA] at hA1; injection hA1 with h; injection h with h1 h2; exact ⟨h1.symm, h2.symm⟩
  have a2 : q2 = q ∧ o2 = o := by rw [hA] at hA2; injection hA2 with h; injection h with h1 h2; exact ⟨h1.symm, h2.symm⟩
  have a3 : q3 = q ∧ o3 = o := by rw [hA] at hA3; injection hA3 with h; injection h with h1 h2; exact ⟨h1.symm, h2.symm⟩
  have a4 : q4 = q ∧ o4 = o := by rw [hA] at hA4; injection hA4 with h; injection h with h1 h2; exact ⟨h1.symm, h2.symm⟩
  obtain ⟨rfl, rfl⟩ := a1
  obtain ⟨rfl, rfl⟩ := a2
  obtain ⟨rfl, rfl⟩ := a3
  obtain ⟨rfl, rfl⟩ := a4
  obtain ⟨x0, e0, w0⟩ := r0.int (k := .i64) Try.underlying3
  injection e0 with e0 _
  subst e0
  obtain ⟨x1, e1, w1⟩ := r1.int (k := .i64) Try.underlying3
  injection e1 with e1 _
  subst e1
  obtain ⟨x2, e2, w2⟩ := r2.int (k := .i64) Try.underlying3
  injection e2 with e2 _
  subst e2
  obtain ⟨x3, e3, w3⟩ := r3.int (k := .i64) Try.underlying3
  injection e3 with e3 _
  subst e3
  obtain ⟨x4, e4, w4⟩ := r4.int (k := .i64) Try.underlying3
  injection e4 with e4 _
  subst e4
  exact ⟨_, _, x0, x1, x2, x3, x4, hA, hq, w2, c0, c1, c2, c3, c4⟩
end
theorem wrapped {x m : Int} (hm : 0 < m) (hm2 : m ≤ 4096) : ∃ j : Nat, (j : Int) < m ∧ (wrap64 (x.tmod m + m)).tmod m = (j : Int) := by
  have h1 : -m < x.tmod m ∧ x.tmod m < m := by
    have h := Int.natAbs_tmod x m
    have h2 : x.natAbs % m.natAbs < m.natAbs := Nat.mod_lt _ (by omega)
    omega
  have hw : wrap64 (x.tmod m + m) = x.tmod m + m := by unfold wrap64; omega
  rw [hw, Int.tmod_eq_emod_of_nonneg (by omega)]
  have h3 := Int.emod_nonneg (x.tmod m + m) (show m ≠ 0 by omega)
  have h4 := Int.emod_lt_of_pos (x.tmod m + m) hm
  exact ⟨((x.tmod m + m) % m).toNat, by omega, by omega⟩
theorem mem_set_nd {L : List (Nat × List Int)} {n t : Nat} {T T' : List Int} (hnd : (L.map (·.1)).Nodup) (hn : L[n]? = some (t, T)) {p : Nat × List Int} (hp : p ∈ L.set n (t, T')) : p = (t, T') ∨ (p ∈ L ∧ p.1 ≠ t) := by
  obtain ⟨i, hi, rfl⟩ := List.getElem_of_mem hp
  rw [List.length_set] at hi
  rw [List.getElem_set]
  split
  · exact .inl rfl
  · rename_i hne
    refine .inr ⟨List.getElem_mem _, fun e => hne ?_⟩
    obtain ⟨hnl, hne2⟩ := List.getElem?_eq_some_iff.1 hn
    exact ((List.getElem_inj (xs := L.map (·.1)) (h₀ := by simpa using hi) (h₁ := by simpa using hnl) hnd).1 (by simp [e, hne2])).symm
section
variable {w0 w w' : World} {g f m r t t' : Nat} {v v' u : Value} {xs : List Nat} {L : List (Nat × List Int)} {O O' : List (Int × F5)} {n : Nat} {T T' : List Int}
theorem map_set_fst (h : L[n]? = some (t, T)) (T' : List Int) : (L.set n (t, T')).map (·.1) = L.map (·.1) := by
  rw [List.map_set]
  refine List.ext_getElem? fun i => ?_
  rw [List.getElem?_set]
  split
  · rename_i e
    subst e
    split
    · rw [List.getElem?_map, h]; rfl
    · rename_i hn
      rw [List.getElem?_eq_none (by omega)]
  · rfl
/-- Behind a call on table n: it and the files have turned. -/
theorem CW.turn (h : CW w0 w g f m r v u xs L O) (hn : L[n]? = some (t, T)) (ho : Only [t, m] w w') (ht : IsTa w' t f T') (hf : IsFi w' f m O') : CW w0 w' g f m r v u xs (L.set n (t, T')) O' := by
  have hmem := List.mem_of_getElem? hn
  have ht0 := h.tabs _ hmem
  obtain ⟨D, d1, d2⟩ := h.fi.own
  have hgt : g ≠ t := h.lw.blk.ne_ ht0.blk (by decide)
  have hgm : m ≠ g := ownsMap_ne d1 h.lw.blk
  refine ⟨⟨h.lw.blk.only ho (by simp; omega), ?_, h.lw.xrow.only ho (fun q hq hm => ?_), h.lw.lg, h.lw.lr, h.lw.lv, h.lw.lu⟩, hf, fun p hp => ?_, by rw [map_set_fst hn]; exact h.nd, h.on.trans' ho (fun q hq hm => ?_), h.lf, h.lm, fun p hp => ?_⟩
  · rw [map_set_fst hn]
    refine h.lw.row.only ho (fun q hq hm => ?_)
    obtain ⟨_, cs, hb⟩ := h.lw.row.at_ hq
    have h1 := hb.ne_ ht0.blk (by decide)
    have h2 := ownsMap_ne d1 hb
    simp at hm
    omega
  · obtain ⟨_, cs, hb⟩ := h.lw.xrow.at_ hq
    have h1 := hb.ne_ ht0.blk (by decide)
    have h2 := ownsMap_ne d1 hb
    simp at hm
    omega
  · rcases mem_set_nd h.nd hn hp with e | ⟨hp, hne⟩
    · rw [e]; exact ht
    · have hb := h.tabs p hp
      have h2 := ownsMap_ne d1 hb.blk
      exact hb.only ho (by simp; omega)
  · have h1 := h.lm
    have h2 := h.lt _ hmem
    dsimp only at h2
    simp at hm
    omega
  · rcases mem_set_nd h.nd hn hp with e | ⟨hp, hne⟩
    · rw [e]; exact h.lt (t, T) hmem
    · exact h.lt p hp
theorem CW.turnF (h : CW w0 w g f m r v u xs L O) (ho : Only [m] w w') (hf : IsFi w' f m O') : CW w0 w' g f m r v u xs L O' := by
  obtain ⟨D, d1, d2⟩ := h.fi.own
  have hgm : m ≠ g := ownsMap_ne d1 h.lw.blk
  refine ⟨⟨h.lw.blk.only ho (by simp; omega), h.lw.row.only ho (fun q hq hm => ?_), h.lw.xrow.only ho (fun q hq hm => ?_), h.lw.lg, h.lw.lr, h.lw.lv, h.lw.lu⟩, hf, fun p hp => ?_, h.nd, h.on.trans' ho (fun q hq hm => ?_), h.lf, h.lm, h.lt⟩
  · obtain ⟨_, cs, hb⟩ := h.lw.row.at_ hq
    have h2 := ownsMap_ne d1 hb
    simp at hm
    omega
  · obtain ⟨_, cs, hb⟩ := h.lw.xrow.at_ hq
    have h2 := ownsMap_ne d1 hb
    simp at hm
    omega
  · have hb := h.tabs p hp
    have h2 := ownsMap_ne d1 hb.blk
    exact hb.only ho (by simp; omega)
  · have h1 := h.lm
    simp at hm
    omega
theorem nmL_le (h : OkC L O) (hl : ∀ p ∈ L, p.2.length = 16) {k : Int} (hk : k ≠ -1) : nmL L k ≤ 192 := by
  rw [← namesL_count hl hk]
  have h1 := namesL_len L
  have h2 : (namesL L).count k ≤ (namesL L).length := List.count_le_length
  have h3 := h.few
  omega
theorem CW.len (h : CW w0 w g f m r v u xs L O) : ∀ p ∈ L, p.2.length = 16 := fun p hp => (h.tabs p hp).len
theorem CW.refB (h : CW w0 w g f m r v u xs L O) (hk : OkC L O) : RefB O 192 := fun p hp => by
  have h1 := hk.refs p hp
  have h2 := nmL_le hk h.len (hk.ids p hp)
  omega
theorem cw_start (w : World) : Calls Try.prog 6 #[] w fun e w' => ∃ g f m r t v u xs, e = .returned (ptV g) ∧ CW w w' g f m r v u xs [(t, aT0)] [] := by
  refine (start_is w).mono ?_
  rintro e w' ⟨g, f, m, r, t, x, v, u, rfl, h1, h2, h3, h4, h5⟩
  exact ⟨g, f, m, r, t, v, u, [x], rfl, h1, h2.fi, fun p hp => by simp at hp; subst hp; exact h2.ta, by simp, h2.on, h2.lf, h2.lm, fun p hp => by simp at hp; subst hp; exact h2.lt⟩
theorem okC_start (t : Nat) : OkC [(t, aT0)] [] := by
  refine ⟨by simp, fun k hk hp => ?_, by simp, by simp⟩
  have : List.count k aT0 = 0 := List.count_eq_zero_of_not_mem (by simp [aT0, hk])
  simp [nmL, this] at hp
end
end Go.Proofs.Ytfplfpfnlffnjaa
