/-
  Processes and threads (parapet/proc): the table; closed, lives, runs, add, begin, New, keep, heir.
-/
import Derived.Test.YtdnnilpifnigiaaPrMap
import Derived.Deep.RegionLaw
import Derived.StillTailTactics
import Derived.RegionTactic
namespace Go.Proofs.Ytdnnilpifnigiaa
open Go.ChangeShapes Go.WideShapes Go.ChangeAt Go.RowKit Go.Maps
set_option linter.unusedVariables false
set_option linter.unusedSimpArgs false

theorem ownsMap_only {w w' : World} {kt : TypeId} {el : Value → Option (DataW Unit × List MemPlace)} {b n : Nat} {D : DataW Unit} {S : List Nat} (h : w.ownsMap Try.prog kt el b n D) (ho : Only S w w') (hs : b ∉ S) : w'.ownsMap Try.prog kt el b n D := by
  obtain ⟨es, clock, hb, F, hsz, rfl⟩ := h
  have hlt : b < w.heap.size := by
    rcases Nat.lt_or_ge b w.heap.size with h | h
    · exact h
    · rw [Array.getElem?_eq_none h] at hb; cases hb
  exact ⟨es, clock, (ho.block b hlt hs).trans hb, F, hsz, rfl⟩
theorem ownsMap_lt {w : World} {kt : TypeId} {el : Value → Option (DataW Unit × List MemPlace)} {b n : Nat} {D : DataW Unit} (h : w.ownsMap Try.prog kt el b n D) : b < w.heap.size := by
  obtain ⟨es, clock, hb, F, hsz, rfl⟩ := h
  rcases Nat.lt_or_ge b w.heap.size with h | h
  · exact h
  · rw [Array.getElem?_eq_none h] at hb; cases hb
theorem ownsMap_ne {w : World} {kt : TypeId} {el : Value → Option (DataW Unit × List MemPlace)} {b n q : Nat} {D : DataW Unit} {t : TypeId} {cs : Array Value} (h : w.ownsMap Try.prog kt el b n D) (hq : Blk w q t cs) : b ≠ q := by
  rintro rfl
  obtain ⟨es, clock, hb, F, hsz, rfl⟩ := h
  unfold Blk at hq
  rw [hb] at hq
  cases hq

/-- Processes and threads, as they were made; the last numbers. -/
structure PS where
  P : List K5
  T : List S4
  lp : Int
  lt : Int
def kp (P : List K5) : List (Int × K5) := P.map fun k => (k.pid, k)
def tp (T : List S4) : List (Int × S4) := T.map fun k => (k.tid, k)
theorem kp_keys (P : List K5) : (kp P).map (·.1) = P.map (·.pid) := by simp [kp, Function.comp_def]
theorem tp_keys (T : List S4) : (tp T).map (·.1) = T.map (·.tid) := by simp [tp, Function.comp_def]
theorem kp_length (P : List K5) : (kp P).length = P.length := by simp [kp]
theorem tp_length (T : List S4) : (tp T).length = T.length := by simp [tp]
theorem mem_kp {P : List K5} {k : K5} (h : k ∈ P) : (k.pid, k) ∈ kp P := List.mem_map.2 ⟨k, h, rfl⟩
theorem mem_tp {T : List S4} {k : S4} (h : k ∈ T) : (k.tid, k) ∈ tp T := List.mem_map.2 ⟨k, h, rfl⟩
/-- What is kept of a number is turned. -/
def setK (P : List K5) (e : K5) : List K5 := P.map fun x => if x.pid = e.pid then e else x
def setT (T : List S4) (e : S4) : List S4 := T.map fun x => if x.tid = e.tid then e else x
def delK (P : List K5) (k : Int) : List K5 := P.filter fun x => decide (x.pid ≠ k)
def delT (T : List S4) (k : Int) : List S4 := T.filter fun x => decide (x.tid ≠ k)
theorem kp_set (P : List K5) (e : K5) : setV (kp P) e.pid e = kp (setK P e) := by
  unfold setV kp setK
  rw [List.map_map, List.map_map]
  refine List.map_congr_left fun x _ => ?_
  simp only [Function.comp]
  by_cases h : x.pid = e.pid
  · simp [h]
  · simp [h]
theorem tp_set (T : List S4) (e : S4) : setV (tp T) e.tid e = tp (setT T e) := by
  unfold setV tp setT
  rw [List.map_map, List.map_map]
  refine List.map_congr_left fun x _ => ?_
  simp only [Function.comp]
  by_cases h : x.tid = e.tid
  · simp [h]
  · simp [h]
theorem kp_out (P : List K5) (k : Int) : outV (kp P) k = kp (delK P k) := by
  unfold outV kp delK
  rw [List.filter_map]
  rfl
theorem tp_out (T : List S4) (k : Int) : outV (tp T) k = tp (delT T k) := by
  unfold outV tp delT
  rw [List.filter_map]
  rfl
theorem kp_new (P : List K5) (e : K5) : kp P ++ [(e.pid, e)] = kp (P ++ [e]) := by simp [kp]
theorem tp_new (T : List S4) (e : S4) : tp T ++ [(e.tid, e)] = tp (T ++ [e]) := by simp [tp]

structure IsPt (w : World) (t a b : Nat) (s : PS) : Prop where
  blk : Blk w t 54 #[.map (some a), .map (some b), .int .i64 s.lp, .int .i64 s.lt]
  ma : ∃ D, w.ownsMap Try.prog 3 elemK a (kp s.P).length D ∧ MHolds encK D (kp s.P)
  mb : ∃ D, w.ownsMap Try.prog 3 elemS b (tp s.T).length D ∧ MHolds encS D (tp s.T)
  ab : a ≠ b
section
variable {w w' w1 : World} {t a b : Nat} {s : PS} {S : List Nat} {k : Int} {x : K5} {y : S4}
theorem IsPt.c0 (h : IsPt w t a b s) : w.cell? ⟨t, 0, none⟩ = some (.map (some a)) := h.blk.cell 0
theorem IsPt.c1 (h : IsPt w t a b s) : w.cell? ⟨t, 1, none⟩ = some (.map (some b)) := h.blk.cell 1
theorem IsPt.c2 (h : IsPt w t a b s) : w.cell? ⟨t, 2, none⟩ = some (.int .i64 s.lp) := h.blk.cell 2
theorem IsPt.c3 (h : IsPt w t a b s) : w.cell? ⟨t, 3, none⟩ = some (.int .i64 s.lt) := h.blk.cell 3
theorem IsPt.ne (h : IsPt w t a b s) : a ≠ t ∧ b ≠ t := by
  obtain ⟨D, d1, d2⟩ := h.ma
  obtain ⟨D', d3, d4⟩ := h.mb
  exact ⟨ownsMap_ne d1 h.blk, ownsMap_ne d3 h.blk⟩
theorem IsPt.lt_ (h : IsPt w t a b s) : t < w.heap.size ∧ a < w.heap.size ∧ b < w.heap.size := by
  obtain ⟨D, d1, d2⟩ := h.ma
  obtain ⟨D', d3, d4⟩ := h.mb
  exact ⟨h.blk.lt, ownsMap_lt d1, ownsMap_lt d3⟩
theorem IsPt.only (h : IsPt w t a b s) (ho : Only S w w') (h1 : t ∉ S) (h2 : a ∉ S) (h3 : b ∉ S) : IsPt w' t a b s := by
  obtain ⟨D, d1, d2⟩ := h.ma
  obtain ⟨D', d3, d4⟩ := h.mb
  exact ⟨h.blk.only ho h1, ⟨D, ownsMap_only d1 ho h2, d2⟩, ⟨D', ownsMap_only d3 ho h3, d4⟩, h.ab⟩
theorem IsPt.quiet (h : IsPt w t a b s) (ho : Only [] w w') : IsPt w' t a b s := h.only ho (by simp) (by simp) (by simp)
theorem IsPt.setP (h : IsPt w t a b s) (n : Int) : IsPt (w.setCell ⟨t, 2, none⟩ (.int .i64 n)) t a b { s with lp := n } := by
  obtain ⟨D, d1, d2⟩ := h.ma
  obtain ⟨D', d3, d4⟩ := h.mb
  have ho : Only [t] w (w.setCell ⟨t, 2, none⟩ (.int .i64 n)) := (Only.refl _ _).setCell _ (by simp)
  exact ⟨h.blk.set_ 2 _, ⟨D, ownsMap_only d1 ho (by simpa using h.ne.1), d2⟩, ⟨D', ownsMap_only d3 ho (by simpa using h.ne.2), d4⟩, h.ab⟩
theorem IsPt.setN (h : IsPt w t a b s) (n : Int) : IsPt (w.setCell ⟨t, 3, none⟩ (.int .i64 n)) t a b { s with lt := n } := by
  obtain ⟨D, d1, d2⟩ := h.ma
  obtain ⟨D', d3, d4⟩ := h.mb
  have ho : Only [t] w (w.setCell ⟨t, 3, none⟩ (.int .i64 n)) := (Only.refl _ _).setCell _ (by simp)
  exact ⟨h.blk.set_ 3 _, ⟨D, ownsMap_only d1 ho (by simpa using h.ne.1), d2⟩, ⟨D', ownsMap_only d3 ho (by simpa using h.ne.2), d4⟩, h.ab⟩
theorem IsPt.newK (h : IsPt w t a b s) (hx : iW x.pid) (hn : x.pid ∉ s.P.map (·.pid)) (hl : s.P.length < 100000) (ho : Only [] w w1) :
    ∃ w4, (Instr.mapUpdate 51 (.map (some a)) (.int .i64 x.pid) (kV x)).run Try.prog w1 = .ok () w4 ∧ IsPt w4 t a b { s with P := s.P ++ [x] } ∧ Only [a] w1 w4 := by
  have h1 := h.quiet ho
  obtain ⟨D, d1, d2⟩ := h1.ma
  obtain ⟨D', d3, d4⟩ := h1.mb
  obtain ⟨w4, k1, k2, k3⟩ := storeK_new (f := x) d2 d1 (by rw [kp_length]; unfold maxLen; omega) hx (by rw [kp_keys]; exact hn)
  have d5 := d2.new (f := x) hx (by rw [kp_keys]; exact hn)
  rw [kp_new] at k2 d5
  exact ⟨w4, k1, ⟨h1.blk.only k3 (by simpa using h1.ne.1.symm), ⟨_, k2, d5⟩, ⟨D', ownsMap_only d3 k3 (by simpa using h1.ab.symm), d4⟩, h.ab⟩, k3⟩
theorem IsPt.putK (h : IsPt w t a b s) {x0 : K5} (hm : x0 ∈ s.P) (e : x0.pid = x.pid) (hl : s.P.length < 100000) (ho : Only [] w w1) :
    ∃ w4, (Instr.mapUpdate 51 (.map (some a)) (.int .i64 x.pid) (kV x)).run Try.prog w1 = .ok () w4 ∧ IsPt w4 t a b { s with P := setK s.P x } ∧ Only [a] w1 w4 := by
  have h1 := h.quiet ho
  obtain ⟨D, d1, d2⟩ := h1.ma
  obtain ⟨D', d3, d4⟩ := h1.mb
  have hm' := mem_kp hm
  rw [e] at hm'
  obtain ⟨w4, k1, k2, k3⟩ := storeK_old d2 d1 (by rw [kp_length]; unfold maxLen; omega) hm' x
  have d5 := d2.old hm' x
  rw [kp_set] at k2 d5
  exact ⟨w4, k1, ⟨h1.blk.only k3 (by simpa using h1.ne.1.symm), ⟨_, k2, d5⟩, ⟨D', ownsMap_only d3 k3 (by simpa using h1.ab.symm), d4⟩, h.ab⟩, k3⟩
theorem IsPt.delK (h : IsPt w t a b s) (hm : x ∈ s.P) (ty : TypeId) (ho : Only [] w w1) :
    ∃ w4, (Builtin.delete_ #[51, 3] ty #[.map (some a), .int .i64 x.pid]).run Try.prog w1 = .ok (.tuple #[]) w4 ∧ IsPt w4 t a b { s with P := delK s.P x.pid } ∧ Only [a] w1 w4 := by
  have h1 := h.quiet ho
  obtain ⟨D, d1, d2⟩ := h1.ma
  obtain ⟨D', d3, d4⟩ := h1.mb
  obtain ⟨w4, k1, k2, k3⟩ := dropK d2 d1 (mem_kp hm) ty
  have d5 := d2.del (mem_kp hm)
  rw [kp_out] at k2 d5
  exact ⟨w4, k1, ⟨h1.blk.only k3 (by simpa using h1.ne.1.symm), ⟨_, k2, d5⟩, ⟨D', ownsMap_only d3 k3 (by simpa using h1.ab.symm), d4⟩, h.ab⟩, k3⟩
theorem IsPt.newT (h : IsPt w t a b s) (hx : iW y.tid) (hn : y.tid ∉ s.T.map (·.tid)) (hl : s.T.length < 100000) (ho : Only [] w w1) :
    ∃ w4, (Instr.mapUpdate 52 (.map (some b)) (.int .i64 y.tid) (sV y)).run Try.prog w1 = .ok () w4 ∧ IsPt w4 t a b { s with T := s.T ++ [y] } ∧ Only [b] w1 w4 := by
  have h1 := h.quiet ho
  obtain ⟨D, d1, d2⟩ := h1.mb
  obtain ⟨D', d3, d4⟩ := h1.ma
  obtain ⟨w4, k1, k2, k3⟩ := storeS_new (f := y) d2 d1 (by rw [tp_length]; unfold maxLen; omega) hx (by rw [tp_keys]; exact hn)
  have d5 := d2.new (f := y) hx (by rw [tp_keys]; exact hn)
  rw [tp_new] at k2 d5
  exact ⟨w4, k1, ⟨h1.blk.only k3 (by simpa using h1.ne.2.symm), ⟨D', ownsMap_only d3 k3 (by simpa using h1.ab), d4⟩, ⟨_, k2, d5⟩, h.ab⟩, k3⟩
theorem IsPt.putT (h : IsPt w t a b s) {y0 : S4} (hm : y0 ∈ s.T) (e : y0.tid = y.tid) (hl : s.T.length < 100000) (ho : Only [] w w1) :
    ∃ w4, (Instr.mapUpdate 52 (.map (some b)) (.int .i64 y.tid) (sV y)).run Try.prog w1 = .ok () w4 ∧ IsPt w4 t a b { s with T := setT s.T y } ∧ Only [b] w1 w4 := by
  have h1 := h.quiet ho
  obtain ⟨D, d1, d2⟩ := h1.mb
  obtain ⟨D', d3, d4⟩ := h1.ma
  have hm' := mem_tp hm
  rw [e] at hm'
  obtain ⟨w4, k1, k2, k3⟩ := storeS_old d2 d1 (by rw [tp_length]; unfold maxLen; omega) hm' y
  have d5 := d2.old hm' y
  rw [tp_set] at k2 d5
  exact ⟨w4, k1, ⟨h1.blk.only k3 (by simpa using h1.ne.2.symm), ⟨D', ownsMap_only d3 k3 (by simpa using h1.ab), d4⟩, ⟨_, k2, d5⟩, h.ab⟩, k3⟩
theorem IsPt.delT (h : IsPt w t a b s) (hm : y ∈ s.T) (ty : TypeId) (ho : Only [] w w1) :
    ∃ w4, (Builtin.delete_ #[52, 3] ty #[.map (some b), .int .i64 y.tid]).run Try.prog w1 = .ok (.tuple #[]) w4 ∧ IsPt w4 t a b { s with T := delT s.T y.tid } ∧ Only [b] w1 w4 := by
  have h1 := h.quiet ho
  obtain ⟨D, d1, d2⟩ := h1.mb
  obtain ⟨D', d3, d4⟩ := h1.ma
  obtain ⟨w4, k1, k2, k3⟩ := dropS d2 d1 (mem_tp hm) ty
  have d5 := d2.del (mem_tp hm)
  rw [tp_out] at k2 d5
  exact ⟨w4, k1, ⟨h1.blk.only k3 (by simpa using h1.ne.2.symm), ⟨D', ownsMap_only d3 k3 (by simpa using h1.ab), d4⟩, ⟨_, k2, d5⟩, h.ab⟩, k3⟩
theorem IsPt.seeK (h : IsPt w t a b s) (hm : x ∈ s.P) (c : Bool) (ho : Only [] w w1) : (Instr.lookup 51 (.map (some a)) (.int .i64 x.pid) c).run Try.prog w1 = .ok (if c then .tuple #[kV x, .bool true] else kV x) w1 := by
  obtain ⟨D, d1, d2⟩ := (h.quiet ho).ma
  exact lookK d2 d1 (mem_kp hm) c
theorem IsPt.seeK_no (h : IsPt w t a b s) (hk : iW k) (hn : k ∉ s.P.map (·.pid)) (ho : Only [] w w1) : (Instr.lookup 51 (.map (some a)) (.int .i64 k) true).run Try.prog w1 = .ok (.tuple #[kV k0, .bool false]) w1 := by
  obtain ⟨D, d1, d2⟩ := (h.quiet ho).ma
  exact lookK_no d2 d1 hk (by rw [kp_keys]; exact hn)
theorem IsPt.seeT (h : IsPt w t a b s) (hm : y ∈ s.T) (c : Bool) (ho : Only [] w w1) : (Instr.lookup 52 (.map (some b)) (.int .i64 y.tid) c).run Try.prog w1 = .ok (if c then .tuple #[sV y, .bool true] else sV y) w1 := by
  obtain ⟨D, d1, d2⟩ := (h.quiet ho).mb
  exact lookS d2 d1 (mem_tp hm) c
theorem IsPt.seeT_no (h : IsPt w t a b s) (hk : iW k) (hn : k ∉ s.T.map (·.tid)) (ho : Only [] w w1) : (Instr.lookup 52 (.map (some b)) (.int .i64 k) true).run Try.prog w1 = .ok (.tuple #[sV s0, .bool false]) w1 := by
  obtain ⟨D, d1, d2⟩ := (h.quiet ho).mb
  exact lookS_no d2 d1 hk (by rw [tp_keys]; exact hn)
theorem IsPt.ndP (h : IsPt w t a b s) : (s.P.map (·.pid)).Nodup := by
  obtain ⟨D, d1, d2⟩ := h.ma
  have := d2.nd
  rwa [kp_keys] at this
theorem IsPt.ndT (h : IsPt w t a b s) : (s.T.map (·.tid)).Nodup := by
  obtain ⟨D, d1, d2⟩ := h.mb
  have := d2.nd
  rwa [tp_keys] at this
theorem IsPt.lens (h : IsPt w t a b s) (ho : Only [] w w1) (ty : TypeId) : (Builtin.len_ #[51] ty #[.map (some a)]).run Try.prog w1 = .ok (.int .i64 s.P.length) w1 ∧ (Builtin.len_ #[52] ty #[.map (some b)]).run Try.prog w1 = .ok (.int .i64 s.T.length) w1 := by
  obtain ⟨D, d1, d2⟩ := (h.quiet ho).ma
  obtain ⟨D', d3, d4⟩ := (h.quiet ho).mb
  have e1 := lenK d2 d1 ty
  have e2 := lenS d4 d3 ty
  rw [kp_length] at e1
  rw [tp_length] at e2
  exact ⟨e1, e2⟩
theorem uniqK {P : List K5} (h : (P.map (·.pid)).Nodup) {x y : K5} (hx : x ∈ P) (hy : y ∈ P) (e : x.pid = y.pid) : x = y := by
  obtain ⟨i, hi, rfl⟩ := List.getElem_of_mem hx
  obtain ⟨j, hj, rfl⟩ := List.getElem_of_mem hy
  have : i = j := (List.getElem_inj (xs := P.map (·.pid)) (h₀ := by simpa using hi) (h₁ := by simpa using hj) h).1 (by simpa using e)
  subst this
  rfl
theorem uniqT {T : List S4} (h : (T.map (·.tid)).Nodup) {x y : S4} (hx : x ∈ T) (hy : y ∈ T) (e : x.tid = y.tid) : x = y := by
  obtain ⟨i, hi, rfl⟩ := List.getElem_of_mem hx
  obtain ⟨j, hj, rfl⟩ := List.getElem_of_mem hy
  have : i = j := (List.getElem_inj (xs := T.map (·.tid)) (h₀ := by simpa using hi) (h₁ := by simpa using hj) h).1 (by simpa using e)
  subst this
  rfl
/-- Is there such a live process? -/
def livesP (P : List K5) (pid : Int) : Bool := P.any fun k => k.pid == pid && !k.zom
def runsT (T : List S4) (tid : Int) : Bool := T.any fun k => k.tid == tid && !k.ended
theorem livesP_at {P : List K5} (h : (P.map (·.pid)).Nodup) {x : K5} (hx : x ∈ P) : livesP P x.pid = !x.zom := by
  unfold livesP
  cases hz : x.zom
  · rw [Bool.not_false, List.any_eq_true]
    exact ⟨x, hx, by simp [hz]⟩
  · rw [Bool.not_true, List.any_eq_false]
    intro y hy
    by_cases e : y.pid = x.pid
    · rw [uniqK h hy hx e, hz]; simp
    · simp [e]
theorem livesP_no {P : List K5} {k : Int} (hn : k ∉ P.map (·.pid)) : livesP P k = false := by
  unfold livesP
  rw [List.any_eq_false]
  intro y hy
  have : y.pid ≠ k := fun e => hn (List.mem_map.2 ⟨y, hy, e⟩)
  simp [this]
theorem runsT_at {T : List S4} (h : (T.map (·.tid)).Nodup) {x : S4} (hx : x ∈ T) : runsT T x.tid = !x.ended := by
  unfold runsT
  cases hz : x.ended
  · rw [Bool.not_false, List.any_eq_true]
    exact ⟨x, hx, by simp [hz]⟩
  · rw [Bool.not_true, List.any_eq_false]
    intro y hy
    by_cases e : y.tid = x.tid
    · rw [uniqT h hy hx e, hz]; simp
    · simp [e]
theorem runsT_no {T : List S4} {k : Int} (hn : k ∉ T.map (·.tid)) : runsT T k = false := by
  unfold runsT
  rw [List.any_eq_false]
  intro y hy
  have : y.tid ≠ k := fun e => hn (List.mem_map.2 ⟨y, hy, e⟩)
  simp [this]
theorem livesP_yes {P : List K5} {k : Int} (h : livesP P k = true) : ∃ x ∈ P, x.pid = k ∧ x.zom = false := by
  unfold livesP at h
  rw [List.any_eq_true] at h
  obtain ⟨x, hx, e⟩ := h
  simp at e
  exact ⟨x, hx, e⟩
theorem runsT_yes {T : List S4} {k : Int} (h : runsT T k = true) : ∃ x ∈ T, x.tid = k ∧ x.ended = false := by
  unfold runsT at h
  rw [List.any_eq_true] at h
  obtain ⟨x, hx, e⟩ := h
  simp at e
  exact ⟨x, hx, e⟩

theorem pcclosed_is (h : IsPt w t a b s) : Calls Try.prog 27 #[.pointer (some ⟨t, 0, none⟩)] w fun e w' => e = .returned (.bool false) ∧ w = w' := by
  have c0 := h.c0
  clear h
  have qM : ∀ (w : World) (r : Option Nat), (binOp .eql 51 (.map r) (.map none)).run Try.prog w = .ok (.bool r.isNone) w := fun w r => run_eql_map_nil w _ _ _ r Try.underlying51
  go_enter Try.func27, Try.ntmps27
  go_wp2
  go_ret
  exact ⟨rfl, rfl⟩

theorem lives_is (h : IsPt w t a b s) (hk : iW k) : Calls Try.prog 30 #[.pointer (some ⟨t, 0, none⟩), .int .i64 k] w fun e w' => e = .returned (.bool (livesP s.P k)) ∧ Only [] w w' := by
  have c0 := h.c0
  by_cases hm : k ∈ s.P.map (·.pid)
  · obtain ⟨x, hp, rfl⟩ := List.mem_map.1 hm
    have hl := h.seeK hp true (Only.refl _ _)
    have HB := hide (livesP_at h.ndP hp)
    clear h hm hp hk
    obtain ⟨x1, x2, x3, x4⟩ := x
    dsimp only [kV, kC] at hl HB
    go_enter Try.func30, Try.ntmps30
    go_wp2
    go_ret
    exact ⟨by rw [HB.out]; rfl, (Only.refl _ _).alloc _⟩
  · have hl := h.seeK_no hk hm (Only.refl _ _)
    have HB := hide (livesP_no hm)
    clear h hm hk
    dsimp only [kV, kC] at hl
    go_enter Try.func30, Try.ntmps30
    go_wp2
    go_ret
    exact ⟨by rw [HB.out]; rfl, (Only.refl _ _).alloc _⟩

theorem runs_is (h : IsPt w t a b s) (hk : iW k) : Calls Try.prog 44 #[.pointer (some ⟨t, 0, none⟩), .int .i64 k] w fun e w' => e = .returned (.bool (runsT s.T k)) ∧ Only [] w w' := by
  have c0 := h.c1
  by_cases hm : k ∈ s.T.map (·.tid)
  · obtain ⟨x, hp, rfl⟩ := List.mem_map.1 hm
    have hl := h.seeT hp true (Only.refl _ _)
    have HB := hide (runsT_at h.ndT hp)
    clear h hm hp hk
    obtain ⟨x1, x2, x3, x4⟩ := x
    dsimp only [sV, sC] at hl HB
    go_enter Try.func44, Try.ntmps44
    go_wp2
    go_ret
    exact ⟨by rw [HB.out]; rfl, (Only.refl _ _).alloc _⟩
  · have hl := h.seeT_no hk hm (Only.refl _ _)
    have HB := hide (runsT_no hm)
    clear h hm hk
    dsimp only [sV, sC] at hl
    go_enter Try.func44, Try.ntmps44
    go_wp2
    go_ret
    exact ⟨by rw [HB.out]; rfl, (Only.refl _ _).alloc _⟩

end
end Go.Proofs.Ytdnnilpifnigiaa
