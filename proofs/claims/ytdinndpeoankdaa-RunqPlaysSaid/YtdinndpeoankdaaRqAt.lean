/-
  The run queues (parapet/runq): the struct's eighteen cells (the number of harts, what each runs, each one's queue, the map of places); what a call may turn.
-/
import Derived.Test.YtdinndpeoankdaaRqMap
import Derived.Deep.RegionHeld3
namespace Go.Proofs.Ytdinndpeoankdaa
open Go.ChangeShapes Go.WideShapes Go.ChangeAt Go.RowKit Go.Maps
set_option linter.unusedVariables false

def upd {α : Type} (f : Nat → α) (i : Nat) (x : α) : Nat → α := fun k => if k = i then x else f k
theorem upd_same {α : Type} (f : Nat → α) (i : Nat) (x : α) : upd f i x i = x := by simp [upd]
theorem upd_far {α : Type} (f : Nat → α) {i k : Nat} (x : α) (h : k ≠ i) : upd f i x k = f k := by simp [upd, h]
theorem upd_self {α : Type} (f : Nat → α) (i : Nat) : upd f i (f i) = f := by
  funext k
  by_cases h : k = i
  · subst h; simp [upd]
  · simp [upd, h]
/-- What the queues are: the number of harts, what each runs, each one's queue, the places. -/
structure RQ where
  H : Nat
  r : Nat → Int
  n : Nat → List Int
  O : List (Int × Int)
/-- What stands in a cell. -/
def valQ (s : RQ) (m : Nat) (vs : Nat → Value) (o : Nat) : Value :=
  if o = 0 then .int .i64 s.H else if o ≤ 8 then .int .i64 (s.r (o - 1)) else if o ≤ 16 then vs (o - 9) else .map (some m)
def cellsQ (v : Nat → Value) : Array Value := ((List.range 18).map v).toArray
theorem cellsQ_get (v : Nat → Value) (o : Nat) (h : o < 18) : (cellsQ v)[o]? = some (v o) := by
  simp [cellsQ, List.getElem?_map, List.getElem?_range h]
theorem cellsQ_set (v : Nat → Value) (o : Nat) (x : Value) : (cellsQ v).setIfInBounds o x = cellsQ (upd v o x) := by
  unfold cellsQ
  rw [List.setIfInBounds_toArray]
  congr 1
  apply List.ext_getElem
  · simp
  · intro i h1 h2
    rw [List.getElem_set]
    by_cases h : o = i
    · subst h; simp [upd]
    · rw [if_neg h]; simp [upd, Ne.symm h]
theorem valQ_run (s : RQ) (m : Nat) (vs : Nat → Value) (h : Nat) (hh : h < 8) (x : Int) : upd (valQ s m vs) (1 + h) (.int .i64 x) = valQ { s with r := upd s.r h x } m vs := by
  funext o
  unfold upd valQ
  by_cases e : o = 1 + h
  · subst e
    rw [if_pos rfl, if_neg (by omega), if_pos (by omega)]
    simp
  · rw [if_neg e]
    by_cases e0 : o = 0
    · rw [if_pos e0, if_pos e0]
    · rw [if_neg e0, if_neg e0]
      by_cases e8 : o ≤ 8
      · rw [if_pos e8, if_pos e8]
        simp only []
        rw [if_neg (by omega)]
      · rw [if_neg e8, if_neg e8]
theorem valQ_row (s : RQ) (m : Nat) (vs : Nat → Value) (h : Nat) (hh : h < 8) (x : Value) (n' : Nat → List Int) : upd (valQ s m vs) (9 + h) x = valQ { s with n := n' } m (upd vs h x) := by
  funext o
  unfold upd valQ
  by_cases e : o = 9 + h
  · subst e
    rw [if_pos rfl, if_neg (by omega), if_neg (by omega), if_pos (by omega)]
    simp
  · rw [if_neg e]
    by_cases e0 : o = 0
    · rw [if_pos e0, if_pos e0]
    · rw [if_neg e0, if_neg e0]
      by_cases e8 : o ≤ 8
      · rw [if_pos e8, if_pos e8]
      · rw [if_neg e8, if_neg e8]
        by_cases e16 : o ≤ 16
        · rw [if_pos e16, if_pos e16]
          simp only []
          rw [if_neg (by omega)]
        · rw [if_neg e16, if_neg e16]

structure IsRq (w : World) (g m : Nat) (s : RQ) (vs : Nat → Value) : Prop where
  blk : Blk w g 41 (cellsQ (valQ s m vs))
  row : ∀ h, h < 8 → IRow w (vs h) (s.n h)
  apart : ∀ h k q, h < 8 → k < 8 → h ≠ k → (vs h).ownBlock = some q → (vs k).ownBlock ≠ some q
  own : ∃ D, w.ownsMap Try.prog 3 elemI m s.O.length D ∧ MHolds encI D s.O
/-- The blocks of it. -/
def footQ (g m : Nat) (vs : Nat → Value) : List Nat := g :: m :: (List.range 8).flatMap fun o => (vs o).ownBlock.toList
theorem mem_footQ {g m : Nat} {vs : Nat → Value} {k : Nat} : k ∈ footQ g m vs ↔ k = g ∨ k = m ∨ ∃ o, o < 8 ∧ (vs o).ownBlock = some k := by
  simp [footQ]
theorem mem_own {v : Value} {k : Nat} : k ∈ v.ownBlock.toList ↔ v.ownBlock = some k := by
  cases v.ownBlock with
  | none => simp
  | some q => simp [eq_comm]
/-- What a call did: only blocks of F turned; those of F' are F's, or new. -/
structure Turn (w w' : World) (F F' : List Nat) : Prop where
  only : Only F w w'
  foot : ∀ k, k ∈ F' → k ∈ F ∨ w.heap.size ≤ k
theorem Turn.refl (w : World) (F : List Nat) : Turn w w F F := ⟨Only.refl _ _, fun k h => .inl h⟩
theorem Turn.same {w w' : World} (F : List Nat) (h : Only [] w w') : Turn w w' F F := ⟨h.mono (by simp), fun k h => .inl h⟩
theorem Turn.trans {w w1 w2 : World} {F F1 F2 : List Nat} (h : Turn w w1 F F1) (h2 : Turn w1 w2 F1 F2) : Turn w w2 F F2 :=
  ⟨h.only.trans' h2.only (fun k hk hk' => (h.foot k hk').resolve_right (by omega)), fun k hk => by
    rcases h2.foot k hk with h' | h'
    · exact h.foot k h'
    · exact .inr (Nat.le_trans h.only.size h')⟩
theorem Turn.dr {w w1 : World} {F F1 : List Nat} (h : Turn w w1 F F1) (n : Nat) : Turn w (w1.drewN n) F F1 := ⟨h.only.drewN n, h.foot⟩

section
variable {w w' w1 : World} {g m : Nat} {s : RQ} {vs : Nat → Value} {S : List Nat}
theorem IsRq.cell (R : IsRq w g m s vs) (o : Nat) (h : o < 18) : w.cell? ⟨g, o, none⟩ = some (valQ s m vs o) := by rw [R.blk.cell]; exact cellsQ_get _ o h
theorem IsRq.cH (R : IsRq w g m s vs) : w.cell? ⟨g, 0, none⟩ = some (.int .i64 s.H) := R.cell 0 (by decide)
theorem IsRq.cM (R : IsRq w g m s vs) : w.cell? ⟨g, 17, none⟩ = some (.map (some m)) := R.cell 17 (by decide)
theorem IsRq.cR (R : IsRq w g m s vs) {h : Nat} (hh : h < 8) : w.cell? ⟨g, 1 + h, none⟩ = some (.int .i64 (s.r h)) := by
  rw [R.cell _ (by omega)]
  unfold valQ
  rw [if_neg (by omega), if_pos (by omega)]
  simp
theorem IsRq.cN (R : IsRq w g m s vs) {h : Nat} (hh : h < 8) : w.cell? ⟨g, 9 + h, none⟩ = some (vs h) := by
  rw [R.cell _ (by omega)]
  unfold valQ
  rw [if_neg (by omega), if_neg (by omega), if_pos (by omega)]
  simp
theorem IsRq.fr (R : IsRq w g m s vs) (o : Nat) : w.frozen? ⟨g, o, none⟩ = false := R.blk.frozen o
theorem IsRq.ltg (R : IsRq w g m s vs) : g < w.heap.size := R.blk.lt
theorem IsRq.ltm (R : IsRq w g m s vs) : m < w.heap.size := by
  obtain ⟨D, ho, _⟩ := R.own
  obtain ⟨es, clock, hb, _⟩ := ho
  exact (Array.getElem?_eq_some_iff.1 hb).1
theorem IsRq.ltr (R : IsRq w g m s vs) {h k : Nat} (hh : h < 8) (e : (vs h).ownBlock = some k) : k < w.heap.size := ((R.row h hh).at_ e).2.1
theorem IsRq.gm (R : IsRq w g m s vs) : g ≠ m := by
  rintro rfl
  obtain ⟨D, ⟨es, clock, hb, _⟩, _⟩ := R.own
  have := R.blk
  unfold Blk at this
  rw [this] at hb
  cases hb
theorem IsRq.rg (R : IsRq w g m s vs) {h k : Nat} (hh : h < 8) (e : (vs h).ownBlock = some k) : k ≠ g := (R.row h hh).apart R.blk (by decide) k e
theorem irow_map {v : Value} {ns : List Int} {n : Nat} {D : DataW Unit} (hr : IRow w v ns) (ho : w.ownsMap Try.prog 3 elemI m n D) {k : Nat} (e : v.ownBlock = some k) : k ≠ m := by
  rintro rfl
  obtain ⟨es, clock, hb, _⟩ := ho
  rcases hr.2 with ⟨e', _⟩ | ⟨b, cap, cur, e', _, hg, _⟩
  · rw [e'] at e; simp [Value.ownBlock] at e
  · rw [e'] at e
    simp only [Value.ownBlock, Option.some.injEq] at e
    subst e
    rw [hg] at hb
    cases hb
theorem IsRq.rm (R : IsRq w g m s vs) {h k : Nat} (hh : h < 8) (e : (vs h).ownBlock = some k) : k ≠ m := by
  obtain ⟨D, ho, _⟩ := R.own
  exact irow_map (R.row h hh) ho e
theorem IsRq.only (R : IsRq w g m s vs) (ho : Only S w w') (hs : ∀ k, k ∈ footQ g m vs → k ∉ S) : IsRq w' g m s vs := by
  refine ⟨R.blk.only ho (hs g (mem_footQ.2 (.inl rfl))), fun h hh => (R.row h hh).only ho (fun q hq => hs q (mem_footQ.2 (.inr (.inr ⟨h, hh, hq⟩)))), R.apart, ?_⟩
  obtain ⟨D, h1, h2⟩ := R.own
  exact ⟨D, ownsMap_onlyI h1 ho (hs m (mem_footQ.2 (.inr (.inl rfl)))), h2⟩
theorem IsRq.quiet (R : IsRq w g m s vs) (ho : Only [] w w') : IsRq w' g m s vs := R.only ho (by simp)
theorem IsRq.drew (R : IsRq w g m s vs) : IsRq w.drew g m s vs := ⟨R.blk, R.row, R.apart, R.own⟩
theorem IsRq.drewN (R : IsRq w g m s vs) (n : Nat) : IsRq (w.drewN n) g m s vs := ⟨R.blk, R.row, R.apart, R.own⟩
theorem IsRq.foot_lt (R : IsRq w g m s vs) {k : Nat} (hk : k ∈ footQ g m vs) : k < w.heap.size := by
  rcases mem_footQ.1 hk with rfl | rfl | ⟨o, h, e⟩
  · exact R.ltg
  · exact R.ltm
  · exact R.ltr h e

/-- What a hart runs is set. -/
theorem IsRq.putR (R : IsRq w g m s vs) {h : Nat} (hh : h < 8) (x : Int) : IsRq (w.setCell ⟨g, 1 + h, none⟩ (.int .i64 x)) g m { s with r := upd s.r h x } vs ∧ Only [g] w (w.setCell ⟨g, 1 + h, none⟩ (.int .i64 x)) := by
  have ho : Only [g] w (w.setCell ⟨g, 1 + h, none⟩ (.int .i64 x)) := (Only.refl _ _).setCell _ (by simp)
  refine ⟨⟨?_, fun k hk => (R.row k hk).only ho (fun q hq hm => R.rg hk hq (by simpa using hm)), R.apart, ?_⟩, ho⟩
  · have := R.blk.set_ (1 + h) (.int .i64 x)
    rw [cellsQ_set, valQ_run s m vs h hh x] at this
    exact this
  · obtain ⟨D, h1, h2⟩ := R.own
    exact ⟨D, ownsMap_onlyI h1 ho (by simpa using R.gm.symm), h2⟩
/-- A hart's queue turned, and its cell is set. -/
theorem IsRq.putN (R : IsRq w g m s vs) {i : Nat} (hi : i < 8) {x : Value} {xs : List Int} (ho : Only (vs i).ownBlock.toList w w1) (hx : IRow w1 x xs) (hb : ∀ k, x.ownBlock = some k → (vs i).ownBlock = some k ∨ w.heap.size ≤ k) :
    IsRq (w1.setCell ⟨g, 9 + i, none⟩ x) g m { s with n := upd s.n i xs } (upd vs i x) ∧ Turn w (w1.setCell ⟨g, 9 + i, none⟩ x) (footQ g m vs) (footQ g m (upd vs i x)) := by
  have hgS : g ∉ (vs i).ownBlock.toList := fun h => R.rg hi (mem_own.1 h) rfl
  have hmS : m ∉ (vs i).ownBlock.toList := fun h => R.rm hi (mem_own.1 h) rfl
  have hb1 : Blk w1 g 41 (cellsQ (valQ s m vs)) := R.blk.only ho hgS
  have hset : Only [g] w1 (w1.setCell ⟨g, 9 + i, none⟩ x) := (Only.refl _ _).setCell _ (by simp)
  have hxg : ∀ k, x.ownBlock = some k → k ≠ g := hx.apart hb1 (by decide)
  refine ⟨⟨?_, fun o h => ?_, fun o p k h1 h2 hne e1 e2 => ?_, ?_⟩, ?_, fun k hk => ?_⟩
  · have := hb1.set_ (9 + i) x
    rw [cellsQ_set, valQ_row s m vs i hi x (upd s.n i xs)] at this
    exact this
  · by_cases e : o = i
    · subst e
      show IRow _ (upd vs o x o) (upd s.n o xs o)
      rw [upd_same, upd_same]
      exact KRow.only hx hset (fun q hq hm => hxg q hq (by simpa using hm))
    · show IRow _ (upd vs i x o) (upd s.n i xs o)
      rw [upd_far _ _ e, upd_far _ _ e]
      refine KRow.only ((R.row o h).only ho (fun q hq hm => R.apart o i q h hi e hq (mem_own.1 hm))) hset (fun q hq hm => R.rg h hq (by simpa using hm))
  · by_cases eo : o = i
    · have ep : p ≠ i := fun q => hne (eo.trans q.symm)
      rw [eo, upd_same] at e1
      rw [upd_far _ _ ep] at e2
      rcases hb k e1 with h | h
      · exact R.apart i p k hi h2 (Ne.symm ep) h e2
      · have := R.ltr h2 e2; omega
    · rw [upd_far _ _ eo] at e1
      by_cases ep : p = i
      · rw [ep, upd_same] at e2
        rcases hb k e2 with h | h
        · exact R.apart o i k h1 hi eo e1 h
        · have := R.ltr h1 e1; omega
      · rw [upd_far _ _ ep] at e2
        exact R.apart o p k h1 h2 hne e1 e2
  · obtain ⟨D, h1, h2⟩ := R.own
    exact ⟨D, ownsMap_onlyI (ownsMap_onlyI h1 ho hmS) hset (by simpa using R.gm.symm), h2⟩
  · exact (ho.mono (fun k _ hk => mem_footQ.2 (.inr (.inr ⟨i, hi, mem_own.1 hk⟩)))).trans (hset.mono (fun k _ hk => by simp at hk; exact mem_footQ.2 (.inl hk)))
  · rcases mem_footQ.1 hk with rfl | rfl | ⟨o, h, e⟩
    · exact .inl (mem_footQ.2 (.inl rfl))
    · exact .inl (mem_footQ.2 (.inr (.inl rfl)))
    · by_cases eo : o = i
      · rw [eo, upd_same] at e
        exact (hb k e).imp (fun h' => mem_footQ.2 (.inr (.inr ⟨i, hi, h'⟩))) id
      · rw [upd_far _ _ eo] at e
        exact .inl (mem_footQ.2 (.inr (.inr ⟨o, h, e⟩)))
/-- The map turned. -/
theorem IsRq.putM (R : IsRq w g m s vs) {O' : List (Int × Int)} {D' : DataW Unit} (ho : Only [m] w w1) (h1 : w1.ownsMap Try.prog 3 elemI m O'.length D') (h2 : MHolds encI D' O') : IsRq w1 g m { s with O := O' } vs :=
  ⟨R.blk.only ho (by simpa using R.gm), fun k hk => (R.row k hk).only ho (fun q hq hm => R.rm hk hq (by simpa using hm)), R.apart, D', h1, h2⟩
end
end Go.Proofs.Ytdinndpeoankdaa
