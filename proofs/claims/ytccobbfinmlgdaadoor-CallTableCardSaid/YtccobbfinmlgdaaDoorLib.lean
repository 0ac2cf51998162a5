/-
  Words for memory that the contracts of this seat share: a block that is known whole ('Blk'); worlds of which only some blocks have turned ('Only'); lists of bytes as cells. Plain facts about the model's worlds; no program is named.
-/
import Derived.WalkKit
import Derived.WalkSpells
import Derived.WalkLawsBesides
import Derived.ProofKit
import Derived.OpenShut
import Derived.Outline
import Derived.Deep.QuietTactic
import Derived.BigQuiet
import Derived.Laws.CopyOwn
import Derived.Laws.OwnMore
import Derived.Lib.SliceRun
import Derived.Laws.BitsAllLaws
namespace Go.Proofs.YtccobbfinmlgdaaDoor
open Go.ChangeShapes Go.WideShapes Go.ChangeAt Go.RowKit
set_option linter.unusedVariables false

/-- Keeps a fact from the walk; '.out' gives it back. -/
theorem hide {p : Prop} (h : p) : Hid p := h

/-- Block g is just the cells cs of element type t, none of them frozen. -/
def Blk (w : World) (g : Nat) (t : TypeId) (cs : Array Value) : Prop := w.heap[g]? = some (.cells cs t (0, 0))

/-- Of what was there only the blocks of S may have turned; new blocks may lie behind. -/
structure Only (S : List Nat) (w w' : World) : Prop where
  os : w'.os = w.os
  tape : w'.tape = w.tape
  output : w'.output = w.output
  size : w.heap.size ≤ w'.heap.size
  block : ∀ k, k < w.heap.size → k ∉ S → w'.heap[k]? = w.heap[k]?

section
variable {w w' w'' : World} {S S' : List Nat} {g : Nat} {t : TypeId} {cs : Array Value}
theorem Only.refl (S : List Nat) (w : World) : Only S w w := ⟨rfl, rfl, rfl, Nat.le_refl _, fun _ _ _ => rfl⟩
theorem Only.trans (h : Only S w w') (h' : Only S w' w'') : Only S w w'' :=
  ⟨h'.os.trans h.os, h'.tape.trans h.tape, h'.output.trans h.output, Nat.le_trans h.size h'.size,
    fun k hk hs => (h'.block k (Nat.lt_of_lt_of_le hk h.size) hs).trans (h.block k hk hs)⟩
/-- A larger footprint; blocks that were not there yet count for nothing. -/
theorem Only.mono (h : Only S w w') (hs : ∀ k, k < w.heap.size → k ∈ S → k ∈ S') : Only S' w w' :=
  ⟨h.os, h.tape, h.output, h.size, fun k hk hn => h.block k hk fun hS => hn (hs k hk hS)⟩
theorem Only.trans' (h : Only S w w') (h' : Only S' w' w'') (hs : ∀ k, k < w.heap.size → k ∈ S' → k ∈ S) : Only S w w'' :=
  ⟨h'.os.trans h.os, h'.tape.trans h.tape, h'.output.trans h.output, Nat.le_trans h.size h'.size,
    fun k hk hn => (h'.block k (Nat.lt_of_lt_of_le hk h.size) fun hS => hn (hs k hk hS)).trans (h.block k hk hn)⟩
theorem Only.drew (h : Only S w w') : Only S w w'.drew := ⟨h.os, h.tape, h.output, h.size, h.block⟩
theorem Only.drewN (h : Only S w w') (n : Nat) : Only S w (w'.drewN n) := ⟨h.os, h.tape, h.output, h.size, h.block⟩
theorem Only.alloc (h : Only S w w') (o : Obj) : Only S w (w'.alloc o) :=
  ⟨h.os, h.tape, h.output, Nat.le_trans h.size (by simp), fun k hk hn => (Below.heap_alloc w' o k (Nat.lt_of_lt_of_le hk h.size)).trans (h.block k hk hn)⟩
theorem Only.setCell (h : Only S w w') {p : Addr} (u : Value) (hp : p.block < w.heap.size → p.block ∈ S) : Only S w (w'.setCell p u) :=
  ⟨h.os, h.tape, h.output, by simpa [World.setCell] using h.size, fun k hk hn => (Below.heap_setCell w' p u k (fun e => hn (e ▸ hp (e ▸ hk)))).trans (h.block k hk hn)⟩
theorem Only.setRow (h : Only S w w') (c : Array Value) (hp : g < w.heap.size → g ∈ S) : Only S w (w'.setRow g c) :=
  ⟨h.os, h.tape, h.output, by simpa [World.setRow] using h.size, fun k hk hn => (setRow_other w' g k c (fun e => hn (e ▸ hp (e ▸ hk)))).trans (h.block k hk hn)⟩
theorem Only.of_below (h : Below w.heap.size w w') : Only [] w w' := ⟨h.os, h.tape, h.output, h.size, fun k hk _ => h.block k hk⟩
theorem Only.of_grown {row : Option Nat} (h : w.grownBy w' row) (hs : ∀ k, row = some k → k < w.heap.size → k ∈ S) : Only S w w' :=
  ⟨h.os, h.tape, h.output, h.size, fun k hk hn => h.block k hk fun e => hn (hs k e.symm hk)⟩
theorem Only.below (h : Only S w w') {B : Nat} (hB : B ≤ w.heap.size) (hs : ∀ k, k ∈ S → B ≤ k) : Below B w w' :=
  ⟨h.os, h.tape, h.output, h.size, fun k hk => h.block k (by omega) fun hS => by have := hs k hS; omega⟩
theorem Only.cell (h : Only S w w') {b o : Nat} {s} (hb : b < w.heap.size) (hs : b ∉ S) : w'.cell? ⟨b, o, s⟩ = w.cell? ⟨b, o, s⟩ :=
  World.cell?_of_block (w := w) (a := ⟨b, o, s⟩) (h.block b hb hs)

theorem Blk.lt (h : Blk w g t cs) : g < w.heap.size := by
  rcases Nat.lt_or_ge g w.heap.size with hlt | hge
  · exact hlt
  · unfold Blk at h; rw [Array.getElem?_eq_none hge] at h; cases h
theorem Blk.cell (h : Blk w g t cs) (i : Nat) : w.cell? ⟨g, i, none⟩ = cs[i]? := cell_of_row w g i cs t (0, 0) h
theorem Blk.frozen (h : Blk w g t cs) (i : Nat) : w.frozen? ⟨g, i, none⟩ = false := by
  unfold Blk at h
  simp [World.frozen?, h]
theorem Blk.new (w : World) (t : TypeId) (cs : Array Value) : Blk (w.alloc (.cells cs t)) w.heap.size t cs := heap_alloc_new w _
theorem Blk.drew (h : Blk w g t cs) : Blk w.drew g t cs := h
theorem Blk.drewN (h : Blk w g t cs) (n : Nat) : Blk (w.drewN n) g t cs := h
theorem Blk.alloc (h : Blk w g t cs) (o : Obj) : Blk (w.alloc o) g t cs := (Below.heap_alloc w o g h.lt).trans h
theorem Blk.set_ (h : Blk w g t cs) (i : Nat) (u : Value) : Blk (w.setCell ⟨g, i, none⟩ u) g t (cs.setIfInBounds i u) := by
  unfold Blk at h ⊢
  simp [World.setCell, Array.getElem?_modify, h]
theorem Blk.far (h : Blk w g t cs) {p : Addr} (hp : g ≠ p.block) (u : Value) : Blk (w.setCell p u) g t cs := (Below.heap_setCell w p u g hp).trans h
theorem Blk.row (h : Blk w g t cs) (c : Array Value) : Blk (w.setRow g c) g t c := by
  exact setRow_heap w g cs c t _ h
theorem Blk.rowFar {g' : Nat} (h : Blk w g t cs) (hp : g ≠ g') (c : Array Value) : Blk (w.setRow g' c) g t cs := (setRow_other w g' g c hp).trans h
theorem Blk.only (h : Blk w g t cs) (ho : Only S w w') (hg : g ∉ S) : Blk w' g t cs := (ho.block g h.lt hg).trans h
theorem Blk.ne_ {g' : Nat} {t' : TypeId} {cs' : Array Value} (h : Blk w g t cs) (h' : Blk w g' t' cs') (hne : t ≠ t') : g ≠ g' := by
  rintro rfl
  unfold Blk at h h'
  rw [h] at h'
  injection h' with h'
  injection h' with _ ht
  exact hne ht
end

/-- A list of numbers as cells of bytes. -/
def u8l (xs : List Int) : List Value := xs.map (Value.int .u8)
theorem u8l_length (xs : List Int) : (u8l xs).length = xs.length := by simp [u8l]
theorem u8l_append (xs ys : List Int) : u8l (xs ++ ys) = u8l xs ++ u8l ys := by simp [u8l]
/-- The number at a place of a list; 0 beyond it. -/
def gb (xs : List Int) (i : Nat) : Int := xs.getD i 0
theorem u8l_get (xs : List Int) (r : List Value) (i : Nat) (h : i < xs.length) : (u8l xs ++ r).toArray[i]? = some (.int .u8 (gb xs i)) := by
  have h' : i < (u8l xs).length := by simpa [u8l] using h
  rw [List.getElem?_toArray, List.getElem?_append_left h']
  simp [u8l, gb, List.getElem?_eq_getElem h, List.getD]
theorem gb_cut (xs : List Int) (i n j : Nat) (hj : j < n) : gb ((xs.drop i).take n) j = gb xs (i + j) := by
  unfold gb
  simp [List.getD, hj]
theorem u8l_set (xs : List Int) (r : List Value) (i : Nat) (x : Int) (h : i < xs.length) : (u8l xs ++ r).toArray.setIfInBounds i (.int .u8 x) = (u8l (xs.set i x) ++ r).toArray := by
  rw [List.setIfInBounds_toArray, List.set_append_left _ _ (by simpa [u8l] using h)]
  simp [u8l, List.map_set]
theorem u8l_one (xs : List Int) : ∀ v ∈ u8l xs, v.oneCell' = true := by
  intro v hv
  simp only [u8l, List.mem_map] at hv
  obtain ⟨x, _, rfl⟩ := hv
  rfl

/-- Every number is a byte. -/
def U8 (xs : List Int) : Prop := ∀ x ∈ xs, 0 ≤ x ∧ x ≤ 255
theorem U8.get {xs : List Int} (h : U8 xs) (i : Nat) : 0 ≤ gb xs i ∧ gb xs i ≤ 255 := by
  unfold gb
  by_cases hi : i < xs.length
  · have : xs.getD i 0 = xs[i] := by simp [List.getD, List.getElem?_eq_getElem hi]
    rw [this]; exact h _ (List.getElem_mem hi)
  · have : xs.getD i 0 = 0 := by simp [List.getD, List.getElem?_eq_none (Nat.le_of_not_lt hi)]
    omega
theorem U8.set {xs : List Int} (h : U8 xs) (i : Nat) {x : Int} (hx : 0 ≤ x ∧ x ≤ 255) : U8 (xs.set i x) := by
  intro y hy
  rcases List.mem_or_eq_of_mem_set hy with h' | h'
  · exact h y h'
  · subst h'; exact hx
theorem U8.append {xs ys : List Int} (h : U8 xs) (h' : U8 ys) : U8 (xs ++ ys) := by
  intro x hx
  rcases List.mem_append.1 hx with hx | hx
  · exact h x hx
  · exact h' x hx
theorem U8.take {xs : List Int} (h : U8 xs) (n : Nat) : U8 (xs.take n) := fun x hx => h x (List.mem_of_mem_take hx)
theorem U8.drop {xs : List Int} (h : U8 xs) (n : Nat) : U8 (xs.drop n) := fun x hx => h x (List.mem_of_mem_drop hx)
theorem U8.splice {xs ys : List Int} (h : U8 xs) (h' : U8 ys) (n : Nat) : U8 (Go.splice xs n ys) := by
  unfold Go.splice
  exact (h.take _).append (h'.append (h.drop _))
theorem U8.replicate (n : Nat) : U8 (List.replicate n 0) := by
  intro x hx
  have := List.eq_of_mem_replicate hx
  omega

/-- A slice of integers that came in: nil; or a row of 'cap' cells, the numbers zs. (The guide's skeleton types the same.) -/
def IsRow (k : IntKind) (w : World) (a : Option Addr) (len cap : Nat) (zs : List Int) : Prop :=
  (a = none ∧ len = 0 ∧ cap = 0 ∧ zs = []) ∨
  ∃ x, a = some x ∧ len ≤ cap ∧ cap ≤ maxLen ∧ zs.length = cap ∧ (∀ i, i < zs.length → w.cell? (x.add i) = some (.int k (zs.getD i 0))) ∧ ∀ n ∈ zs, (Lit.int k n).wf = true

theorem IsRow.at_ {k : IntKind} {w : World} {a : Option Addr} {len cap : Nat} {zs : List Int} (h : IsRow k w a len cap zs) (hp : 0 < len) :
    ∃ b o, a = some ⟨b, o, none⟩ ∧ b < w.heap.size ∧ len ≤ cap ∧ cap ≤ maxLen ∧ zs.length = cap ∧ (∀ i, i < cap → w.cell? ⟨b, o + i, none⟩ = some (.int k (gb zs i))) ∧ ∀ i, i < cap → (Lit.int k (gb zs i)).wf = true := by
  rcases h with ⟨_, h0, _⟩ | ⟨x, rfl, hl, hm, hz, hc, hw⟩
  · omega
  · obtain ⟨b, off, rfl, hc'⟩ := ints_at hc (by omega)
    refine ⟨b, off, rfl, ?_, hl, hm, hz, fun i hi => ?_, fun i hi => ?_⟩
    · have := hc' 0 (by omega)
      exact World.block_lt_of_cell? w _ this
    · rw [hc' i (by omega)]; rfl
    · have e : gb zs i = zs[i] := by simp [gb, List.getD, List.getElem?_eq_getElem (show i < zs.length by omega)]
      rw [e]; exact hw _ (List.getElem_mem (by omega))
end Go.Proofs.YtccobbfinmlgdaaDoor
