/-
  Words for memory that the contracts of this seat share: a block that is known whole ('Blk'); worlds of which only some blocks have turned ('Only'); lists of bytes as cells. Plain facts about the model's worlds; no program is named.
-/
import Derived.WalkKit
import Derived.WalkSpells
import Derived.WalkLawsBesides
import Derived.ProofKit
import Derived.OpenShut
import Derived.Outline
import Derived.Deep.QuietTactic
import Derived.BigQuiet
import Derived.Laws.CopyOwn
import Derived.Laws.OwnMore
import Derived.Lib.SliceRun
import Derived.Laws.BitsAllLaws
import Derived.Test.YtokdpldmoflnkaaRows
import Derived.OwnWalk
namespace Go.Proofs.Ytokdpldmoflnkaa
open Go.ChangeShapes Go.WideShapes Go.ChangeAt Go.RowKit
set_option linter.unusedVariables false

/-- Keeps a fact from the walk; '.out' gives it back. -/
theorem hide {p : Prop} (h : p) : Hid p := h

/-- Block g is just the cells cs of element type t, none of them frozen. -/
def Blk (w : World) (g : Nat) (t : TypeId) (cs : Array Value) : Prop := w.heap[g]? = some (.cells cs t (0, 0))

/-- Of what was there only the blocks of S may have turned; new blocks may lie behind. -/
structure Only (S : List Nat) (w w' : World) : Prop where
  os : w'.os = w.os
  tape : w'.tape = w.tape
  output : w'.output = w.output
  size : w.heap.size ≤ w'.heap.size
  block : ∀ k, k < w.heap.size → k ∉ S → w'.heap[k]? = w.heap[k]?

section
variable {w w' w'' : World} {S S' : List Nat} {g : Nat} {t : TypeId} {cs : Array Value}
theorem Only.refl (S : List Nat) (w : World) : Only S w w := ⟨rfl, rfl, rfl, Nat.le_refl _, fun _ _ _ => rfl⟩
theorem Only.trans (h : Only S w w') (h' : Only S w' w'') : Only S w w'' :=
  ⟨h'.os.trans h.os, h'.tape.trans h.tape, h'.output.trans h.output, Nat.le_trans h.size h'.size,
    fun k hk hs => (h'.block k (Nat.lt_of_lt_of_le hk h.size) hs).trans (h.block k hk hs)⟩
/-- A larger footprint; blocks that were not there yet count for nothing. -/
theorem Only.mono (h : Only S w w') (hs : ∀ k, k < w.heap.size → k ∈ S → k ∈ S') : Only S' w w' :=
  ⟨h.os, h.tape, h.output, h.size, fun k hk hn => h.block k hk fun hS => hn (hs k hk hS)⟩
theorem Only.trans' (h : Only S w w') (h' : Only S' w' w'') (hs : ∀ k, k < w.heap.size → k ∈ S' → k ∈ S) : Only S w w'' :=
  ⟨h'.os.trans h.os, h'.tape.trans h.tape, h'.output.trans h.output, Nat.le_trans h.size h'.size,
    fun k hk hn => (h'.block k (Nat.lt_of_lt_of_le hk h.size) fun hS => hn (hs k hk hS)).trans (h.block k hk hn)⟩
theorem Only.drew (h : Only S w w') : Only S w w'.drew := ⟨h.os, h.tape, h.output, h.size, h.block⟩
theorem Only.drewN (h : Only S w w') (n : Nat) : Only S w (w'.drewN n) := ⟨h.os, h.tape, h.output, h.size, h.block⟩
theorem Only.alloc (h : Only S w w') (o : Obj) : Only S w (w'.alloc o) :=
  ⟨h.os, h.tape, h.output, Nat.le_trans h.size (by simp), fun k hk hn => (Below.heap_alloc w' o k (Nat.lt_of_lt_of_le hk h.size)).trans (h.block k hk hn)⟩
theorem Only.setCell (h : Only S w w') {p : Addr} (u : Value) (hp : p.block < w.heap.size → p.block ∈ S) : Only S w (w'.setCell p u) :=
  ⟨h.os, h.tape, h.output, by simpa [World.setCell] using h.size, fun k hk hn => (Below.heap_setCell w' p u k (fun e => hn (e ▸ hp (e ▸ hk)))).trans (h.block k hk hn)⟩
theorem Only.setRow (h : Only S w w') (c : Array Value) (hp : g < w.heap.size → g ∈ S) : Only S w (w'.setRow g c) :=
  ⟨h.os, h.tape, h.output, by simpa [World.setRow] using h.size, fun k hk hn => (setRow_other w' g k c (fun e => hn (e ▸ hp (e ▸ hk)))).trans (h.block k hk hn)⟩
theorem Only.of_below (h : Below w.heap.size w w') : Only [] w w' := ⟨h.os, h.tape, h.output, h.size, fun k hk _ => h.block k hk⟩
theorem Only.of_grown {row : Option Nat} (h : w.grownBy w' row) (hs : ∀ k, row = some k → k < w.heap.size → k ∈ S) : Only S w w' :=
  ⟨h.os, h.tape, h.output, h.size, fun k hk hn => h.block k hk fun e => hn (hs k e.symm hk)⟩
theorem Only.below (h : Only S w w') {B : Nat} (hB : B ≤ w.heap.size) (hs : ∀ k, k ∈ S → B ≤ k) : Below B w w' :=
  ⟨h.os, h.tape, h.output, h.size, fun k hk => h.block k (by omega) fun hS => by have := hs k hS; omega⟩
theorem Only.cell (h : Only S w w') {b o : Nat} {s} (hb : b < w.heap.size) (hs : b ∉ S) : w'.cell? ⟨b, o, s⟩ = w.cell? ⟨b, o, s⟩ :=
  World.cell?_of_block (w := w) (a := ⟨b, o, s⟩) (h.block b hb hs)

theorem Blk.lt (h : Blk w g t cs) : g < w.heap.size := by
  rcases Nat.lt_or_ge g w.heap.size with hlt | hge
  · exact hlt
  · unfold Blk at h; rw [Array.getElem?_eq_none hge] at h; cases h
theorem Blk.cell (h : Blk w g t cs) (i : Nat) : w.cell? ⟨g, i, none⟩ = cs[i]? := cell_of_row w g i cs t (0, 0) h
theorem Blk.frozen (h : Blk w g t cs) (i : Nat) : w.frozen? ⟨g, i, none⟩ = false := by
  unfold Blk at h
  simp [World.frozen?, h]
theorem Blk.new (w : World) (t : TypeId) (cs : Array Value) : Blk (w.alloc (.cells cs t)) w.heap.size t cs := heap_alloc_new w _
theorem Blk.drew (h : Blk w g t cs) : Blk w.drew g t cs := h
theorem Blk.drewN (h : Blk w g t cs) (n : Nat) : Blk (w.drewN n) g t cs := h
theorem Blk.alloc (h : Blk w g t cs) (o : Obj) : Blk (w.alloc o) g t cs := (Below.heap_alloc w o g h.lt).trans h
theorem Blk.set_ (h : Blk w g t cs) (i : Nat) (u : Value) : Blk (w.setCell ⟨g, i, none⟩ u) g t (cs.setIfInBounds i u) := by
  unfold Blk at h ⊢
  simp [World.setCell, Array.getElem?_modify, h]
theorem Blk.far (h : Blk w g t cs) {p : Addr} (hp : g ≠ p.block) (u : Value) : Blk (w.setCell p u) g t cs := (Below.heap_setCell w p u g hp).trans h
theorem Blk.row (h : Blk w g t cs) (c : Array Value) : Blk (w.setRow g c) g t c := by
  exact setRow_heap w g cs c t _ h
theorem Blk.rowFar {g' : Nat} (h : Blk w g t cs) (hp : g ≠ g') (c : Array Value) : Blk (w.setRow g' c) g t cs := (setRow_other w g' g c hp).trans h
theorem Blk.only (h : Blk w g t cs) (ho : Only S w w') (hg : g ∉ S) : Blk w' g t cs := (ho.block g h.lt hg).trans h
theorem Blk.ne_ {g' : Nat} {t' : TypeId} {cs' : Array Value} (h : Blk w g t cs) (h' : Blk w g' t' cs') (hne : t ≠ t') : g ≠ g' := by
  rintro rfl
  unfold Blk at h h'
  rw [h] at h'
  injection h' with h'
  injection h' with _ ht
  exact hne ht
end

/-- A list of numbers as cells of bytes. -/
def u8l (xs : List Int) : List Value := xs.map (Value.int .u8)
theorem u8l_length (xs : List Int) : (u8l xs).length = xs.length := by simp [u8l]
theorem u8l_append (xs ys : List Int) : u8l (xs ++ ys) = u8l xs ++ u8l ys := by simp [u8l]
/-- The number at a place of a list; 0 beyond it. -/
def gb (xs : List Int) (i : Nat) : Int := xs.getD i 0
theorem u8l_get (xs : List Int) (r : List Value) (i : Nat) (h : i < xs.length) : (u8l xs ++ r).toArray[i]? = some (.int .u8 (gb xs i)) := by
  have h' : i < (u8l xs).length := by simpa [u8l] using h
  rw [List.getElem?_toArray, List.getElem?_append_left h']
  simp [u8l, gb, List.getElem?_eq_getElem h, List.getD]
theorem gb_cut (xs : List Int) (i n j : Nat) (hj : j < n) : gb ((xs.drop i).take n) j = gb xs (i + j) := by
  unfold gb
  simp [List.getD, hj]
theorem u8l_set (xs : List Int) (r : List Value) (i : Nat) (x : Int) (h : i < xs.length) : (u8l xs ++ r).toArray.setIfInBounds i (.int .u8 x) = (u8l (xs.set i x) ++ r).toArray := by
  rw [List.setIfInBounds_toArray, List.set_append_left _ _ (by simpa [u8l] using h)]
  simp [u8l, List.map_set]
theorem u8l_one (xs : List Int) : ∀ v ∈ u8l xs, v.oneCell' = true := by
  intro v hv
  simp only [u8l, List.mem_map] at hv
  obtain ⟨x, _, rfl⟩ := hv
  rfl

/-- Every number is a byte. -/
def U8 (xs : List Int) : Prop := ∀ x ∈ xs, 0 ≤ x ∧ x ≤ 255
theorem U8.get {xs : List Int} (h : U8 xs) (i : Nat) : 0 ≤ gb xs i ∧ gb xs i ≤ 255 := by
  unfold gb
  by_cases hi : i < xs.length
  · have : xs.getD i 0 = xs[i] := by simp [List.getD, List.getElem?_eq_getElem hi]
    rw [this]; exact h _ (List.getElem_mem hi)
  · have : xs.getD i 0 = 0 := by simp [List.getD, List.getElem?_eq_none (Nat.le_of_not_lt hi)]
    omega
theorem U8.set {xs : List Int} (h : U8 xs) (i : Nat) {x : Int} (hx : 0 ≤ x ∧ x ≤ 255) : U8 (xs.set i x) := by
  intro y hy
  rcases List.mem_or_eq_of_mem_set hy with h' | h'
  · exact h y h'
  · subst h'; exact hx
theorem U8.append {xs ys : List Int} (h : U8 xs) (h' : U8 ys) : U8 (xs ++ ys) := by
  intro x hx
  rcases List.mem_append.1 hx with hx | hx
  · exact h x hx
  · exact h' x hx
theorem U8.take {xs : List Int} (h : U8 xs) (n : Nat) : U8 (xs.take n) := fun x hx => h x (List.mem_of_mem_take hx)
theorem U8.drop {xs : List Int} (h : U8 xs) (n : Nat) : U8 (xs.drop n) := fun x hx => h x (List.mem_of_mem_drop hx)
theorem U8.splice {xs ys : List Int} (h : U8 xs) (h' : U8 ys) (n : Nat) : U8 (Go.splice xs n ys) := by
  unfold Go.splice
  exact (h.take _).append (h'.append (h.drop _))
theorem U8.replicate (n : Nat) : U8 (List.replicate n 0) := by
  intro x hx
  have := List.eq_of_mem_replicate hx
  omega

/-- A slice of integers that came in: nil; or a row of 'cap' cells, the numbers zs. (The guide's skeleton types the same.) -/
def IsRow (k : IntKind) (w : World) (a : Option Addr) (len cap : Nat) (zs : List Int) : Prop :=
  (a = none ∧ len = 0 ∧ cap = 0 ∧ zs = []) ∨
  ∃ x, a = some x ∧ len ≤ cap ∧ cap ≤ maxLen ∧ zs.length = cap ∧ (∀ i, i < zs.length → w.cell? (x.add i) = some (.int k (zs.getD i 0))) ∧ ∀ n ∈ zs, (Lit.int k n).wf = true

theorem IsRow.at_ {k : IntKind} {w : World} {a : Option Addr} {len cap : Nat} {zs : List Int} (h : IsRow k w a len cap zs) (hp : 0 < len) :
    ∃ b o, a = some ⟨b, o, none⟩ ∧ b < w.heap.size ∧ len ≤ cap ∧ cap ≤ maxLen ∧ zs.length = cap ∧ (∀ i, i < cap → w.cell? ⟨b, o + i, none⟩ = some (.int k (gb zs i))) ∧ ∀ i, i < cap → (Lit.int k (gb zs i)).wf = true := by
  rcases h with ⟨_, h0, _⟩ | ⟨x, rfl, hl, hm, hz, hc, hw⟩
  · omega
  · obtain ⟨b, off, rfl, hc'⟩ := ints_at hc (by omega)
    refine ⟨b, off, rfl, ?_, hl, hm, hz, fun i hi => ?_, fun i hi => ?_⟩
    · have := hc' 0 (by omega)
      exact World.block_lt_of_cell? w _ this
    · rw [hc' i (by omega)]; rfl
    · have e : gb zs i = zs[i] := by simp [gb, List.getD, List.getElem?_eq_getElem (show i < zs.length by omega)]
      rw [e]; exact hw _ (List.getElem_mem (by omega))
end Go.Proofs.Ytokdpldmoflnkaa
/-
  bytes.Clone, and what a new slice of bytes is: 'Fresh w B v xs': v is a slice of the bytes xs at the head of a block from B on.
-/
namespace Go.Proofs.Ytokdpldmoflnkaa
open Go.ChangeShapes Go.WideShapes Go.ChangeAt Go.RowKit
set_option linter.unusedVariables false

theorem info_u8 : (Try.prog.info? 5).map (fun i => (i.zero, i.size, i.bytes)) = some (some (.int .u8 0), 1, 1) := by kernel_rfl

def Fresh (w : World) (B : Nat) (v : Value) (xs : List Int) : Prop :=
  ∃ (d c : Nat) (r : List Value), v = .slice (some ⟨d, 0, none⟩) xs.length c ∧ B ≤ d ∧ Blk w d 5 (u8l xs ++ r).toArray ∧ xs.length + r.length = c

theorem add_at (d o j : Nat) : (⟨d, o, none⟩ : Addr).add j = ⟨d, o + j, none⟩ := by
  unfold Addr.add
  by_cases h : j = 0 <;> simp [h]

theorem Fresh.of_own {w : World} {B : Nat} {v : Value} {xs : List Int} {n : Nat} (h : w.ownsRow B 5 1 v n (u8l xs)) (hv : v ≠ .slice none 0 0) : Fresh w B v xs := by
  obtain ⟨hl, h⟩ := h
  rcases h with ⟨rfl, _⟩ | ⟨g, cap, cur, rfl, hB, hg, hn, hm, hs, ht⟩
  · exact absurd rfl hv
  · have hx : xs.length = n := by simpa [u8l] using hl
    refine ⟨g, cap, cur.toList.drop n, by rw [hx], hB, ?_, ?_⟩
    · show w.heap[g]? = _
      rw [hg]
      have : u8l xs ++ cur.toList.drop n = cur.toList := by
        rw [← ht, Nat.mul_one]; exact List.take_append_drop n cur.toList
      rw [this]
    · simp [hs]; omega

theorem clone_ok (ad : Addr) (n c : Nat) (xs : List Int) (w : World) (hx : xs.length = n) (hbig : n ≤ 140737488355328) (hc : ∀ i, i < n → w.cell? (ad.add i) = some (.int .u8 (gb xs i))) :
    Calls Try.prog 52 #[.slice (some ad) n c] w fun e w' => ∃ v', e = .returned v' ∧ Fresh w' w.heap.size v' xs ∧ Only [] w w' := by
  obtain ⟨i0, hi, hz0, hz1, hz2⟩ := info_parts info_u8
  have q22 : ∀ (w : World) (a : Option Addr) (n c n' c' : Nat), (binOp .eql 46 (.slice a n c) (.slice none n' c')).run Try.prog w = .ok (.bool a.isNone) w := fun w a n c n' c' => Lib.run_eql_slice_nil w _ _ a n c n' c' Try.underlying46
  have A := hide hc
  clear hc
  go_enter Try.func52, Try.ntmps52
  go_wp2_with (at_builtin; refine wpList_append_own _ rfl _ _ 46 rfl w.heap.size 5 i0 (.int .u8 0) 1 1 Try.underlying46 hi hz0 hz1 hz2 rfl (by decide) _ _ _ rfl (World.ownsRow_made w #[] 0 (Nat.le_refl _) (Nat.zero_le _) rfl) ad n c (u8l xs) rfl ?qc1 ?qc2 ?qc3 ?qc4 ?qc5 ?qc6 ?_)
  case qc1 => rw [u8l_length]; omega
  case qc2 =>
    intro j u hj
    have hjn : j < n := by
      have := (List.getElem?_eq_some_iff.1 hj).1
      rw [u8l_length] at this
      omega
    refine Lib.cell?_alloc_some _ ?_
    rw [A.out j hjn]
    have e : (u8l xs)[j]? = some (Value.int .u8 (gb xs j)) := by simp [u8l, gb, List.getD, List.getElem?_eq_getElem (show j < xs.length by omega)]
    rw [e] at hj
    exact hj
  case qc3 => exact u8l_one xs
  case qc4 => unfold maxLen; omega
  case qc5 => omega
  case qc6 => simp
  intro v' w1 hown hgrow hnil
  have hf : Fresh w1 w.heap.size v' xs := Fresh.of_own (n := n) (by simpa using hown) hnil
  have ho : Only [] w w1 := Only.of_below (((Below.refl _ w).alloc (Nat.le_refl _) _).grown hgrow (by simp) (by intro k hk; simp [Value.ownBlock] at hk; omega))
  clear hown hgrow hnil A q22
  go_wp2
  go_ret
  exact ⟨v', rfl, hf, ho⟩

theorem clone_nil (n c : Nat) (w : World) : Calls Try.prog 52 #[.slice none n c] w fun e w' => e = .returned (.slice none 0 0) ∧ w = w' := by
  have q22 : ∀ (w : World) (a : Option Addr) (n c n' c' : Nat), (binOp .eql 46 (.slice a n c) (.slice none n' c')).run Try.prog w = .ok (.bool a.isNone) w := fun w a n c n' c' => Lib.run_eql_slice_nil w _ _ a n c n' c' Try.underlying46
  go_enter Try.func52, Try.ntmps52
  go_wp2
  go_ret
  exact ⟨rfl, rfl⟩
end Go.Proofs.Ytokdpldmoflnkaa
/-
  The log (parapet/wlog): numbers laid down as bytes, the highest first: put, get.
-/
namespace Go.Proofs.Ytokdpldmoflnkaa
open Go.ChangeShapes Go.WideShapes Go.ChangeAt Go.RowKit
set_option linter.unusedVariables false

/-- The lowest n bytes of a number, the highest first. -/
def beB : Nat → Int → List Int
  | 0, _ => []
  | n + 1, x => (x / 256 ^ n % 256) :: beB n x
theorem beB_length : ∀ (n : Nat) (x : Int), (beB n x).length = n
  | 0, _ => rfl
  | n + 1, x => by simp [beB, beB_length n x]
theorem u8_beB : ∀ (n : Nat) (x : Int), U8 (beB n x)
  | 0, _ => by intro y hy; simp [beB] at hy
  | n + 1, x => by
    intro y hy
    simp only [beB, List.mem_cons] at hy
    rcases hy with rfl | hy
    · omega
    · exact u8_beB n x y hy
theorem splice_length (xs ys : List Int) (o : Nat) (h : o + ys.length ≤ xs.length) : (Go.splice xs o ys).length = xs.length := by
  unfold Go.splice
  simp
  omega
theorem splice_set (xs ys : List Int) (o : Nat) (v : Int) (h : o + 1 + ys.length ≤ xs.length) : (Go.splice xs (o + 1) ys).set o v = Go.splice xs o (v :: ys) := by
  unfold Go.splice
  rw [List.take_succ_eq_append_getElem (show o < xs.length by omega), List.append_assoc, List.set_append_right _ _ (by simp; omega)]
  have e : o - (xs.take o).length = 0 := by simp; omega
  rw [e]
  simp
  congr 1
  omega
theorem splice_nil (xs : List Int) (o : Nat) : Go.splice xs o [] = xs := by
  unfold Go.splice
  simp
theorem splice_app (A B ys : List Int) : Go.splice (A ++ B) A.length ys = A ++ ys ++ B.drop ys.length := by
  unfold Go.splice
  simp
theorem pow256 (n : Nat) (x : Int) : x / 256 ^ n / 256 = x / 256 ^ (n + 1) := by
  rw [Int.ediv_ediv_of_nonneg (Int.le_of_lt (Int.pow_pos (by decide)))]
  congr 1
theorem pow256_rng (n : Nat) {x : Int} (h0 : 0 ≤ x) (h1 : x < 18446744073709551616) : 0 ≤ x / 256 ^ n ∧ x / 256 ^ n < 18446744073709551616 := by
  have hp : (0 : Int) < 256 ^ n := Int.pow_pos (by decide)
  exact ⟨Int.ediv_nonneg h0 (Int.le_of_lt hp), Int.lt_of_le_of_lt (Int.ediv_le_self _ h0) h1⟩

set_option maxRecDepth 100000 in
set_option maxHeartbeats 1000000 in
theorem put_is (d o n c : Nat) (xs : List Int) (r : List Value) (x : Int) (w : World) (hb : Blk w d 5 (u8l xs ++ r).toArray) (hon : o + n ≤ xs.length) (hn : n ≤ 8) (hon2 : o ≤ 100000) (h0 : 0 ≤ x) (h1 : x < 18446744073709551616) :
    Calls Try.prog 91 #[.slice (some ⟨d, o, none⟩) n c, .int .u64 x] w fun e w' => e = .returned (.tuple #[]) ∧ Blk w' d 5 (u8l (Go.splice xs o (beB n x)) ++ r).toArray ∧ Only [d] w w' := by
  have HB := hide hb
  have HX := hide (fun j => pow256_rng j h0 h1)
  clear hb h0 h1
  go_enter Try.func91, Try.ntmps91
  go_wp2
  go_loopw [1, 4] (fun xv iv wr => ∃ k : Nat, k ≤ n ∧ iv = .int .i64 ((k : Int) - 1) ∧ xv = .int .u64 (x / 256 ^ (n - k)) ∧ Only [d] w wr ∧ Blk wr d 5 (u8l (Go.splice xs (o + k) (beB (n - k) x)) ++ r).toArray) (fun _ iv _ => (intOf iv + 1).toNat)
  case atStart => exact ⟨n, Nat.le_refl _, rfl, by simp, Only.refl _ _, by simp [beB, splice_nil]; simpa using HB.out⟩
  case round =>
    obtain ⟨k, hk, rfl, rfl, ho, hbk⟩ := hrel
    have HO := hide ho
    have HBK := hide hbk
    clear ho hbk
    cases k with
    | zero =>
      go_wp2
      go_end0
      have := HBK.out
      simp at this
      exact ⟨rfl, this, HO.out⟩
    | succ p =>
      have hpl : p < n := by omega
      have hfr := HBK.out.frozen (o + p)
      have hle : o + p < (Go.splice xs (o + (p + 1)) (beB (n - (p + 1)) x)).length := by rw [splice_length _ _ _ (by rw [beB_length]; omega)]; omega
      have hck := HBK.out.cell (o + p)
      rw [u8l_get _ _ _ hle] at hck
      obtain ⟨hy0, hy1⟩ := HX.out (n - (p + 1))
      have HY := hide (show x / 256 ^ (n - (p + 1)) / 256 = x / 256 ^ (n - p) by rw [pow256]; congr 2; omega)
      have HW := hide (show (Go.splice xs (o + (p + 1)) (beB (n - (p + 1)) x)).set (o + p) (x / 256 ^ (n - (p + 1)) % 256) = Go.splice xs (o + p) (beB (n - p) x) by
        rw [show o + (p + 1) = o + p + 1 from by omega, splice_set _ _ _ _ (by rw [beB_length]; omega)]
        congr 1
        rw [show n - p = n - (p + 1) + 1 from by omega]
        rfl)
      have HLE := hide hle
      have e1 : (((p + 1 : Nat) : Int) - 1) = p := by omega
      rw [e1]
      clear hle e1
      generalize x / 256 ^ (n - (p + 1)) = y at *
      go_wp2
      go_roundw
      case rel =>
        refine ⟨p, by omega, rfl, ?_, HO.out.setCell _ (by simp), ?_⟩
        · rw [← HY.out]
        · have h2 := HBK.out.set_ (o + p) (.int .u8 (y % 256))
          rw [u8l_set _ _ _ _ HLE.out, HW.out] at h2
          exact h2
      case measure => simp [intOf]
/-- The number that bytes say, the highest first. -/
def beN (l : List Int) : Int := l.foldl (fun x c => x * 256 + c) 0
theorem beN_snoc (l : List Int) (c : Int) : beN (l ++ [c]) = beN l * 256 + c := by simp [beN]
theorem beN_rng : ∀ (l : List Int), U8 l → ∀ n, l.length = n → 0 ≤ beN l ∧ beN l < 256 ^ n := by
  intro l h n
  induction n generalizing l with
  | zero => intro hn; rw [List.length_eq_zero_iff.1 hn]; simp [beN]
  | succ n ih =>
    intro hn
    have e : l = l.take n ++ [l[n]] := by
      rw [← List.take_succ_eq_append_getElem (show n < l.length by omega), List.take_of_length_le (by omega)]
    have h1 := ih (l.take n) (h.take n) (by rw [List.length_take]; omega)
    have h2 := h l[n] (List.getElem_mem _)
    rw [e, beN_snoc, Int.pow_succ]
    omega
theorem u64_or_nat (a b : Nat) (ha : a < 18446744073709551616) (hb : b < 18446744073709551616) : bits .or .u64 (a : Int) (b : Int) = ((a ||| b : Nat) : Int) := by
  have hx : a ||| b < 2 ^ 64 := Nat.or_lt_two_pow (by omega) (by omega)
  have e : ∀ m : Nat, m < 18446744073709551616 → (BitVec.ofInt 64 (m : Int)).toNat = m := fun m hm => by
    rw [BitVec.ofInt_natCast, BitVec.toNat_ofNat]; exact Nat.mod_eq_of_lt (by omega)
  show IntKind.u64.wrap ((BitVec.ofInt 64 (a : Int) ||| BitVec.ofInt 64 (b : Int)).toNat : Int) = _
  rw [BitVec.toNat_or, e a ha, e b hb]
  unfold IntKind.wrap
  simp only [IntKind.bits, IntKind.signed]
  simp
  omega
theorem beN_or {y c : Int} (y0 : 0 ≤ y) (y1 : y < 72057594037927936) (c0 : 0 ≤ c) (c1 : c ≤ 255) : bits .or .u64 (y * 256) c = y * 256 + c := by
  obtain ⟨a, rfl⟩ := Int.eq_ofNat_of_zero_le y0
  obtain ⟨b, rfl⟩ := Int.eq_ofNat_of_zero_le c0
  have h := u64_or_nat (a * 256) b (by omega) (by omega)
  have h2 : a * 256 ||| b = a * 256 + b := by
    rw [Nat.mul_comm]
    exact (Nat.two_pow_add_eq_or_of_lt (i := 8) (by omega) a).symm
  rw [h2] at h
  simpa using h
set_option maxRecDepth 100000 in
set_option maxHeartbeats 1000000 in
theorem get_is (A : Option Addr) (n c : Nat) (zs : List Int) (w : World) (hl : zs.length = n) (hn : n ≤ 8) (hu : U8 zs) (hc : ∀ i, i < n → ∃ d o, A = some ⟨d, o, none⟩ ∧ w.cell? ⟨d, o + i, none⟩ = some (.int .u8 (gb zs i))) :
    Calls Try.prog 84 #[.slice A n c] w fun e w' => e = .returned (.int .u64 (beN zs)) ∧ w = w' := by
  have HC := hide hc
  have HU := hide hu
  have HL := hide hl
  clear hc hl hu
  go_enter Try.func84, Try.ntmps84
  go_wp2
  go_loopw [3, 8] (fun xv iv wr => ∃ i : Nat, i ≤ n ∧ iv = .int .i64 i ∧ xv = .int .u64 (beN (zs.take i)) ∧ wr = w) (fun _ iv _ => n - (intOf iv).toNat)
  case atStart => exact ⟨0, Nat.zero_le _, rfl, rfl, rfl⟩
  case round =>
    obtain ⟨i, hi, rfl, rfl, rfl⟩ := hrel
    by_cases hlt : i < n
    · obtain ⟨d, o, rfl, hck⟩ := HC.out i hlt
      have hg := HU.out.get i
      have hr := beN_rng (zs.take i) (HU.out.take i) i (by rw [List.length_take, HL.out]; omega)
      have hp : (256 : Int) ^ i ≤ 256 ^ 7 := by
        have : (256 : Nat) ^ i ≤ 256 ^ 7 := Nat.pow_le_pow_right (by decide) (by omega)
        exact_mod_cast this
      have y0 := hr.1
      have y1 : beN (zs.take i) < 72057594037927936 := Int.lt_of_lt_of_le hr.2 (by simpa using hp)
      have HS := hide (show beN (zs.take (i + 1)) = beN (zs.take i) * 256 + gb zs i by
        rw [List.take_succ_eq_append_getElem (show i < zs.length by have := HL.out; omega), beN_snoc]
        congr 1
        simp [gb, List.getD, show i < zs.length by have := HL.out; omega])
      have HO := hide (beN_or y0 y1 hg.1 hg.2)
      have hw : beN (zs.take i) * 256 % 18446744073709551616 = beN (zs.take i) * 256 := by omega
      clear hr hp
      generalize beN (zs.take i) = y at *
      generalize gb zs i = v at *
      go_wp2
      go_roundw
      case rel => exact ⟨i + 1, hlt, by go_num, by rw [HS.out, ← HO.out], trivial⟩
      case measure => simp [intOf]; omega
    · obtain rfl : i = n := by omega
      go_wp2
      go_ret
      exact ⟨by rw [List.take_of_length_le (by have := HL.out; omega)]; rfl, rfl⟩
end Go.Proofs.Ytokdpldmoflnkaa
