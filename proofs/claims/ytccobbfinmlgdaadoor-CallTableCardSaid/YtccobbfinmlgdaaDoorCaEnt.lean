/-
  Calls (parapet/call): the calls as plain records; rows of ints that were made one behind the other; a table of records of three cells.
-/
import Derived.Test.YtccobbfinmlgdaaDoorCaRow
namespace Go.Proofs.YtccobbfinmlgdaaDoor
open Go.ChangeShapes Go.WideShapes Go.ChangeAt Go.RowKit
set_option linter.unusedVariables false

/-- A call: its name, how many arguments, the kinds of what it may make. -/
structure EN where
  nm : ByteArray
  cnt : Int
  ks : List Int
def entL : List EN :=
  [⟨⟨#[101, 120, 105, 116]⟩, 1, []⟩,
   ⟨⟨#[102, 111, 114, 107]⟩, 0, [1, 2, 3, 4, 4, 4, 4, 4, 4, 4, 4, 4, 4, 4, 4, 4, 4, 4, 4]⟩,
   ⟨⟨#[119, 97, 105, 116]⟩, 1, [9]⟩,
   ⟨⟨#[107, 105, 108, 108]⟩, 1, []⟩,
   ⟨⟨#[103, 101, 116, 112, 105, 100]⟩, 0, []⟩,
   ⟨⟨#[115, 112, 97, 119, 110]⟩, 3, [2]⟩,
   ⟨⟨#[106, 111, 105, 110]⟩, 1, [9]⟩,
   ⟨⟨#[116, 101, 120, 105, 116]⟩, 1, []⟩,
   ⟨⟨#[102, 119, 97, 105, 116]⟩, 2, [9]⟩,
   ⟨⟨#[102, 119, 97, 107, 101]⟩, 2, []⟩,
   ⟨⟨#[109, 109, 97, 112]⟩, 1, [4]⟩,
   ⟨⟨#[109, 117, 110, 109, 97, 112]⟩, 2, [4]⟩,
   ⟨⟨#[111, 112, 101, 110]⟩, 2, [5, 7, 7, 10]⟩,
   ⟨⟨#[99, 108, 111, 115, 101]⟩, 1, []⟩,
   ⟨⟨#[114, 101, 97, 100]⟩, 3, [9]⟩,
   ⟨⟨#[119, 114, 105, 116, 101]⟩, 3, [9]⟩,
   ⟨⟨#[100, 117, 112]⟩, 1, []⟩,
   ⟨⟨#[112, 105, 112, 101]⟩, 1, [5, 5, 6]⟩,
   ⟨⟨#[109, 107, 100, 105, 114]⟩, 1, [7, 7, 10]⟩,
   ⟨⟨#[117, 110, 108, 105, 110, 107]⟩, 1, [7, 7]⟩,
   ⟨⟨#[108, 105, 110, 107]⟩, 2, [7, 7, 7, 7]⟩,
   ⟨⟨#[114, 101, 110, 97, 109, 101]⟩, 2, [7, 7, 7, 7]⟩,
   ⟨⟨#[115, 105, 122, 101]⟩, 1, []⟩,
   ⟨⟨#[115, 121, 110, 99]⟩, 0, [8, 8, 8, 8]⟩,
   ⟨⟨#[101, 120, 101, 99]⟩, 1, [3, 4, 4, 4, 4, 4, 4, 4, 4, 4, 4, 4, 4, 4, 4, 4, 4, 7, 7]⟩,
   ⟨⟨#[121, 105, 101, 108, 100]⟩, 0, []⟩,
   ⟨⟨#[115, 101, 101, 107]⟩, 2, []⟩,
   ⟨⟨#[103, 101, 116, 116, 105, 100]⟩, 0, []⟩,
   ⟨⟨#[116, 105, 99, 107, 115]⟩, 0, []⟩,
   ⟨⟨#[112, 111, 108, 108]⟩, 2, [9]⟩]

theorem sortK_eq {a b : List Int} (h : a.isPerm b = true) (hb : b.Pairwise (· ≤ ·)) : sortK a = b :=
  List.Perm.eq_of_pairwise (le := (· ≤ ·)) (by intro x y _ _ h1 h2; omega) (sortK_rises a) hb ((sortK_perm a).trans (List.isPerm_iff.1 h))

/-- Rows of ints, each of them of this world, their blocks at B or behind. -/
def KRs (w : World) (B : Nat) (l : List (Value × List Int)) : Prop := ∀ p ∈ l, KR w B p.1 p.2
theorem KRs.none (w : World) (B : Nat) : KRs w B [] := fun p hp => by simp at hp
theorem KRs.grow {w w' : World} {B : Nat} {l : List (Value × List Int)} (h : KRs w B l) (ho : Only [] w w') : KRs w' B l := fun p hp => (h p hp).grow ho
theorem KRs.add {w : World} {B : Nat} {l : List (Value × List Int)} (h : KRs w B l) {v : Value} {ks : List Int} (hv : KR w B v ks) : KRs w B (l ++ [(v, ks)]) := fun p hp => by
  rcases List.mem_append.1 hp with hp | hp
  · exact h p hp
  · rw [List.mem_singleton.1 hp]; exact hv
theorem kr_new (w : World) (ks : List Int) (hl : ks.length ≤ 1000) : KR (w.alloc (.cells (ks.map (Value.int .i64)).toArray 3)) w.heap.size (.slice (some ⟨w.heap.size, 0, none⟩) ks.length ks.length) ks :=
  KR.of_blk (Blk.new _ _ _) rfl hl
theorem takes_add {w wa wx : World} {l : List (Value × List Int)} {v : Value} {ks ks' : List Int} (hl : KRs wa w.heap.size l) (h0 : Only [] w wa) (nm : ByteArray) (cnt : Int) (hx : Only [] wa wx) (hv : KR wx wa.heap.size v ks)
    (hk : ks.length ≤ 1000) (hs : sortK ks = ks') : Calls Tryd.prog 41 #[.string nm, .int .i64 cnt, v] wx fun e w' =>
    e = .returned (.agg #[.string nm, .int .i64 cnt, v]) ∧ KRs w' w.heap.size (l ++ [(v, ks')]) ∧ Only [] w w' := by
  refine (ctakes_is nm cnt v ks _ wx hv hk).mono ?_
  rintro e w' ⟨rfl, h1, h2⟩
  rw [hs] at h1
  refine ⟨rfl, KRs.add (fun p hp => ((hl p hp).grow hx).only h2 (fun q hq hm => ?_)) (h1.low h0.size), only_own hv h2 (h0.trans hx) h0.size⟩
  have e1 := ((hl p hp).at_ hq).2
  have e2 := (hv.at_ (by simpa using hm)).1
  omega

theorem wpList_buildSlice {ops : Array Oper} {rest : List Oper} {o : Oper} {a : Act} {w : World} {Q : Exit → Act → World → Prop} (hgd : o.guard = none) (T : TypeId) (n : Nat) (parts : Array (Nat × Operand)) (ho : o.op = .buildSlice T n parts)
    (vs : Array (Nat × Value)) (hp : parts.map (fun (i, x) => (i, a.eval x)) = vs) (v : Value) (w' : World) (hrun : (Instr.buildSlice T n vs).run Tryd.prog w = .ok v w') (h : wpList Tryd.prog ops Q rest (a.put o.dst v) w') : wpList Tryd.prog ops Q (o :: rest) a w := by
  refine wpList_plain hgd fun K hK => ?_
  unfold Oper.wp
  rw [← hp] at hrun
  simp [execOp, ho, hrun, Result.andThen]
  exact hK _ _ h
/-- The cells of records. -/
def flatE : List EN → List Value → List Value
  | e :: l, v :: vs => .string e.nm :: .int .i64 e.cnt :: v :: flatE l vs
  | _, _ => []
/-- A table: its records lie in one block, the kinds of each in one of their own. -/
def Tab (T : TypeId) (w : World) (B : Nat) (t : Value) (l : List EN) : Prop :=
  ∃ tb vs, t = .slice (some ⟨tb, 0, none⟩) l.length l.length ∧ B ≤ tb ∧ Blk w tb T (flatE l vs).toArray ∧ vs.length = l.length ∧ KRs w B (vs.zip (l.map EN.ks))
theorem flatE_get : ∀ (l : List EN) (vs : List Value) (i : Nat) (e : EN) (v : Value), l[i]? = some e → vs[i]? = some v →
    (flatE l vs)[3 * i]? = some (.string e.nm) ∧ (flatE l vs)[3 * i + 1]? = some (.int .i64 e.cnt) ∧ (flatE l vs)[3 * i + 2]? = some v
  | [], _, i, e, v, h, _ => by simp at h
  | _ :: _, [], i, e, v, _, h => by simp at h
  | a :: l, b :: vs, 0, e, v, h, h' => by
    simp at h h'
    subst h h'
    simp [flatE]
  | a :: l, b :: vs, i + 1, e, v, h, h' => by
    have := flatE_get l vs i e v (by simpa using h) (by simpa using h')
    simpa [flatE, Nat.mul_add, Nat.add_assoc] using this
end Go.Proofs.YtccobbfinmlgdaaDoor
