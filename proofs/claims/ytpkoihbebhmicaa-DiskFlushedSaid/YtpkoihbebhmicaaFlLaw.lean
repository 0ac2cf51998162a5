/-
  What the law 'DiskFlushed' holds: the disk, what is known, what was written last.
-/
import Derived.Test.YtpkoihbebhmicaaFlMap
import Derived.Test.YtpkoihbebhmicaaDiskHelp
namespace Go.Proofs.Ytpkoihbebhmicaa
open Go.ChangeShapes Go.WideShapes Go.ChangeAt Go.RowKit Go.Maps
set_option linter.unusedVariables false

noncomputable abbrev elemT : Value → Option (DataW Unit × List MemPlace) := plainElem Try.prog 9
theorem lawIntF : Keyed Try.prog 3 := int_keyed Try.underlying3

/-- The disk and both maps, apart from each other, younger than w0. -/
def Fl (w0 w : World) (g N kb lb k : Nat) (plat : List Int) (l : List (Nat × List Int)) (Q1 Q2 : Nat → ByteArray → Prop) : Prop :=
  ∃ rd wt fl F D1 D2, Dk w g N plat l (-1) rd wt fl k F ∧ w.ownsMap Try.prog 3 elemT kb N D1 ∧ w.ownsMap Try.prog 3 elemT lb N D2 ∧ Mp N D1 Q1 ∧ Mp N D2 Q2 ∧ kb ∉ F ∧ lb ∉ F ∧ kb ≠ lb ∧ (∀ q ∈ F, w0.heap.size ≤ q) ∧ w0.heap.size ≤ kb ∧ w0.heap.size ≤ lb ∧ Only [] w0 w

section
variable {w0 w w' : World} {g N kb lb k : Nat} {plat : List Int} {l : List (Nat × List Int)} {Q1 Q2 Q1' Q2' : Nat → ByteArray → Prop}
theorem Fl.quiet (h : Fl w0 w g N kb lb k plat l Q1 Q2) (ho : Only [] w w') : Fl w0 w' g N kb lb k plat l Q1 Q2 := by
  obtain ⟨rd, wt, fl, F, D1, D2, hd, h1, h2, m1, m2, n1, n2, n3, hF, b1, b2, h0⟩ := h
  exact ⟨rd, wt, fl, F, D1, D2, hd.quiet ho, ownsMap_only h1 ho (by simp), ownsMap_only h2 ho (by simp), m1, m2, n1, n2, n3, hF, b1, b2, h0.trans ho⟩
theorem Fl.imp (h : Fl w0 w g N kb lb k plat l Q1 Q2) (q1 : ∀ i s, i < N → Q1 i s → Q1' i s) (q2 : ∀ i s, i < N → Q2 i s → Q2' i s) : Fl w0 w g N kb lb k plat l Q1' Q2' := by
  obtain ⟨rd, wt, fl, F, D1, D2, hd, h1, h2, m1, m2, n1, n2, n3, hF, b1, b2, h0⟩ := h
  exact ⟨rd, wt, fl, F, D1, D2, hd, h1, h2, m1.imp q1, m2.imp q2, n1, n2, n3, hF, b1, b2, h0⟩
theorem Fl.more {k' : Nat} (h : Fl w0 w g N kb lb k plat l Q1 Q2) (hk : k ≤ k') : Fl w0 w g N kb lb k' plat l Q1 Q2 := by
  obtain ⟨rd, wt, fl, F, D1, D2, hd, h1, h2, m1, m2, n1, n2, n3, hF, b1, b2, h0⟩ := h
  exact ⟨rd, wt, fl, F, D1, D2, hd.more hk, h1, h2, m1, m2, n1, n2, n3, hF, b1, b2, h0⟩
theorem Fl.old (h : Fl w0 w g N kb lb k plat l Q1 Q2) : Only [] w0 w := by
  obtain ⟨rd, wt, fl, F, D1, D2, hd, h1, h2, m1, m2, n1, n2, n3, hF, b1, b2, h0⟩ := h
  exact h0
theorem Fl.facts (h : Fl w0 w g N kb lb k plat l Q1 Q2) : plat.length = 512 * N ∧ 1 ≤ N ∧ N ≤ 4096 ∧ ∀ p ∈ l, p.1 < N ∧ p.2.length = 512 ∧ U8 p.2 := by
  obtain ⟨rd, wt, fl, F, D1, D2, hd, _⟩ := h
  exact ⟨hd.platOk.2.1, hd.platOk.2.2.1, hd.platOk.2.2.2, hd.writes⟩
theorem Fl.lts (h : Fl w0 w g N kb lb k plat l Q1 Q2) : kb < w.heap.size ∧ lb < w.heap.size ∧ kb ≠ lb := by
  obtain ⟨rd, wt, fl, F, D1, D2, hd, h1, h2, m1, m2, n1, n2, n3, hF, b1, b2, h0⟩ := h
  exact ⟨h1.lt, h2.lt, n3⟩
/-- A call of the disk alone. -/
theorem Fl.turn (h : Fl w0 w g N kb lb k plat l Q1 Q2) {F F' : List Nat} {k' : Nat} {plat' : List Int} {l' : List (Nat × List Int)} {rd' wt' fl' : Int} (t : Turned w w' F F') (hd' : Dk w' g N plat' l' (-1) rd' wt' fl' k' F')
    (hF : ∀ q ∈ F, w0.heap.size ≤ q) (hk : kb ∉ F) (hl : lb ∉ F) : Fl w0 w' g N kb lb k' plat' l' Q1 Q2 := by
  obtain ⟨rd, wt, fl, F2, D1, D2, hd, h1, h2, m1, m2, n1, n2, n3, hF2, b1, b2, h0⟩ := h
  have a1 := h1.lt
  have a2 := h2.lt
  refine ⟨rd', wt', fl', F', D1, D2, hd', ownsMap_only h1 t.1 hk, ownsMap_only h2 t.1 hl, m1, m2, fun hm => ?_, fun hm => ?_, n3, fun q hq => ?_, b1, b2, h0.trans' t.1 (fun q hq hm => by have := hF q hm; omega)⟩
  · rcases t.2 kb hm with h | h
    · exact hk h
    · omega
  · rcases t.2 lb hm with h | h
    · exact hl h
    · omega
  · rcases t.2 q hq with h | h
    · exact hF q h
    · have := h0.size; omega

section
variable (h : Fl w0 w g N kb lb k plat l Q1 Q2)
include h
theorem fl_write_no (n : Int) (A : Option Addr) (m c : Nat) (hn : n < 0 ∨ N ≤ n) : Calls Try.prog 10 #[.pointer (some ⟨g, 0, none⟩), .int .i64 n, .slice A m c] w fun e w' => e = .returned (.int .i64 20) ∧ Only [] w w' := by
  obtain ⟨rd, wt, fl, F, D1, D2, hd, _⟩ := h
  exact (dk_write_sector hd n A m c hn).mono fun e w' ⟨a, b⟩ => ⟨a, b ▸ Only.refl _ _⟩
theorem fl_write (n : Nat) (hn : n < N) (d : Nat) (zs : List Int) (hz : zs.length = 512) (hu : U8 zs) {wa : World} (ha : Only [] wa w) (hd2 : wa.heap.size ≤ d) (hFl : Fl w0 wa g N kb lb k plat l Q1 Q2) (hb : Blk w d 5 (u8l zs).toArray) (hk : k < 4398046511000) :
    Calls Try.prog 10 #[.pointer (some ⟨g, 0, none⟩), .int .i64 n, .slice (some ⟨d, 0, none⟩) 512 512] w fun e w' => e = .returned (.int .i64 0) ∧ Fl w0 w' g N kb lb (k + 1) plat (l ++ [(n, zs)]) Q1 Q2 ∧ ∀ (B : Nat) (tB : TypeId) (cs : Array Value), wa.heap.size ≤ B → Blk w B tB cs → Blk w' B tB cs := by
  obtain ⟨rd, wt, fl, F, D1, D2, hd, h1, h2, m1, m2, n1, n2, n3, hF, b1, b2, h0⟩ := hFl
  have h' : Fl w0 w g N kb lb k plat l Q1 Q2 := h
  have hdF : d ∉ F := fun hm => by have := hd.lt d hm; omega
  have hc : ∀ i, i < 512 → w.cell? ⟨d, 0 + i, none⟩ = some (.int .u8 (gb zs i)) := fun i hi => by
    rw [Nat.zero_add, hb.cell]
    have := u8l_get zs [] i (by omega)
    simpa using this
  refine (dk_write (hd.quiet ha) n d 0 512 zs hn (by decide) (by decide) hz hu hc hb.lt hdF hk).mono ?_
  rintro e w' ⟨he, F', t, hd'⟩
  have e1 : lessv (-1) = -1 := by decide
  rw [e1] at hd'
  exact ⟨he, h'.turn t hd' hF n1 n2, fun B tB cs hB hb' => hb'.only t.1 (fun hm => by have := hd.lt B hm; omega)⟩
theorem fl_flush (hk : k < 4611686018427387904) : Calls Try.prog 12 #[.pointer (some ⟨g, 0, none⟩)] w fun e w' => (∃ E : Int, e = .returned (.int .i64 E)) ∧ Fl w0 w' g N kb lb (k + 1) (layAll plat l) [] Q1 Q2 := by
  have h' := h
  obtain ⟨rd, wt, fl, F, D1, D2, hd, h1, h2, m1, m2, n1, n2, n3, hF, b1, b2, h0⟩ := h
  refine (dk_flush hd (by decide) (by decide) hk).mono ?_
  rintro e w' ⟨he, t, hd'⟩
  have e1 : lessv (-1) = -1 := by decide
  rw [e1] at hd'
  exact ⟨⟨_, he⟩, h'.turn t hd' hF n1 n2⟩
theorem fl_crash (A : Option Addr) (m c : Nat) (t : List (Int × Int)) (ht : Torns w0 A m t) (hm : m ≤ 9223372036854775807) : Calls Try.prog 15 #[.pointer (some ⟨g, 0, none⟩), .slice A m c] w fun e w' =>
    e = .returned (.int .i64 (if keepB l.length 0 t then 0 else 1)) ∧ Fl w0 w' g N kb lb k (if keepB l.length 0 t then crashAll plat l t else plat) (if keepB l.length 0 t then [] else l) Q1 Q2 := by
  have h' := h
  obtain ⟨rd, wt, fl, F, D1, D2, hd, h1, h2, m1, m2, n1, n2, n3, hF, b1, b2, h0⟩ := h
  refine (dk_crash hd A m c t (ht.only h0 (by simp)) hm (fun hm b hb hmem => ?_)).mono ?_
  · obtain ⟨b', o, rfl, hlt, _⟩ := ht.2 hm
    cases hb
    have := hF _ hmem
    simp only at this
    omega
  rintro e w' ⟨he, t', hd'⟩
  have e1 : (if keepB l.length 0 t = true then (-1 : Int) else -1) = -1 := by split <;> rfl
  rw [e1] at hd'
  exact ⟨he, h'.turn t' hd' hF n1 n2⟩
theorem fl_read (n : Nat) (hn : n < N) (hk : k < 4611686018427387904) : Calls Try.prog 16 #[.pointer (some ⟨g, 0, none⟩), .int .i64 n] w fun e w' => ∃ v, e = .returned (.tuple #[v, .int .i64 0]) ∧ Fresh w' w.heap.size v (sect plat l n) ∧ (sect plat l n).length = 512 ∧ U8 (sect plat l n) ∧ Fl w0 w' g N kb lb (k + 1) plat l Q1 Q2 := by
  have h' := h
  obtain ⟨rd, wt, fl, F, D1, D2, hd, h1, h2, m1, m2, n1, n2, n3, hF, b1, b2, h0⟩ := h
  have hs := hd.secOk hn
  refine (dk_read hd n hn hk).mono ?_
  rintro e w' ⟨v, he, hf, t, hd'⟩
  exact ⟨v, he, hf, hs.1, hs.2, h'.turn t hd' hF n1 n2⟩

theorem fl_store_last {n : Nat} (hn : n < N) {s : ByteArray} (hs : s.size ≤ maxLen) (q : Q2' n s) (hq : ∀ j s, j ≠ n → Q2 j s → Q2' j s) :
    ∃ W', (Instr.mapUpdate 43 (.map (some lb)) (.int .i64 n) (.string s)).run Try.prog w = .ok () W' ∧ Fl w0 W' g N kb lb k plat l Q1 Q2' ∧ Only [lb] w W' := by
  obtain ⟨rd, wt, fl, F, D1, D2, hd, h1, h2, m1, m2, n1, n2, n3, hF, b1, b2, h0⟩ := h
  have hN := hd.platOk.2.2.2
  obtain ⟨W', r1, r2, r3⟩ := h2.store lawIntF Try.underlying43 (by unfold maxLen; omega) (keyOf_int_mk (k := 3) Try.underlying3 (show (Lit.int .i64 (n : Int)).wf = true from WalkArith.wf_i64 (by omega))) (plainElem_string Try.underlying9 hs)
  have ho : Only [lb] w W' := Only.of_grown r3.grown (fun k hk _ => by injection hk with hk; simp [hk])
  have m2' := m2.put hN hn q hq
  exact ⟨W', r1, ⟨rd, wt, fl, F, D1, _, hd.only ho (fun q hq hm => by simp at hm; exact n2 (hm ▸ hq)), ownsMap_only h1 ho (by simpa using n3), own_to r2 m2'.size, m1, m2', n1, n2, n3, hF, b1, b2, h0.trans' ho (fun q hq hm => by simp at hm; omega)⟩, ho⟩
theorem fl_store_known {n : Nat} (hn : n < N) {s : ByteArray} (hs : s.size ≤ maxLen) (q : Q1 n s) :
    ∃ W', (Instr.mapUpdate 43 (.map (some kb)) (.int .i64 n) (.string s)).run Try.prog w = .ok () W' ∧ Fl w0 W' g N kb lb k plat l Q1 Q2 ∧ Only [kb] w W' := by
  obtain ⟨rd, wt, fl, F, D1, D2, hd, h1, h2, m1, m2, n1, n2, n3, hF, b1, b2, h0⟩ := h
  have hN := hd.platOk.2.2.2
  obtain ⟨W', r1, r2, r3⟩ := h1.store lawIntF Try.underlying43 (by unfold maxLen; omega) (keyOf_int_mk (k := 3) Try.underlying3 (show (Lit.int .i64 (n : Int)).wf = true from WalkArith.wf_i64 (by omega))) (plainElem_string Try.underlying9 hs)
  have ho : Only [kb] w W' := Only.of_grown r3.grown (fun k hk _ => by injection hk with hk; simp [hk])
  have m1' := m1.put hN hn q (fun _ _ _ h => h)
  exact ⟨W', r1, ⟨rd, wt, fl, F, _, D2, hd.only ho (fun q hq hm => by simp at hm; exact n1 (hm ▸ hq)), own_to r2 m1'.size, ownsMap_only h2 ho (by simpa using n3.symm), m1', m2, n1, n2, n3, hF, b1, b2, h0.trans' ho (fun q hq hm => by simp at hm; omega)⟩, ho⟩
theorem fl_drop {n : Nat} (hn : n < N) (ty : TypeId) :
    ∃ W', (Builtin.delete_ #[43, 3] ty #[.map (some kb), .int .i64 n]).run Try.prog w = .ok (.tuple #[]) W' ∧ Fl w0 W' g N kb lb k plat l (fun j s => j ≠ n ∧ Q1 j s) Q2 ∧ Only [kb] w W' := by
  obtain ⟨rd, wt, fl, F, D1, D2, hd, h1, h2, m1, m2, n1, n2, n3, hF, b1, b2, h0⟩ := h
  have hN := hd.platOk.2.2.2
  obtain ⟨W', r1, r2, r3⟩ := h1.drop lawIntF Try.underlying43 (keyOf_int_mk (k := 3) Try.underlying3 (show (Lit.int .i64 (n : Int)).wf = true from WalkArith.wf_i64 (by omega))) ty
  have ho : Only [kb] w W' := Only.of_grown r3.grown (fun k hk _ => by injection hk with hk; simp [hk])
  have m1' := m1.del n
  exact ⟨W', r1, ⟨rd, wt, fl, F, _, D2, hd.only ho (fun q hq hm => by simp at hm; exact n1 (hm ▸ hq)), own_to r2 m1'.size, ownsMap_only h2 ho (by simpa using n3.symm), m1', m2, n1, n2, n3, hF, b1, b2, h0.trans' ho (fun q hq hm => by simp at hm; omega)⟩, ho⟩
end
end
end Go.Proofs.Ytpkoihbebhmicaa
