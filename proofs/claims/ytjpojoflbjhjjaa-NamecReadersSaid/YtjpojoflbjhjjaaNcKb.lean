/-
  The law NamecKeeps: the cache and the document's, both in one world, beside the law's own block.
-/
import Derived.Test.YtjpojoflbjhjjaaNcOpsRd
namespace Go.Proofs.Ytjpojoflbjhjjaa
open Go.ChangeShapes Go.WideShapes Go.ChangeAt Go.RowKit Go.Maps Go.Deep
set_option linter.unusedVariables false
set_option linter.unusedSimpArgs false
/-- The program's cache tells p1, the document's p; block g is the law's own. -/
def Kh (w0 w : World) (c d x : Nat) (p p1 : CS) (g : Nat) (t : TypeId) (cs : Array Value) : Prop :=
  ∃ G F, Ca w c d p1 G ∧ Xc w x p F ∧ (∀ q ∈ G, q ∉ F) ∧ (∀ q ∈ G, w0.heap.size ≤ q) ∧ (∀ q ∈ F, w0.heap.size ≤ q) ∧ Only [] w0 w ∧ Blk w g t cs ∧ g ∉ G ∧ g ∉ F
def Kb (w0 w : World) (c d x : Nat) (p : CS) : Prop :=
  ∃ G F, Ca w c d p G ∧ Xc w x p F ∧ (∀ q ∈ G, q ∉ F) ∧ (∀ q ∈ G, w0.heap.size ≤ q) ∧ (∀ q ∈ F, w0.heap.size ≤ q) ∧ Only [] w0 w
section
variable {w0 w w' w1 : World} {c d x g : Nat} {p p1 p2 : CS} {t : TypeId} {cs : Array Value} {k : NM}
theorem Xc.lt {F : List Nat} (h : Xc w x p F) : ∀ q ∈ F, q < w.heap.size := by obtain ⟨v, u, h1, h2, h3⟩ := h; exact h3
theorem Kb.quiet (h : Kb w0 w c d x p) (ho : Only [] w w') : Kb w0 w' c d x p := by
  obtain ⟨G, F, h1, h2, h3, h4, h5, h6⟩ := h
  exact ⟨G, F, h1.quiet ho, h2.quiet ho, h3, h4, h5, h6.trans ho⟩
theorem Kb.ok (h : Kb w0 w c d x p) : OkC p := by
  obtain ⟨G, F, h1, _⟩ := h
  exact h1.ok
theorem Kb.on (h : Kb w0 w c d x p) : Only [] w0 w := by
  obtain ⟨G, F, h1, h2, h3, h4, h5, h6⟩ := h
  exact h6
theorem Kb.box (h : Kb w0 w c d x p) (t : TypeId) (cs : Array Value) : Kh w0 (w.alloc (.cells cs t)) c d x p p w.heap.size t cs := by
  obtain ⟨G, F, h1, h2, h3, h4, h5, h6⟩ := h
  exact ⟨G, F, h1.quiet ((Only.refl _ _).alloc _), h2.quiet ((Only.refl _ _).alloc _), h3, h4, h5, h6.alloc _, Blk.new w t cs, fun hm => Nat.lt_irrefl _ (h1.lt _ hm), fun hm => Nat.lt_irrefl _ (h2.lt _ hm)⟩
theorem Kh.kb (h : Kh w0 w c d x p p g t cs) : Kb w0 w c d x p := by
  obtain ⟨G, F, h1, h2, h3, h4, h5, h6, _⟩ := h
  exact ⟨G, F, h1, h2, h3, h4, h5, h6⟩
theorem Kh.blk (h : Kh w0 w c d x p p1 g t cs) : Blk w g t cs := by
  obtain ⟨G, F, h1, h2, h3, h4, h5, h6, h7, _⟩ := h
  exact h7
theorem Kh.quiet (h : Kh w0 w c d x p p1 g t cs) (ho : Only [] w w') : Kh w0 w' c d x p p1 g t cs := by
  obtain ⟨G, F, h1, h2, h3, h4, h5, h6, h7, h8, h9⟩ := h
  exact ⟨G, F, h1.quiet ho, h2.quiet ho, h3, h4, h5, h6.trans ho, h7.only ho (by simp), h8, h9⟩
theorem Kh.turnC (h : Kh w0 w c d x p p1 g t cs) : ∃ G, Ca w c d p1 G ∧ ∀ w' p2, DidC w w' c d p2 G → Kh w0 w' c d x p p2 g t cs := by
  obtain ⟨G, F, h1, h2, h3, h4, h5, h6, h7, h8, h9⟩ := h
  refine ⟨G, h1, fun w' p2 ⟨G', t1, t2⟩ => ⟨G', F, t2, h2.only t1.1 (fun q hq hm => h3 q hm hq), fun q hq hm => ?_, fun q hq => ?_, h5, h6.trans' t1.1 (fun q hq hm => by have := h4 q hm; omega), h7.only t1.1 h8, fun hm => ?_, h9⟩⟩
  · rcases t1.2 q hq with e | e
    · exact h3 q e hm
    · have := h2.lt q hm; omega
  · rcases t1.2 q hq with e | e
    · exact h4 q e
    · exact Nat.le_trans h6.size e
  · rcases t1.2 g hm with e | e
    · exact h8 e
    · have := h7.lt; omega
theorem Kh.turnX (h : Kh w0 w c d x p p1 g t cs) : ∃ F, Xc w x p F ∧ ∀ w' p2, DidX w w' x p2 F → Kh w0 w' c d x p2 p1 g t cs := by
  obtain ⟨G, F, h1, h2, h3, h4, h5, h6, h7, h8, h9⟩ := h
  refine ⟨F, h2, fun w' p2 ⟨F', t1, t2⟩ => ⟨G, F', h1.only t1.1 (fun q hq hm => h3 q hq hm), t2, fun q hq hm => ?_, h4, fun q hq => ?_, h6.trans' t1.1 (fun q hq hm => by have := h5 q hm; omega), h7.only t1.1 h9, h8, fun hm => ?_⟩⟩
  · rcases t1.2 q hm with e | e
    · exact h3 q hq e
    · have := h1.lt q hq; omega
  · rcases t1.2 q hq with e | e
    · exact h5 q e
    · exact Nat.le_trans h6.size e
  · rcases t1.2 g hm with e | e
    · exact h9 e
    · have := h7.lt; omega
/-- What a look tells. -/
def lookC (p : CS) (k : NM) : Int × Bool := match p.at k with
  | none => (0, false)
  | some i => (((p.L[i]?).map KE.inode).getD 0, true)
theorem kc_look (h : Kh w0 w c d x p p1 g t cs) (hk : k.wf) : Calls Try.prog 12 #[.pointer (some ⟨c, 0, none⟩), kV k] w fun e w' => e = .returned (.tuple #[.int .i64 (lookC p1 k).1, .bool (lookC p1 k).2]) ∧ Only [] w w' := by
  obtain ⟨G, h1, _⟩ := h.turnC
  unfold lookC
  cases e : p1.at k with
  | none => exact (ca_look_no h1 hk e)
  | some i =>
    refine (ca_look_yes h1 e).mono ?_
    rintro e' w' ⟨⟨y, hy, rfl⟩, ho⟩
    exact ⟨by simp [hy], ho⟩
theorem kx_look (h : Kh w0 w c d x p p1 g t cs) (ok : OkC p) (k : NM) : Calls Try.prog 13 #[.pointer (some ⟨x, 0, none⟩), kV k] w fun e w' => e = .returned (.tuple #[.int .i64 (lookC p k).1, .bool (lookC p k).2]) ∧ Only [] w w' := by
  obtain ⟨F, h1, _⟩ := h.turnX
  refine (xc_look h1 ok k).mono ?_
  unfold lookC
  rintro e' w' ⟨⟨e1, rfl⟩ | ⟨i, y, e1, hy, rfl⟩, ho⟩
  · rw [e1]; exact ⟨rfl, ho⟩
  · rw [e1]; exact ⟨by simp [hy], ho⟩
theorem kc_forget (h : Kh w0 w c d x p p1 g t cs) (hk : k.wf) : Calls Try.prog 16 #[.pointer (some ⟨c, 0, none⟩), kV k] w fun e w' => e = .returned (.bool (p1.at k).isSome) ∧ Kh w0 w' c d x p (p1.forget k) g t cs := by
  obtain ⟨G, h1, h2⟩ := h.turnC
  exact (ca_forget h1 hk).mono fun e w' ⟨a, b⟩ => ⟨a, h2 _ _ b⟩
theorem kx_forget (h : Kh w0 w c d x p p1 g t cs) (ok : OkC p) (k : NM) : Calls Try.prog 17 #[.pointer (some ⟨x, 0, none⟩), kV k] w fun e w' => e = .returned (.bool (p.at k).isSome) ∧ Kh w0 w' c d x (p.forget k) p1 g t cs := by
  obtain ⟨F, h1, h2⟩ := h.turnX
  exact (xc_forget h1 ok k).mono fun e w' ⟨a, b⟩ => ⟨a, h2 _ _ b⟩
theorem kc_forgetDir (h : Kh w0 w c d x p p1 g t cs) (dir : Int) : Calls Try.prog 18 #[.pointer (some ⟨c, 0, none⟩), .int .i64 dir] w fun e w' => e = .returned (.int .i64 ((p1.L.length : Int) - (p1.forgetDir dir).L.length)) ∧ Kh w0 w' c d x p (p1.forgetDir dir) g t cs := by
  obtain ⟨G, h1, h2⟩ := h.turnC
  exact (ca_forgetDir h1 dir).mono fun e w' ⟨a, b⟩ => ⟨a, h2 _ _ b⟩
theorem kx_forgetDir (h : Kh w0 w c d x p p1 g t cs) (ok : OkC p) (dir : Int) : Calls Try.prog 19 #[.pointer (some ⟨x, 0, none⟩), .int .i64 dir] w fun e w' => e = .returned (.int .i64 ((p.L.length : Int) - (p.forgetDir dir).L.length)) ∧ Kh w0 w' c d x (p.forgetDir dir) p1 g t cs := by
  obtain ⟨F, h1, h2⟩ := h.turnX
  exact (xc_forgetDir h1 ok dir).mono fun e w' ⟨a, b⟩ => ⟨a, h2 _ _ b⟩
/-- What Put does. -/
def putC19 (p : CS) (k : NM) (n : Int) : Int × CS := if n < 0 then (1, p) else (0, p.put k n)
theorem kc_put (h : Kh w0 w c d x p p1 g t cs) (hk : k.wf) (hks : k.name.size ≤ reachBytes) (n : Int) (ht : p1.made + 1 < 3900000000000) : Calls Try.prog 14 #[.pointer (some ⟨c, 0, none⟩), kV k, .int .i64 n] w fun e w' => e = .returned (.int .i64 (putC19 p1 k n).1) ∧ Kh w0 w' c d x p (putC19 p1 k n).2 g t cs := by
  obtain ⟨G, h1, h2⟩ := h.turnC
  unfold putC19
  by_cases hn : n < 0
  · rw [if_pos hn]
    exact (ca_put_neg h1 n hn).mono fun e w' ⟨a, b⟩ => ⟨a, h.quiet b⟩
  · rw [if_neg hn]
    exact (ca_put h1 hk (by unfold reachBytes at hks; omega) n (by omega) ht).mono fun e w' ⟨a, b⟩ => ⟨a, h2 _ _ b⟩
theorem kx_put (h : Kh w0 w c d x p p1 g t cs) (ok : OkC p) (k : NM) (n : Int) (ht : p.made + 1 < 3900000000000) : Calls Try.prog 15 #[.pointer (some ⟨x, 0, none⟩), kV k, .int .i64 n] w fun e w' => e = .returned (.int .i64 (putC19 p k n).1) ∧ Kh w0 w' c d x (putC19 p k n).2 p1 g t cs := by
  obtain ⟨F, h1, h2⟩ := h.turnX
  unfold putC19
  by_cases hn : n < 0
  · rw [if_pos hn]
    exact (xc_put_neg h1 n hn k).mono fun e w' ⟨a, b⟩ => ⟨a, h.quiet b⟩
  · rw [if_neg hn]
    exact (xc_put h1 ok n (by omega) k ht (by have := ok.cnt; omega)).mono fun e w' ⟨a, b⟩ => ⟨a, h2 _ _ b⟩
theorem putC19_made (ok : OkC p) (k : NM) (n : Int) : (putC19 p k n).2.made ≤ p.made + 1 := by
  unfold putC19
  split
  · show p.made ≤ _; omega
  · show (p.forget k).evict.made + 1 ≤ _
    rw [(CS.evict_room (ok.forget k)).2.2.1, (CS.forget_made p k).1]
    exact Int.le_refl _
end
end Go.Proofs.Ytjpojoflbjhjjaa
