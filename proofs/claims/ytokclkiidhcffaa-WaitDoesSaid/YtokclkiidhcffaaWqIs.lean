/-
  Sleepers (parapet/waitq): the struct: two maps and their slices; how each is turned.
-/
import Derived.Test.YtokclkiidhcffaaWqHalf
import Derived.Test.YtokclkiidhcffaaWqNil
import Derived.Test.YtokclkiidhcffaaRqRow
import Derived.Test.YtokclkiidhcffaaWqApp
namespace Go.Proofs.Ytokclkiidhcffaa
open Go.ChangeShapes Go.WideShapes Go.ChangeAt Go.RowKit Go.Maps
set_option linter.unusedVariables false

theorem frC : RowFrame CRw := fun _ _ _ _ _ h ho hs => h.only ho hs
theorem frI : RowFrame IRow := fun _ _ _ _ _ h ho hs => KRow.only h ho hs
structure IsWq (w : World) (g m1 m2 : Nat) (R1 : List (EN Int CH)) (R2 : List (EN CH Int)) : Prop where
  blk : Blk w g 54 #[.map (some m1), .map (some m2)]
  on : Half encOn 3 CRw w m1 R1
  sl : Half encSl 32 IRow w m2 R2
  mm : m1 ≠ m2
/-- The blocks of it. -/
def footW (g m1 m2 : Nat) (R1 : List (EN Int CH)) (R2 : List (EN CH Int)) : List Nat := g :: m1 :: m2 :: (R1.map (·.s.b) ++ R2.map (·.s.b))
theorem mem_footW {g m1 m2 k : Nat} {R1 : List (EN Int CH)} {R2 : List (EN CH Int)} : k ∈ footW g m1 m2 R1 R2 ↔ k = g ∨ k = m1 ∨ k = m2 ∨ (∃ e ∈ R1, e.s.b = k) ∨ ∃ e ∈ R2, e.s.b = k := by
  simp [footW]
section
variable {w w' w1 : World} {g m1 m2 : Nat} {R1 : List (EN Int CH)} {R2 : List (EN CH Int)} {S : List Nat}
theorem IsWq.gm1 (h : IsWq w g m1 m2 R1 R2) : g ≠ m1 := by
  obtain ⟨D, h1, _⟩ := h.on.own
  exact blk_map h1 h.blk
theorem IsWq.gm2 (h : IsWq w g m1 m2 R1 R2) : g ≠ m2 := by
  obtain ⟨D, h1, _⟩ := h.sl.own
  exact blk_map h1 h.blk
theorem IsWq.blk1 (h : IsWq w g m1 m2 R1 R2) {e : EN Int CH} (he : e ∈ R1) : ∃ cs, Blk w e.s.b 32 cs := by
  obtain ⟨b, cap, cur, e1, hb, _⟩ := (h.on.row e he).blk (List.length_pos_iff.2 (h.on.ne e he))
  have : e.s.b = b := by
    simp only [svO, Value.slice.injEq, Option.some.injEq, Addr.mk.injEq] at e1
    exact e1.1.1
  exact ⟨_, this ▸ hb⟩
theorem IsWq.blk2 (h : IsWq w g m1 m2 R1 R2) {e : EN CH Int} (he : e ∈ R2) : ∃ cs, Blk w e.s.b 3 cs := by
  obtain ⟨b, cap, cur, e1, hb, _⟩ := (h.sl.row e he).blk (List.length_pos_iff.2 (h.sl.ne e he))
  have : e.s.b = b := by
    simp only [svO, Value.slice.injEq, Option.some.injEq, Addr.mk.injEq] at e1
    exact e1.1.1
  exact ⟨_, this ▸ hb⟩
theorem blk_type {w : World} {q q' : Nat} {t t' : TypeId} {cs cs' : Array Value} (h : Blk w q t cs) (h' : Blk w q' t' cs') (ht : t ≠ t') : q ≠ q' := by
  rintro rfl
  unfold Blk at h h'
  rw [h] at h'
  injection h' with h'
  injection h' with _ h'
  exact ht h'
theorem IsWq.r1g (h : IsWq w g m1 m2 R1 R2) {e : EN Int CH} (he : e ∈ R1) : e.s.b ≠ g := by
  obtain ⟨cs, hb⟩ := h.blk1 he
  exact blk_type hb h.blk (by decide)
theorem IsWq.r2g (h : IsWq w g m1 m2 R1 R2) {e : EN CH Int} (he : e ∈ R2) : e.s.b ≠ g := by
  obtain ⟨cs, hb⟩ := h.blk2 he
  exact blk_type hb h.blk (by decide)
theorem IsWq.r12 (h : IsWq w g m1 m2 R1 R2) {e : EN Int CH} (he : e ∈ R1) {f : EN CH Int} (hf : f ∈ R2) : e.s.b ≠ f.s.b := by
  obtain ⟨cs, hb⟩ := h.blk1 he
  obtain ⟨cs', hb'⟩ := h.blk2 hf
  exact blk_type hb hb' (by decide)
theorem IsWq.r1m2 (h : IsWq w g m1 m2 R1 R2) {e : EN Int CH} (he : e ∈ R1) : e.s.b ≠ m2 := by
  obtain ⟨cs, hb⟩ := h.blk1 he
  obtain ⟨D, h1, _⟩ := h.sl.own
  exact blk_map h1 hb
theorem IsWq.r2m1 (h : IsWq w g m1 m2 R1 R2) {e : EN CH Int} (he : e ∈ R2) : e.s.b ≠ m1 := by
  obtain ⟨cs, hb⟩ := h.blk2 he
  obtain ⟨D, h1, _⟩ := h.on.own
  exact blk_map h1 hb
theorem IsWq.lt (h : IsWq w g m1 m2 R1 R2) {k : Nat} (hk : k ∈ footW g m1 m2 R1 R2) : k < w.heap.size := by
  rcases mem_footW.1 hk with rfl | rfl | rfl | ⟨e, he, rfl⟩ | ⟨e, he, rfl⟩
  · exact h.blk.lt
  · exact h.on.ltm
  · exact h.sl.ltm
  · exact h.on.lt e he
  · exact h.sl.lt e he
theorem IsWq.only (h : IsWq w g m1 m2 R1 R2) (ho : Only S w w') (hs : ∀ k, k ∈ footW g m1 m2 R1 R2 → k ∉ S) : IsWq w' g m1 m2 R1 R2 :=
  ⟨h.blk.only ho (hs _ (mem_footW.2 (.inl rfl))), h.on.only frC ho (hs _ (mem_footW.2 (.inr (.inl rfl)))) (fun e he => hs _ (mem_footW.2 (.inr (.inr (.inr (.inl ⟨e, he, rfl⟩)))))), h.sl.only frI ho (hs _ (mem_footW.2 (.inr (.inr (.inl rfl))))) (fun e he => hs _ (mem_footW.2 (.inr (.inr (.inr (.inr ⟨e, he, rfl⟩)))))), h.mm⟩
theorem IsWq.quiet (h : IsWq w g m1 m2 R1 R2) (ho : Only [] w w') : IsWq w' g m1 m2 R1 R2 := h.only ho (by simp)
theorem IsWq.c0 (h : IsWq w g m1 m2 R1 R2) : w.cell? ⟨g, 0, none⟩ = some (.map (some m1)) := by rw [h.blk.cell]; rfl
theorem IsWq.c1 (h : IsWq w g m1 m2 R1 R2) : w.cell? ⟨g, 1, none⟩ = some (.map (some m2)) := by rw [h.blk.cell]; rfl

/-- Lookups. -/
theorem IsWq.look1 (h : IsWq w g m1 m2 R1 R2) {e : EN Int CH} (he : e ∈ R1) : (Instr.lookup 51 (.map (some m1)) (.int .i64 e.k) false).run Try.prog w = .ok (svO (some e.s)) w := by
  obtain ⟨D, h1, h2⟩ := h.on.own
  exact lookOn h2 h1 (mem_refsE he)
theorem IsWq.look1_no (h : IsWq w g m1 m2 R1 R2) {k : Int} (hk : iW k) (hn : k ∉ R1.map (·.k)) : (Instr.lookup 51 (.map (some m1)) (.int .i64 k) false).run Try.prog w = .ok (.slice none 0 0) w := by
  obtain ⟨D, h1, h2⟩ := h.on.own
  exact lookOn_no h2 h1 hk (by rw [refsE_keys]; exact hn)
theorem IsWq.look2 (h : IsWq w g m1 m2 R1 R2) {e : EN CH Int} (he : e ∈ R2) : (Instr.lookup 52 (.map (some m2)) (kV e.k) false).run Try.prog w = .ok (svO (some e.s)) w := by
  obtain ⟨D, h1, h2⟩ := h.sl.own
  exact lookSl h2 h1 (mem_refsE he)
theorem IsWq.look2_no (h : IsWq w g m1 m2 R1 R2) {k : CH} (hk : k.wf) (hn : k ∉ R2.map (·.k)) : (Instr.lookup 52 (.map (some m2)) (kV k) false).run Try.prog w = .ok (.slice none 0 0) w := by
  obtain ⟨D, h1, h2⟩ := h.sl.own
  exact lookSl_no h2 h1 hk (by rw [refsE_keys]; exact hn)
theorem IsWq.len1 (h : IsWq w g m1 m2 R1 R2) (ty : TypeId) : (Builtin.len_ #[51] ty #[.map (some m1)]).run Try.prog w = .ok (.int .i64 R1.length) w := by
  obtain ⟨D, h1, h2⟩ := h.on.own
  have := lenOn h2 h1 ty
  rwa [refsE_length] at this

/-- Stores and deletes. -/
theorem IsWq.set2 (h : IsWq w g m1 m2 R1 R2) (hlen : R2.length < maxLen) {e : EN CH Int} (he : e ∈ R2) {s : SV} {l : List Int} (ho : Only [e.s.b] w w1) (hr : IRow w1 (svO (some s)) l) (hl : l ≠ []) (hlt : s.b < w1.heap.size) (hb : s.b = e.s.b ∨ w.heap.size ≤ s.b) :
    ∃ w2, (Instr.mapUpdate 52 (.map (some m2)) (kV e.k) (svO (some s))).run Try.prog w1 = .ok () w2 ∧ IsWq w2 g m1 m2 R1 (setE R2 e.k s l) ∧ Only [e.s.b, m2] w w2 := by
  obtain ⟨D, h1, h2⟩ := h.sl.own
  obtain ⟨w2, hrun, hown, ho2⟩ := storeSl_old (f := some s) h2 (ownsMap_only12 h1 ho (by simpa using (h.sl.rm e he).symm)) (by rw [refsE_length]; exact hlen) (mem_refsE he)
  have ho3 : Only [e.s.b, m2] w w2 := (ho.mono (fun k _ h => by simp at h; simp [h])).trans (ho2.mono (fun k _ h => by simp at h; simp [h]))
  refine ⟨w2, hrun, ⟨h.blk.only ho3 ?_, h.on.only frC ho3 ?_ (fun x hx => ?_), h.sl.set frI he ho hr hl hlt hb ho2 ⟨_, hown, h2.old (mem_refsE he) _⟩, h.mm⟩, ho3⟩
  · simp only [List.mem_cons, List.not_mem_nil, or_false, not_or]; exact ⟨(h.r2g he).symm, h.gm2⟩
  · simp only [List.mem_cons, List.not_mem_nil, or_false, not_or]; exact ⟨(h.r2m1 he).symm, h.mm⟩
  · simp only [List.mem_cons, List.not_mem_nil, or_false, not_or]; exact ⟨h.r12 hx he, h.r1m2 hx⟩
theorem IsWq.new2 (h : IsWq w g m1 m2 R1 R2) (hlen : R2.length < maxLen) {k : CH} (hk : k.wf) (hn : k ∉ R2.map (·.k)) {s : SV} {l : List Int} (ho : Only [] w w1) (hr : IRow w1 (svO (some s)) l) (hl : l ≠ []) (hlt : s.b < w1.heap.size) (hb : w.heap.size ≤ s.b) :
    ∃ w2, (Instr.mapUpdate 52 (.map (some m2)) (kV k) (svO (some s))).run Try.prog w1 = .ok () w2 ∧ IsWq w2 g m1 m2 R1 (R2 ++ [⟨k, s, l⟩]) ∧ Only [m2] w w2 := by
  obtain ⟨D, h1, h2⟩ := h.sl.own
  obtain ⟨w2, hrun, hown, ho2⟩ := storeSl_new (f := some s) h2 (ownsMap_only12 h1 ho (by simp)) (by rw [refsE_length]; exact hlen) hk (by rw [refsE_keys]; exact hn)
  have ho3 : Only [m2] w w2 := (ho.mono (by simp)).trans ho2
  exact ⟨w2, hrun, ⟨h.blk.only ho3 (by simpa using h.gm2), h.on.only frC ho3 (by simpa using h.mm) (fun x hx => by simpa using h.r1m2 hx), h.sl.new frI ho hr hl hlt hb ho2 ⟨_, hown, h2.new hk (by rw [refsE_keys]; exact hn)⟩, h.mm⟩, ho3⟩
theorem IsWq.del2 (h : IsWq w g m1 m2 R1 R2) {e : EN CH Int} (he : e ∈ R2) (ho : Only [e.s.b] w w1) (ty : TypeId) :
    ∃ w2, (Builtin.delete_ #[52, 32] ty #[.map (some m2), kV e.k]).run Try.prog w1 = .ok (.tuple #[]) w2 ∧ IsWq w2 g m1 m2 R1 (outE R2 e.k) ∧ Only [e.s.b, m2] w w2 := by
  obtain ⟨D, h1, h2⟩ := h.sl.own
  obtain ⟨w2, hrun, hown, ho2⟩ := dropSl h2 (ownsMap_only12 h1 ho (by simpa using (h.sl.rm e he).symm)) (mem_refsE he) ty
  have ho3 : Only [e.s.b, m2] w w2 := (ho.mono (fun k _ h => by simp at h; simp [h])).trans (ho2.mono (fun k _ h => by simp at h; simp [h]))
  refine ⟨w2, hrun, ⟨h.blk.only ho3 ?_, h.on.only frC ho3 ?_ (fun x hx => ?_), h.sl.del frI he ho ho2 ⟨_, hown, h2.del (mem_refsE he)⟩, h.mm⟩, ho3⟩
  · simp only [List.mem_cons, List.not_mem_nil, or_false, not_or]; exact ⟨(h.r2g he).symm, h.gm2⟩
  · simp only [List.mem_cons, List.not_mem_nil, or_false, not_or]; exact ⟨(h.r2m1 he).symm, h.mm⟩
  · simp only [List.mem_cons, List.not_mem_nil, or_false, not_or]; exact ⟨h.r12 hx he, h.r1m2 hx⟩
theorem IsWq.new1 (h : IsWq w g m1 m2 R1 R2) (hlen : R1.length < maxLen) {k : Int} (hk : iW k) (hn : k ∉ R1.map (·.k)) {s : SV} {l : List CH} (ho : Only [] w w1) (hr : CRw w1 (svO (some s)) l) (hl : l ≠ []) (hlt : s.b < w1.heap.size) (hb : w.heap.size ≤ s.b) :
    ∃ w2, (Instr.mapUpdate 51 (.map (some m1)) (.int .i64 k) (svO (some s))).run Try.prog w1 = .ok () w2 ∧ IsWq w2 g m1 m2 (R1 ++ [⟨k, s, l⟩]) R2 ∧ Only [m1] w w2 := by
  obtain ⟨D, h1, h2⟩ := h.on.own
  obtain ⟨w2, hrun, hown, ho2⟩ := storeOn_new (f := some s) h2 (ownsMap_only12 h1 ho (by simp)) (by rw [refsE_length]; exact hlen) hk (by rw [refsE_keys]; exact hn)
  have ho3 : Only [m1] w w2 := (ho.mono (by simp)).trans ho2
  exact ⟨w2, hrun, ⟨h.blk.only ho3 (by simpa using h.gm1), h.on.new frC ho hr hl hlt hb ho2 ⟨_, hown, h2.new hk (by rw [refsE_keys]; exact hn)⟩, h.sl.only frI ho3 (by simpa using h.mm.symm) (fun x hx => by simpa using h.r2m1 hx), h.mm⟩, ho3⟩
theorem IsWq.del1 (h : IsWq w g m1 m2 R1 R2) {e : EN Int CH} (he : e ∈ R1) (ty : TypeId) :
    ∃ w2, (Builtin.delete_ #[51, 3] ty #[.map (some m1), .int .i64 e.k]).run Try.prog w = .ok (.tuple #[]) w2 ∧ IsWq w2 g m1 m2 (outE R1 e.k) R2 ∧ Only [m1] w w2 := by
  obtain ⟨D, h1, h2⟩ := h.on.own
  obtain ⟨w2, hrun, hown, ho2⟩ := dropOn h2 h1 (mem_refsE he) ty
  exact ⟨w2, hrun, ⟨h.blk.only ho2 (by simpa using h.gm1), h.on.del frC he (Only.refl _ _) ho2 ⟨_, hown, h2.del (mem_refsE he)⟩, h.sl.only frI ho2 (by simpa using h.mm.symm) (fun x hx => by simpa using h.r2m1 hx), h.mm⟩, ho2⟩
theorem IsWq.mod1 (h : IsWq w g m1 m2 R1 R2) {e : EN Int CH} (he : e ∈ R1) {l : List CH} (ho : Only [e.s.b] w w1) (hr : CRw w1 (svO (some e.s)) l) (hl : l ≠ []) : IsWq w1 g m1 m2 (setE R1 e.k e.s l) R2 :=
  ⟨h.blk.only ho (by simpa using (h.r1g he).symm), h.on.mod frC he ho hr hl, h.sl.only frI ho (by simpa using (h.r1m2 he).symm) (fun x hx => by simpa using (h.r12 he hx).symm), h.mm⟩
end
end Go.Proofs.Ytokclkiidhcffaa
