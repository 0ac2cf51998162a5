/-
  Sleepers (parapet/waitq): m[k] = append(m[k], x): the entry, and the store at it.
-/
import Derived.Test.YtokclkiidhcffaaWqLeave
import Derived.WideKeyEntry
namespace Go.Proofs.Ytokclkiidhcffaa
open Go.ChangeShapes Go.WideShapes Go.ChangeAt Go.RowKit Go.Maps Go.ChangeMaps
set_option linter.unusedVariables false

theorem lawWide : Go.WideMaps.KeyLaw Try.prog 32 := deep_law_laid laidOut (m := 2) (by omega) rowKey deepKey (by rw [Try.underlying32])
theorem own_at {w w' : World} {P : Program} {k : TypeId} {R : Value → Option (DataW Unit × List MemPlace)} {b n : Nat} {D : DataW Unit} (h : w.ownsMap P k R b n D) (he : w'.heap[b]? = w.heap[b]?) : w'.ownsMap P k R b n D := by
  obtain ⟨es, clock, hb, rest⟩ := h
  exact ⟨es, clock, he.trans hb, rest⟩
theorem only_setBlock {w : World} {b : Nat} {es : Array MapEntry} {clock : Nat} (hb : w.heap[b]? = some (.map es clock)) (o : Obj) : Only [b] w (setBlock w b o) :=
  ⟨rfl, rfl, rfl, by simp [setBlock], fun k hk hn => heap_setBlock_other hb o (fun e => hn (by simp [e]))⟩

section
variable {w w' w1 w2 : World} {g m1 m2 : Nat} {R1 : List (EN Int CH)} {R2 : List (EN CH Int)}
theorem IsWq.entry (h : IsWq w g m1 m2 R1 R2) {c : CH} (hc : c.wf) {sl : Value} (hlk : (Instr.lookup 52 (.map (some m2)) (kV c) false).run Try.prog w = .ok sl w) :
    ∃ (st : Nat) (es1 : Array MapEntry) (k1 : Nat), (Instr.mapEntry 52 (.map (some m2)) (.agg (cC c))).run Try.prog w = .ok (.tuple #[sl, goInt st]) (setBlock w m2 (.map es1 k1)) ∧ (setBlock w m2 (.map es1 k1)).heap[m2]? = some (.map es1 k1) ∧ Only [m2] w (setBlock w m2 (.map es1 k1)) ∧
      ∀ (W2 : World) (val : Value), W2.heap[m2]? = some (.map es1 k1) → ∃ es' k', (Instr.entryStore 52 (.map (some m2)) (goInt st) val).run Try.prog W2 = .ok () (setBlock W2 m2 (.map es' k')) ∧ Only [m2] W2 (setBlock W2 m2 (.map es' k')) ∧ (setBlock W2 m2 (.map es' k')).heap[m2]? = (setBlock w m2 (.map es' k')).heap[m2]? ∧
        (Instr.mapUpdate 52 (.map (some m2)) (kV c) val).run Try.prog w = .ok () (setBlock w m2 (.map es' k')) := by
  obtain ⟨D, ⟨es, clock, hb, F, hs, rfl⟩, h2⟩ := h.sl.own
  obtain ⟨v0, st, es1, k1, q1, q2, q3⟩ := Go.WideElems.entry_then_store (z := .slice none 0 0) lawWide Try.underlying52 zeroT hb F (keySl hc)
  have hv : v0 = sl := by
    rcases fit_look (P := Try.prog) false lawKey Try.underlying52 (zeroT w) hb F (keySl hc) with ⟨p1, p2, _⟩ | ⟨e0, y, p1, p2, p3, _⟩
    · rw [hlk] at p1
      simp only [Bool.false_eq_true, if_false] at p1
      injection p1 with p1
      rcases q2 with ⟨e1, r1, r2, r3⟩ | ⟨_, r3⟩
      · exact absurd r2 (p2 e1 r1)
      · rw [r3, p1]
    · rw [hlk] at p3
      simp only [Bool.false_eq_true, if_false] at p3
      injection p3 with p3
      rcases q2 with ⟨e1, r1, r2, r3⟩ | ⟨r, _⟩
      · obtain ⟨_, _, s3⟩ := F.stamped
        have : e1 = e0 := by
          have hu : ∀ {l : List MapEntry}, (l.map (·.key)).Nodup → ∀ {x y : MapEntry}, x ∈ l → y ∈ l → x.key = y.key → x = y := by
            intro l
            induction l with
            | nil => intro _ x y hx; cases hx
            | cons z r ih =>
              intro hn x y hx hy e
              rw [List.map_cons, List.nodup_cons] at hn
              rcases List.mem_cons.1 hx with ex | hx
              · rcases List.mem_cons.1 hy with ey | hy
                · rw [ex, ey]
                · exact absurd (List.mem_map.2 ⟨y, hy, by rw [← e, ex]⟩) hn.1
              · rcases List.mem_cons.1 hy with ey | hy
                · exact absurd (List.mem_map.2 ⟨x, hx, by rw [e, ey]⟩) hn.1
                · exact ih hn.2 hx hy e
          exact hu s3 r1 p1 (r2.trans p2.symm)
        rw [r3, p3, this]
      · exact absurd p2 (r e0 p1)
  subst hv
  refine ⟨st, es1, k1, q1, heap_setBlock_same hb _, only_setBlock hb _, fun W2 val hW => ?_⟩
  obtain ⟨es', k', r1, r2⟩ := q3 W2 val hW
  exact ⟨es', k', r1, only_setBlock hW _, by rw [heap_setBlock_same hW, heap_setBlock_same hb], r2⟩

/-- As Half.set, where the map turned before the slice. -/
theorem Half.set_ {κ α : Type} [DecidableEq κ] {E : Enc κ SO} {kt : TypeId} {row : World → Value → List α → Prop} {m : Nat} {R : List (EN κ α)} (fr : RowFrame row) (h : Half E kt row w m R) {e : EN κ α} (he : e ∈ R) {s : SV} {l : List α} (ho : Only [e.s.b, m] w w2) (hr : row w2 (svO (some s)) l) (hl : l ≠ []) (hlt : s.b < w2.heap.size) (hb : s.b = e.s.b ∨ w.heap.size ≤ s.b)
    (hown : ∃ D, w2.ownsMap Try.prog kt elemSl m (setV (refsE R) e.k (some s)).length D ∧ MHolds E D (setV (refsE R) e.k (some s))) : Half E kt row w2 m (setE R e.k s l) := by
  have hsm : s.b ≠ m := by
    rcases hb with hb | hb
    · rw [hb]; exact h.rm e he
    · have := h.ltm; omega
  have far : ∀ y ∈ R, y.k ≠ e.k → y.s.b ≠ s.b := fun y hy hk hq => by
    rcases hb with hb | hb
    · exact hk (h.inj y hy e he (hq.trans hb))
    · have := h.lt y hy; omega
  refine ⟨by rw [refsE_set]; exact hown, fun y hy => ?_, fun y hy => ?_, fun y hy => ?_, fun y hy => ?_, fun y hy z hz hq => ?_⟩
  · rcases mem_setE hy with rfl | ⟨hy, hk⟩
    · exact hr
    · refine fr _ _ _ _ _ (h.row y hy) ho (fun q hq => ?_)
      rw [own_sv hq]
      simp only [List.mem_cons, List.not_mem_nil, or_false, not_or]
      exact ⟨fun hq => hk (h.inj y hy e he hq), h.rm y hy⟩
  · rcases mem_setE hy with rfl | ⟨hy, hk⟩
    · exact hl
    · exact h.ne y hy
  · rcases mem_setE hy with rfl | ⟨hy, hk⟩
    · exact hlt
    · exact Nat.lt_of_lt_of_le (h.lt y hy) ho.size
  · rcases mem_setE hy with rfl | ⟨hy, hk⟩
    · exact hsm
    · exact h.rm y hy
  · rcases mem_setE hy with rfl | ⟨hy, hk⟩
    · rcases mem_setE hz with rfl | ⟨hz, hk'⟩
      · rfl
      · exact absurd hq.symm (far z hz hk')
    · rcases mem_setE hz with rfl | ⟨hz, hk'⟩
      · exact absurd hq (far y hy hk)
      · exact h.inj y hy z hz hq
/-- The world behind m[k] = append(m[k], t) at a key that is there. -/
theorem IsWq.came_old (h : IsWq w g m1 m2 R1 R2) (hlen : R2.length < maxLen) {e : EN CH Int} (he : e ∈ R2) {s : SV} {l : List Int} (ho : Only [e.s.b, m2] w w2) (hr : IRow w2 (svO (some s)) l) (hl : l ≠ []) (hlt : s.b < w2.heap.size) (hb : s.b = e.s.b ∨ w.heap.size ≤ s.b)
    {V : World} (hrun : (Instr.mapUpdate 52 (.map (some m2)) (kV e.k) (svO (some s))).run Try.prog w = .ok () V) (hV : w2.heap[m2]? = V.heap[m2]?) : IsWq w2 g m1 m2 R1 (setE R2 e.k s l) := by
  obtain ⟨D, h1, h2⟩ := h.sl.own
  obtain ⟨V', hrun', hown, ho2⟩ := storeSl_old (f := some s) h2 h1 (by rw [refsE_length]; exact hlen) (mem_refsE he)
  rw [hrun] at hrun'
  injection hrun' with _ hVV
  subst hVV
  refine ⟨h.blk.only ho ?_, h.on.only frC ho ?_ (fun x hx => ?_), h.sl.set_ frI he ho hr hl hlt hb ⟨_, own_at hown hV, h2.old (mem_refsE he) _⟩, h.mm⟩
  · simp only [List.mem_cons, List.not_mem_nil, or_false, not_or]; exact ⟨(h.r2g he).symm, h.gm2⟩
  · simp only [List.mem_cons, List.not_mem_nil, or_false, not_or]; exact ⟨(h.r2m1 he).symm, h.mm⟩
  · simp only [List.mem_cons, List.not_mem_nil, or_false, not_or]; exact ⟨h.r12 hx he, h.r1m2 hx⟩
theorem IsWq.came_new (h : IsWq w g m1 m2 R1 R2) (hlen : R2.length < maxLen) {k : CH} (hk : k.wf) (hn : k ∉ R2.map (·.k)) {s : SV} {l : List Int} (ho : Only [m2] w w2) (hr : IRow w2 (svO (some s)) l) (hl : l ≠ []) (hlt : s.b < w2.heap.size) (hb : w.heap.size ≤ s.b)
    {V : World} (hrun : (Instr.mapUpdate 52 (.map (some m2)) (kV k) (svO (some s))).run Try.prog w = .ok () V) (hV : w2.heap[m2]? = V.heap[m2]?) : IsWq w2 g m1 m2 R1 (R2 ++ [⟨k, s, l⟩]) := by
  obtain ⟨D, h1, h2⟩ := h.sl.own
  obtain ⟨V', hrun', hown, ho2⟩ := storeSl_new (f := some s) h2 h1 (by rw [refsE_length]; exact hlen) hk (by rw [refsE_keys]; exact hn)
  rw [hrun] at hrun'
  injection hrun' with _ hVV
  subst hVV
  have hsm : s.b ≠ m2 := by have := h.sl.ltm; omega
  have mem : ∀ {y : EN CH Int}, y ∈ R2 ++ [⟨k, s, l⟩] → y = ⟨k, s, l⟩ ∨ y ∈ R2 := fun hy => by simpa [or_comm] using hy
  have e1 : refsE (R2 ++ [⟨k, s, l⟩]) = refsE R2 ++ [(k, some s)] := by simp [refsE]
  refine ⟨h.blk.only ho (by simpa using h.gm2), h.on.only frC ho (by simpa using h.mm) (fun x hx => by simpa using h.r1m2 hx), ⟨?_, fun y hy => ?_, fun y hy => ?_, fun y hy => ?_, fun y hy => ?_, fun y hy z hz hq => ?_⟩, h.mm⟩
  · rw [e1]; exact ⟨_, own_at hown hV, h2.new hk (by rw [refsE_keys]; exact hn)⟩
  · rcases mem hy with rfl | hy
    · exact hr
    · exact frI _ _ _ _ _ (h.sl.row y hy) ho (fun q hq => by rw [own_sv hq]; simpa using h.sl.rm y hy)
  · rcases mem hy with rfl | hy
    · exact hl
    · exact h.sl.ne y hy
  · rcases mem hy with rfl | hy
    · exact hlt
    · exact Nat.lt_of_lt_of_le (h.sl.lt y hy) ho.size
  · rcases mem hy with rfl | hy
    · exact hsm
    · exact h.sl.rm y hy
  · rcases mem hy with rfl | hy
    · rcases mem hz with rfl | hz
      · rfl
      · have := h.sl.lt z hz
        have hq : s.b = z.s.b := hq
        omega
    · rcases mem hz with rfl | hz
      · have := h.sl.lt y hy
        have hq : y.s.b = s.b := hq
        omega
      · exact h.sl.inj y hy z hz hq
end
end Go.Proofs.Ytokclkiidhcffaa
