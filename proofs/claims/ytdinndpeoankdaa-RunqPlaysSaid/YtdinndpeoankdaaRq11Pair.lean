/-
  RunqPlays: both queues in one world ('Bq'), beside the law's own blocks ys; each call of either.
-/
import Derived.Test.YtdinndpeoankdaaRq11Tick2
import Derived.Test.YtdinndpeoankdaaRqLaw
namespace Go.Proofs.Ytdinndpeoankdaa
open Go.ChangeShapes Go.WideShapes Go.ChangeAt Go.RowKit Go.Maps
set_option linter.unusedVariables false
section
variable {w0 w w' : World} {g gx hx : Nat} {s s' t t' : RQ} {xs xs' : Nat → Value} {ys S : List Nat}
theorem isX_same {F : List Nat} (X : IsX w gx hx t xs) (hs : ∀ k ∈ footX gx hx xs t.H, w'.heap[k]? = w.heap[k]?) : IsX w' gx hx t xs := by
  refine ⟨(hs gx (mem_footX.2 (.inl rfl))).trans X.top, (hs hx (mem_footX.2 (.inr (.inl rfl)))).trans X.blk, fun h hh => ?_, X.apart⟩
  have hr := X.row h hh
  refine ⟨hr.1, ?_⟩
  rcases hr.2 with h0 | ⟨b, cap, cur, e, hB, hg, rest⟩
  · exact .inl h0
  · exact .inr ⟨b, cap, cur, e, hB, (hs b (mem_footX.2 (.inr (.inr ⟨h, hh, by rw [e]; rfl⟩)))).trans hg, rest⟩
structure Bq (w0 w : World) (g gx hx : Nat) (s t : RQ) (ys : List Nat) (xs : Nat → Value) : Prop where
  q : RqL w0 w g s (ys ++ footX gx hx xs t.H)
  x : IsX w gx hx t xs
  ap : ∀ k ∈ ys, k ∉ footX gx hx xs t.H
theorem Bq.lt (h : Bq w0 w g gx hx s t ys xs) {k : Nat} (hk : k ∈ ys) : k < w.heap.size := h.q.lt (by simp [hk])
theorem Bq.quiet (h : Bq w0 w g gx hx s t ys xs) (ho : Only [] w w') : Bq w0 w' g gx hx s t ys xs := ⟨h.q.quiet ho, h.x.quiet ho, h.ap⟩
theorem Bq.didq (h : Bq w0 w g gx hx s t ys xs) (hd : DidL w0 w w' g s' (ys ++ footX gx hx xs t.H)) : Bq w0 w' g gx hx s' t ys xs ∧ ∀ k ∈ ys, w'.heap[k]? = w.heap[k]? :=
  ⟨⟨hd.1, isX_same (F := []) h.x (fun k hk => hd.2 k (by simp [hk])), h.ap⟩, fun k hk => hd.2 k (by simp [hk])⟩
theorem Bq.didx (h : Bq w0 w g gx hx s t ys xs) (hd : DidX w w' gx hx t.H xs t') : ∃ xs', Bq w0 w' g gx hx s t' ys xs' ∧ ∀ k ∈ ys, w'.heap[k]? = w.heap[k]? := by
  obtain ⟨xs', X', eH, hT⟩ := hd
  have hlt : ∀ k ∈ footX gx hx xs' t'.H, k < w'.heap.size := fun k hk => X'.foot_lt hk
  obtain ⟨F, h1, h2, h3, h4⟩ := h.q
  have hsz := h3.size
  have hy : ∀ k ∈ ys, w'.heap[k]? = w.heap[k]? := fun k hk => hT.only.block k (h.lt hk) (h.ap k hk)
  refine ⟨xs', ⟨⟨F, h1.only hT.only (fun k hk hm => (h2 k hk).2 (by simp [hm])), fun q hq => ⟨(h2 q hq).1, fun hm => ?_⟩, h3.trans' hT.only (fun k hk hm => by have := (h4 k (by simp [hm])).1; omega), fun b hb => ?_⟩, X', fun k hk hm => ?_⟩, hy⟩
  · rcases List.mem_append.1 hm with hm | hm
    · exact (h2 q hq).2 (by simp [hm])
    · rw [eH] at hm
      rcases hT.foot q hm with hm | hm
      · exact (h2 q hq).2 (by simp [hm])
      · have := h1.ltF hq; omega
  · rcases List.mem_append.1 hb with hb | hb
    · have := h4 b (by simp [hb]); exact ⟨this.1, Nat.lt_of_lt_of_le this.2 hT.only.size⟩
    · refine ⟨?_, hlt b hb⟩
      rw [eH] at hb
      rcases hT.foot b hb with hb | hb
      · exact (h4 b (by simp [hb])).1
      · omega
  · rw [eH] at hm
    rcases hT.foot k hm with h5 | h5
    · exact h.ap k hk h5
    · have := h.lt hk; omega
end
end Go.Proofs.Ytdinndpeoankdaa
