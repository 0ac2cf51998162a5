/-
  Sleepers (parapet/waitq): the queue as two plain lists; come and leave on them.
-/
import Derived.Test.YtokclkiidhcffaaWqRep
namespace Go.Proofs.Ytokclkiidhcffaa
open Go.ChangeShapes Go.WideShapes Go.ChangeAt Go.RowKit Go.Maps
set_option linter.unusedVariables false

/-- What a call did: only blocks of F turned; those of F' are F's, or new. -/
structure TurnW (w w' : World) (F F' : List Nat) : Prop where
  only : Only F w w'
  foot : ∀ k, k ∈ F' → k ∈ F ∨ w.heap.size ≤ k
theorem TurnW.refl (w : World) (F : List Nat) : TurnW w w F F := ⟨Only.refl _ _, fun k h => .inl h⟩
theorem TurnW.same {w w' : World} (F : List Nat) (h : Only [] w w') : TurnW w w' F F := ⟨h.mono (by simp), fun k h => .inl h⟩
theorem TurnW.trans {w w1 w2 : World} {F F1 F2 : List Nat} (h : TurnW w w1 F F1) (h2 : TurnW w1 w2 F1 F2) : TurnW w w2 F F2 :=
  ⟨h.only.trans' h2.only (fun k hk hk' => (h.foot k hk').resolve_right (by omega)), fun k hk => by
    rcases h2.foot k hk with h' | h'
    · exact h.foot k h'
    · exact .inr (Nat.le_trans h.only.size h')⟩
section
variable {κ α : Type} [DecidableEq κ]
def viewE (R : List (EN κ α)) : List (κ × List α) := R.map fun e => (e.k, e.l)
def setL (L : List (κ × List α)) (k : κ) (f : List α → List α) : List (κ × List α) := L.map fun p => if p.1 = k then (k, f p.2) else p
def outL (L : List (κ × List α)) (k : κ) : List (κ × List α) := L.filter fun p => decide (p.1 ≠ k)
def atL (L : List (κ × List α)) (k : κ) : List α := ((L.find? fun p => decide (p.1 = k)).map (·.2)).getD []
omit [DecidableEq κ] in
theorem viewE_keys (R : List (EN κ α)) : (viewE R).map (·.1) = R.map (·.k) := by simp [viewE]
theorem viewE_set {R : List (EN κ α)} (hn : (R.map (·.k)).Nodup) {e : EN κ α} (he : e ∈ R) (s : SV) (f : List α → List α) : viewE (setE R e.k s (f e.l)) = setL (viewE R) e.k f := by
  unfold viewE setE setL
  rw [List.map_map, List.map_map]
  refine List.map_congr_left fun x hx => ?_
  show ((if x.k = e.k then (⟨e.k, s, f e.l⟩ : EN κ α) else x).k, (if x.k = e.k then (⟨e.k, s, f e.l⟩ : EN κ α) else x).l) = if x.k = e.k then (e.k, f x.l) else (x.k, x.l)
  split
  · rename_i hk
    rw [keys_uniq hn hx he hk]
  · rfl
theorem viewE_out (R : List (EN κ α)) (k : κ) : viewE (outE R k) = outL (viewE R) k := by
  unfold viewE outE outL
  rw [List.filter_map]
  rfl
theorem atL_view (R : List (EN κ α)) (k : κ) : atL (viewE R) k = atE R k := by
  unfold atL atE viewE
  rw [List.find?_map]
  simp [Function.comp_def, Option.map_map]
end
def comeL (L : List (CH × List Int)) (c : CH) (t : Int) : List (CH × List Int) := if c ∈ L.map (·.1) then setL L c (· ++ [t]) else L ++ [(c, [t])]
def leaveL (L : List (CH × List Int)) (c : CH) (t : Int) : List (CH × List Int) := if (atL L c).erase t = [] then outL L c else setL L c (·.erase t)

/-- The queue g: of each thread its channels, of each channel its sleepers; its blocks. -/
def Wq (w : World) (g : Nat) (L1 : List (Int × List CH)) (L2 : List (CH × List Int)) (F : List Nat) : Prop :=
  ∃ m1 m2 R1 R2, IsWq w g m1 m2 R1 R2 ∧ viewE R1 = L1 ∧ viewE R2 = L2 ∧ F = footW g m1 m2 R1 R2
def DidW (w w' : World) (g : Nat) (F : List Nat) (L1 : List (Int × List CH)) (L2 : List (CH × List Int)) : Prop := ∃ F', Wq w' g L1 L2 F' ∧ TurnW w w' F F'
section
variable {w w' w1 : World} {g : Nat} {L1 : List (Int × List CH)} {L2 : List (CH × List Int)} {F : List Nat} {S : List Nat}
theorem Wq.only (h : Wq w g L1 L2 F) (ho : Only S w w') (hs : ∀ k, k ∈ F → k ∉ S) : Wq w' g L1 L2 F := by
  obtain ⟨m1, m2, R1, R2, h, e1, e2, rfl⟩ := h
  exact ⟨m1, m2, R1, R2, h.only ho hs, e1, e2, rfl⟩
theorem Wq.quiet (h : Wq w g L1 L2 F) (ho : Only [] w w') : Wq w' g L1 L2 F := h.only ho (by simp)
theorem Wq.lt (h : Wq w g L1 L2 F) {k : Nat} (hk : k ∈ F) : k < w.heap.size := by
  obtain ⟨m1, m2, R1, R2, h, e1, e2, rfl⟩ := h
  exact h.lt hk
theorem wq_come (h : Wq w g L1 L2 F) (hlen : L2.length < maxLen) (hs : ∀ p ∈ L2, p.2.length ≤ 64) {c : CH} (hc : c.wf) (t : Int) :
    Calls Try.prog 33 #[.pointer (some ⟨g, 0, none⟩), .int .i64 t, kV c] w fun r w' => r = .returned (.tuple #[]) ∧ DidW w w' g F L1 (comeL L2 c t) := by
  obtain ⟨m1, m2, R1, R2, h, rfl, rfl, rfl⟩ := h
  refine (wcome_is h (by simpa [viewE] using hlen) hc t (fun e he => hs _ (List.mem_map.2 ⟨e, he, rfl⟩))).mono ?_
  rintro r w' ⟨rfl, R2', hi, hcw, ho⟩
  refine ⟨rfl, _, ⟨m1, m2, R1, R2', hi, rfl, ?_, rfl⟩, ho, fun k hk => ?_⟩
  · unfold comeL
    rw [viewE_keys]
    rcases hcw with ⟨e, he, rfl, s, _, rfl⟩ | ⟨hn, s, _, rfl⟩
    · rw [if_pos (List.mem_map.2 ⟨e, he, rfl⟩)]
      exact viewE_set h.sl.keys he s (· ++ [t])
    · rw [if_neg hn]
      simp [viewE]
  · rcases mem_footW.1 hk with hk | hk | hk | hk | ⟨y, hy, hk⟩
    · exact .inl (mem_footW.2 (.inl hk))
    · exact .inl (mem_footW.2 (.inr (.inl hk)))
    · exact .inl (mem_footW.2 (.inr (.inr (.inl hk))))
    · exact .inl (mem_footW.2 (.inr (.inr (.inr (.inl hk)))))
    · subst hk
      rcases hcw with ⟨e, he, rfl, s, hb, rfl⟩ | ⟨hn, s, hb, rfl⟩
      · rcases mem_setE hy with rfl | ⟨hy, _⟩
        · rcases hb with hb | hb
          · exact .inl (mem_footW.2 (.inr (.inr (.inr (.inr ⟨e, he, hb.symm⟩)))))
          · exact .inr hb
        · exact .inl (mem_footW.2 (.inr (.inr (.inr (.inr ⟨y, hy, rfl⟩)))))
      · rcases List.mem_append.1 hy with hy | hy
        · exact .inl (mem_footW.2 (.inr (.inr (.inr (.inr ⟨y, hy, rfl⟩)))))
        · rw [List.mem_singleton.1 hy]
          exact .inr hb
theorem wq_leave (h : Wq w g L1 L2 F) (hlen : L2.length < maxLen) (hs : ∀ p ∈ L2, p.2.length ≤ 64) {c : CH} {t : Int} (ht : t ∈ atL L2 c) :
    Calls Try.prog 23 #[.pointer (some ⟨g, 0, none⟩), .int .i64 t, kV c] w fun r w' => r = .returned (.tuple #[]) ∧ DidW w w' g F L1 (leaveL L2 c t) := by
  obtain ⟨m1, m2, R1, R2, h, rfl, rfl, rfl⟩ := h
  rw [atL_view] at ht
  have hm : c ∈ R2.map (·.k) := by
    refine Classical.byContradiction fun hn => ?_
    rw [atE_no hn] at ht
    cases ht
  obtain ⟨e, he, rfl⟩ := List.mem_map.1 hm
  rw [atE_mem h.sl.keys he] at ht
  refine (wleave_is h (by simpa [viewE] using hlen) he ht (hs _ (List.mem_map.2 ⟨e, he, rfl⟩))).mono ?_
  rintro r w' ⟨rfl, R2', hi, hcw, ho⟩
  refine ⟨rfl, _, ⟨m1, m2, R1, R2', hi, rfl, ?_, rfl⟩, ho.mono (fun k _ hk => ?_), fun k hk => .inl ?_⟩
  · unfold leaveL
    rw [atL_view, atE_mem h.sl.keys he]
    rcases hcw with ⟨hl, rfl⟩ | ⟨hl, s, _, rfl⟩
    · rw [if_pos hl]
      exact viewE_out _ _
    · rw [if_neg hl]
      exact viewE_set h.sl.keys he s (·.erase t)
  · simp at hk
    rcases hk with rfl | rfl
    · exact mem_footW.2 (.inr (.inr (.inr (.inr ⟨e, he, rfl⟩))))
    · exact mem_footW.2 (.inr (.inr (.inl rfl)))
  · rcases mem_footW.1 hk with hk | hk | hk | hk | ⟨y, hy, hk⟩
    · exact mem_footW.2 (.inl hk)
    · exact mem_footW.2 (.inr (.inl hk))
    · exact mem_footW.2 (.inr (.inr (.inl hk)))
    · exact mem_footW.2 (.inr (.inr (.inr (.inl hk))))
    · subst hk
      rcases hcw with ⟨hl, rfl⟩ | ⟨hl, s, hb, rfl⟩
      · exact mem_footW.2 (.inr (.inr (.inr (.inr ⟨y, (mem_outE hy).1, rfl⟩))))
      · rcases mem_setE hy with rfl | ⟨hy, _⟩
        · exact mem_footW.2 (.inr (.inr (.inr (.inr ⟨e, he, hb.symm⟩))))
        · exact mem_footW.2 (.inr (.inr (.inr (.inr ⟨y, hy, rfl⟩))))
end
end Go.Proofs.Ytokclkiidhcffaa
