/-
  The document's own run queues (parapetref11): what turns them: New, Put, Tick, Sleep.
-/
import Derived.Test.YtdinndpeoankdaaRq11
namespace Go.Proofs.Ytdinndpeoankdaa
open Go.ChangeShapes Go.WideShapes Go.ChangeAt Go.RowKit Go.Maps
set_option linter.unusedVariables false

/-- A new row of some numbers. -/
structure Copied (w w5 : World) (v5 : Value) (zs : List Int) : Prop where
  row : IRow w5 v5 zs
  only : Only [] w w5
  new : ∀ q, v5.ownBlock = some q → w.heap.size ≤ q
theorem copied_of {w V w5 : World} {H : Nat} {v5 : Value} {zs : List Int} (hV : Only [] w V) (hs : w.heap.size ≤ H) (h1 : IRow w5 v5 ([] ++ zs)) (h2 : Only (Value.slice (some ⟨H, 0, none⟩) 0 0).ownBlock.toList V w5)
    (h3 : ∀ k, v5.ownBlock = some k → (Value.slice (some ⟨H, 0, none⟩) 0 0).ownBlock = some k ∨ V.heap.size ≤ k) : Copied w w5 v5 zs := by
  refine ⟨h1, hV.trans' h2 (fun k hk hm => ?_), fun q hq => ?_⟩
  · simp [Value.ownBlock] at hm; omega
  · rcases h3 q hq with h | h
    · simp [Value.ownBlock] at h; omega
    · exact Nat.le_trans hV.size h
theorem copied_app {w w5 V w7 : World} {v5 v7 : Value} {zs ys : List Int} (hc : Copied w w5 v5 zs) (hV : Only [] w5 V) (h1 : IRow w7 v7 (zs ++ ys)) (h2 : Only v5.ownBlock.toList V w7)
    (h3 : ∀ k, v7.ownBlock = some k → v5.ownBlock = some k ∨ V.heap.size ≤ k) : Copied w w7 v7 (zs ++ ys) := by
  refine ⟨h1, (hc.only.trans hV).trans' h2 (fun k hk hm => ?_), fun q hq => ?_⟩
  · have := hc.new k (mem_own.1 hm); omega
  · rcases h3 q hq with h | h
    · exact hc.new q h
    · exact Nat.le_trans (hc.only.trans hV).size h
theorem blk_new2 (w : World) (o : Obj) (t : TypeId) (cs : Array Value) : Blk ((w.drew.alloc o).alloc (.cells cs t)) (w.heap.size + 1) t cs := by
  have h := Blk.new (w.drew.alloc o) t cs
  have e : (w.drew.alloc o).heap.size = w.heap.size + 1 := by
    have : w.drew.heap.size = w.heap.size := rfl
    simp [this]
  rwa [e] at h
section
variable {w w' w1 w5 : World} {gx hx : Nat} {s s' : RQ} {xs : Nat → Value} {S : List Nat} {v5 : Value} {zs : List Int}
/-- A call has come to the state s'. -/
def DidX (w w' : World) (gx hx H : Nat) (xs : Nat → Value) (s' : RQ) : Prop := ∃ xs', IsX w' gx hx s' xs' ∧ s'.H = H ∧ Turn w w' (footX gx hx xs H) (footX gx hx xs' H)
theorem IsX.sameX (X : IsX w gx hx s xs) (ho : Only [] w w') : DidX w w' gx hx s.H xs s := ⟨xs, X.quiet ho, rfl, Turn.same _ ho⟩
/-- What a hart runs is set. -/
theorem IsX.putR (X : IsX w gx hx s xs) {h : Nat} (hh : h < s.H) (x : Int) (h1 : s'.H = s.H) (h2 : s'.r = upd s.r h x) (h3 : s'.n = s.n) : IsX (w.setCell ⟨hx, h * 2, none⟩ (.int .i64 x)) gx hx s' xs ∧ Only [hx] w (w.setCell ⟨hx, h * 2, none⟩ (.int .i64 x)) := by
  have ho : Only [hx] w (w.setCell ⟨hx, h * 2, none⟩ (.int .i64 x)) := (Only.refl _ _).setCell _ (by simp)
  refine ⟨⟨?_, ?_, fun k hk => ?_, fun a b q ha hb => X.apart a b q (h1 ▸ ha) (h1 ▸ hb)⟩, ho⟩
  · rw [h1]; exact X.top.only ho (by simpa using X.gh)
  · have := X.blk.set_ (h * 2) (.int .i64 x)
    rw [rowG_set, valX_run s xs h x s' h2] at this
    rw [h1]; exact this
  · rw [h1] at hk
    rw [h3]
    exact (X.row k hk).only ho (fun q hq hm => X.rh hk hq (by simpa using hm))
/-- A queue is set, to a new row. -/
theorem IsX.putN (X : IsX w gx hx s xs) {h : Nat} (hh : h < s.H) (hc : Copied w w5 v5 zs) (h1 : s'.H = s.H) (h2 : s'.r = s.r) (h3 : s'.n = upd s.n h zs) :
    DidX w (w5.setCell ⟨hx, h * 2 + 1, none⟩ v5) gx hx s.H xs s' := by
  have X5 := X.quiet hc.only
  have hset : Only [hx] w5 (w5.setCell ⟨hx, h * 2 + 1, none⟩ v5) := (Only.refl _ _).setCell _ (by simp)
  have hv : ∀ q, v5.ownBlock = some q → q ≠ hx ∧ q ≠ gx := fun q hq => ⟨hc.row.apart X5.blk (by decide) q hq, hc.row.apart X5.top (by decide) q hq⟩
  refine ⟨upd xs h v5, ⟨?_, ?_, fun k hk => ?_, fun a b q ha hb hne e1 e2 => ?_⟩, h1, hc.only.mono (by simp) |>.trans (hset.mono (fun k _ hk => by simp at hk; exact mem_footX.2 (.inr (.inl hk)))), fun k hk => ?_⟩
  · rw [h1]; exact X5.top.only hset (by simpa using X.gh)
  · have := X5.blk.set_ (h * 2 + 1) v5
    rw [rowG_set, valX_row s xs h v5 s' h2] at this
    rw [h1]; exact this
  · rw [h1] at hk
    rw [h3]
    by_cases e : k = h
    · subst e
      rw [upd_same, upd_same]
      exact KRow.only hc.row hset (fun q hq hm => (hv q hq).1 (by simpa using hm))
    · rw [upd_far _ _ e, upd_far _ _ e]
      exact KRow.only (X5.row k hk) hset (fun q hq hm => X5.rh hk hq (by simpa using hm))
  · rw [h1] at ha hb
    by_cases ea : a = h
    · have eb : b ≠ h := fun e => hne (ea.trans e.symm)
      rw [ea, upd_same] at e1
      rw [upd_far _ _ eb] at e2
      have := hc.new q e1
      have := X.ltr hb e2
      omega
    · rw [upd_far _ _ ea] at e1
      by_cases eb : b = h
      · rw [eb, upd_same] at e2
        have := hc.new q e2
        have := X.ltr ha e1
        omega
      · rw [upd_far _ _ eb] at e2
        exact X.apart a b q ha hb hne e1 e2
  · rcases mem_footX.1 hk with rfl | rfl | ⟨o, ho, e⟩
    · exact .inl (mem_footX.2 (.inl rfl))
    · exact .inl (mem_footX.2 (.inr (.inl rfl)))
    · by_cases eo : o = h
      · rw [eo, upd_same] at e
        exact .inr (hc.new k e)
      · rw [upd_far _ _ eo] at e
        exact .inl (mem_footX.2 (.inr (.inr ⟨o, ho, e⟩)))
theorem DidX.run (h : DidX w w1 gx hx s.H xs s) {h0 : Nat} (hh : h0 < s.H) (x : Int) (h1 : s'.H = s.H) (h2 : s'.r = upd s.r h0 x) (h3 : s'.n = s.n) :
    w1.cell? ⟨hx, h0 * 2, none⟩ = some (.int .i64 (s.r h0)) ∧ w1.frozen? ⟨hx, h0 * 2, none⟩ = false ∧ w1.cell? ⟨gx, 0, none⟩ = some (.slice (some ⟨hx, 0, none⟩) s.H s.H) ∧ DidX w (w1.setCell ⟨hx, h0 * 2, none⟩ (.int .i64 x)) gx hx s.H xs s' := by
  obtain ⟨xs1, X1, _, T1⟩ := h
  obtain ⟨X2, o2⟩ := X1.putR hh x h1 h2 h3
  exact ⟨X1.cR hh, X1.fr _, X1.cT, xs1, X2, h1, T1.trans ⟨o2.mono (fun q _ hq => mem_footX.2 (.inr (.inl (by simpa using hq)))), fun q hq => .inl hq⟩⟩
theorem DidX.trans {s1 s2 : RQ} (h : DidX w w1 gx hx s.H xs s1) (h2 : ∀ xs1, IsX w1 gx hx s1 xs1 → s1.H = s.H → DidX w1 w' gx hx s.H xs1 s2) : DidX w w' gx hx s.H xs s2 := by
  obtain ⟨xs1, X1, e1, T1⟩ := h
  obtain ⟨xs2, X2, e2, T2⟩ := h2 xs1 X1 e1
  exact ⟨xs2, X2, e2, T1.trans T2⟩
end
end Go.Proofs.Ytdinndpeoankdaa
