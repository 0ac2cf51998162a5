/-
  Sleepers (parapet/waitq): rows of channels, each three cells: 'CRw w v ss': v is a slice of the channels ss at the head of a block of its own, or nil.
-/
import Derived.Test.YtokclkiidhcffaaKRow
import Derived.Deep.RegionLaw
import Derived.Deep.AppendLies
namespace Go.Proofs.Ytokclkiidhcffaa
open Go.ChangeShapes Go.WideShapes Go.ChangeAt Go.RowKit
set_option linter.unusedVariables false

/-- A channel. -/
structure CH where
  kind : Int
  a : Int
  b : Int
deriving DecidableEq
def CH.cells (s : CH) : List Value := [.int .i64 s.kind, .int .i64 s.a, .int .i64 s.b]
def flatC (ss : List CH) : List Value := ss.flatMap CH.cells
theorem flatC_nil : flatC [] = [] := rfl
theorem flatC_cons (s : CH) (r : List CH) : flatC (s :: r) = s.cells ++ flatC r := rfl
theorem flatC_append (a b : List CH) : flatC (a ++ b) = flatC a ++ flatC b := by simp [flatC]
theorem flatC_length : ∀ ss : List CH, (flatC ss).length = ss.length * 3
  | [] => rfl
  | s :: r => by
    rw [flatC_cons, List.length_append, flatC_length r, List.length_cons]
    show 3 + r.length * 3 = _
    omega
theorem flatC_take : ∀ (ss : List CH) (i : Nat), (flatC ss).take (i * 3) = flatC (ss.take i)
  | [], i => by simp [flatC]
  | s :: r, 0 => by simp [flatC]
  | s :: r, i + 1 => by
    rw [flatC_cons, List.take_succ_cons, flatC_cons, ← flatC_take r i, show (i + 1) * 3 = s.cells.length + i * 3 by show _ = 3 + i * 3; omega, List.take_length_add_append]
theorem flatC_drop : ∀ (ss : List CH) (i : Nat), (flatC ss).drop (i * 3) = flatC (ss.drop i)
  | [], i => by simp [flatC]
  | s :: r, 0 => by simp
  | s :: r, i + 1 => by
    rw [flatC_cons, List.drop_succ_cons, ← flatC_drop r i, show (i + 1) * 3 = s.cells.length + i * 3 by show _ = 3 + i * 3; omega, List.drop_length_add_append]
theorem flatC_get {s : CH} : ∀ {ss : List CH} {i : Nat}, ss[i]? = some s → ∀ {k : Nat} {u : Value}, s.cells[k]? = some u → (flatC ss)[i * 3 + k]? = some u
  | [], i, h, _, _, _ => by simp at h
  | x :: r, 0, h, k, u, hu => by
    simp only [List.getElem?_cons_zero, Option.some.injEq] at h
    subst h
    rw [flatC_cons, List.getElem?_append_left (by have := (List.getElem?_eq_some_iff.1 hu).1; omega)]
    rw [Nat.zero_mul, Nat.zero_add]; exact hu
  | x :: r, i + 1, h, k, u, hu => by
    have := flatC_get (ss := r) (i := i) (by simpa using h) hu
    rw [flatC_cons, List.getElem?_append_right (by show 3 ≤ _; omega)]
    rw [show (i + 1) * 3 + k - x.cells.length = i * 3 + k by show (i + 1) * 3 + k - 3 = _; omega]
    exact this
theorem flatC_set {s s' : CH} {k : Nat} {u : Value} (hk : k < 3) (hc : s.cells.set k u = s'.cells) : ∀ {ss : List CH} {i : Nat}, ss[i]? = some s → (flatC ss).set (i * 3 + k) u = flatC (ss.set i s')
  | [], i, h => by simp at h
  | x :: r, 0, h => by
    simp only [List.getElem?_cons_zero, Option.some.injEq] at h
    subst h
    rw [flatC_cons, Nat.zero_mul, Nat.zero_add, List.set_append_left _ _ (by show k < 3; omega), hc]
    rfl
  | x :: r, i + 1, h => by
    have := flatC_set (s' := s') hk hc (ss := r) (i := i) (by simpa using h)
    rw [flatC_cons, List.set_append_right _ _ (by show 3 ≤ _; omega), show (i + 1) * 3 + k - x.cells.length = i * 3 + k by show (i + 1) * 3 + k - 3 = _; omega, this]
    rfl

def CRw (w : World) (v : Value) (ss : List CH) : Prop := w.ownsRow 0 32 3 v ss.length (flatC ss)
theorem info_seat : (Try.prog.info? 32).map (fun i => (i.size, i.bytes)) = some (3, 24) := by kernel_rfl

section
variable {w w' : World} {v : Value} {ss : List CH} {S : List Nat}
theorem CRw.nil (w : World) : CRw w (.slice none 0 0) [] := ⟨by simp [flatC], .inl ⟨rfl, by simp⟩⟩
theorem CRw.blk (h : CRw w v ss) (hn : 0 < ss.length) : ∃ b cap cur, v = .slice (some ⟨b, 0, none⟩) ss.length cap ∧ Blk w b 32 (flatC ss ++ cur).toArray ∧ ss.length * 3 + cur.length = cap * 3 ∧ ss.length ≤ cap ∧ cap ≤ maxLen := by
  rcases h.2 with ⟨_, h0⟩ | ⟨b, cap, cur, e, hB, hg, hnc, hm, hs, ht⟩
  · omega
  · refine ⟨b, cap, cur.toList.drop (ss.length * 3), e, ?_, ?_, hnc, hm⟩
    · have : flatC ss ++ cur.toList.drop (ss.length * 3) = cur.toList := by
        rw [show flatC ss = cur.toList.take (ss.length * 3) from ht.symm, List.take_append_drop]
      rw [this]
      exact hg
    · simp [hs]; omega
theorem CRw.of_blk {b cap : Nat} {cur : List Value} (hb : Blk w b 32 (flatC ss ++ cur).toArray) (hl : ss.length * 3 + cur.length = cap * 3) (hm : cap ≤ maxLen) : CRw w (.slice (some ⟨b, 0, none⟩) ss.length cap) ss := by
  refine ⟨flatC_length ss, .inr ⟨b, cap, _, rfl, Nat.zero_le _, hb, by omega, hm, by simp [flatC_length]; omega, ?_⟩⟩
  have := flatC_length ss
  simp [this]
theorem CRw.form (h : CRw w v ss) : ∃ A cap, v = .slice A ss.length cap ∧ (0 < ss.length → ∃ b, A = some ⟨b, 0, none⟩ ∧ b < w.heap.size) := by
  rcases h.2 with ⟨e, h0⟩ | ⟨b, cap, cur, e, hB, hg, rest⟩
  · exact ⟨none, 0, by rw [e, h0], fun hp => absurd hp (by omega)⟩
  · exact ⟨some ⟨b, 0, none⟩, cap, e, fun _ => ⟨b, rfl, Blk.lt (t := 32) hg⟩⟩
theorem CRw.cell (h : CRw w v ss) {A : Option Addr} {n cap : Nat} (hv : v = .slice A n cap) {b : Nat} {o : Nat} (hA : A = some ⟨b, o, none⟩) {i : Nat} {s : CH} (hs : ss[i]? = some s) :
    w.cell? ⟨b, i * 3, none⟩ = some (.int .i64 s.kind) ∧ w.cell? ⟨b, i * 3 + 1, none⟩ = some (.int .i64 s.a) ∧ w.cell? ⟨b, i * 3 + 2, none⟩ = some (.int .i64 s.b) := by
  have hi := (List.getElem?_eq_some_iff.1 hs).1
  obtain ⟨b', cap', cur, e, hb, _⟩ := h.blk (by omega)
  rw [hv, hA] at e
  injection e with e
  injection e with e
  injection e with e
  subst e
  have hc : ∀ k u, s.cells[k]? = some u → w.cell? ⟨b, i * 3 + k, none⟩ = some u := fun k u hk => by
    have h1 := flatC_get hs hk
    rw [hb.cell, List.getElem?_toArray, List.getElem?_append_left (List.getElem?_eq_some_iff.1 h1).1]
    exact h1
  exact ⟨hc 0 _ rfl, hc 1 _ rfl, hc 2 _ rfl⟩
theorem CRw.only (h : CRw w v ss) (ho : Only S w w') (hs : ∀ k, v.ownBlock = some k → k ∉ S) : CRw w' v ss := ownsRow_only' h ho hs
theorem CRw.drewN (h : CRw w v ss) (n : Nat) : CRw (w.drewN n) v ss := h
theorem CRw.at_ (h : CRw w v ss) {q : Nat} (hq : v.ownBlock = some q) : q < w.heap.size ∧ ∀ t cs, Blk w q t cs → t = 32 := by
  rcases h.2 with ⟨e', h0⟩ | ⟨b, cap, cur, e', hB, hg, hn, hm, hs, ht⟩
  · rw [e'] at hq; simp [Value.ownBlock] at hq
  · rw [e'] at hq
    simp only [Value.ownBlock, Option.some.injEq] at hq
    subst hq
    refine ⟨Blk.lt hg, fun t cs hb => ?_⟩
    unfold Blk at hb
    rw [hg] at hb
    injection hb with hb
    injection hb with _ hb
    exact hb.symm
theorem CRw.apart (h : CRw w v ss) {q : Nat} {t : TypeId} {cs : Array Value} (hb : Blk w q t cs) (ht : t ≠ 32) : ∀ j, v.ownBlock = some j → j ≠ q := by
  rintro j hj rfl
  exact ht ((h.at_ hj).2 _ _ hb)
/-- One cell of one seat is written. -/
theorem CRw.put (h : CRw w v ss) {A : Option Addr} {n cap : Nat} (hv : v = .slice A n cap) {b : Nat} {o : Nat} (hA : A = some ⟨b, o, none⟩) {i k : Nat} {s s' : CH} {u : Value} (hk : k < 3) (hs : ss[i]? = some s) (hc : s.cells.set k u = s'.cells) :
    CRw (w.setCell ⟨b, i * 3 + k, none⟩ u) v (ss.set i s') := by
  have hi := (List.getElem?_eq_some_iff.1 hs).1
  obtain ⟨b', cap', cur, e, hb, hl, hcap, hm⟩ := h.blk (by omega)
  have e' := e
  rw [hv, hA] at e'
  injection e' with e'
  injection e' with e'
  injection e' with e'
  subst e'
  have h1 := hb.set_ (i * 3 + k) u
  rw [List.setIfInBounds_toArray, List.set_append_left _ _ (by rw [flatC_length]; omega), flatC_set hk hc hs] at h1
  rw [e]
  have := CRw.of_blk (ss := ss.set i s') (cap := cap') h1 (by rw [List.length_set]; exact hl) hm
  rw [List.length_set] at this
  exact this
end
end Go.Proofs.Ytokclkiidhcffaa
