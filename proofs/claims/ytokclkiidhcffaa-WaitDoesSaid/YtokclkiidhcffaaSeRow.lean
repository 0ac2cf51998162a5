/-
  The document's sleepers (parapetref12): rows of seats, each five cells ('ERw'); the texts for rows of channels by substitution.
-/
import Derived.Test.YtokclkiidhcffaaWqRow
import Derived.Deep.RegionLaw
import Derived.Deep.AppendLies
namespace Go.Proofs.Ytokclkiidhcffaa
open Go.ChangeShapes Go.WideShapes Go.ChangeAt Go.RowKit
set_option linter.unusedVariables false

/-- A thread on a channel, and the channel's place among its own. -/
structure SE where
  tid : Int
  on : CH
  nth : Int
deriving DecidableEq
def SE.cells (s : SE) : List Value := [.int .i64 s.tid, .int .i64 s.on.kind, .int .i64 s.on.a, .int .i64 s.on.b, .int .i64 s.nth]
def flatE (ss : List SE) : List Value := ss.flatMap SE.cells
theorem flatE_nil : flatE [] = [] := rfl
theorem flatE_cons (s : SE) (r : List SE) : flatE (s :: r) = s.cells ++ flatE r := rfl
theorem flatE_append (a b : List SE) : flatE (a ++ b) = flatE a ++ flatE b := by simp [flatE]
theorem flatE_length : ∀ ss : List SE, (flatE ss).length = ss.length * 5
  | [] => rfl
  | s :: r => by
    rw [flatE_cons, List.length_append, flatE_length r, List.length_cons]
    show 5 + r.length * 5 = _
    omega
theorem flatE_take : ∀ (ss : List SE) (i : Nat), (flatE ss).take (i * 5) = flatE (ss.take i)
  | [], i => by simp [flatE]
  | s :: r, 0 => by simp [flatE]
  | s :: r, i + 1 => by
    rw [flatE_cons, List.take_succ_cons, flatE_cons, ← flatE_take r i, show (i + 1) * 5 = s.cells.length + i * 5 by show _ = 5 + i * 5; omega, List.take_length_add_append]
theorem flatE_drop : ∀ (ss : List SE) (i : Nat), (flatE ss).drop (i * 5) = flatE (ss.drop i)
  | [], i => by simp [flatE]
  | s :: r, 0 => by simp
  | s :: r, i + 1 => by
    rw [flatE_cons, List.drop_succ_cons, ← flatE_drop r i, show (i + 1) * 5 = s.cells.length + i * 5 by show _ = 5 + i * 5; omega, List.drop_length_add_append]
theorem flatE_get {s : SE} : ∀ {ss : List SE} {i : Nat}, ss[i]? = some s → ∀ {k : Nat} {u : Value}, s.cells[k]? = some u → (flatE ss)[i * 5 + k]? = some u
  | [], i, h, _, _, _ => by simp at h
  | x :: r, 0, h, k, u, hu => by
    simp only [List.getElem?_cons_zero, Option.some.injEq] at h
    subst h
    rw [flatE_cons, List.getElem?_append_left (by have := (List.getElem?_eq_some_iff.1 hu).1; omega)]
    rw [Nat.zero_mul, Nat.zero_add]; exact hu
  | x :: r, i + 1, h, k, u, hu => by
    have := flatE_get (ss := r) (i := i) (by simpa using h) hu
    rw [flatE_cons, List.getElem?_append_right (by show 5 ≤ _; omega)]
    rw [show (i + 1) * 5 + k - x.cells.length = i * 5 + k by show (i + 1) * 5 + k - 5 = _; omega]
    exact this
theorem flatE_set {s s' : SE} {k : Nat} {u : Value} (hk : k < 5) (hc : s.cells.set k u = s'.cells) : ∀ {ss : List SE} {i : Nat}, ss[i]? = some s → (flatE ss).set (i * 5 + k) u = flatE (ss.set i s')
  | [], i, h => by simp at h
  | x :: r, 0, h => by
    simp only [List.getElem?_cons_zero, Option.some.injEq] at h
    subst h
    rw [flatE_cons, Nat.zero_mul, Nat.zero_add, List.set_append_left _ _ (by show k < 5; omega), hc]
    rfl
  | x :: r, i + 1, h => by
    have := flatE_set (s' := s') hk hc (ss := r) (i := i) (by simpa using h)
    rw [flatE_cons, List.set_append_right _ _ (by show 5 ≤ _; omega), show (i + 1) * 5 + k - x.cells.length = i * 5 + k by show (i + 1) * 5 + k - 5 = _; omega, this]
    rfl

def ERw (w : World) (v : Value) (ss : List SE) : Prop := w.ownsRow 0 40 5 v ss.length (flatE ss)
theorem info_seat12 : (Try.prog.info? 40).map (fun i => (i.size, i.bytes)) = some (5, 40) := by kernel_rfl

section
variable {w w' : World} {v : Value} {ss : List SE} {S : List Nat}
theorem ERw.nil (w : World) : ERw w (.slice none 0 0) [] := ⟨by simp [flatE], .inl ⟨rfl, by simp⟩⟩
theorem ERw.blk (h : ERw w v ss) (hn : 0 < ss.length) : ∃ b cap cur, v = .slice (some ⟨b, 0, none⟩) ss.length cap ∧ Blk w b 40 (flatE ss ++ cur).toArray ∧ ss.length * 5 + cur.length = cap * 5 ∧ ss.length ≤ cap ∧ cap ≤ maxLen := by
  rcases h.2 with ⟨_, h0⟩ | ⟨b, cap, cur, e, hB, hg, hnc, hm, hs, ht⟩
  · omega
  · refine ⟨b, cap, cur.toList.drop (ss.length * 5), e, ?_, ?_, hnc, hm⟩
    · have : flatE ss ++ cur.toList.drop (ss.length * 5) = cur.toList := by
        rw [show flatE ss = cur.toList.take (ss.length * 5) from ht.symm, List.take_append_drop]
      rw [this]
      exact hg
    · simp [hs]; omega
theorem ERw.of_blk {b cap : Nat} {cur : List Value} (hb : Blk w b 40 (flatE ss ++ cur).toArray) (hl : ss.length * 5 + cur.length = cap * 5) (hm : cap ≤ maxLen) : ERw w (.slice (some ⟨b, 0, none⟩) ss.length cap) ss := by
  refine ⟨flatE_length ss, .inr ⟨b, cap, _, rfl, Nat.zero_le _, hb, by omega, hm, by simp [flatE_length]; omega, ?_⟩⟩
  have := flatE_length ss
  simp [this]
theorem ERw.form (h : ERw w v ss) : ∃ A cap, v = .slice A ss.length cap ∧ (0 < ss.length → ∃ b, A = some ⟨b, 0, none⟩ ∧ b < w.heap.size) := by
  rcases h.2 with ⟨e, h0⟩ | ⟨b, cap, cur, e, hB, hg, rest⟩
  · exact ⟨none, 0, by rw [e, h0], fun hp => absurd hp (by omega)⟩
  · exact ⟨some ⟨b, 0, none⟩, cap, e, fun _ => ⟨b, rfl, Blk.lt (t := 40) hg⟩⟩
theorem ERw.cell (h : ERw w v ss) {A : Option Addr} {n cap : Nat} (hv : v = .slice A n cap) {b : Nat} {o : Nat} (hA : A = some ⟨b, o, none⟩) {i : Nat} {s : SE} (hs : ss[i]? = some s) :
    w.cell? ⟨b, i * 5, none⟩ = some (.int .i64 s.tid) ∧ w.cell? ⟨b, i * 5 + 1, none⟩ = some (.int .i64 s.on.kind) ∧ w.cell? ⟨b, i * 5 + 2, none⟩ = some (.int .i64 s.on.a) ∧ w.cell? ⟨b, i * 5 + 3, none⟩ = some (.int .i64 s.on.b) ∧ w.cell? ⟨b, i * 5 + 4, none⟩ = some (.int .i64 s.nth) := by
  have hi := (List.getElem?_eq_some_iff.1 hs).1
  obtain ⟨b', cap', cur, e, hb, _⟩ := h.blk (by omega)
  rw [hv, hA] at e
  injection e with e
  injection e with e
  injection e with e
  subst e
  have hc : ∀ k u, s.cells[k]? = some u → w.cell? ⟨b, i * 5 + k, none⟩ = some u := fun k u hk => by
    have h1 := flatE_get hs hk
    rw [hb.cell, List.getElem?_toArray, List.getElem?_append_left (List.getElem?_eq_some_iff.1 h1).1]
    exact h1
  exact ⟨hc 0 _ rfl, hc 1 _ rfl, hc 2 _ rfl, hc 3 _ rfl, hc 4 _ rfl⟩
theorem ERw.only (h : ERw w v ss) (ho : Only S w w') (hs : ∀ k, v.ownBlock = some k → k ∉ S) : ERw w' v ss := ownsRow_only' h ho hs
theorem ERw.drewN (h : ERw w v ss) (n : Nat) : ERw (w.drewN n) v ss := h
theorem ERw.at_ (h : ERw w v ss) {q : Nat} (hq : v.ownBlock = some q) : q < w.heap.size ∧ ∀ t cs, Blk w q t cs → t = 40 := by
  rcases h.2 with ⟨e', h0⟩ | ⟨b, cap, cur, e', hB, hg, hn, hm, hs, ht⟩
  · rw [e'] at hq; simp [Value.ownBlock] at hq
  · rw [e'] at hq
    simp only [Value.ownBlock, Option.some.injEq] at hq
    subst hq
    refine ⟨Blk.lt hg, fun t cs hb => ?_⟩
    unfold Blk at hb
    rw [hg] at hb
    injection hb with hb
    injection hb with _ hb
    exact hb.symm
theorem ERw.apart (h : ERw w v ss) {q : Nat} {t : TypeId} {cs : Array Value} (hb : Blk w q t cs) (ht : t ≠ 40) : ∀ j, v.ownBlock = some j → j ≠ q := by
  rintro j hj rfl
  exact ht ((h.at_ hj).2 _ _ hb)
/-- One cell of one seat is written. -/
theorem ERw.put (h : ERw w v ss) {A : Option Addr} {n cap : Nat} (hv : v = .slice A n cap) {b : Nat} {o : Nat} (hA : A = some ⟨b, o, none⟩) {i k : Nat} {s s' : SE} {u : Value} (hk : k < 5) (hs : ss[i]? = some s) (hc : s.cells.set k u = s'.cells) :
    ERw (w.setCell ⟨b, i * 5 + k, none⟩ u) v (ss.set i s') := by
  have hi := (List.getElem?_eq_some_iff.1 hs).1
  obtain ⟨b', cap', cur, e, hb, hl, hcap, hm⟩ := h.blk (by omega)
  have e' := e
  rw [hv, hA] at e'
  injection e' with e'
  injection e' with e'
  injection e' with e'
  subst e'
  have h1 := hb.set_ (i * 5 + k) u
  rw [List.setIfInBounds_toArray, List.set_append_left _ _ (by rw [flatE_length]; omega), flatE_set hk hc hs] at h1
  rw [e]
  have := ERw.of_blk (ss := ss.set i s') (cap := cap') h1 (by rw [List.length_set]; exact hl) hm
  rw [List.length_set] at this
  exact this
end
end Go.Proofs.Ytokclkiidhcffaa
