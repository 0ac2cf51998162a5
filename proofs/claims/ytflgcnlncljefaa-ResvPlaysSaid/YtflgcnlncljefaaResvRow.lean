/-
  The gate (parapet/resv): rows of seats, each four cells: 'SRw w v ss': v is a slice of the seats ss at the head of a block of its own, or nil.
-/
import Derived.Test.YtflgcnlncljefaaKRow
import Derived.Deep.RegionLaw
import Derived.Deep.AppendLies
namespace Go.Proofs.Ytflgcnlncljefaa
open Go.ChangeShapes Go.WideShapes Go.ChangeAt Go.RowKit
set_option linter.unusedVariables false

/-- A seat: whose, what it may take still, what it took, whether it waits. -/
structure ST where
  id : Int
  bound : Int
  taken : Int
  waits : Bool
def ST.cells (s : ST) : List Value := [.int .i64 s.id, .int .i64 s.bound, .int .i64 s.taken, .bool s.waits]
def flatS (ss : List ST) : List Value := ss.flatMap ST.cells
theorem flatS_nil : flatS [] = [] := rfl
theorem flatS_cons (s : ST) (r : List ST) : flatS (s :: r) = s.cells ++ flatS r := rfl
theorem flatS_append (a b : List ST) : flatS (a ++ b) = flatS a ++ flatS b := by simp [flatS]
theorem flatS_length : ∀ ss : List ST, (flatS ss).length = ss.length * 4
  | [] => rfl
  | s :: r => by
    rw [flatS_cons, List.length_append, flatS_length r, List.length_cons]
    show 4 + r.length * 4 = _
    omega
theorem flatS_take : ∀ (ss : List ST) (i : Nat), (flatS ss).take (i * 4) = flatS (ss.take i)
  | [], i => by simp [flatS]
  | s :: r, 0 => by simp [flatS]
  | s :: r, i + 1 => by
    rw [flatS_cons, List.take_succ_cons, flatS_cons, ← flatS_take r i, show (i + 1) * 4 = s.cells.length + i * 4 by show _ = 4 + i * 4; omega, List.take_length_add_append]
theorem flatS_drop : ∀ (ss : List ST) (i : Nat), (flatS ss).drop (i * 4) = flatS (ss.drop i)
  | [], i => by simp [flatS]
  | s :: r, 0 => by simp
  | s :: r, i + 1 => by
    rw [flatS_cons, List.drop_succ_cons, ← flatS_drop r i, show (i + 1) * 4 = s.cells.length + i * 4 by show _ = 4 + i * 4; omega, List.drop_length_add_append]
theorem flatS_get {s : ST} : ∀ {ss : List ST} {i : Nat}, ss[i]? = some s → ∀ {k : Nat} {u : Value}, s.cells[k]? = some u → (flatS ss)[i * 4 + k]? = some u
  | [], i, h, _, _, _ => by simp at h
  | x :: r, 0, h, k, u, hu => by
    simp only [List.getElem?_cons_zero, Option.some.injEq] at h
    subst h
    rw [flatS_cons, List.getElem?_append_left (by have := (List.getElem?_eq_some_iff.1 hu).1; omega)]
    rw [Nat.zero_mul, Nat.zero_add]; exact hu
  | x :: r, i + 1, h, k, u, hu => by
    have := flatS_get (ss := r) (i := i) (by simpa using h) hu
    rw [flatS_cons, List.getElem?_append_right (by show 4 ≤ _; omega)]
    rw [show (i + 1) * 4 + k - x.cells.length = i * 4 + k by show (i + 1) * 4 + k - 4 = _; omega]
    exact this
theorem flatS_set {s s' : ST} {k : Nat} {u : Value} (hk : k < 4) (hc : s.cells.set k u = s'.cells) : ∀ {ss : List ST} {i : Nat}, ss[i]? = some s → (flatS ss).set (i * 4 + k) u = flatS (ss.set i s')
  | [], i, h => by simp at h
  | x :: r, 0, h => by
    simp only [List.getElem?_cons_zero, Option.some.injEq] at h
    subst h
    rw [flatS_cons, Nat.zero_mul, Nat.zero_add, List.set_append_left _ _ (by show k < 4; omega), hc]
    rfl
  | x :: r, i + 1, h => by
    have := flatS_set (s' := s') hk hc (ss := r) (i := i) (by simpa using h)
    rw [flatS_cons, List.set_append_right _ _ (by show 4 ≤ _; omega), show (i + 1) * 4 + k - x.cells.length = i * 4 + k by show (i + 1) * 4 + k - 4 = _; omega, this]
    rfl

def SRw (w : World) (v : Value) (ss : List ST) : Prop := w.ownsRow 0 48 4 v ss.length (flatS ss)
theorem info_seat : (Try.prog.info? 48).map (fun i => (i.size, i.bytes)) = some (4, 32) := by kernel_rfl

section
variable {w w' : World} {v : Value} {ss : List ST} {S : List Nat}
theorem SRw.nil (w : World) : SRw w (.slice none 0 0) [] := ⟨by simp [flatS], .inl ⟨rfl, by simp⟩⟩
theorem SRw.blk (h : SRw w v ss) (hn : 0 < ss.length) : ∃ b cap cur, v = .slice (some ⟨b, 0, none⟩) ss.length cap ∧ Blk w b 48 (flatS ss ++ cur).toArray ∧ ss.length * 4 + cur.length = cap * 4 ∧ ss.length ≤ cap ∧ cap ≤ maxLen := by
  rcases h.2 with ⟨_, h0⟩ | ⟨b, cap, cur, e, hB, hg, hnc, hm, hs, ht⟩
  · omega
  · refine ⟨b, cap, cur.toList.drop (ss.length * 4), e, ?_, ?_, hnc, hm⟩
    · have : flatS ss ++ cur.toList.drop (ss.length * 4) = cur.toList := by
        rw [show flatS ss = cur.toList.take (ss.length * 4) from ht.symm, List.take_append_drop]
      rw [this]
      exact hg
    · simp [hs]; omega
theorem SRw.of_blk {b cap : Nat} {cur : List Value} (hb : Blk w b 48 (flatS ss ++ cur).toArray) (hl : ss.length * 4 + cur.length = cap * 4) (hm : cap ≤ maxLen) : SRw w (.slice (some ⟨b, 0, none⟩) ss.length cap) ss := by
  refine ⟨flatS_length ss, .inr ⟨b, cap, _, rfl, Nat.zero_le _, hb, by omega, hm, by simp [flatS_length]; omega, ?_⟩⟩
  have := flatS_length ss
  simp [this]
theorem SRw.form (h : SRw w v ss) : ∃ A cap, v = .slice A ss.length cap ∧ (0 < ss.length → ∃ b, A = some ⟨b, 0, none⟩ ∧ b < w.heap.size) := by
  rcases h.2 with ⟨e, h0⟩ | ⟨b, cap, cur, e, hB, hg, rest⟩
  · exact ⟨none, 0, by rw [e, h0], fun hp => absurd hp (by omega)⟩
  · exact ⟨some ⟨b, 0, none⟩, cap, e, fun _ => ⟨b, rfl, Blk.lt (t := 48) hg⟩⟩
theorem SRw.cell (h : SRw w v ss) {A : Option Addr} {n cap : Nat} (hv : v = .slice A n cap) {b : Nat} {o : Nat} (hA : A = some ⟨b, o, none⟩) {i : Nat} {s : ST} (hs : ss[i]? = some s) :
    w.cell? ⟨b, i * 4, none⟩ = some (.int .i64 s.id) ∧ w.cell? ⟨b, i * 4 + 1, none⟩ = some (.int .i64 s.bound) ∧ w.cell? ⟨b, i * 4 + 2, none⟩ = some (.int .i64 s.taken) ∧ w.cell? ⟨b, i * 4 + 3, none⟩ = some (.bool s.waits) := by
  have hi := (List.getElem?_eq_some_iff.1 hs).1
  obtain ⟨b', cap', cur, e, hb, _⟩ := h.blk (by omega)
  rw [hv, hA] at e
  injection e with e
  injection e with e
  injection e with e
  subst e
  have hc : ∀ k u, s.cells[k]? = some u → w.cell? ⟨b, i * 4 + k, none⟩ = some u := fun k u hk => by
    have h1 := flatS_get hs hk
    rw [hb.cell, List.getElem?_toArray, List.getElem?_append_left (List.getElem?_eq_some_iff.1 h1).1]
    exact h1
  exact ⟨hc 0 _ rfl, hc 1 _ rfl, hc 2 _ rfl, hc 3 _ rfl⟩
theorem SRw.only (h : SRw w v ss) (ho : Only S w w') (hs : ∀ k, v.ownBlock = some k → k ∉ S) : SRw w' v ss := ownsRow_only' h ho hs
theorem SRw.drewN (h : SRw w v ss) (n : Nat) : SRw (w.drewN n) v ss := h
theorem SRw.at_ (h : SRw w v ss) {q : Nat} (hq : v.ownBlock = some q) : q < w.heap.size ∧ ∀ t cs, Blk w q t cs → t = 48 := by
  rcases h.2 with ⟨e', h0⟩ | ⟨b, cap, cur, e', hB, hg, hn, hm, hs, ht⟩
  · rw [e'] at hq; simp [Value.ownBlock] at hq
  · rw [e'] at hq
    simp only [Value.ownBlock, Option.some.injEq] at hq
    subst hq
    refine ⟨Blk.lt hg, fun t cs hb => ?_⟩
    unfold Blk at hb
    rw [hg] at hb
    injection hb with hb
    injection hb with _ hb
    exact hb.symm
theorem SRw.apart (h : SRw w v ss) {q : Nat} {t : TypeId} {cs : Array Value} (hb : Blk w q t cs) (ht : t ≠ 48) : ∀ j, v.ownBlock = some j → j ≠ q := by
  rintro j hj rfl
  exact ht ((h.at_ hj).2 _ _ hb)
/-- One cell of one seat is written. -/
theorem SRw.put (h : SRw w v ss) {A : Option Addr} {n cap : Nat} (hv : v = .slice A n cap) {b : Nat} {o : Nat} (hA : A = some ⟨b, o, none⟩) {i k : Nat} {s s' : ST} {u : Value} (hk : k < 4) (hs : ss[i]? = some s) (hc : s.cells.set k u = s'.cells) :
    SRw (w.setCell ⟨b, i * 4 + k, none⟩ u) v (ss.set i s') := by
  have hi := (List.getElem?_eq_some_iff.1 hs).1
  obtain ⟨b', cap', cur, e, hb, hl, hcap, hm⟩ := h.blk (by omega)
  have e' := e
  rw [hv, hA] at e'
  injection e' with e'
  injection e' with e'
  injection e' with e'
  subst e'
  have h1 := hb.set_ (i * 4 + k) u
  rw [List.setIfInBounds_toArray, List.set_append_left _ _ (by rw [flatS_length]; omega), flatS_set hk hc hs] at h1
  rw [e]
  have := SRw.of_blk (ss := ss.set i s') (cap := cap') h1 (by rw [List.length_set]; exact hl) hm
  rw [List.length_set] at this
  exact this
end
end Go.Proofs.Ytflgcnlncljefaa
