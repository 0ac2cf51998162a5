/-
  Names (api.Name): rows of names, each two cells: 'NRw w v ss': v is a slice of the names ss at the head of a block of its own, or nil.
-/
import Derived.Test.YtjpojoflbjhjjaaKRow
import Derived.Test.YtjpojoflbjhjjaaRqRow
import Derived.Deep.RegionLaw
import Derived.Deep.AppendLies
namespace Go.Proofs.Ytjpojoflbjhjjaa
open Go.ChangeShapes Go.WideShapes Go.ChangeAt Go.RowKit
set_option linter.unusedVariables false

/-- A name in a directory. -/
structure NM where
  dir : Int
  name : ByteArray
deriving DecidableEq
def NM.cells (s : NM) : List Value := [.int .i64 s.dir, .string s.name]
def flatN (ss : List NM) : List Value := ss.flatMap NM.cells
theorem flatN_nil : flatN [] = [] := rfl
theorem flatN_cons (s : NM) (r : List NM) : flatN (s :: r) = s.cells ++ flatN r := rfl
theorem flatN_append (a b : List NM) : flatN (a ++ b) = flatN a ++ flatN b := by simp [flatN]
theorem flatN_length : ∀ ss : List NM, (flatN ss).length = ss.length * 2
  | [] => rfl
  | s :: r => by
    rw [flatN_cons, List.length_append, flatN_length r, List.length_cons]
    show 2 + r.length * 2 = _
    omega
theorem flatN_take : ∀ (ss : List NM) (i : Nat), (flatN ss).take (i * 2) = flatN (ss.take i)
  | [], i => by simp [flatN]
  | s :: r, 0 => by simp [flatN]
  | s :: r, i + 1 => by
    rw [flatN_cons, List.take_succ_cons, flatN_cons, ← flatN_take r i, show (i + 1) * 2 = s.cells.length + i * 2 by show _ = 2 + i * 2; omega, List.take_length_add_append]
theorem flatN_drop : ∀ (ss : List NM) (i : Nat), (flatN ss).drop (i * 2) = flatN (ss.drop i)
  | [], i => by simp [flatN]
  | s :: r, 0 => by simp
  | s :: r, i + 1 => by
    rw [flatN_cons, List.drop_succ_cons, ← flatN_drop r i, show (i + 1) * 2 = s.cells.length + i * 2 by show _ = 2 + i * 2; omega, List.drop_length_add_append]
theorem flatN_get {s : NM} : ∀ {ss : List NM} {i : Nat}, ss[i]? = some s → ∀ {k : Nat} {u : Value}, s.cells[k]? = some u → (flatN ss)[i * 2 + k]? = some u
  | [], i, h, _, _, _ => by simp at h
  | x :: r, 0, h, k, u, hu => by
    simp only [List.getElem?_cons_zero, Option.some.injEq] at h
    subst h
    rw [flatN_cons, List.getElem?_append_left (by have := (List.getElem?_eq_some_iff.1 hu).1; omega)]
    rw [Nat.zero_mul, Nat.zero_add]; exact hu
  | x :: r, i + 1, h, k, u, hu => by
    have := flatN_get (ss := r) (i := i) (by simpa using h) hu
    rw [flatN_cons, List.getElem?_append_right (by show 2 ≤ _; omega)]
    rw [show (i + 1) * 2 + k - x.cells.length = i * 2 + k by show (i + 1) * 2 + k - 2 = _; omega]
    exact this
theorem flatN_set {s s' : NM} {k : Nat} {u : Value} (hk : k < 2) (hc : s.cells.set k u = s'.cells) : ∀ {ss : List NM} {i : Nat}, ss[i]? = some s → (flatN ss).set (i * 2 + k) u = flatN (ss.set i s')
  | [], i, h => by simp at h
  | x :: r, 0, h => by
    simp only [List.getElem?_cons_zero, Option.some.injEq] at h
    subst h
    rw [flatN_cons, Nat.zero_mul, Nat.zero_add, List.set_append_left _ _ (by show k < 2; omega), hc]
    rfl
  | x :: r, i + 1, h => by
    have := flatN_set (s' := s') hk hc (ss := r) (i := i) (by simpa using h)
    rw [flatN_cons, List.set_append_right _ _ (by show 2 ≤ _; omega), show (i + 1) * 2 + k - x.cells.length = i * 2 + k by show (i + 1) * 2 + k - 2 = _; omega, this]
    rfl

def NRw (w : World) (v : Value) (ss : List NM) : Prop := w.ownsRow 0 42 2 v ss.length (flatN ss)
theorem info_name : (Try.prog.info? 42).map (fun i => (i.size, i.bytes)) = some (2, 24) := by kernel_rfl

section
variable {w w' : World} {v : Value} {ss : List NM} {S : List Nat}
theorem NRw.nil (w : World) : NRw w (.slice none 0 0) [] := ⟨by simp [flatN], .inl ⟨rfl, by simp⟩⟩
theorem NRw.blk (h : NRw w v ss) (hn : 0 < ss.length) : ∃ b cap cur, v = .slice (some ⟨b, 0, none⟩) ss.length cap ∧ Blk w b 42 (flatN ss ++ cur).toArray ∧ ss.length * 2 + cur.length = cap * 2 ∧ ss.length ≤ cap ∧ cap ≤ maxLen := by
  rcases h.2 with ⟨_, h0⟩ | ⟨b, cap, cur, e, hB, hg, hnc, hm, hs, ht⟩
  · omega
  · refine ⟨b, cap, cur.toList.drop (ss.length * 2), e, ?_, ?_, hnc, hm⟩
    · have : flatN ss ++ cur.toList.drop (ss.length * 2) = cur.toList := by
        rw [show flatN ss = cur.toList.take (ss.length * 2) from ht.symm, List.take_append_drop]
      rw [this]
      exact hg
    · simp [hs]; omega
theorem NRw.of_blk {b cap : Nat} {cur : List Value} (hb : Blk w b 42 (flatN ss ++ cur).toArray) (hl : ss.length * 2 + cur.length = cap * 2) (hm : cap ≤ maxLen) : NRw w (.slice (some ⟨b, 0, none⟩) ss.length cap) ss := by
  refine ⟨flatN_length ss, .inr ⟨b, cap, _, rfl, Nat.zero_le _, hb, by omega, hm, by simp [flatN_length]; omega, ?_⟩⟩
  have := flatN_length ss
  simp [this]
theorem NRw.form (h : NRw w v ss) : ∃ A cap, v = .slice A ss.length cap ∧ (0 < ss.length → ∃ b, A = some ⟨b, 0, none⟩ ∧ b < w.heap.size) := by
  rcases h.2 with ⟨e, h0⟩ | ⟨b, cap, cur, e, hB, hg, rest⟩
  · exact ⟨none, 0, by rw [e, h0], fun hp => absurd hp (by omega)⟩
  · exact ⟨some ⟨b, 0, none⟩, cap, e, fun _ => ⟨b, rfl, Blk.lt (t := 42) hg⟩⟩
theorem NRw.cell (h : NRw w v ss) {A : Option Addr} {n cap : Nat} (hv : v = .slice A n cap) {b : Nat} {o : Nat} (hA : A = some ⟨b, o, none⟩) {i : Nat} {s : NM} (hs : ss[i]? = some s) :
    w.cell? ⟨b, i * 2, none⟩ = some (.int .i64 s.dir) ∧ w.cell? ⟨b, i * 2 + 1, none⟩ = some (.string s.name) := by
  have hi := (List.getElem?_eq_some_iff.1 hs).1
  obtain ⟨b', cap', cur, e, hb, _⟩ := h.blk (by omega)
  rw [hv, hA] at e
  injection e with e
  injection e with e
  injection e with e
  subst e
  have hc : ∀ k u, s.cells[k]? = some u → w.cell? ⟨b, i * 2 + k, none⟩ = some u := fun k u hk => by
    have h1 := flatN_get hs hk
    rw [hb.cell, List.getElem?_toArray, List.getElem?_append_left (List.getElem?_eq_some_iff.1 h1).1]
    exact h1
  exact ⟨hc 0 _ rfl, hc 1 _ rfl⟩
theorem NRw.only (h : NRw w v ss) (ho : Only S w w') (hs : ∀ k, v.ownBlock = some k → k ∉ S) : NRw w' v ss := ownsRow_only' h ho hs
theorem NRw.drewN (h : NRw w v ss) (n : Nat) : NRw (w.drewN n) v ss := h
theorem NRw.at_ (h : NRw w v ss) {q : Nat} (hq : v.ownBlock = some q) : q < w.heap.size ∧ ∀ t cs, Blk w q t cs → t = 42 := by
  rcases h.2 with ⟨e', h0⟩ | ⟨b, cap, cur, e', hB, hg, hn, hm, hs, ht⟩
  · rw [e'] at hq; simp [Value.ownBlock] at hq
  · rw [e'] at hq
    simp only [Value.ownBlock, Option.some.injEq] at hq
    subst hq
    refine ⟨Blk.lt hg, fun t cs hb => ?_⟩
    unfold Blk at hb
    rw [hg] at hb
    injection hb with hb
    injection hb with _ hb
    exact hb.symm
theorem NRw.apart (h : NRw w v ss) {q : Nat} {t : TypeId} {cs : Array Value} (hb : Blk w q t cs) (ht : t ≠ 42) : ∀ j, v.ownBlock = some j → j ≠ q := by
  rintro j hj rfl
  exact ht ((h.at_ hj).2 _ _ hb)
/-- One cell of one seat is written. -/
theorem NRw.put (h : NRw w v ss) {A : Option Addr} {n cap : Nat} (hv : v = .slice A n cap) {b : Nat} {o : Nat} (hA : A = some ⟨b, o, none⟩) {i k : Nat} {s s' : NM} {u : Value} (hk : k < 2) (hs : ss[i]? = some s) (hc : s.cells.set k u = s'.cells) :
    NRw (w.setCell ⟨b, i * 2 + k, none⟩ u) v (ss.set i s') := by
  have hi := (List.getElem?_eq_some_iff.1 hs).1
  obtain ⟨b', cap', cur, e, hb, hl, hcap, hm⟩ := h.blk (by omega)
  have e' := e
  rw [hv, hA] at e'
  injection e' with e'
  injection e' with e'
  injection e' with e'
  subst e'
  have h1 := hb.set_ (i * 2 + k) u
  rw [List.setIfInBounds_toArray, List.set_append_left _ _ (by rw [flatN_length]; omega), flatN_set hk hc hs] at h1
  rw [e]
  have := NRw.of_blk (ss := ss.set i s') (cap := cap') h1 (by rw [List.length_set]; exact hl) hm
  rw [List.length_set] at this
  exact this
end
end Go.Proofs.Ytjpojoflbjhjjaa
