/-
  The gate's law 'ResvNeverFails': ids are apart; what Take leaves of those who take all.
-/
import Derived.Test.YtflgcnlncljefaaResvBackWalk
namespace Go.Proofs.Ytflgcnlncljefaa
open Go.ChangeShapes Go.WideShapes Go.ChangeAt Go.RowKit Go.Deep
set_option linter.unusedVariables false

/-- No two seats have one id. -/
def Nod (ss : List ST) : Prop := (ss.map ST.id).Nodup
theorem admitGo_ids (H L : Int) : ∀ (ss : List ST) (R : Int), (admitGo H L R ss).2.1.map ST.id = ss.map ST.id
  | [], R => rfl
  | s :: r, R => by
    rw [admitGo]
    split
    · split
      · rfl
      · simp [admitGo_ids H L r]
    · simp [admitGo_ids H L r]
theorem admS_ids (H L : Int) (ss : List ST) : (admS H L ss).1.map ST.id = ss.map ST.id := admitGo_ids H L ss _
theorem Nod.adm {ss : List ST} (h : Nod ss) (H L : Int) : Nod (admS H L ss).1 := by unfold Nod; rw [admS_ids]; exact h
theorem Nod.erase {ss : List ST} (h : Nod ss) (i : Nat) : Nod (ss.eraseIdx i) :=
  List.Nodup.sublist ((List.eraseIdx_sublist ss i).map _) h
theorem Nod.set {ss : List ST} (h : Nod ss) {i : Nat} {s t : ST} (hs : ss[i]? = some s) (ht : t.id = s.id) : Nod (ss.set i t) := by
  unfold Nod
  have hi := (List.getElem?_eq_some_iff.1 hs).1
  rw [List.map_set, ht]
  have : (ss.map ST.id).set i s.id = ss.map ST.id := by
    have e : s.id = (ss.map ST.id)[i]'(by simpa using hi) := by rw [List.getElem_map, (List.getElem?_eq_some_iff.1 hs).2]
    rw [e, List.set_getElem_self]
  rw [this]; exact h
theorem Nod.at_ {ss : List ST} (h : Nod ss) {i : Nat} {s : ST} (hs : ss[i]? = some s) : atI ss s.id = i := by
  refine atI_yes hs rfl (fun j s' hj hs' he => ?_)
  have hi := (List.getElem?_eq_some_iff.1 hs).1
  have h1 : (ss.map ST.id)[j]'(by simp; omega) = (ss.map ST.id)[i]'(by simpa using hi) := by
    rw [List.getElem_map, List.getElem_map, (List.getElem?_eq_some_iff.1 hs).2, (List.getElem?_eq_some_iff.1 hs').2, he]
  exact List.pairwise_iff_getElem.1 h j i (by simp; omega) (by simpa using hi) hj h1
theorem Nod.enter {H : Int} {s : GS} (h : Nod s.ss) (id b : Int) : Nod (enterF H s id b).2.2.ss := by
  unfold enterF
  split
  · exact h
  · split
    · exact h
    · rename_i hn
      split
      · exact h
      · split
        · exact h
        · refine Nod.adm ?_ _ _
          unfold Nod
          rw [List.map_append]
          refine List.nodup_append.2 ⟨h, by simp, fun a ha b hb => ?_⟩
          simp only [List.map_cons, List.map_nil, List.mem_singleton] at hb
          subst hb
          rintro rfl
          obtain ⟨t, ht, e⟩ := List.mem_map.1 ha
          rcases atI_cases s.ss a with ⟨_, hall⟩ | ⟨i, t', _, _, e', _⟩
          · exact hall t ht e
          · omega
theorem Nod.take {s : GS} (h : Nod s.ss) (id n : Int) : Nod (takeF s id n).2.ss := by
  unfold takeF
  split
  · exact h
  · split
    · exact h
    · split
      · exact h
      · rename_i t ht
        split
        · exact h
        · exact h.set ht rfl
theorem Nod.give {H : Int} {s : GS} (h : Nod s.ss) (n : Int) : Nod (giveF H s n).2.2.ss := by
  unfold giveF
  split
  · exact h
  · exact Nod.adm h _ _
theorem Nod.leave {H : Int} {s : GS} (h : Nod s.ss) (id : Int) : Nod (leaveF H s id).2.2.ss := by
  unfold leaveF
  split
  · exact h
  · exact Nod.adm (h.erase _) _ _

theorem take_in {L : Int} {ss : List ST} (h : Nod ss) {i : Nat} {t : ST} (ht : ss[i]? = some t) (hw : t.waits = false) {n : Int} (h0 : 0 ≤ n) (hn : n ≤ t.bound) :
    takeF ⟨L, ss⟩ t.id n = (0, ⟨L + n, ss.set i { t with bound := t.bound - n, taken := t.taken + n }⟩) := by
  have ha := h.at_ ht
  have hin : inB ss t.id = true := by rw [inB_yes ht ha, hw]; rfl
  unfold takeF
  simp only []
  rw [if_neg (by omega), if_neg (by rw [hin]; simp), ha, Int.toNat_natCast, ht]
  simp only []
  rw [if_neg (by omega)]
theorem take_over {L : Int} {ss : List ST} (h : Nod ss) {i : Nat} {t : ST} (ht : ss[i]? = some t) (hw : t.waits = false) {n : Int} (h0 : 0 ≤ n) (hn : t.bound < n) :
    takeF ⟨L, ss⟩ t.id n = (90, ⟨L, ss⟩) := by
  have ha := h.at_ ht
  have hin : inB ss t.id = true := by rw [inB_yes ht ha, hw]; rfl
  unfold takeF
  simp only []
  rw [if_neg (by omega), if_neg (by rw [hin]; simp), ha, Int.toNat_natCast, ht]
  simp only []
  rw [if_pos hn]

/-- One who takes all that its bound allows. -/
def spend (t : ST) : ST := if t.waits = true then t else { t with bound := 0, taken := t.taken + t.bound }
def spent (cs : List ST) (i : Nat) : List ST := (cs.take i).map spend ++ cs.drop i
theorem spent_zero (cs : List ST) : spent cs 0 = cs := by simp [spent]
theorem spent_at {cs : List ST} {i : Nat} {t : ST} (h : cs[i]? = some t) : (spent cs i)[i]? = some t := by
  have hi := (List.getElem?_eq_some_iff.1 h).1
  unfold spent
  rw [List.getElem?_append_right (by simp; omega)]
  simp only [List.length_map, List.length_take]
  rw [List.getElem?_drop, show i + (i - min i cs.length) = i by omega]
  exact h
theorem spent_succ {cs : List ST} {i : Nat} {t : ST} (h : cs[i]? = some t) : spent cs (i + 1) = (spent cs i).set i (spend t) := by
  have hi := (List.getElem?_eq_some_iff.1 h).1
  unfold spent
  rw [List.take_succ_eq_append_getElem hi, List.map_append, List.set_append_right _ _ (by simp; omega)]
  simp only [List.length_map, List.length_take, List.map_cons, List.map_nil, List.append_assoc]
  rw [show i - min i cs.length = 0 by omega, List.drop_eq_getElem_cons hi, (List.getElem?_eq_some_iff.1 h).2]
  simp
theorem spent_wait {cs : List ST} {i : Nat} {t : ST} (h : cs[i]? = some t) (hw : t.waits = true) : spent cs (i + 1) = spent cs i := by
  rw [spent_succ h, show spend t = t by unfold spend; rw [if_pos hw]]
  have h1 := spent_at h
  have hi := (List.getElem?_eq_some_iff.1 h1).1
  have e := (List.getElem?_eq_some_iff.1 h1).2
  rw [← e, List.set_getElem_self]
theorem spent_nod {cs : List ST} (h : Nod cs) (i : Nat) : Nod (spent cs i) := by
  have : (spent cs i).map ST.id = cs.map ST.id := by
    unfold spent
    rw [List.map_append, List.map_map, show (ST.id ∘ spend) = ST.id from by funext t; simp only [Function.comp, spend]; split <;> rfl, ← List.map_append, List.take_append_drop]
  unfold Nod
  rw [this]
  exact h
theorem spent_all : ∀ cs : List ST, resvL (spent cs cs.length) = 0
  | [] => by simp [spent, resvL]
  | t :: r => by
    have ih := spent_all r
    unfold spent at ih ⊢
    simp only [List.length_cons, List.take_succ_cons, List.drop_succ_cons, List.map_cons, List.cons_append, resvL]
    rw [ih]
    unfold spend
    split
    · rename_i hw; simp
    · simp

/-- A gate in blocks of one's own from w on, none of them in bs. -/
def GtL (w wr : World) (g : Nat) (H : Int) (s : GS) (bs : List Nat) : Prop := ∃ F, Gt wr g H s F ∧ (∀ q ∈ F, w.heap.size ≤ q) ∧ Only [] w wr ∧ ∀ b ∈ bs, b ∉ F ∧ b < wr.heap.size
section
variable {w wr : World} {g : Nat} {H : Int} {s : GS} {bs : List Nat}
theorem GtL.gi (h : GtL w wr g H s bs) : GtI w wr g H s := by obtain ⟨F, h1, h2, h3, _⟩ := h; exact ⟨F, h1, h2, h3⟩
theorem GtI.gl (h : GtI w wr g H s) : GtL w wr g H s [] := by obtain ⟨F, h1, h2, h3⟩ := h; exact ⟨F, h1, h2, h3, by simp⟩
theorem GtL.only {wr' : World} (h : GtL w wr g H s bs) (ho : Only [] wr wr') : GtL w wr' g H s bs := by
  obtain ⟨F, h1, h2, h3, h4⟩ := h
  exact ⟨F, h1.only ho (by simp), h2, h3.trans ho, fun b hb => ⟨(h4 b hb).1, Nat.lt_of_lt_of_le (h4 b hb).2 ho.size⟩⟩
theorem GtL.box (h : GtL w wr g H s bs) {wr' : World} {b : Nat} (ho : Only [] wr wr') (hb : wr.heap.size ≤ b) (hl : b < wr'.heap.size) : GtL w wr' g H s (b :: bs) := by
  obtain ⟨F, h1, h2, h3, h4⟩ := h
  refine ⟨F, h1.only ho (by simp), h2, h3.trans ho, fun x hx => ?_⟩
  rcases List.mem_cons.1 hx with rfl | hx
  · exact ⟨fun hm => by have := h1.lt _ hm; omega, hl⟩
  · exact ⟨(h4 x hx).1, Nat.lt_of_lt_of_le (h4 x hx).2 ho.size⟩
theorem GtL.less {bs' : List Nat} (h : GtL w wr g H s bs) (hb : ∀ b ∈ bs', b ∈ bs) : GtL w wr g H s bs' := by
  obtain ⟨F, h1, h2, h3, h4⟩ := h
  exact ⟨F, h1, h2, h3, fun b h => h4 b (hb b h)⟩
theorem takeL (h : GtL w wr g H s bs) (id n : Int) : Calls Try.prog 15 #[.pointer (some ⟨g, 0, none⟩), .int .i64 id, .int .i64 n] wr fun e w' => e = .returned (.int .i64 (takeF s id n).1) ∧ GtL w w' g H (takeF s id n).2 bs ∧ ∀ b ∈ bs, ∀ o, w'.cell? ⟨b, o, none⟩ = wr.cell? ⟨b, o, none⟩ := by
  obtain ⟨F, h1, h2, h3, h4⟩ := h
  refine (gTake_is h1 id n).mono ?_
  rintro e w' ⟨he, F', ht, hg⟩
  obtain ⟨h6, h7⟩ := ht.new h3 h2
  refine ⟨he, ⟨F', hg, h7, h6, fun b hb => ⟨fun hm => ?_, Nat.lt_of_lt_of_le (h4 b hb).2 ht.1.size⟩⟩, fun b hb o => ht.1.cell (h4 b hb).2 (h4 b hb).1⟩
  rcases ht.2 b hm with h | h
  · exact (h4 b hb).1 h
  · have := (h4 b hb).2; omega
end
end Go.Proofs.Ytflgcnlncljefaa
