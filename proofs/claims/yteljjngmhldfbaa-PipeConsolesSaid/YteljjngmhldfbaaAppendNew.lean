/-
  'append([]byte{}, xs...)': a new slice of the same bytes, xs nil, empty or not: as a law for the walk.
-/
import Derived.Test.YteljjngmhldfbaaClone
import Derived.Laws.AppendOwnNone
namespace Go.Proofs.Yteljjngmhldfbaa
open Go.ChangeShapes Go.WideShapes Go.ChangeAt Go.RowKit
set_option linter.unusedVariables false

/-- A slice of bytes reads as a list; nil let in. -/
def Sees (w : World) (A : Option Addr) (n : Nat) (xs : List Int) : Prop :=
  xs.length = n ∧ (0 < n → ∃ b o, A = some ⟨b, o, none⟩ ∧ b < w.heap.size ∧ ∀ i, i < n → w.cell? ⟨b, o + i, none⟩ = some (.int .u8 (gb xs i)))
theorem Sees.only {w w' : World} {A : Option Addr} {n : Nat} {xs : List Int} {S : List Nat} (h : Sees w A n xs) (ho : Only S w w') (hs : 0 < n → ∀ b, A = some b → b.block < w.heap.size → b.block ∉ S) : Sees w' A n xs := by
  refine ⟨h.1, fun hn => ?_⟩
  obtain ⟨b, o, rfl, hb, hc⟩ := h.2 hn
  exact ⟨b, o, rfl, Nat.lt_of_lt_of_le hb ho.size, fun i hi => (ho.cell hb (hs hn _ rfl hb)).trans (hc i hi)⟩
theorem Fresh.sees {w : World} {B : Nat} {v : Value} {xs : List Int} (h : Fresh w B v xs) : ∃ d c, v = .slice (some ⟨d, 0, none⟩) xs.length c ∧ B ≤ d ∧ Sees w (some ⟨d, 0, none⟩) xs.length xs := by
  obtain ⟨d, c, r, rfl, hB, hb, hl⟩ := h
  exact ⟨d, c, rfl, hB, rfl, fun _ => ⟨d, 0, rfl, hb.lt, fun i hi => by rw [Nat.zero_add, hb.cell]; exact u8l_get xs r i hi⟩⟩

theorem wpList_append_new {ops : Array Oper} {rest : List Oper} {o : Oper} {a : Act} {Q : Exit → Act → World → Prop} (hgd : o.guard = none) (s x : Operand)
    (ho : o.op = .call { callee := .builtin .append, args := #[s, x], argTypes := #[29, 29] }) (w : World) (B k : Nat) (hs : a.eval s = .slice (some ⟨k, 0, none⟩) 0 0) (hB : B ≤ k) (hk : Blk w k 5 #[])
    (A : Option Addr) (n c : Nat) (hx : a.eval x = .slice A n c) (hA : A = none → n = 0 ∧ c = 0) (xs : List Int) (hy : Sees w A n xs) (hbig : n ≤ 140737488355328)
    (h : ∀ v' w1, Fresh w1 B v' xs → Only [k] w w1 → wpList Try.prog ops Q rest (a.put o.dst v') w1) : wpList Try.prog ops Q (o :: rest) a w := by
  obtain ⟨i0, hi, hz0, hz1, hz2⟩ := info_parts info_u8
  have hown : w.ownsRow B 5 1 (.slice (some ⟨k, 0, none⟩) 0 0) 0 [] := ⟨by simp, .inr ⟨k, 0, #[], rfl, hB, hk, Nat.le_refl _, Nat.zero_le _, rfl, by simp⟩⟩
  rcases A with _ | ad
  · obtain ⟨rfl, rfl⟩ := hA rfl
    have hnil : xs = [] := List.eq_nil_of_length_eq_zero hy.1
    subst hnil
    refine wpList_append_own_none hgd s x 29 ho B 5 i0 1 Try.underlying29 hi _ 0 [] hs hown hx ?_
    exact h _ w ⟨k, 0, [], rfl, hB, by simpa [u8l] using hk, rfl⟩ (Only.refl _ _)
  · refine wpList_append_own w hgd s x 29 ho B 5 i0 (.int .u8 0) 1 1 Try.underlying29 hi hz0 hz1 hz2 rfl (by decide) _ 0 [] hs hown ad n c (u8l xs) hx (by rw [u8l_length]; have := hy.1; omega) ?_ (u8l_one xs) (by unfold maxLen; omega) (by omega) (Nat.le_trans hB (Nat.le_of_lt hk.lt)) ?_
    · intro j u hj
      have hjn : j < xs.length := by
        have := (List.getElem?_eq_some_iff.1 hj).1
        rw [u8l_length] at this
        exact this
      obtain ⟨b, q, hb, _, hc⟩ := hy.2 (by have := hy.1; omega)
      have hb' : ad = ⟨b, q, none⟩ := by injection hb
      rw [hb', add_at, hc j (by have := hy.1; omega)]
      have e : (u8l xs)[j]? = some (Value.int .u8 (gb xs j)) := by simp [u8l, gb, List.getD, List.getElem?_eq_getElem hjn]
      rw [e] at hj
      exact hj
    · intro v' w1 hown1 hgrow hnil
      refine h v' w1 (Fresh.of_own (n := n) (by simpa using hown1) ?_) (Only.of_grown hgrow ?_)
      · intro e
        exact absurd (hnil.1 e).1 (by simp)
      · intro k' hk' _
        simp [Value.ownBlock] at hk'
        simp [hk']
end Go.Proofs.Yteljjngmhldfbaa
