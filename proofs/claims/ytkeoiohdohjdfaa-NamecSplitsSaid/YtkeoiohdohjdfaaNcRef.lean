/-
  The document's Split (parapet/parapetref19): what it answers.
-/
import Derived.Test.YtkeoiohdohjdfaaNcPathP
import Derived.Test.YtkeoiohdohjdfaaNmEq
import Derived.Laws.IdiomStrings
namespace Go.Proofs.Ytkeoiohdohjdfaa
open Go.ChangeShapes Go.WideShapes Go.ChangeAt Go.RowKit
set_option linter.unusedVariables false
set_option linter.unusedSimpArgs false
theorem info_str : (Try.prog.info? 9).map (fun i => (i.zero, i.size, i.bytes)) = some (some (.string ⟨#[]⟩), 1, 16) := by kernel_rfl
section
variable {w w' : World} {B : Nat} {v : Value} {ss zs : List ByteArray} {S : List Nat}
theorem strL_one (ns : List ByteArray) : ∀ u ∈ ns.map Value.string, u.oneCell' = true := by
  intro u hu
  obtain ⟨x, _, rfl⟩ := List.mem_map.1 hu
  rfl
/-- append of one text. -/
theorem wp_append_text {o : Oper} {a : Act} {K : Act → World → Prop} {Q : Exit → Act → World → Prop} (s x : Operand)
    (ho : o.op = .call { callee := .builtin .append, args := #[s, x], argTypes := #[22, 22] }) (hs : a.eval s = v) (hr : TRw w B v ss) (hB : B ≤ w.heap.size)
    (ad : Addr) (c : Nat) (y : ByteArray) (hx : a.eval x = .slice (some ad) 1 c) (hy : w.cell? ad = some (.string y)) (hbig : ss.length < 1000000)
    (hK : ∀ v' w2, TRw w2 B v' (ss ++ [y]) → Only v.ownBlock.toList w w2 → (∀ k, v'.ownBlock = some k → v.ownBlock = some k ∨ w.heap.size ≤ k) → K (a.put o.dst v') w2) : Oper.wp Try.prog o a w K Q := by
  obtain ⟨i0, hi0, hz0, hz1, hz2⟩ := info_parts info_str
  obtain ⟨v', w', hrun, h2, h3, _, h5⟩ := run_append_own_at (P := Try.prog) w B 22 o.type 9 i0 _ 1 16 Try.underlying22 hi0 hz0 hz1 hz2 rfl (by decide) v ss.length (ss.map Value.string) hr ad 1 c [.string y] (by simp) (fun j u hj => by
    have hj0 : j = 0 := by have := (List.getElem?_eq_some_iff.1 hj).1; simpa using this
    subst hj0
    simp at hj
    subst hj
    simpa [Addr.add] using hy) (strL_one [y]) (by unfold maxLen; omega) (by omega) hB
  unfold Oper.wp
  simp [execOp, ho, resolve, invoke, builtin, hs, hx, hrun, Result.andThen]
  refine hK v' w' ?_ (only_grown' h3) (fun k hk => ?_)
  · unfold TRw
    rw [List.length_append, List.map_append]
    exact h2
  · rcases h5 with h5 | h5
    · exact .inl (h5 ▸ hk)
    · rw [h5] at hk
      injection hk with hk
      exact .inr (Nat.le_of_eq hk)
theorem wpList_append_text {ops : Array Oper} {rest : List Oper} {o : Oper} {a : Act} {Q : Exit → Act → World → Prop} (hgd : o.guard = none) (s x : Operand)
    (ho : o.op = .call { callee := .builtin .append, args := #[s, x], argTypes := #[22, 22] }) (hs : a.eval s = v) (hr : TRw w B v ss) (hB : B ≤ w.heap.size)
    (ad : Addr) (c : Nat) (y : ByteArray) (hx : a.eval x = .slice (some ad) 1 c) (hy : w.cell? ad = some (.string y)) (hbig : ss.length < 1000000)
    (hK : ∀ v' w2, TRw w2 B v' (ss ++ [y]) → Only v.ownBlock.toList w w2 → (∀ k, v'.ownBlock = some k → v.ownBlock = some k ∨ w.heap.size ≤ k) → wpList Try.prog ops Q rest (a.put o.dst v') w2) : wpList Try.prog ops Q (o :: rest) a w :=
  wpList_plain hgd fun _ hK' => wp_append_text s x ho hs hr hB ad c y hx hy hbig fun v' w2 h1 h2 h3 => hK' _ _ (hK v' w2 h1 h2 h3)
theorem TRw.at_ (h : TRw w B v ss) {q : Nat} (hq : v.ownBlock = some q) : B ≤ q ∧ q < w.heap.size := by
  rcases h.2 with ⟨e', h0⟩ | ⟨b, cap, cur, e', hB, hg, hn, hm, hs, ht⟩
  · rw [e'] at hq; simp [Value.ownBlock] at hq
  · rw [e'] at hq
    simp only [Value.ownBlock, Option.some.injEq] at hq
    subst hq
    exact ⟨hB, Blk.lt (t := 9) hg⟩
end
/-- The document's loop, plainly. -/
def refS : List UInt8 → List ByteArray → List UInt8 → Option (List ByteArray)
  | [], out, name => if 14 < name.length then none else some (if name = [] then out else out ++ [mkB name])
  | c :: t, out, name => if c = 47 then (if 14 < name.length then none else refS t (if name = [] then out else out ++ [mkB name]) []) else if c = 0 then none else refS t out (name ++ [c])
theorem refS_eq : ∀ (l : List UInt8) (out : List ByteArray) (name : List UInt8), refS l out name = if (0 ∈ l ∨ (fldB l name).any (fun x => decide (14 < x.length)) = true) then none else some (out ++ (fldB l name).map mkB)
  | [], out, name => by
    by_cases hn : name = []
    · subst hn; simp [refS, fldB]
    · by_cases hl : 14 < name.length <;> simp [refS, fldB, hn, hl]
  | c :: t, out, name => by
    by_cases hc : c = 47
    · subst hc
      by_cases hn : name = []
      · subst hn
        simp only [refS, fldB, if_true, List.length_nil]
        rw [if_neg (by omega), refS_eq t out []]
        simp
      · by_cases hl : 14 < name.length
        · simp [refS, fldB, hn, hl]
        · simp only [refS, fldB, if_true, hn, if_false, hl]
          rw [refS_eq t (out ++ [mkB name]) []]
          simp [hl]
    · by_cases h0 : c = 0
      · subst h0
        simp [refS]
      · simp only [refS, fldB, if_neg hc, if_neg h0]
        rw [refS_eq t out (name ++ [c])]
        simp [Ne.symm h0]
def finP : Option (List ByteArray) → Option (List ByteArray)
  | none => none
  | some o => if 32 < o.length then none else some o
def refP (s : ByteArray) : Option (List ByteArray) :=
  if s.data.toList.length < 1 ∨ 64 < s.data.toList.length ∨ s.data.toList.getD 0 0 ≠ 47 then none
  else finP (refS s.data.toList [] [])
theorem splitP_eq (s : ByteArray) : splitP s = refP s := by
  have hsz : s.size = s.data.toList.length := Lib.size_eq s
  unfold splitP refP
  rw [fields_eq, refS_eq, hsz]
  generalize s.data.toList = l
  have hpre : Lib.hasPrefix l [47] = false ↔ (l.length < 1 ∨ l.getD 0 0 ≠ 47) := by
    cases l with
    | nil => simp [Lib.hasPrefix, List.isPrefixOf]
    | cons a t =>
      by_cases ha : a = 47
      · subst ha; simp [Lib.hasPrefix, List.isPrefixOf]
      · simp [Lib.hasPrefix, List.isPrefixOf, ha, Ne.symm ha]
  have hz : 0 ≤ Lib.indexByte l 0 ↔ 0 ∈ l := by
    constructor
    · intro h
      obtain ⟨o, ho⟩ : ∃ o : Nat, Lib.indexByte l 0 = o := ⟨(Lib.indexByte l 0).toNat, by omega⟩
      exact List.mem_of_getElem? (Lib.indexByte_some ho).1
    · intro h
      obtain ⟨k, hk, e⟩ := List.mem_iff_getElem.1 h
      have h1 := Lib.indexByte_ge l 0
      rcases Int.lt_or_le (Lib.indexByte l 0) 0 with h2 | h2
      · have h3 : Lib.indexByte l 0 = -1 := by omega
        exact absurd (by rw [List.getElem?_eq_getElem hk, e]) (Lib.indexByte_none h3 k)
      · exact h2
  have hany : ((fldB l []).map mkB).any (fun x => decide ((14 : Int) < x.size)) = (fldB l []).any (fun x => decide (14 < x.length)) := by
    rw [List.any_map]
    congr 1
    funext x
    show decide ((14 : Int) < ((mkB x).size : Int)) = decide (14 < x.length)
    have : (mkB x).size = x.length := by simp [mkB, ByteArray.size]
    rw [this]
    by_cases h : 14 < x.length
    · rw [decide_eq_true h, decide_eq_true (by omega)]
    · rw [decide_eq_false h, decide_eq_false (by omega)]
  rw [hany, List.length_map]
  by_cases h64 : 64 < l.length
  · rw [if_pos (.inl h64), if_pos (.inr (.inl h64))]
  by_cases hp : Lib.hasPrefix l [47] = false
  · rw [if_pos (.inr (.inl hp)), if_pos ((hpre.1 hp).imp_right .inr)]
  by_cases h0 : 0 ∈ l
  · rw [if_pos (.inr (.inr (hz.2 h0))), if_pos (show 0 ∈ l ∨ _ from .inl h0), if_neg (show ¬ (l.length < 1 ∨ 64 < l.length ∨ l.getD 0 0 ≠ 47) from fun h => h.elim (fun h => hp (hpre.2 (.inl h))) (fun h => h.elim h64 (fun h => hp (hpre.2 (.inr h)))))]
    rfl
  rw [if_neg (fun h => h.elim h64 (fun h => h.elim hp (fun h => h0 (hz.1 h)))), if_neg (show ¬ (l.length < 1 ∨ 64 < l.length ∨ l.getD 0 0 ≠ 47) from fun h => h.elim (fun h => hp (hpre.2 (.inl h))) (fun h => h.elim h64 (fun h => hp (hpre.2 (.inr h)))))]
  by_cases ha : (fldB l []).any (fun x => decide (14 < x.length)) = true
  · rw [if_pos (.inr ha), if_pos (show 0 ∈ l ∨ _ from .inr ha)]
    rfl
  · rw [if_neg (show ¬ (0 ∈ l ∨ _) from fun h => h.elim h0 ha)]
    simp only [finP, List.nil_append, List.length_map]
    by_cases h32 : 32 < (fldB l []).length
    · rw [if_pos (.inl h32), if_pos h32]
    · rw [if_neg (fun h => h.elim h32 ha), if_neg h32]
end Go.Proofs.Ytkeoiohdohjdfaa
