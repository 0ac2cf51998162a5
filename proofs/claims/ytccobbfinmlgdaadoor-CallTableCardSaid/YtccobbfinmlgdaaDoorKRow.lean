/-
  Rows of integers of one's own that grow by append: 'KRow k e w B v ns': v is a slice of the numbers ns (kind k, element type e) whose block, if it has one, lies at B or beyond and is nobody else's.
-/
import Derived.Test.YtccobbfinmlgdaaDoorClone
namespace Go.Proofs.YtccobbfinmlgdaaDoor
open Go.ChangeShapes Go.WideShapes Go.ChangeAt Go.RowKit
set_option linter.unusedVariables false

def KRow (k : IntKind) (e : TypeId) (w : World) (B : Nat) (v : Value) (ns : List Int) : Prop := w.ownsRow B e 1 v ns.length (ns.map (Value.int k))
theorem info_int : (Tryd.prog.info? 3).map (fun i => (i.zero, i.size, i.bytes)) = some (some (.int .i64 0), 1, 8) := by kernel_rfl

theorem ownsRow_only' {w w' : World} {base e size n : Nat} {v : Value} {xs : List Value} {S : List Nat} (h : w.ownsRow base e size v n xs) (ho : Only S w w') (hs : ∀ k, v.ownBlock = some k → k ∉ S) : w'.ownsRow base e size v n xs := by
  obtain ⟨hl, h⟩ := h
  refine ⟨hl, ?_⟩
  rcases h with hn | ⟨k, cap, cur, rfl, hb, hg, rest⟩
  · exact .inl hn
  · exact .inr ⟨k, cap, cur, rfl, hb, Blk.only hg ho (hs k rfl), rest⟩

theorem only_grown' {w w' : World} {row : Option Nat} (h : w.grownBy w' row) : Only row.toList w w' := Only.of_grown h (fun k hk _ => by rw [hk]; simp)

section
variable {k : IntKind} {e : TypeId} {w w' : World} {B : Nat} {v : Value} {ns : List Int} {S : List Nat}
theorem KRow.only (h : KRow k e w B v ns) (ho : Only S w w') (hs : ∀ q, v.ownBlock = some q → q ∉ S) : KRow k e w' B v ns := ownsRow_only' h ho hs
theorem KRow.nil (k : IntKind) (e : TypeId) (w : World) (B : Nat) : KRow k e w B (.slice none 0 0) [] := ⟨by simp, .inl ⟨rfl, by simp⟩⟩
theorem KRow.form (h : KRow k e w B v ns) : ∃ A cap, v = .slice A ns.length cap ∧ (0 < ns.length → ∃ b, A = some ⟨b, 0, none⟩ ∧ B ≤ b ∧ b < w.heap.size ∧ ∀ i, i < ns.length → w.cell? ⟨b, i, none⟩ = some (.int k (gb ns i))) := by
  rcases h.2 with ⟨e, h0⟩ | ⟨b, cap, cur, e, hB, hg, hn, hm, hs, ht⟩
  · have h1 : ns.length = 0 := by simpa using h0
    exact ⟨none, 0, by rw [e, h1], fun hp => absurd hp (by omega)⟩
  · refine ⟨some ⟨b, 0, none⟩, cap, e, fun _ => ⟨b, rfl, hB, Blk.lt hg, fun i hi => ?_⟩⟩
    rw [Blk.cell hg]
    have : cur[i]? = (ns.map (Value.int k))[i]? := by
      rw [← ht, List.getElem?_take]
      simp [hi]
    rw [this]
    simp [gb, List.getD, List.getElem?_eq_getElem hi]
theorem KRow.at_ (h : KRow k e w B v ns) {q : Nat} (hq : v.ownBlock = some q) : B ≤ q ∧ q < w.heap.size ∧ ∀ t cs, Blk w q t cs → t = e := by
  rcases h.2 with ⟨e', h0⟩ | ⟨b, cap, cur, e', hB, hg, hn, hm, hs, ht⟩
  · rw [e'] at hq; simp [Value.ownBlock] at hq
  · rw [e'] at hq
    simp only [Value.ownBlock, Option.some.injEq] at hq
    subst hq
    refine ⟨hB, Blk.lt hg, fun t cs hb => ?_⟩
    unfold Blk at hb
    rw [hg] at hb
    injection hb with hb
    injection hb with _ hb
    exact hb.symm
/-- A block of another element type is another block. -/
theorem KRow.apart (h : KRow k e w B v ns) {q : Nat} {t : TypeId} {cs : Array Value} (hb : Blk w q t cs) (ht : t ≠ e) : ∀ j, v.ownBlock = some j → j ≠ q := by
  rintro j hj rfl
  exact ht ((h.at_ hj).2.2 _ _ hb)
theorem KRow.grew {w0 : World} (h : KRow k e w B v ns) (hg : w.grownBy w' v.ownBlock) (ho : Only S w0 w) (hB : w0.heap.size ≤ B) : Only S w0 w' :=
  ho.trans' (only_grown' hg) (fun q hq hm => by
    have hm' : v.ownBlock = some q := by simpa using hm
    have := (h.at_ hm').1
    omega)
/-- A literal of one element. -/
theorem KRow.one {q : Nat} {x : Int} (hb : Blk w q e #[.int k x]) (hB : B ≤ q) : KRow k e w B (.slice (some ⟨q, 0, none⟩) 1 1) [x] :=
  ⟨by simp, .inr ⟨q, 1, #[.int k x], rfl, hB, hb, by simp, by unfold maxLen; omega, rfl, rfl⟩⟩

theorem wpList_append_k {ops : Array Oper} {rest : List Oper} {o : Oper} {a : Act} {Q : Exit → Act → World → Prop} {T : TypeId} {bytes : Nat} (hT : Tryd.prog.underlying T = some (.slice e))
    (hinfo : (Tryd.prog.info? e).map (fun i => (i.zero, i.size, i.bytes)) = some (some (.int k 0), 1, bytes)) (hb8 : bytes ≤ 8) (hgd : o.guard = none) (s x : Operand)
    (ho : o.op = .call { callee := .builtin .append, args := #[s, x], argTypes := #[T, T] }) (w : World) (hs : a.eval s = v) (hrow : KRow k e w B v ns)
    (q : Nat) (z : Int) (hx : a.eval x = .slice (some ⟨q, 0, none⟩) 1 1) (hc : w.cell? ⟨q, 0, none⟩ = some (.int k z)) (hlen : ns.length < 4000000000000) (hB : B ≤ w.heap.size)
    (h : ∀ v' w1, KRow k e w1 B v' (ns ++ [z]) → w.grownBy w1 v.ownBlock → wpList Tryd.prog ops Q rest (a.put o.dst v') w1) : wpList Tryd.prog ops Q (o :: rest) a w := by
  obtain ⟨i0, hi, hz0, hz1, hz2⟩ := info_parts hinfo
  refine wpList_append_own w hgd s x T ho B e i0 _ 1 bytes hT hi hz0 hz1 hz2 rfl (by decide) v ns.length (ns.map (Value.int k)) hs hrow ⟨q, 0, none⟩ 1 1 [.int k z] hx rfl ?_ ?_ (by unfold maxLen; omega) ?_ hB ?_
  · intro j u hj
    have h0 : j = 0 := by
      have := (List.getElem?_eq_some_iff.1 hj).1
      simp at this
      exact this
    subst h0
    rw [add_at, hc]
    exact hj
  · intro u hu
    obtain rfl := List.mem_singleton.1 hu
    rfl
  · have : (ns.length + 1) * bytes ≤ 4000000000000 * 8 := Nat.mul_le_mul (by omega) hb8
    omega
  · intro v' w1 hown hgrow _
    refine h v' w1 ?_ hgrow
    unfold KRow
    rw [List.length_append, List.length_singleton, List.map_append]
    exact hown
end
end Go.Proofs.YtccobbfinmlgdaaDoor
