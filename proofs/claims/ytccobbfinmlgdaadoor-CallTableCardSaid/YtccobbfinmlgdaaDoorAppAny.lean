/-
  append of some ints, or none, behind a row (the texts of parapet/frame have the same in FrRow and FrOps).
-/
import Derived.Test.YtccobbfinmlgdaaDoorKRow
import Derived.Deep.RegionLaw
import Derived.Deep.AppendLies
import Derived.Laws.AppendOwnNone
namespace Go.Proofs.YtccobbfinmlgdaaDoor
open Go.ChangeShapes Go.WideShapes Go.ChangeAt Go.RowKit
set_option linter.unusedVariables false

abbrev IRow (w : World) (v : Value) (ns : List Int) : Prop := KRow .i64 3 w 0 v ns
def i64l (ns : List Int) : List Value := ns.map (Value.int .i64)
theorem i64l_length (ns : List Int) : (i64l ns).length = ns.length := by simp [i64l]
theorem i64l_one (ns : List Int) : ∀ u ∈ i64l ns, u.oneCell' = true := by
  intro u hu
  obtain ⟨x, _, rfl⟩ := List.mem_map.1 hu
  rfl
theorem wp_append_any {o : Oper} {a : Act} {w : World} {K : Act → World → Prop} {Q : Exit → Act → World → Prop} (s x : Operand)
    (ho : o.op = .call { callee := .builtin .append, args := #[s, x], argTypes := #[23, 23] }) (v : Value) (ns : List Int) (hs : a.eval s = v) (hr : IRow w v ns)
    (A : Option Addr) (m c : Nat) (hx : a.eval x = .slice A m c) (hA : A = none → m = 0 ∧ c = 0) (zs : List Int) (hz : zs.length = m) (hnews : ∀ ad, A = some ad → ∀ j u, (i64l zs)[j]? = some u → w.cell? (ad.add j) = some u) (hbig : ns.length + m < 4000000000000)
    (hK : ∀ v' w2, IRow w2 v' (ns ++ zs) → Only v.ownBlock.toList w w2 → (∀ k, v'.ownBlock = some k → v.ownBlock = some k ∨ w.heap.size ≤ k) → K (a.put o.dst v') w2) : Oper.wp Tryd.prog o a w K Q := by
  obtain ⟨i0, hi0, hz0, hz1, hz2⟩ := info_parts info_int
  rcases A with _ | ad
  · obtain ⟨rfl, rfl⟩ := hA rfl
    have hzs : zs = [] := List.eq_nil_of_length_eq_zero hz
    subst hzs
    have hrun := run_append_owned_none (P := Tryd.prog) (w := w) 0 23 o.type 3 i0 1 Tryd.underlying23 hi0 v ns.length (i64l ns) hr
    unfold Oper.wp
    simp [execOp, ho, resolve, invoke, builtin, hs, hx, hrun, Result.andThen]
    exact hK v w (by simpa using hr) (Only.refl _ _) (fun k hk => .inl hk)
  · obtain ⟨v', w', hrun, h2, h3, _, h5⟩ := run_append_own_at (P := Tryd.prog) w 0 23 o.type 3 i0 _ 1 8 Tryd.underlying23 hi0 hz0 hz1 hz2 rfl (by decide) v ns.length (i64l ns) hr ad m c (i64l zs) (by rw [i64l_length, hz, Nat.mul_one]) (hnews ad rfl) (i64l_one _) (by unfold maxLen; omega) (by omega) (Nat.zero_le _)
    unfold Oper.wp
    simp [execOp, ho, resolve, invoke, builtin, hs, hx, hrun, Result.andThen]
    refine hK v' w' ?_ (only_grown' h3) (fun k hk => ?_)
    · unfold IRow KRow
      rw [List.length_append, List.map_append, hz]
      exact h2
    · rcases h5 with h5 | h5
      · exact .inl (h5 ▸ hk)
      · rw [h5] at hk
        injection hk with hk
        exact .inr (Nat.le_of_eq hk)
theorem wpList_append_any {ops : Array Oper} {rest : List Oper} {o : Oper} {a : Act} {w : World} {Q : Exit → Act → World → Prop} (hgd : o.guard = none) (s x : Operand)
    (ho : o.op = .call { callee := .builtin .append, args := #[s, x], argTypes := #[23, 23] }) (v : Value) (ns : List Int) (hs : a.eval s = v) (hr : IRow w v ns)
    (A : Option Addr) (m c : Nat) (hx : a.eval x = .slice A m c) (hA : A = none → m = 0 ∧ c = 0) (zs : List Int) (hz : zs.length = m) (hnews : ∀ ad, A = some ad → ∀ j u, (i64l zs)[j]? = some u → w.cell? (ad.add j) = some u) (hbig : ns.length + m < 4000000000000)
    (hK : ∀ v' w2, IRow w2 v' (ns ++ zs) → Only v.ownBlock.toList w w2 → (∀ k, v'.ownBlock = some k → v.ownBlock = some k ∨ w.heap.size ≤ k) → wpList Tryd.prog ops Q rest (a.put o.dst v') w2) : wpList Tryd.prog ops Q (o :: rest) a w :=
  wpList_plain hgd fun _ hK' => wp_append_any s x ho v ns hs hr A m c hx hA zs hz hnews hbig fun v' w2 h1 h2 h3 => hK' _ _ (hK v' w2 h1 h2 h3)
theorem irow_empty {w : World} {H : Nat} (hb : Blk w H 3 #[]) : IRow w (.slice (some ⟨H, 0, none⟩) 0 0) [] :=
  ⟨by simp, .inr ⟨H, 0, #[], rfl, Nat.zero_le _, hb, Nat.le_refl _, Nat.zero_le _, rfl, by simp⟩⟩
theorem irow_base {w : World} {v : Value} {ns : List Int} {B : Nat} (h : IRow w v ns) (hB : ∀ q, v.ownBlock = some q → B ≤ q) : KRow .i64 3 w B v ns := by
  obtain ⟨h1, ⟨e, h0⟩ | ⟨g, cap, cur, rfl, hb, rest⟩⟩ := h
  · exact ⟨h1, .inl ⟨e, h0⟩⟩
  · exact ⟨h1, .inr ⟨g, cap, cur, rfl, hB g rfl, rest⟩⟩
end Go.Proofs.YtccobbfinmlgdaaDoor
