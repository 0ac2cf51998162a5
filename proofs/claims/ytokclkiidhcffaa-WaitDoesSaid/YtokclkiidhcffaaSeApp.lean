/-
  The document's sleepers (parapetref12): append of seats to a row of one's own.
-/
import Derived.Test.YtokclkiidhcffaaSeRow
import Derived.Test.YtokclkiidhcffaaWqApp
import Derived.Laws.AppendOwnNone
import Derived.Maps.AppendAt
namespace Go.Proofs.Ytokclkiidhcffaa
open Go.ChangeShapes Go.WideShapes Go.ChangeAt Go.RowKit
set_option linter.unusedVariables false

/-- The slice x shows the seats zs. -/
def SeatsAt (w : World) (x : Value) (zs : List SE) : Prop :=
  (x = .slice none 0 0 ∧ zs = []) ∨ ∃ b o c, x = .slice (some ⟨b, o, none⟩) zs.length c ∧ (0 < zs.length → b < w.heap.size) ∧ ∀ j u, (flatE zs)[j]? = some u → w.cell? ⟨b, o + j, none⟩ = some u
def seatZero12 : Value := .agg #[.int .i64 0, .int .i64 0, .int .i64 0, .int .i64 0, .int .i64 0]
theorem info_seat5 : (Try.prog.info? 40).map (fun i => (i.zero, i.size, i.bytes)) = some (some seatZero12, 5, 40) := by kernel_rfl
theorem flatE_one (ss : List SE) : ∀ u ∈ flatE ss, u.oneCell' = true := by
  intro u hu
  simp only [flatE, List.mem_flatMap] at hu
  obtain ⟨s, _, hs⟩ := hu
  simp only [SE.cells, List.mem_cons, List.not_mem_nil, or_false] at hs
  rcases hs with rfl | rfl | rfl | rfl | rfl <;> rfl
theorem seat_zero12 : ∀ w, (zeroValue 40).run Try.prog w = .ok seatZero12 w := by
  intro w
  obtain ⟨i, hi, hz, _, _⟩ := info_parts info_seat5
  simp [zeroValue, typeInfo, hi, hz]

section
variable {w w' : World} {v x : Value} {ss zs : List SE} {S : List Nat}
theorem SeatsAt.only (h : SeatsAt w x zs) (ho : Only S w w') (hs : ∀ b o n c, x = .slice (some ⟨b, o, none⟩) n c → b < w.heap.size → b ∉ S) : SeatsAt w' x zs := by
  rcases h with h | ⟨b, o, c, e, hb, hc⟩
  · exact .inl h
  · refine .inr ⟨b, o, c, e, fun hp => Nat.lt_of_lt_of_le (hb hp) ho.size, fun j u hu => ?_⟩
    have h1 := hc j u hu
    have hlt := World.block_lt_of_cell? w _ h1
    exact (ho.cell hlt (hs _ _ _ _ e hlt)).trans h1
theorem ERw.sees (h : ERw w v ss) : SeatsAt w v ss := by
  rcases h.2 with ⟨e, h0⟩ | ⟨b, cap, cur, e, hB, hg, hnc, hm, hs, ht⟩
  · exact .inl ⟨e, List.eq_nil_of_length_eq_zero (by omega)⟩
  · refine .inr ⟨b, 0, cap, e, fun _ => Blk.lt (t := 40) hg, fun j u hu => ?_⟩
    have hj := (List.getElem?_eq_some_iff.1 hu).1
    rw [flatE_length] at hj
    rw [Nat.zero_add, Blk.cell (t := 40) hg, ← Array.getElem?_toList, ← hu, show flatE ss = cur.toList.take (ss.length * 5) from ht.symm, List.getElem?_take, if_pos hj]
theorem wp_append_seats12 {o : Oper} {a : Act} {K : Act → World → Prop} {Q : Exit → Act → World → Prop} (s y : Operand)
    (ho : o.op = .call { callee := .builtin .append, args := #[s, y], argTypes := #[27, 27] }) (hs : a.eval s = v) (hr : ERw w v ss)
    (hx : a.eval y = x) (hz : SeatsAt w x zs) (hbig : ss.length + zs.length < 1000000)
    (hK : ∀ v' w2, ERw w2 v' (ss ++ zs) → Only v.ownBlock.toList w w2 → (∀ k, v'.ownBlock = some k → v.ownBlock = some k ∨ w.heap.size ≤ k) → (∃ A c, v' = .slice A (ss ++ zs).length c) → K (a.put o.dst v') w2) : Oper.wp Try.prog o a w K Q := by
  obtain ⟨i0, hi0, hz0, hz1, hz2⟩ := info_parts info_seat5
  rcases hz with ⟨rfl, rfl⟩ | ⟨b, q, c, rfl, _, hc⟩
  · have hrun := run_append_owned_none (P := Try.prog) (w := w) 0 27 o.type 40 i0 5 Try.underlying27 hi0 v ss.length (flatE ss) hr
    unfold Oper.wp
    simp [execOp, ho, resolve, invoke, builtin, hs, hx, hrun, Result.andThen]
    have hr' : ERw w v (ss ++ []) := by simpa using hr
    obtain ⟨A, c, e, _⟩ := hr'.form
    exact hK v w hr' (Only.refl _ _) (fun k hk => .inl hk) ⟨A, c, e⟩
  · obtain ⟨v', w', hrun, h2, h3, _, h5⟩ := run_append_own_at (P := Try.prog) w 0 27 o.type 40 i0 _ 5 40 Try.underlying27 hi0 hz0 hz1 hz2 rfl (by decide) v ss.length (flatE ss) hr ⟨b, q, none⟩ zs.length c (flatE zs) (flatE_length zs) (fun j u hj => by rw [add_at]; exact hc j u hj) (flatE_one _) (by unfold maxLen; omega) (by omega) (Nat.zero_le _)
    unfold Oper.wp
    simp [execOp, ho, resolve, invoke, builtin, hs, hx, hrun, Result.andThen]
    have hr' : ERw w' v' (ss ++ zs) := by
      unfold ERw
      rw [List.length_append, flatE_append]
      exact h2
    obtain ⟨A, c, e, _⟩ := hr'.form
    refine hK v' w' hr' (only_grown' h3) (fun k hk => ?_) ⟨A, c, e⟩
    rcases h5 with h5 | h5
    · exact .inl (h5 ▸ hk)
    · rw [h5] at hk
      injection hk with hk
      exact .inr (Nat.le_of_eq hk)
theorem wpList_append_seats12 {ops : Array Oper} {rest : List Oper} {o : Oper} {a : Act} {Q : Exit → Act → World → Prop} (hgd : o.guard = none) (s y : Operand)
    (ho : o.op = .call { callee := .builtin .append, args := #[s, y], argTypes := #[27, 27] }) (hs : a.eval s = v) (hr : ERw w v ss)
    (hx : a.eval y = x) (hz : SeatsAt w x zs) (hbig : ss.length + zs.length < 1000000)
    (hK : ∀ v' w2, ERw w2 v' (ss ++ zs) → Only v.ownBlock.toList w w2 → (∀ k, v'.ownBlock = some k → v.ownBlock = some k ∨ w.heap.size ≤ k) → (∃ A c, v' = .slice A (ss ++ zs).length c) → wpList Try.prog ops Q rest (a.put o.dst v') w2) : wpList Try.prog ops Q (o :: rest) a w :=
  wpList_plain hgd fun _ hK' => wp_append_seats12 s y ho hs hr hx hz hbig fun v' w2 h1 h2 h3 h4 => hK' _ _ (hK v' w2 h1 h2 h3 h4)
theorem erow_empty {k : Nat} (hb : Blk w k 40 #[]) : ERw w (.slice (some ⟨k, 0, none⟩) 0 0) [] :=
  ⟨by simp [flatE], .inr ⟨k, 0, #[], rfl, Nat.zero_le _, hb, Nat.le_refl _, Nat.zero_le _, rfl, by simp [flatE]⟩⟩

end
end Go.Proofs.Ytokclkiidhcffaa
