/-
  Rows of bytes of one's own that grow by append; what a piece of a text is, written to a pipe and read from it.
-/
import Derived.Test.YteljjngmhldfbaaPiLives
import Derived.Laws.AppendOwnNone
import Derived.Maps.AppendAt
namespace Go.Proofs.Yteljjngmhldfbaa
open Go.ChangeShapes Go.WideShapes Go.ChangeAt Go.RowKit
set_option linter.unusedVariables false
section
variable {w w' : World} {v : Value} {ns zs : List Int} {B : Nat} {S : List Nat}
theorem wp_append_b {o : Oper} {a : Act} {K : Act → World → Prop} {Q : Exit → Act → World → Prop} (s x : Operand)
    (ho : o.op = .call { callee := .builtin .append, args := #[s, x], argTypes := #[29, 29] }) (hs : a.eval s = v) (hr : BRow w B v ns)
    (A : Option Addr) (m c : Nat) (hx : a.eval x = .slice A m c) (hA : A = none → m = 0 ∧ c = 0) (hz : Sees w A m zs) (hbig : ns.length + m ≤ 140737488355328) (hB : B ≤ w.heap.size)
    (hK : ∀ v' w2, BRow w2 B v' (ns ++ zs) → Only v.ownBlock.toList w w2 → (∀ k, v'.ownBlock = some k → v.ownBlock = some k ∨ w.heap.size ≤ k) → K (a.put o.dst v') w2) : Oper.wp Try.prog o a w K Q := by
  obtain ⟨i0, hi0, hz0, hz1, hz2⟩ := info_parts info_u8
  have hl := hz.1
  rcases A with _ | ad
  · obtain ⟨rfl, rfl⟩ := hA rfl
    have hzs : zs = [] := List.eq_nil_of_length_eq_zero hl
    subst hzs
    have hrun := run_append_owned_none (P := Try.prog) (w := w) B 29 o.type 5 i0 1 Try.underlying29 hi0 v ns.length (u8l ns) hr
    unfold Oper.wp
    simp [execOp, ho, resolve, invoke, builtin, hs, hx, hrun, Result.andThen]
    exact hK v w (by simpa using hr) (Only.refl _ _) (fun k hk => .inl hk)
  · obtain ⟨v', w', hrun, h2, h3, _, h5⟩ := run_append_own_at (P := Try.prog) w B 29 o.type 5 i0 _ 1 1 Try.underlying29 hi0 hz0 hz1 hz2 rfl (by decide) v ns.length (u8l ns) hr ad m c (u8l zs) (by rw [u8l_length, hl, Nat.mul_one]) (by
      intro j u hj
      have hjn : j < zs.length := by
        have := (List.getElem?_eq_some_iff.1 hj).1
        rw [u8l_length] at this
        exact this
      obtain ⟨b, q, e, _, hc⟩ := hz.2 (by omega)
      injection e with e
      subst e
      rw [add_at, hc j (by omega)]
      have e : (u8l zs)[j]? = some (Value.int .u8 (gb zs j)) := by simp [u8l, gb, List.getD, List.getElem?_eq_getElem hjn]
      rw [e] at hj
      exact hj) (u8l_one _) (by unfold maxLen; omega) (by omega) hB
    unfold Oper.wp
    simp [execOp, ho, resolve, invoke, builtin, hs, hx, hrun, Result.andThen]
    refine hK v' w' ?_ (only_grown' h3) (fun k hk => ?_)
    · unfold BRow KRow
      rw [List.length_append, List.map_append, hl]
      exact h2
    · rcases h5 with h5 | h5
      · exact .inl (h5 ▸ hk)
      · rw [h5] at hk
        injection hk with hk
        exact .inr (Nat.le_of_eq hk)
theorem wpList_append_b {ops : Array Oper} {rest : List Oper} {o : Oper} {a : Act} {Q : Exit → Act → World → Prop} (hgd : o.guard = none) (s x : Operand)
    (ho : o.op = .call { callee := .builtin .append, args := #[s, x], argTypes := #[29, 29] }) (hs : a.eval s = v) (hr : BRow w B v ns)
    (A : Option Addr) (m c : Nat) (hx : a.eval x = .slice A m c) (hA : A = none → m = 0 ∧ c = 0) (hz : Sees w A m zs) (hbig : ns.length + m ≤ 140737488355328) (hB : B ≤ w.heap.size)
    (hK : ∀ v' w2, BRow w2 B v' (ns ++ zs) → Only v.ownBlock.toList w w2 → (∀ k, v'.ownBlock = some k → v.ownBlock = some k ∨ w.heap.size ≤ k) → wpList Try.prog ops Q rest (a.put o.dst v') w2) : wpList Try.prog ops Q (o :: rest) a w :=
  wpList_plain hgd fun _ hK' => wp_append_b s x ho hs hr A m c hx hA hz hbig hB fun v' w2 h1 h2 h3 => hK' _ _ (hK v' w2 h1 h2 h3)
/-- A row of one's own, as a slice that shows its bytes. -/
theorem BRow.sees (h : BRow w B v ns) : ∃ A c, v = .slice A ns.length c ∧ Sees w A ns.length ns ∧ (A = none → ns.length = 0 ∧ c = 0) ∧ (∀ ad, A = some ad → ad = ⟨ad.block, 0, none⟩ ∧ v.ownBlock = some ad.block ∧ B ≤ ad.block ∧ ad.block < w.heap.size) := by
  rcases h.2 with ⟨e, h0⟩ | ⟨b, cap, cur, e, hB, hg, hn, hm, hs, ht⟩
  · have h1 : ns.length = 0 := by simpa using h0
    refine ⟨none, 0, by rw [e, h1], ⟨rfl, fun hp => absurd hp (by omega)⟩, fun _ => ⟨h1, rfl⟩, fun ad e => by cases e⟩
  · obtain ⟨A, c, e2, hc⟩ := KRow.form h
    rw [e] at e2
    injection e2 with e3 e4 e5
    subst e3 e5
    refine ⟨_, _, e, ⟨rfl, fun hp => ?_⟩, (fun e => by cases e), fun ad ea => ?_⟩
    · obtain ⟨b', e', hB', hlt, hcc⟩ := hc hp
      injection e' with e'
      injection e' with e'
      subst e'
      exact ⟨b, 0, rfl, hlt, fun i hi => by rw [Nat.zero_add]; exact hcc i hi⟩
    · injection ea with ea
      subst ea
      exact ⟨rfl, by rw [e]; rfl, hB, Blk.lt hg⟩
end
/-- A piece of a text, written to a pipe that holds the piece ahead of it. -/
theorem piece_write (xs : List Int) (G T n : Nat) (hGT : G ≤ T) (hT : T + n ≤ xs.length) (hB : T - G ≤ 512) :
    ∃ mm : Nat, ∃ e : Int, mm ≤ n ∧ T + mm - G ≤ 512 ∧ writeP ((xs.drop G).take (T - G)) 1 ((xs.drop T).take n) = ((mm : Int), e, (xs.drop G).take (T + mm - G)) ∧ (e = 0 ∨ e = 211) ∧ (T = G → 1 ≤ n → 1 ≤ mm) := by
  have l1 : ((xs.drop G).take (T - G)).length = T - G := by rw [List.length_take, List.length_drop]; omega
  have l2 : ((xs.drop T).take n).length = n := by rw [List.length_take, List.length_drop]; omega
  unfold writeP
  rw [if_neg (by omega)]
  by_cases h1 : (xs.drop T).take n = []
  · have hn : n = 0 := by rw [← l2, h1]; rfl
    subst hn
    exact ⟨0, 0, Nat.le_refl _, by omega, by rw [if_pos h1]; rfl, .inl rfl, fun _ h => h⟩
  · rw [if_neg h1]
    by_cases h2 : T - G = 512
    · exact ⟨0, 211, by omega, by omega, by rw [if_pos (by rw [l1]; exact h2)]; rfl, .inr rfl, fun _ _ => by omega⟩
    · have hn : 0 < n := by
        rcases Nat.eq_zero_or_pos n with h | h
        · subst h; simp at h1
        · exact h
      rw [if_neg (by rw [l1]; exact h2), l1, l2]
      refine ⟨min n (512 - (T - G)), 0, by omega, by omega, ?_, .inl rfl, fun _ _ => by omega⟩
      generalize hk : min n (512 - (T - G)) = k
      congr 2
      rw [List.take_take, show min k n = k by omega, show T + k - G = (T - G) + k by omega, List.take_add, List.drop_drop, show G + (T - G) = T by omega]
/-- .. and read from it. -/
theorem piece_read (xs : List Int) (G T : Nat) (n : Int) (hGT : G < T) (hT : T ≤ xs.length) (hn : 0 < n) :
    ∃ r : Nat, 1 ≤ r ∧ G + r ≤ T ∧ (r : Int) ≤ n ∧ readP ((xs.drop G).take (T - G)) (decide ((0 : Int) < 1)) n = ((xs.drop G).take r, 0, (xs.drop (G + r)).take (T - (G + r))) := by
  have l1 : ((xs.drop G).take (T - G)).length = T - G := by rw [List.length_take, List.length_drop]; omega
  have hne : (xs.drop G).take (T - G) ≠ [] := fun e => by rw [e] at l1; simp at l1; omega
  refine ⟨min n.toNat (T - G), by omega, by omega, by omega, ?_⟩
  unfold readP
  rw [if_neg (by omega), if_neg (by omega), if_neg hne]
  generalize hk : n.toNat = k
  rw [List.take_take, List.drop_take, List.drop_drop]
  by_cases h : k ≤ T - G
  · rw [Nat.min_eq_left h]
    congr 3
    omega
  · rw [Nat.min_eq_right (by omega), show T - G - k = 0 by omega, show T - (G + (T - G)) = 0 by omega]
    rfl
end Go.Proofs.Yteljjngmhldfbaa
