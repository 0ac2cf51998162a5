/-
  The walk of 'ResvVictim'.
-/
import Derived.Test.YtflgcnlncljefaaResvVict
namespace Go.Proofs.Ytflgcnlncljefaa
open Go.ChangeShapes Go.WideShapes Go.ChangeAt Go.RowKit Go.Deep
set_option linter.unusedVariables false

def OwnAt (w : World) (A : Option Addr) (i : Nat) : Prop :=
  ∃ (q o : Nat) (a b : Int), A = some ⟨q, o, none⟩ ∧ q < w.heap.size ∧ w.cell? ⟨q, o + i * 2, none⟩ = some (.int .i64 a) ∧ w.cell? ⟨q, o + i * 2 + 1, none⟩ = some (.int .i64 b)
set_option maxRecDepth 100000 in
theorem Rd.owners {H : Type} {enc : TypeId × Value → H} {w : World} {A : Option Addr} {n c : Nat} {d : DataW H} (h : Rd enc Try.prog w 50 [.slice A n c] d) : n ≤ 8796093022208 ∧ (A = none → n = 0 ∧ c = 0) ∧ ∃ ow, OwnS w A n ow := by
  obtain ⟨A', n', c', hv, hl, hm, hb, hA0, hf⟩ := h.structs Try.underlying50 Try.underlying54
  injection hv with hv _
  injection hv with e1 e2 e3
  subst e1 e2 e3
  have hby : Try.prog.bytesOf 54 = 16 := by kernel_rfl
  rw [hby] at hb
  have hco : Try.prog.cellsOf 54 = 2 := by kernel_rfl
  rw [hco] at hf
  have hat : ∀ i, i < n → OwnAt w A i := fun i hi => by
    obtain ⟨q, o, v0, y0, hA, hq, c0, r0⟩ := hf i hi 0 _ rfl (by kernel_rfl) (by decide)
    obtain ⟨q1, o1, v1, y1, hA1, _, c1, r1⟩ := hf i hi 1 _ rfl (by kernel_rfl) (by decide)
    have a1 : q1 = q ∧ o1 = o := by rw [hA] at hA1; injection hA1 with h; injection h with h1 h2; exact ⟨h1.symm, h2.symm⟩
    obtain ⟨rfl, rfl⟩ := a1
    obtain ⟨k, e0, _⟩ := r0.int (k := .i64) Try.underlying3
    obtain ⟨b, e1, _⟩ := r1.int (k := .i64) Try.underlying3
    injection e0 with e0 _; injection e1 with e1 _
    subst e0 e1
    exact ⟨_, _, k, b, hA, hq, c0, c1⟩
  refine ⟨by unfold reachBytes at hb; omega, hA0, ?_⟩
  have hex : ∀ i, ∃ p : Int × Int, i < n → ∃ q o, A = some ⟨q, o, none⟩ ∧ q < w.heap.size ∧ w.cell? ⟨q, o + i * 2, none⟩ = some (.int .i64 p.1) ∧ w.cell? ⟨q, o + i * 2 + 1, none⟩ = some (.int .i64 p.2) := fun i => by
    by_cases hi : i < n
    · obtain ⟨q, o, a, b, h⟩ := hat i hi
      exact ⟨(a, b), fun _ => ⟨q, o, h⟩⟩
    · exact ⟨(0, 0), fun h => absurd h hi⟩
  refine ⟨fun i => Classical.choose (hex i), fun hp => ?_⟩
  obtain ⟨q, o, hA, hq, _⟩ := Classical.choose_spec (hex 0) hp
  refine ⟨q, o, hA, hq, fun i hi => ?_⟩
  obtain ⟨q', o', hA', _, h1, h2⟩ := Classical.choose_spec (hex i) hi
  rw [hA] at hA'
  injection hA' with e
  injection e with e1 e2
  subst e1 e2
  exact ⟨h1, h2⟩

/-- The owners' cells. -/
def flatO (ow : Nat → Int × Int) (n : Nat) : List Value := (List.range n).flatMap fun i => [.int .i64 (ow i).1, .int .i64 (ow i).2]
theorem flatO_succ (ow : Nat → Int × Int) (n : Nat) : flatO ow (n + 1) = flatO ow n ++ [.int .i64 (ow n).1, .int .i64 (ow n).2] := by
  unfold flatO
  rw [List.range_succ, List.flatMap_append]
  rfl
theorem flatO_length (ow : Nat → Int × Int) : ∀ n, (flatO ow n).length = n * 2
  | 0 => rfl
  | n + 1 => by rw [flatO_succ, List.length_append, flatO_length ow n]; simp; omega
theorem flatO_at (ow : Nat → Int × Int) : ∀ n i, i < n → (flatO ow n)[i * 2]? = some (.int .i64 (ow i).1) ∧ (flatO ow n)[i * 2 + 1]? = some (.int .i64 (ow i).2)
  | 0, i, h => absurd h (by omega)
  | n + 1, i, h => by
    have hl := flatO_length ow n
    rw [flatO_succ]
    by_cases hi : i < n
    · rw [List.getElem?_append_left (by omega), List.getElem?_append_left (by omega)]
      exact flatO_at ow n i hi
    · obtain rfl : i = n := by omega
      rw [List.getElem?_append_right (by omega), List.getElem?_append_right (by omega), hl, show i * 2 - i * 2 = 0 by omega, show i * 2 + 1 - i * 2 = 1 by omega]
      exact ⟨rfl, rfl⟩
def ownZero : Value := .agg #[.int .i64 0, .int .i64 0]
theorem info_owner : (Try.prog.info? 54).map (fun i => (i.zero, i.size, i.bytes)) = some (some ownZero, 2, 16) := by kernel_rfl
theorem flatO_one (ow : Nat → Int × Int) (n : Nat) : ∀ u ∈ flatO ow n, u.oneCell' = true := by
  intro u hu
  simp only [flatO, List.mem_flatMap] at hu
  obtain ⟨i, _, hs⟩ := hu
  simp only [List.mem_cons, List.not_mem_nil, or_false] at hs
  rcases hs with rfl | rfl <;> rfl

section
variable {w : World} {A : Option Addr} {n c : Nat} {ow : Nat → Int × Int}
theorem wpList_append_owners {ops : Array Oper} {rest : List Oper} {o : Oper} {a : Act} {Q : Exit → Act → World → Prop} (hgd : o.guard = none) (s y : Operand)
    (ho : o.op = .call { callee := .builtin .append, args := #[s, y], argTypes := #[50, 50] }) (k : Nat) (hs : a.eval s = .slice (some ⟨k, 0, none⟩) 0 0) (hk : Blk w k 54 #[])
    (hx : a.eval y = .slice A n c) (hA : A = none → n = 0 ∧ c = 0) (hz : OwnS w A n ow) (hbig : n ≤ 8796093022208)
    (hK : ∀ A' c' w2, OwnS w2 A' n ow → Only [k] w w2 → wpList Try.prog ops Q rest (a.put o.dst (.slice A' n c')) w2) : wpList Try.prog ops Q (o :: rest) a w := by
  obtain ⟨i0, hi, hz0, hz1, hz2⟩ := info_parts info_owner
  have hown : w.ownsRow 0 54 2 (.slice (some ⟨k, 0, none⟩) 0 0) 0 [] := ⟨by simp, .inr ⟨k, 0, #[], rfl, Nat.zero_le _, hk, Nat.le_refl _, Nat.zero_le _, rfl, by simp⟩⟩
  rcases A with _ | ad
  · obtain ⟨rfl, rfl⟩ := hA rfl
    refine wpList_append_own_none hgd s y 50 ho 0 54 i0 2 Try.underlying50 hi _ 0 [] hs hown hx ?_
    exact hK _ _ w (fun hp => absurd hp (by omega)) (Only.refl _ _)
  · refine wpList_append_own w hgd s y 50 ho 0 54 i0 ownZero 2 16 Try.underlying50 hi hz0 hz1 hz2 rfl (by decide) _ 0 [] hs hown ad n c (flatO ow n) hx (flatO_length ow n) ?_ (flatO_one ow n) (by unfold maxLen; omega) (by omega) (Nat.zero_le _) ?_
    · intro j u hj
      have hjl := (List.getElem?_eq_some_iff.1 hj).1
      rw [flatO_length] at hjl
      obtain ⟨q, o', hb, _, hc⟩ := hz (by omega)
      injection hb with hb
      rw [hb, add_at]
      obtain ⟨c0, c1⟩ := hc (j / 2) (by omega)
      obtain ⟨f0, f1⟩ := flatO_at ow n (j / 2) (by omega)
      rcases Nat.mod_two_eq_zero_or_one j with hm | hm
      · have e : j / 2 * 2 = j := by omega
        rw [e] at c0 f0
        rw [c0, ← f0]; exact hj
      · have e : j / 2 * 2 + 1 = j := by omega
        rw [Nat.add_assoc, e] at c1
        rw [e] at f1
        rw [c1, ← f1]; exact hj
    · intro v' w1 hown1 hgrow hnil
      rw [Nat.zero_add, List.nil_append] at hown1
      rcases hown1.2 with ⟨e, h0⟩ | ⟨b, cap, cur, e, hB, hg, hnc, hm, hsz, ht⟩
      · exact absurd (hnil.1 e).1 (by simp)
      · rw [e]
        refine hK _ _ w1 (fun hp => ⟨b, 0, rfl, Blk.lt (t := 54) hg, fun i hi => ?_⟩) (Only.of_grown hgrow (fun k' hk' _ => by simp [Value.ownBlock] at hk'; simp [hk']))
        have hc : ∀ j, j < n * 2 → w1.cell? ⟨b, j, none⟩ = (flatO ow n)[j]? := fun j hj => by
          rw [Blk.cell (t := 54) hg, ← Array.getElem?_toList, ← ht, List.getElem?_take, if_pos hj]
        obtain ⟨f0, f1⟩ := flatO_at ow n i hi
        rw [Nat.zero_add]
        exact ⟨(hc _ (by omega)).trans f0, (hc _ (by omega)).trans f1⟩

set_option maxHeartbeats 1500000 in
set_option maxRecDepth 100000 in
theorem resvVictim_walk (sp : Int) (hA : A = none → n = 0 ∧ c = 0) (h : OwnS w A n ow) (hn : n ≤ 8796093022208) : Calls Try.prog 6 #[.slice A n c, .int .i64 sp] w fun e w' => e = .returned (.bool true) ∧ Below w.heap.size w w' := by
  have HO := hide h
  have HA := hide hA
  have HN := hide hn
  clear h hA
  go_enter Try.func6, Try.ntmps6
  go_wp2_with (first | (at_builtin; refine wpList_append_owners rfl _ _ rfl w.heap.size rfl (Blk.new w 54 #[]) rfl HA.out (HO.out.only ((Only.refl [] w).alloc _)) HN.out ?_; intro A' c' w2 ho2 hon2; have HO2 := hide ho2; have HW2 := hide (show Only [] w w2 from ((Only.refl [] w).alloc _).trans' hon2 (fun q hq hm => by simp at hm; omega)); clear ho2 hon2) | (go_at_call 21; refine (gVictim_is HO2.out HN.out sp).mono ?_; rintro e w3 ⟨rfl, ho⟩; have HW3 := hide ho; clear ho) | (go_at_call 22; refine (r9Victim_is (HO.out.only (HW2.out.trans HW3.out)) HN.out sp).mono ?_; rintro e w4 ⟨rfl, ho⟩; have HW4 := hide ho; clear ho) | (go_at_call 11; refine (lives9 _).mono ?_; rintro e w5 ⟨rfl, ho⟩; have HW5 := hide ho; clear ho))
  go_loopw [10] (fun iv wr => ∃ k : Nat, k ≤ n ∧ iv = .int .i64 k ∧ Only [] w5 wr) (fun iv _ => n - (intOf iv).toNat)
  case atStart => exact ⟨0, Nat.zero_le _, rfl, Only.refl _ _⟩
  case round =>
    obtain ⟨k, hk, rfl, ho⟩ := hrel
    have HW := hide ho
    by_cases hlt : k < n
    · obtain ⟨q1, o1, rfl, _, hc1⟩ := (HO.out.only (HW2.out.trans (HW3.out.trans (HW4.out.trans (HW5.out.trans ho))))) (by omega)
      obtain ⟨q2, o2, rfl, _, hc2⟩ := (HO2.out.only (HW3.out.trans (HW4.out.trans (HW5.out.trans ho)))) (by omega)
      obtain ⟨c0, c1⟩ := hc1 k hlt
      obtain ⟨d0, d1⟩ := hc2 k hlt
      have hl64 : (k : Int) + 1 ≤ 9223372036854775807 := by omega
      clear hc1 hc2 ho
      go_wp2_with fail
      go_quiet (fail)
      go_wp2
      go_roundw
      case rel => exact ⟨k + 1, hlt, by go_num, HW.out.drewN _⟩
      case measure => simp [intOf]; omega
    · obtain rfl : k = n := by omega
      clear ho
      go_wp2
      go_ret
      exact ⟨rfl, (HW2.out.trans (HW3.out.trans (HW4.out.trans (HW5.out.trans HW.out)))).below (Nat.le_refl _) (by simp)⟩
theorem resvVictim_law {H : Type} {enc : TypeId × Value → H} {d : DataW H} (sp : Int) (A : Option Addr) (n c : Nat) (w : World) (h : Rd enc Try.prog w 50 [.slice A n c] d) : Calls Try.prog 6 #[.slice A n c, .int .i64 sp] w fun e w' => e = .returned (.bool true) ∧ Below w.heap.size w w' := by
  obtain ⟨h1, h2, ow, h3⟩ := h.owners
  exact resvVictim_walk sp h2 h3 h1
end
end Go.Proofs.Ytflgcnlncljefaa
