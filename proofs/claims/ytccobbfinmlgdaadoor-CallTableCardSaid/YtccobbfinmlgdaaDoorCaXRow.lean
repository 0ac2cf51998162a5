/-
  The document's calls (parapet/parapetref26): 'times'; rows of ints, no two in one block, that are made, appended to.
-/
import Derived.Test.YtccobbfinmlgdaaDoorCaFill
namespace Go.Proofs.YtccobbfinmlgdaaDoor
open Go.ChangeShapes Go.WideShapes Go.ChangeAt Go.RowKit
set_option linter.unusedVariables false

set_option maxRecDepth 100000 in
theorem xtimes_is (w : World) (k : Int) (n : Nat) (hn : n ≤ 100) : Calls Tryd.prog 40 #[.int .i64 k, .int .i64 (n : Int)] w fun e w' => ∃ v, e = .returned v ∧ KR w' w.heap.size v (List.replicate n k) ∧ Only [] w w' := by
  go_enter Tryd.func40, Tryd.ntmps40
  go_wp2
  go_loopw [5, 6] (fun v iv wr => ∃ i : Nat, i ≤ n ∧ iv = .int .i64 i ∧ KRow .i64 3 wr w.heap.size v (List.replicate i k) ∧ Only [] w wr) (fun _ iv _ => n - (intOf iv).toNat)
  case atStart => exact ⟨0, by omega, rfl, KRow.nil _ _ _ _, Only.refl _ _⟩
  case round =>
    obtain ⟨i, hi, rfl, hr, ho⟩ := hrel
    have HR := hide hr
    have HO := hide ho
    by_cases hlt : i < n
    · obtain ⟨A, cap, hv, -⟩ := hr.form
      rw [List.length_replicate] at hv
      subst hv
      have HRA := hide (show KRow .i64 3 (wr.alloc (.cells #[.int .i64 k] 3)) w.heap.size (.slice A i cap) (List.replicate i k) from KRow.only hr ((Only.refl [] wr).alloc _) (by simp))
      have HC := hide ((Blk.new wr 3 #[.int .i64 k]).cell 0)
      have HB := hide (show w.heap.size ≤ (wr.alloc (.cells #[.int .i64 k] 3)).heap.size by have := ho.size; simp; omega)
      have hltI : (i : Int) < n := by omega
      have hw : IntKind.i64.wrap ((i : Int) + 1) = (i : Int) + 1 := by rw [IntKind.wrap_i64]; omega
      clear hr ho
      go_wp2_with (at_builtin; refine wpList_append_k (k := .i64) (e := 3) (T := 23) (bytes := 8) (v := .slice A i cap) Tryd.underlying23 info_int (by decide) rfl _ _ rfl _ rfl HRA.out wr.heap.size k rfl HC.out (by simp; omega) HB.out ?_; intro v' w1 h1 h2; obtain ⟨A', c', hv', -⟩ := h1.form; rw [List.length_append, List.length_replicate, List.length_singleton] at hv'; subst hv'; have H1 := hide h1; have H2 := hide h2; clear h1 h2)
      go_roundw
      case rel =>
        refine ⟨i + 1, hlt, by simp, ?_, KRow.grew HRA.out H2.out (HO.out.alloc _) (Nat.le_refl _)⟩
        rw [List.replicate_succ']
        exact H1.out
      case measure => simp [intOf]; omega
    · obtain rfl : i = n := by omega
      obtain ⟨A, cap, hv, -⟩ := hr.form
      rw [List.length_replicate] at hv
      subst hv
      clear hr ho
      go_wp2
      go_ret
      exact ⟨_, rfl, HR.out, HO.out⟩

/-- Rows of ints behind B, no two of them in one block. -/
def KRd (w : World) (B : Nat) (l : List (Value × List Int)) : Prop :=
  (∀ p ∈ l, KR w B p.1 p.2) ∧ l.Pairwise fun p q => ∀ k, p.1.ownBlock = some k → q.1.ownBlock ≠ some k
theorem KRd.none (w : World) (B : Nat) : KRd w B [] := ⟨fun p hp => by simp at hp, List.Pairwise.nil⟩
theorem KRd.add {w w' : World} {B : Nat} {l : List (Value × List Int)} {v : Value} {ks : List Int} (h : KRd w B l) (ho : Only [] w w') (hB : B ≤ w.heap.size) (hv : KR w' w.heap.size v ks) : KRd w' B (l ++ [(v, ks)]) := by
  refine ⟨fun p hp => ?_, List.pairwise_append.2 ⟨h.2, List.pairwise_singleton _ _, fun p hp q hq k hk hk2 => ?_⟩⟩
  · rcases List.mem_append.1 hp with hp | hp
    · exact (h.1 p hp).grow ho
    · rw [List.mem_singleton.1 hp]; exact hv.low hB
  · rw [List.mem_singleton.1 hq] at hk2
    have e1 := ((h.1 p hp).at_ hk).2
    have e2 := (hv.at_ hk2).1
    omega
theorem KRd.swap {w : World} {B : Nat} {l : List (Value × List Int)} {a b : Value × List Int} (h : KRd w B (l ++ [a, b])) : KRd w B (l ++ [b, a]) := by
  obtain ⟨h1, h2⟩ := h
  rw [List.pairwise_append] at h2
  obtain ⟨h3, h4, h5⟩ := h2
  refine ⟨fun p hp => h1 p (by simp at hp ⊢; rcases hp with hp | hp | hp <;> simp [hp]), List.pairwise_append.2 ⟨h3, ?_, fun p hp q hq => h5 p hp q (by simp at hq ⊢; rcases hq with hq | hq <;> simp [hq])⟩⟩
  simp only [List.pairwise_cons, List.mem_cons, List.not_mem_nil, or_false, forall_eq, false_implies, implies_true, List.Pairwise.nil, and_true] at h4 ⊢
  exact fun k hk hk2 => h4 k hk2 hk
theorem krow_A {w : World} {B n cap : Nat} {A : Option Addr} {ks : List Int} (h : KR w B (.slice A n cap) ks) : ks.length = n ∧ (A = none → n = 0 ∧ cap = 0) ∧ ∀ ad, A = some ad → ∀ j u, (i64l ks)[j]? = some u → w.cell? (ad.add j) = some u := by
  have hn : ks.length = n := by
    obtain ⟨A', c, e, -⟩ := KRow.form h
    injection e with _ e
    exact e.symm
  subst hn
  refine ⟨rfl, ?_, ?_⟩
  · rintro rfl
    rcases h.2 with ⟨e, h0⟩ | ⟨b, c, cur, e, -⟩
    · simp at e; omega
    · simp at e
  · rintro ad rfl j u hj
    obtain ⟨A', c, e, hc⟩ := KRow.form h
    injection e with e1 _ e2
    subst e1
    have hjn : j < ks.length := by
      have := (List.getElem?_eq_some_iff.1 hj).1
      simpa [i64l] using this
    obtain ⟨b, e, hB, hb, hcell⟩ := hc (by omega)
    injection e with e
    subst e
    rw [add_at, Nat.zero_add, hcell j hjn]
    rw [← hj]
    simp [i64l, gb, List.getD, List.getElem?_eq_getElem hjn]
/-- An append to the last row, of a row that is there. -/
theorem wpList_append_d {ops : Array Oper} {rest : List Oper} {o : Oper} {a : Act} {w0 w : World} {Q : Exit → Act → World → Prop} (hgd : o.guard = none) (s x : Operand)
    (ho : o.op = .call { callee := .builtin .append, args := #[s, x], argTypes := #[23, 23] }) {l : List (Value × List Int)} {v : Value} {ks zs : List Int} (h : KRd w w0.heap.size (l ++ [(v, ks)])) (h0 : Only [] w0 w) (hs : a.eval s = v)
    {A : Option Addr} {m c : Nat} (hx : a.eval x = .slice A m c) (hz : KR w w0.heap.size (.slice A m c) zs) (hbig : ks.length + zs.length < 1000)
    (hK : ∀ A' c' w2, KRd w2 w0.heap.size (l ++ [(.slice A' (ks ++ zs).length c', ks ++ zs)]) → Only [] w0 w2 → wpList Tryd.prog ops Q rest (a.put o.dst (.slice A' (ks ++ zs).length c')) w2) : wpList Tryd.prog ops Q (o :: rest) a w := by
  obtain ⟨e1, e2, e3⟩ := krow_A hz
  have hv := h.1 (v, ks) (by simp)
  refine wpList_append_any hgd s x ho v ks hs (hv.low (Nat.zero_le _)) A m c hx e2 zs e1 e3 (by omega) ?_
  intro v' w2 h1 h2 h3
  obtain ⟨A', c', rfl, -⟩ := KRow.form h1
  obtain ⟨p1, p2⟩ := h
  rw [List.pairwise_append] at p2
  obtain ⟨q1, -, q3⟩ := p2
  have hsz := h0.size
  have hbase : ∀ k, (Value.slice A' (ks ++ zs).length c').ownBlock = some k → w0.heap.size ≤ k := fun k hk => by
    rcases h3 k hk with h | h
    · exact (hv.at_ h).1
    · omega
  refine hK A' c' w2 ⟨fun p hp => ?_, List.pairwise_append.2 ⟨q1, List.pairwise_singleton _ _, fun p hp q hq k hk hk2 => ?_⟩⟩ (h0.trans' h2 (fun k hk hm => by
    have := (hv.at_ (by simpa using hm)).1
    omega))
  · rcases List.mem_append.1 hp with hp | hp
    · refine (p1 p (by simp [hp])).only h2 (fun q hq hm => q3 p hp (v, ks) (by simp) q hq (by simpa using hm))
    · rw [List.mem_singleton.1 hp]
      exact irow_base h1 hbase
  · rw [List.mem_singleton.1 hq] at hk2
    rcases h3 k hk2 with h | h
    · exact q3 p hp (v, ks) (by simp) k hk h
    · have := ((p1 p (by simp [hp])).at_ hk).2
      omega
/-- The ints of a literal. -/
def constsOf (parts : Array (Nat × Operand)) : List Int := parts.toList.map fun (_, x) => match x with | .const (.int _ z) => z | _ => 0
theorem wpList_build_d {ops : Array Oper} {rest : List Oper} {ds ty ps af} {a : Act} {w0 w : World} {Q : Exit → Act → World → Prop} (n : Nat) (parts : Array (Nat × Operand)) {l : List (Value × List Int)} (h : KRd w w0.heap.size l) (h0 : Only [] w0 w)
    (ks : List Int) (hks : constsOf parts = ks) (hn : ks.length = n) (hn2 : n ≤ 1000)
    (hrun : (Instr.buildSlice 23 n (parts.map fun (i, x) => (i, a.eval x))).run Tryd.prog w = .ok (.slice (some ⟨w.heap.size, 0, none⟩) n n) (w.alloc (.cells (ks.map (Value.int .i64)).toArray 3)))
    (hK : ∀ b w2, KRd w2 w0.heap.size (l ++ [(.slice (some ⟨b, 0, none⟩) n n, ks)]) → Only [] w0 w2 → wpList Tryd.prog ops Q rest (a.put ds (.slice (some ⟨b, 0, none⟩) n n)) w2) : wpList Tryd.prog ops Q (⟨ds, .buildSlice 23 n parts, ty, ps, af, none⟩ :: rest) a w := by
  refine wpList_buildSlice rfl 23 n parts rfl _ rfl _ _ hrun ?_
  exact hK w.heap.size _ (h.add ((Only.refl [] w).alloc _) h0.size (KR.of_blk (Blk.new _ _ _) hn hn2)) (h0.alloc _)
end Go.Proofs.YtccobbfinmlgdaaDoor
