/-
  slices.Repeat of one int (general: no name of the program's own).
-/
import Derived.Test.YtccobbfinmlgdaaDoorAppAny
import Derived.Test.YtccobbfinmlgdaaDoorShelf
import Derived.Laws.MakeOwn
namespace Go.Proofs.YtccobbfinmlgdaaDoor
open Go.ChangeShapes Go.WideShapes Go.ChangeAt Go.RowKit
set_option linter.unusedVariables false
theorem size_intp : (Tryd.prog.info? 3).map (·.size) = some 1 := by kernel_rfl

theorem bMul_one (c : Nat) (h1 : c ≤ 1000) (w : World) : Calls Tryd.prog 47 #[.int .u64 1, .int .u64 (c : Int)] w fun e w' => e = .returned (.tuple #[.int .u64 0, .int .u64 (c : Int)]) ∧ w = w' := by
  refine (Tryd.bits_Mul 1 c (by decide) (by omega) w).mono ?_
  rintro e w' ⟨rfl, rfl⟩
  have e1 : 1 * c / 18446744073709551616 = 0 := by omega
  have e2 : 1 * c % 18446744073709551616 = c := by omega
  rw [e1, e2]
  exact ⟨rfl, rfl⟩

def repC (n c : Nat) (x : Int) : List Value := List.replicate n (.int .i64 x) ++ List.replicate (c - n) (.int .i64 0)
theorem repC_len {n c : Nat} {x : Int} (h : n ≤ c) : (repC n c x).length = c := by simp [repC]; omega
theorem repC_get {n c i : Nat} {x : Int} (h : i < n) : (repC n c x).toArray[i]? = some (.int .i64 x) := by
  simp [repC, List.getElem?_append, h]
theorem repC_splice {n c m : Nat} {x : Int} (h : n + m ≤ c) : (repC n c x).take n ++ (List.replicate m (.int .i64 x) ++ (repC n c x).drop (n + m)) = repC (n + m) c x := by
  unfold repC
  rw [List.take_left' (by simp), ← List.append_assoc, List.replicate_append_replicate]
  congr 1
  rw [List.drop_append]
  simp
  omega

theorem wp_copy_rep {o : Oper} {a : Act} {w : World} {K : Act → World → Prop} {Q : Exit → Act → World → Prop} (d s : Operand)
    (ho : o.op = .call { callee := .builtin .copy, args := #[d, s], argTypes := #[23, 23] })
    (b n c dCap : Nat) (x : Int) (ad : Addr) (sLen sCap m : Nat) (hd : a.eval d = .slice (some ⟨b, n, none⟩) (c - n) dCap) (hs : a.eval s = .slice (some ad) sLen sCap)
    (hg : Blk w b 3 (repC n c x).toArray) (hm : m = Nat.min sLen (c - n)) (hnc : n ≤ c) (hsrc : ∀ j, j < m → w.cell? (ad.add j) = some (.int .i64 x))
    (h : ∀ w', Hid (Blk w' b 3 (repC (n + m) c x).toArray) → Only [b] w w' → K (a.put o.dst (goInt m)) w') : Oper.wp Tryd.prog o a w K Q := by
  have hmc : n + m ≤ c := by
    have h2 : m ≤ c - n := by rw [hm]; exact Nat.min_le_right _ _
    omega
  have hrun := run_copy_row (P := Tryd.prog) w 23 23 o.type 3 b n (c - n) dCap ad sLen sCap (repC n c x).toArray 3 (List.replicate m (.int .i64 x)) Tryd.underlying23 size_intp hg (by simpa using hm) (by
    intro j v hj
    have hjn : j < m := by
      have := (List.getElem?_eq_some_iff.1 hj).1
      simpa using this
    rw [hsrc j hjn]
    simpa [hjn] using hj) (by rw [List.length_replicate, List.size_toArray, repC_len hnc]; exact hmc) (by intro v hv; rw [List.eq_of_mem_replicate hv]; rfl)
  unfold Oper.wp
  simp [execOp, ho, resolve, invoke, builtin, hd, hs, hrun, Result.andThen]
  have hb2 := hg.row (List.take n (repC n c x) ++ (List.replicate m (Value.int IntKind.i64 x) ++ List.drop (n + m) (repC n c x))).toArray
  have e := repC_splice (x := x) hmc
  refine h _ ?_ ((Only.refl _ _).setRow _ (by simp))
  show Blk _ _ _ _
  rw [e] at hb2
  simpa [e] using hb2
theorem step_copy_rep {ops : Array Oper} {o : Oper} {a : Act} {w : World} {K : Act → World → Prop} {Q : Exit → Act → World → Prop} {E : Prop} (hgd : o.guard = none) (d s : Operand)
    (ho : o.op = .call { callee := .builtin .copy, args := #[d, s], argTypes := #[23, 23] })
    (b n c dCap : Nat) (x : Int) (ad : Addr) (sLen sCap m : Nat) (hd : a.eval d = .slice (some ⟨b, n, none⟩) (c - n) dCap) (hs : a.eval s = .slice (some ad) sLen sCap)
    (hg : Blk w b 3 (repC n c x).toArray) (hm : m = Nat.min sLen (c - n)) (hnc : n ≤ c) (hsrc : ∀ j, j < m → w.cell? (ad.add j) = some (.int .i64 x))
    (h : ∀ w', Hid (Blk w' b 3 (repC (n + m) c x).toArray) → Only [b] w w' → K (a.put o.dst (goInt m)) w') :
    if Region.wanted o (yielded ops a.tmps) = true then Oper.wp Tryd.prog o a w K Q else E := by
  have hw : Region.wanted o (yielded ops a.tmps) = true := by simp [Region.wanted, hgd]
  rw [if_pos hw]
  exact wp_copy_rep d s ho b n c dCap x ad sLen sCap m hd hs hg hm hnc hsrc h
theorem wpList_copy_rep {ops : Array Oper} {rest : List Oper} {o : Oper} {a : Act} {w : World} {Q : Exit → Act → World → Prop} (hgd : o.guard = none) (d s : Operand)
    (ho : o.op = .call { callee := .builtin .copy, args := #[d, s], argTypes := #[23, 23] })
    (b n c dCap : Nat) (x : Int) (ad : Addr) (sLen sCap m : Nat) (hd : a.eval d = .slice (some ⟨b, n, none⟩) (c - n) dCap) (hs : a.eval s = .slice (some ad) sLen sCap)
    (hg : Blk w b 3 (repC n c x).toArray) (hm : m = Nat.min sLen (c - n)) (hnc : n ≤ c) (hsrc : ∀ j, j < m → w.cell? (ad.add j) = some (.int .i64 x))
    (h : ∀ w', Hid (Blk w' b 3 (repC (n + m) c x).toArray) → Only [b] w w' → wpList Tryd.prog ops Q rest (a.put o.dst (goInt m)) w') : wpList Tryd.prog ops Q (o :: rest) a w :=
  wpList_plain hgd fun _ hK' => wp_copy_rep d s ho b n c dCap x ad sLen sCap m hd hs hg hm hnc hsrc fun w' h1 h2 => hK' _ _ (h w' h1 h2)
theorem made_repC (c : Nat) (x : Int) : madeCells #[.int .i64 0] c = (repC 0 c x).toArray := by
  have e : (madeCells #[.int .i64 0] c).toList = repC 0 c x := by
    apply List.ext_getElem?
    intro i
    by_cases hi : i < c
    · have e1 : i % 1 = 0 := by omega
      simp [madeCells, repC, hi, e1]
    · simp [madeCells, repC, hi]
  rw [← e]
set_option maxHeartbeats 1500000 in
set_option maxRecDepth 100000 in
theorem repeat_is (x : Int) (q c : Nat) (hc1 : 2 ≤ c) (hc2 : c ≤ 1000) (w : World) (hc : w.cell? ⟨q, 0, none⟩ = some (.int .i64 x)) : Calls Tryd.prog 44 #[.slice (some ⟨q, 0, none⟩) 1 1, .int .i64 (c : Int)] w fun e w' =>
    ∃ b, e = .returned (.slice (some ⟨b, 0, none⟩) c c) ∧ w.heap.size ≤ b ∧ Blk w' b 3 (List.replicate c (.int .i64 x)).toArray ∧ Only [] w w' := by
  have HM := hide (fun w => bMul_one c (by omega) w)
  obtain ⟨i0, hi, hz0, hz1, hz2⟩ := info_parts info_int
  have hmk : ∀ u : World, (Instr.makeSlice 23 (.int .i64 (c : Int)) (.int .i64 (c : Int))).run Tryd.prog u =
      .ok (.slice (some ⟨u.heap.size, 0, none⟩) c c) (u.alloc (.cells (madeCells #[.int .i64 0] c) 3)) := fun u => by
    have h := run_make (P := Tryd.prog) u 23 3 i0 (.int .i64 0) Tryd.underlying23 hi hz0 .i64 .i64 (c : Int) (c : Int) (by omega) (Int.le_refl _) (by rw [hz2]; omega) (by omega)
    simpa [hz1, Value.cells] using h
  clear hi hz0 hz1 hz2
  have HC := hide hc
  have hq : q < w.heap.size := World.block_lt_of_cell? w ⟨q, 0, none⟩ hc
  have n0 : ¬ (c : Int) < 0 := by omega
  have n1 : IntKind.u64.wrap (c : Int) = c := by rw [IntKind.wrap_u64]; omega
  have n2 : IntKind.i64.wrap (c : Int) = c := by rw [IntKind.wrap_i64]; omega
  have n3 : ¬ (9223372036854775807 < (c : Int)) := by omega
  have HB := hide (made_repC c x ▸ Blk.new w 3 (madeCells #[.int .i64 0] c) : Blk (w.alloc (.cells (madeCells #[.int .i64 0] c) 3)) w.heap.size 3 (repC 0 c x).toArray)
  have HS := hide (show ∀ j, j < 1 → (w.alloc (.cells (madeCells #[.int .i64 0] c) 3)).cell? ((⟨q, 0, none⟩ : Addr).add j) = some (.int .i64 x) by
    intro j hj
    obtain rfl : j = 0 := by omega
    rw [add_at, ((Only.refl [] w).alloc _).cell hq (by simp)]
    exact hc)
  have HN1 := hide (show 1 = Nat.min 1 (c - 0) by show 1 = min 1 (c - 0); omega)
  have HO := hide ((Only.refl [] w).alloc (.cells (madeCells #[.int .i64 0] c) 3))
  clear hc
  go_enter Tryd.func44, Tryd.ntmps44
  go_wp2_with (first | (go_at_call 47; refine (HM.out _).mono ?_; rintro e w' ⟨rfl, rfl⟩) | (refine wpList_copy_rep rfl (.tmp 31) (.tmp 32) rfl w.heap.size 0 c c x ⟨q, 0, none⟩ 1 1 1 rfl rfl HB.out HN1.out (Nat.zero_le _) HS.out ?_; intro w1 hb1 ho1; have HB1 := hide hb1.out; have HO1 := hide (HO.out.trans' ho1 (fun k hk hm => by simp at hm; omega)); clear hb1 ho1))
  rename_i w1
  clear HS HB HM hmk n0 n1 n2 n3
  go_loopw [8] (fun nv wr => ∃ n : Nat, 1 ≤ n ∧ n ≤ c ∧ nv = .int .i64 n ∧ Blk wr w.heap.size 3 (repC n c x).toArray ∧ Only [] w wr) (fun nv _ => c - (intOf nv).toNat)
  case atStart => exact ⟨1, Nat.le_refl _, by omega, rfl, HB1.out, HO1.out⟩
  case round =>
    obtain ⟨n, h1, h2, rfl, hb, ho⟩ := hrel
    have HBn := hide hb
    have HOn := hide ho
    by_cases hlt : n < c
    · have hltI : (n : Int) < c := by omega
      have e1 : ¬ c = n := by omega
      have e2 : ¬ (n : Int) < 0 := by omega
      have e3 : (n : Int) ≤ c := by omega
      obtain ⟨m, hm⟩ : ∃ m, m = Nat.min n (c - n) := ⟨_, rfl⟩
      have hm2 : m ≤ c - n := by rw [hm]; exact Nat.min_le_right _ _
      have hm1 : m ≤ n := by rw [hm]; exact Nat.min_le_left _ _
      have hm0 : 1 ≤ m := by rw [hm]; show 1 ≤ min n (c - n); omega
      have HM := hide hm
      have HM1 := hide (And.intro hm0 (And.intro hm1 hm2))
      have HS := hide (show ∀ j, j < m → wr.cell? ((⟨w.heap.size, 0, none⟩ : Addr).add j) = some (.int .i64 x) by
        intro j hj
        rw [add_at, hb.cell]
        exact repC_get (by omega))
      have hw1 : IntKind.i64.wrap ((n : Int) + (m : Int)) = ((n + m : Nat) : Int) := by rw [IntKind.wrap_i64]; omega
      clear hb ho hm hm0 hm1 hm2
      go_wp2_with fail
      go_region_law (refine step_copy_rep rfl _ _ rfl w.heap.size n c (c - n) x ⟨w.heap.size, 0, none⟩ n c m (by simp [Act.eval, Act.put]) (by simp [Act.eval, Act.put]) HBn.out.drew HM.out h2 HS.out ?_; intro w2 hb2 ho2; have HB2 := hide hb2.out; have HO2 := hide ho2; clear hb2 ho2)
      all_goals
        go_wp2
        go_roundw
        case rel =>
          (repeat apply Exists.intro)
          exact ⟨⟨n + m, by omega, by have := HM1.out; omega, rfl, HB2.out, HOn.out.drew.trans' HO2.out (fun k hk hm => by simp at hm; omega)⟩, rfl⟩
        case measure =>
          show c - (intOf (.int .i64 ((n + m : Nat) : Int))).toNat < c - (intOf (.int .i64 (n : Int))).toNat
          have := HM1.out
          simp [intOf]
          omega
    · obtain rfl : n = c := by omega
      go_wp2
      go_ret
      exact ⟨_, rfl, Nat.le_refl _, by simpa [repC] using HBn.out, HOn.out⟩
end Go.Proofs.YtccobbfinmlgdaaDoor
