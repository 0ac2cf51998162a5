/-
  The iterators of a page table (parapet/ptab): its leaves, its entries, All.
-/
import Derived.Test.YtmlaomkofcajgaaPtabEach
import Derived.Test.YtmlaomkofcajgaaPtabInv
import Derived.Test.YtmlaomkofcajgaaKRow
import Derived.RangeFuncBox
namespace Go.Proofs.Ytmlaomkofcajgaa
open Go.ChangeShapes Go.WideShapes Go.ChangeAt Go.RowKit Go.Shelf
set_option linter.unusedVariables false
attribute [local go_sem] Oper.semAt_some

/-- A word of the root that names a leaf. -/
abbrev LeafI (xs : List Int) (root : Int) := { i : Int // (0 ≤ i ∧ i ≤ 3) ∧ leafB xs root i = true }
abbrev encsLf (xs : List Int) (root : Int) (x : LeafI xs root) : Array Value := #[.int .i64 x.1, .int .i64 (wordB xs root x.1 / 256)]
/-- Those among the first k. -/
def leavesTo (xs : List Int) (root : Int) : Nat → List (LeafI xs root)
  | 0 => []
  | k + 1 => if h : (0 ≤ (k : Int) ∧ (k : Int) ≤ 3) ∧ leafB xs root k = true then leavesTo xs root k ++ [⟨k, h⟩] else leavesTo xs root k

theorem leavesTo_len (xs : List Int) (root : Int) : ∀ k, (leavesTo xs root k).length ≤ k
  | 0 => Nat.le_refl _
  | k + 1 => by
    have := leavesTo_len xs root k
    unfold leavesTo
    split
    · simp; omega
    · omega
theorem leavesTo_yes {xs : List Int} {root : Int} {k : Nat} (h : (0 ≤ (k : Int) ∧ (k : Int) ≤ 3) ∧ leafB xs root k = true) : leavesTo xs root (k + 1) = leavesTo xs root k ++ [⟨k, h⟩] := by
  rw [leavesTo, dif_pos h]
theorem leavesTo_no {xs : List Int} {root : Int} {k : Nat} (h : leafB xs root k = false) : leavesTo xs root (k + 1) = leavesTo xs root k := by
  rw [leavesTo, dif_neg (by rw [h]; simp)]

/-- What a round of theirs keeps. -/
def KpB (n₀ B : Nat) (A C : World) : Prop := Below n₀ A C ∧ ∀ v, A.cell? ⟨B, 0, none⟩ = some v → C.cell? ⟨B, 0, none⟩ = some v
theorem kpB_t {n₀ B : Nat} {X Y Z : World} (h : KpB n₀ B X Y) (k : KpB n₀ B Y Z) : KpB n₀ B X Z := ⟨h.1.trans k.1, fun v hv => k.2 v (h.2 v hv)⟩
theorem kpB_b {n₀ B : Nat} {w : World} (hn : n₀ ≤ w.heap.size) (W : World) (l : Nat) (o o' : Obj) (hl : w.heap.size ≤ l) (h : W.heap[l]? = some o) (hc : o.isCells = false) (hw : o.isWalk = false) : KpB n₀ B W (W.putObj l o') :=
  ⟨belowK_b hn W l o o' hl h hc hw, fun v hv => cell_kept hv (grownBy_putObj' W l o') (fun r e => by cases e; exact ⟨o, h, hc⟩)⟩

theorem IsTab.below {A C : World} {t g d cap n₀ : Nat} {xs : List Int} {r : List Value} {root : Int} (h : IsTab A t g d cap xs r root) (hb : Below n₀ A C) (ht : t < n₀) (hg : g < n₀) (hd : d < n₀) : IsTab C t g d cap xs r root :=
  ⟨(hb.block t ht).trans h.tab, ⟨(hb.block g hg).trans h.mem.mem, (hb.block d hd).trans h.mem.row, h.mem.cap, h.mem.pos, h.mem.mul, h.mem.big, h.mem.tne⟩, h.u8, h.root⟩
theorem grown_drewN (w : World) (n : Nat) : w.grownBy (w.drewN n) none := ⟨rfl, rfl, rfl, Nat.le_refl _, fun _ _ _ => rfl⟩

section
variable {w : World} {t g d cap : Nat} {xs : List Int} {r : List Value} {root : Int}

set_option maxRecDepth 100000 in
set_option maxHeartbeats 2000000 in
theorem leaves1_is (hT : IsTab w t g d cap xs r root) (n n₀ B : Nat) (hn : 2 ≤ n) (hB : B < w.heap.size) (hc : w.cell? ⟨B, 0, none⟩ = some (.pointer (some ⟨t, 0, none⟩))) (hn0 : n₀ ≤ w.heap.size) (ht : t < n₀) (hg : g < n₀) (hd : d < n₀) :
    SeqStopsK Fence.wide n Try.prog 66 #[.pointer (some ⟨B, 0, none⟩)] (encsLf xs root) (KpB n₀ B) (fun ys => ys = leavesTo xs root 4) (fun pre => ∃ k, k ≤ 4 ∧ pre = leavesTo xs root k) 4 w := fun l J Jx W hW hJ hJx hY h0 => by
  have hcW := (hW.cell (p := ⟨B, 0, none⟩) hB).trans hc
  have hTW : IsTab W t g d cap xs r root := hT.below (hW.mono hn0) ht hg hd
  have HT0 := hide hTW
  have HY := hide hY
  have HJ := hide hJ
  clear hY hJ hJx hT hTW
  have h1 : 1 ≤ n := by omega
  have h2 : 1 ≤ n - 1 := by omega
  (refine callsIn_of_wp Try.func66 rfl trivial ?_ rfl; simp only [Try.ntmps66, List.size_toArray, List.length_cons, List.length_nil, Nat.reduceAdd, Nat.reduceSub, Array.replicate_succ, Array.replicate_zero, List.push_toArray, List.append_toArray, List.nil_append, List.cons_append])
  gi_wp2_with (refine ⟨trivial, ?_⟩; gi_at_call 43; refine (callsIn_wide.2 (tclosed_is HT0.out)).mono ?_; rintro e w' ⟨rfl, rfl⟩)
  gi_loopw [8] (fun i wr => ∃ k : Nat, k ≤ 4 ∧ i = .int .i64 k ∧ J (leavesTo xs root k) wr ∧ wr.cell? ⟨B, 0, none⟩ = some (.pointer (some ⟨t, 0, none⟩)) ∧ IsTab wr t g d cap xs r root) (fun i _ => 4 - (intOf i).toNat)
  case atStart => exact ⟨0, by decide, rfl, h0, hcW, HT0.out⟩
  case round =>
    obtain ⟨k, hk, rfl, hJk, hcB, hTk⟩ := hrel
    by_cases hlt : k < 4
    · have c0 := hTk.cell0
      have c1 := hTk.cell1
      have HL := hide fun n => leafAt_is (hTk.mem.drewN n) hTk.u8 root (k : Int) hTk.root (by omega) (by omega)
      have HTK := hide hTk
      have HJK := hide hJk
      clear hTk hJk
      gi_wp2
      refine wpIn_wide.2 ?_
      by_cases hl : leafB xs root (k : Int) = true
      · rw [hl] at HL
        go_quiet (first | (go_at_call 46; exact Calls.quiet_of (HL.out _)))
        have HJ2 := hide (HJ.out _ _ _ none HJK.out (grown_drewN wr nq) (by simp))
        have HT2 := hide (HTK.out.drewN nq)
        have HB2 := hide (show (wr.drewN nq).cell? ⟨B, 0, none⟩ = some (.pointer (some ⟨t, 0, none⟩)) from hcB)
        have hcond : (0 ≤ (k : Int) ∧ (k : Int) ≤ 3) ∧ leafB xs root k = true := ⟨by omega, hl⟩
        obtain ⟨fn, tmps, assign, body, hy, hR⟩ := HY.out (leavesTo xs root k) ⟨k, hcond⟩ (wr.drewN nq) HJ2.out (by have := leavesTo_len xs root k; omega)
        dsimp only [encsLf] at hy
        clear hcB c0 c1
        gi_wp2
        refine hR.mono ?_
        rintro e W3 (⟨rfl, hJ3, hk3⟩ | ⟨rfl, hJx3⟩)
        · have HN := hide (show J (leavesTo xs root (k + 1)) W3 ∧ W3.cell? ⟨B, 0, none⟩ = some (.pointer (some ⟨t, 0, none⟩)) ∧ IsTab W3 t g d cap xs r root from
            ⟨by rw [leavesTo_yes hcond]; exact hJ3, hk3.2 _ HB2.out, HT2.out.below hk3.1 ht hg hd⟩)
          clear hJ3 hk3 hR hy
          gi_wp2
          go_roundw
          case rel => exact ⟨k + 1, by omega, by go_num, HN.out.1, HN.out.2.1, HN.out.2.2⟩
          case measure => simp [intOf]; omega
        · clear hR hy
          gi_wp2
          refine bodyPost_ret (results_none rfl _ _ _) rfl ?_
          exact ⟨⟨_, rfl⟩, .inr ⟨_, ⟨k + 1, by omega, rfl⟩, by rw [leavesTo_yes hcond]; exact hJx3⟩⟩
      · have hl' : leafB xs root (k : Int) = false := by simpa using hl
        rw [hl'] at HL
        go_quiet (first | (go_at_call 46; exact Calls.quiet_of (HL.out _)))
        have HN := hide (show J (leavesTo xs root (k + 1)) (wr.drewN nq) ∧ (wr.drewN nq).cell? ⟨B, 0, none⟩ = some (.pointer (some ⟨t, 0, none⟩)) ∧ IsTab (wr.drewN nq) t g d cap xs r root from
          ⟨by rw [leavesTo_no hl']; exact HJ.out _ _ _ none HJK.out (grown_drewN wr nq) (by simp), hcB, HTK.out.drewN nq⟩)
        clear hcB c0 c1 hl
        gi_wp2
        refine ⟨fun _ h => (by cases h), ?_⟩
        gi_wp2
        go_roundw
        case rel => exact ⟨k + 1, by omega, by go_num, HN.out.1, HN.out.2.1, HN.out.2.2⟩
        case measure => simp [intOf]; omega
    · obtain rfl : k = 4 := by omega
      rw [show ((4 : Nat) : Int) = 4 from rfl]
      clear hlt hk
      gi_wp2
      go_end0
      exact ⟨⟨_, rfl⟩, .inl ⟨_, rfl, hJk⟩⟩
end

theorem krow_kept {k : IntKind} {e : TypeId} {W W' : World} {B : Nat} {v : Value} {ns : List Int} {row : Option Nat} (h : KRow k e W B v ns) (hg : W.grownBy W' row) (hr : ∀ r, row = some r → ∃ o : Obj, W.heap[r]? = some o ∧ o.isCells = false) : KRow k e W' B v ns := by
  obtain ⟨hl, h⟩ := h
  refine ⟨hl, ?_⟩
  rcases h with hn | ⟨q, cap, cur, rfl, hb, hq, rest⟩
  · exact .inl hn
  · exact .inr ⟨q, cap, cur, rfl, hb, blk_kept hq hg hr, rest⟩
theorem krow_base {k : IntKind} {e : TypeId} {W : World} {B B' : Nat} {v : Value} {ns : List Int} (h : KRow k e W B v ns) (hB : B' ≤ B) : KRow k e W B' v ns := by
  obtain ⟨hl, h⟩ := h
  refine ⟨hl, ?_⟩
  rcases h with hn | ⟨q, cap, cur, rfl, hb, rest⟩
  · exact .inl hn
  · exact .inr ⟨q, cap, cur, rfl, Nat.le_trans hB hb, rest⟩
theorem krow_cells {k : IntKind} {e : TypeId} {W : World} {B : Nat} {v : Value} {ns : List Int} (h : KRow k e W B v ns) (j : Nat) (o : Obj) (hj : v.ownBlock = some j) (ho : W.heap[j]? = some o) : o.isCells = true := by
  rcases h.2 with ⟨e', h0⟩ | ⟨b, cap, cur, e', hB, hg, rest⟩
  · rw [e'] at hj; simp [Value.ownBlock] at hj
  · rw [e'] at hj
    simp only [Value.ownBlock, Option.some.injEq] at hj
    subst hj
    rw [hg] at ho
    injection ho with ho
    subst ho
    rfl

theorem wpListIn_append_k {F : Fence} {m : Nat} {k : IntKind} {e : TypeId} {B : Nat} {v : Value} {ns : List Int} {ops : Array Oper} {rest : List Oper} {o : Oper} {a : Act} {Q : Exit → Act → World → Prop} {T : TypeId} {bytes : Nat} (hT : Try.prog.underlying T = some (.slice e))
    (hinfo : (Try.prog.info? e).map (fun i => (i.zero, i.size, i.bytes)) = some (some (.int k 0), 1, bytes)) (hb8 : bytes ≤ 8) (hgd : o.guard = none) (s x : Operand)
    (ho : o.op = .call { callee := .builtin .append, args := #[s, x], argTypes := #[T, T] }) (w : World) (hs : a.eval s = v) (hrow : KRow k e w B v ns)
    (q : Nat) (z : Int) (hx : a.eval x = .slice (some ⟨q, 0, none⟩) 1 1) (hc : w.cell? ⟨q, 0, none⟩ = some (.int k z)) (hlen : ns.length < 4000000000000) (hB : B ≤ w.heap.size)
    (h : ∀ v' w1, KRow k e w1 B v' (ns ++ [z]) → w.grownBy w1 v.ownBlock → wpListIn F m Try.prog ops Q rest (a.put o.dst v') w1) : wpListIn F m Try.prog ops Q (o :: rest) a w := by
  obtain ⟨i0, hi, hz0, hz1, hz2⟩ := info_parts hinfo
  refine wpListIn_append_own w hgd s x T ho B e i0 _ 1 bytes hT hi hz0 hz1 hz2 rfl (by decide) v ns.length (ns.map (Value.int k)) hs hrow ⟨q, 0, none⟩ 1 1 [.int k z] hx rfl ?_ ?_ (by unfold maxLen; omega) ?_ hB ?_
  · intro j u hj
    have h0 : j = 0 := by
      have := (List.getElem?_eq_some_iff.1 hj).1
      simp at this
      exact this
    subst h0
    rw [add_at, hc]
    exact hj
  · intro u hu
    obtain rfl := List.mem_singleton.1 hu
    rfl
  · have : (ns.length + 1) * bytes ≤ 4000000000000 * 8 := Nat.mul_le_mul (by omega) hb8
    omega
  · intro v' w1 hown hgrow _
    refine h v' w1 ?_ hgrow
    unfold KRow
    rw [List.length_append, List.length_singleton, List.map_append]
    exact hown

/-- The leaves' frames, by the root's words. -/
def frames (xs : List Int) (root : Int) (ls : List (LeafI xs root)) : List Int := ls.map fun x => wordB xs root x.1 / 256

section
variable {w : World} {t g d cap : Nat} {xs : List Int} {r : List Value} {root : Int}

set_option maxRecDepth 100000 in
set_option maxHeartbeats 2000000 in
theorem Leaves_is (hT : IsTab w t g d cap xs r root) : Calls Try.prog 34 #[.pointer (some ⟨t, 0, none⟩)] w fun e w' => ∃ v, e = .returned v ∧ KRow .i64 3 w' w.heap.size v (frames xs root (leavesTo xs root 4)) ∧ Below w.heap.size w w' := by
  (refine (callsIn_wide (n := 9)).1 ?_; refine callsIn_of_wp_marks Try.func34 rfl trivial ?_ rfl; simp only [Try.ntmps34, List.size_toArray, List.length_cons, List.length_nil, Nat.reduceAdd, Nat.reduceSub, Array.replicate_succ, Array.replicate_zero, List.push_toArray, List.append_toArray, List.nil_append, List.cons_append]; refine wpIn_wide.2 ?_)
  go_wp2_with (go_at_call 60; refine (tleaves_new _ _).mono ?_; rintro e w1 ⟨rfl, hw1⟩; have HW1 := hide hw1; clear hw1)
  obtain ⟨hlt, hlg, hld⟩ := hT.lt
  have hT1 : IsTab w1 t g d cap xs r root := by rw [HW1.out]; exact (hT.alloc _).alloc _
  have hsz : w1.heap.size = w.heap.size + 2 := by rw [HW1.out]; simp
  have hc : w1.cell? ⟨w.heap.size + 1, 0, none⟩ = some (.pointer (some ⟨t, 0, none⟩)) := by rw [HW1.out]; simp
  have hl0 : w1.cell? ⟨w.heap.size, 0, none⟩ = some (.slice none 0 0) := by rw [HW1.out]; simp
  have hf0 : w1.frozen? ⟨w.heap.size, 0, none⟩ = false := by rw [HW1.out]; simp
  have hB1 : Below w.heap.size w w1 := by rw [HW1.out]; exact ((Below.refl _ w).alloc (Nat.le_refl _) _).alloc (by simp) _
  clear HW1 hT
  refine (wpIn_wide (n := 9)).1 ?_
  refine wpIn_rangeFunc_ownF rfl (by decide) (gf := 66) (lb := #[.pointer (some ⟨w.heap.size + 1, 0, none⟩)]) rfl trivial (enters_of Try.func66 (by kernel_rfl) rfl)
    (leaves1_is hT1 _ w.heap.size (w.heap.size + 1) (by decide) (by omega) hc (by omega) hlt hlg hld) kpB_t (kpB_b (by omega)) (Below.refl _ _) (fun x => rfl)
    (fun pre W => (∃ v, W.cell? ⟨w.heap.size, 0, none⟩ = some v ∧ W.frozen? ⟨w.heap.size, 0, none⟩ = false ∧ KRow .i64 3 W (w.heap.size + 2) v (frames xs root pre)) ∧ (Below w.heap.size w W ∧ w1.heap.size ≤ W.heap.size)) (fun _ _ _ => False)
    (OwnFrom.and (Own.from (fun s A B row hs hg hr => by obtain ⟨v, h1, h2, h3⟩ := hs; exact ⟨v, cell_kept h1 hg hr, (frozen_kept h1 hg hr).trans h2, krow_kept h3 hg hr⟩) _) (OwnFrom.and (ownFrom_below (Nat.le_refl _) (by omega)) (Own.from (fun s A B row hs hg hr => Nat.le_trans hs hg.size) _)))
    (fun _ _ _ _ _ hs _ _ => hs)
    ⟨⟨_, hl0, hf0, KRow.nil _ _ _ _⟩, hB1, Nat.le_refl _⟩
    (fun x => { tmps := #[.pointer (some ⟨t, 0, none⟩), undef, .slice none 0 0, .pointer (some ⟨w.heap.size, 0, none⟩), undef, .int .i64 (wordB xs root x.1 / 256), .pointer (some ⟨t, 0, none⟩), .func (.func 66) #[] #[.pointer (some ⟨w.heap.size + 1, 0, none⟩)], .int .i64 x.1, .int .i64 (wordB xs root x.1 / 256), undef, undef, undef, undef, undef], defers := [] }) ?assign ?body ?done ?stop
  case assign =>
    intro l x W K hK
    gi_wp2
    exact hK
  case body =>
    rintro l pre x W ⟨⟨v, h1, h2, h3⟩, hB, h4⟩ hlen
    have hsz' : w.heap.size + 2 ≤ w1.heap.size := by omega
    clear hc hl0 hf0 hB1 hT1
    obtain ⟨A, c, rfl, _⟩ := h3.form
    have hlw : w.heap.size + 2 ≤ W.heap.size := Nat.le_trans hsz' h4
    have hln : (frames xs root pre).length < 4000000000000 := by simp only [frames, List.length_map]; omega
    have HLN := hide hln
    have ha1 := (Only.refl [] W).alloc (.cells #[.int .i64 (wordB xs root x.1 / 256)] 3)
    have hra : KRow .i64 3 (W.alloc (.cells #[.int .i64 (wordB xs root x.1 / 256)] 3)) (w.heap.size + 2) (.slice A (frames xs root pre).length c) (frames xs root pre) := h3.only ha1 (by simp)
    have HRA := hide hra
    have HCC := hide ((Blk.new W 3 #[.int .i64 (wordB xs root x.1 / 256)]).cell 0)
    have HBA := hide (show w.heap.size + 2 ≤ (W.alloc (.cells #[.int .i64 (wordB xs root x.1 / 256)] 3)).heap.size by simp; omega)
    have HLB := hide (fun (w1 : World) (hg1 : (W.alloc (.cells #[.int .i64 (wordB xs root x.1 / 256)] 3)).grownBy w1 (Value.slice A (frames xs root pre).length c).ownBlock) => (show w1.cell? ⟨w.heap.size, 0, none⟩ = some (.slice A (frames xs root pre).length c) ∧ w1.frozen? ⟨w.heap.size, 0, none⟩ = false from by
      have hblk : w1.heap[w.heap.size]? = W.heap[w.heap.size]? := by
        refine (hg1.block w.heap.size (by simp; omega) (fun e => ?_)).trans (Below.heap_alloc W _ w.heap.size (by omega))
        have := (hra.at_ e.symm).1
        omega
      exact ⟨(World.cell?_of_block (a := ⟨w.heap.size, 0, none⟩) hblk).trans h1, by
        have : w1.frozen? ⟨w.heap.size, 0, none⟩ = W.frozen? ⟨w.heap.size, 0, none⟩ := by simp only [World.frozen?, hblk]
        rw [this]; exact h2⟩))
    clear hln
    gi_wp2_with (gi_at_builtin; refine wpListIn_append_k (k := .i64) (e := 3) (T := 45) (bytes := 8) Try.underlying45 info_int (by decide) rfl _ _ rfl _ rfl HRA.out W.heap.size (wordB xs root x.1 / 256) rfl HCC.out HLN.out HBA.out ?_; intro v' w1 hr1 hg1; obtain ⟨A', c', rfl, _⟩ := hr1.form; obtain ⟨k1, k2⟩ := HLB.out w1 hg1)
    replace hg1 : (W.alloc (.cells #[.int .i64 (wordB xs root x.1 / 256)] 3)).grownBy w1 (Value.slice A (frames xs root pre).length c).ownBlock := hg1
    have hfr : frames xs root (pre ++ [x]) = frames xs root pre ++ [wordB xs root x.1 / 256] := by simp [frames]
    have hsz1 : W.heap.size + 1 ≤ w1.heap.size := by have := hg1.size; simpa using this
    have hb1 : Below w.heap.size W w1 := ((Below.refl _ W).alloc (by omega) _).grown hg1 (by simp; omega) (fun j e => by have := (hra.at_ e).1; omega)
    refine ⟨((KeepsOthers.alloc W _).trans (KeepsOthers.of_grownBy hg1 (fun j o hj ho => krow_cells hra j o hj ho))).trans (KeepsOthers.setCell w1 _ _), ⟨hb1.setCell (p := ⟨w.heap.size, 0, none⟩) (Nat.le_refl _) _, fun v hv => ?_⟩, ⟨_, World.cell?_setCell_same' w1 _ _ (by rw [k1]; rfl), by rw [World.frozen?_setCell]; exact k2, ?_⟩, hB.trans (hb1.setCell (p := ⟨w.heap.size, 0, none⟩) (Nat.le_refl _) _), by simp [World.setCell]; omega⟩
    · have hlB : w.heap.size + 1 < W.heap.size := by omega
      have hblk : (w1.setCell ⟨w.heap.size, 0, none⟩ (.slice A' (frames xs root pre ++ [wordB xs root x.1 / 256]).length c')).heap[w.heap.size + 1]? = W.heap[w.heap.size + 1]? := by
        refine (Below.heap_setCell w1 ⟨w.heap.size, 0, none⟩ _ _ (by simp)).trans ((hg1.block (w.heap.size + 1) (by simp; omega) (fun e => ?_)).trans (Below.heap_alloc W _ _ hlB))
        have := (hra.at_ e.symm).1
        omega
      rw [List.length_append, List.length_singleton] at hblk
      exact (World.cell?_of_block (a := ⟨w.heap.size + 1, 0, none⟩) hblk).trans hv
    · rw [hfr]
      rw [List.length_append, List.length_singleton] at hr1
      refine hr1.only (S := [w.heap.size]) ((Only.refl _ w1).setCell (p := ⟨w.heap.size, 0, none⟩) _ (by simp)) (fun j hj => ?_)
      have := (hr1.at_ hj).1
      simp
      omega
  case done =>
    rintro D ys W hD rfl ⟨⟨v, h1, h2, h3⟩, hB, _⟩ hK
    obtain ⟨A, c, rfl, _⟩ := h3.form
    go_wp2
    refine ⟨by simp, .inl ⟨_, _, rfl, run_takeDeferred hK, ?_⟩⟩
    refine ⟨_, results_tmp rfl _ _ _, _, rfl, ?_, hB.trans (belowK_b (w := w) (Nat.le_refl _) W D _ _ (by omega) hK rfl rfl)⟩
    exact krow_base (krow_kept h3 (grownBy_putObj' W D (.deferred none)) (fun r e => by cases e; exact ⟨_, hK, rfl⟩)) (Nat.le_add_right _ _)
  case stop =>
    rintro D c pre W hD _ h _
    exact h.elim
end
end Go.Proofs.Ytmlaomkofcajgaa
