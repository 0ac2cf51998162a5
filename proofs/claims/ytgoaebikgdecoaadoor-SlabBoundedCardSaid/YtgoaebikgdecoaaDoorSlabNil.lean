/-
  Slabs (parapet/slab): heaps that New did not give: nil, or a struct without a map.
-/
import Derived.Test.YtgoaebikgdecoaaDoorSlabAwake
import Derived.RangeFuncNested
import Derived.RangeFuncBound
import Derived.RangeFuncCalls
import Derived.RangeFuncLeaves
import Derived.RangeFuncBox
import Derived.Shelf.Abstract
import Derived.Shelf.RegionOpen
import Derived.OwnWalkIn
import Derived.TacticsInMore
import Derived.LoopNIn
import Derived.LoopIn
namespace Go.Proofs.YtgoaebikgdecoaaDoor
open Go.ChangeShapes Go.WideShapes Go.ChangeAt Go.RowKit Go.Maps Go.Shelf
set_option linter.unusedVariables false
attribute [local go_sem] Oper.semAt_some

/-- Blocks of cells stay, but for those of S. -/
def KeepsCells (S : List Nat) (A C : World) : Prop := A.heap.size ≤ C.heap.size ∧ ∀ k t cs, k ∉ S → Blk A k t cs → Blk C k t cs
theorem keepsCells_t {S : List Nat} {X Y Z : World} (h : KeepsCells S X Y) (k : KeepsCells S Y Z) : KeepsCells S X Z := ⟨Nat.le_trans h.1 k.1, fun q t cs hq hb => k.2 q t cs hq (h.2 q t cs hq hb)⟩
theorem keepsCells_b {S : List Nat} (W : World) (l : Nat) (o o' : Obj) (h : W.heap[l]? = some o) (hc : o.isCells = false) : KeepsCells S W (W.putObj l o') :=
  ⟨by simp, fun q t cs hq hb => by
    refine (grownBy_putObj' W l o').block q hb.lt (fun e => ?_) |>.trans hb
    injection e with e
    subst e
    unfold Blk at hb
    rw [h] at hb
    injection hb with hb
    subst hb
    cases hc⟩
theorem KeepsCells.of_only {S : List Nat} {A C : World} (h : Only S A C) : KeepsCells S A C := ⟨h.size, fun q t cs hq hb => hb.only h hq⟩
theorem grown_of_only {w w' : World} (h : Only [] w w') : w.grownBy w' none := ⟨h.os, h.tape, h.output, h.size, fun k hk _ => h.block k hk (by simp)⟩
theorem keepsCells_grown {W W' : World} {row : Option Nat} (hg : W.grownBy W' row) (hr : ∀ r, row = some r → ∃ o : Obj, W.heap[r]? = some o ∧ o.isCells = false) (S : List Nat) : KeepsCells S W W' :=
  ⟨hg.size, fun k t cs _ hb => by
    refine (hg.block k hb.lt (fun e => ?_)).trans hb
    obtain ⟨o, ho, hc⟩ := hr k e.symm
    unfold Blk at hb
    rw [hb] at ho
    injection ho with ho
    subst ho
    cases hc⟩
def NoHp (w : World) (p : Option Addr) : Prop := p = none ∨ ∃ t, p = some ⟨t, 0, none⟩ ∧ t < w.heap.size ∧ w.cell? ⟨t, 2, none⟩ = some (.map none)
theorem NoHp.only {w w' : World} {p : Option Addr} (h : NoHp w p) (ho : Only [] w w') : NoHp w' p := by
  rcases h with rfl | ⟨t, rfl, hl, hc⟩
  · exact .inl rfl
  · exact .inr ⟨t, rfl, Nat.lt_of_lt_of_le hl ho.size, (ho.cell hl (by simp)).trans hc⟩
theorem NoHp.below {w w' : World} {p : Option Addr} (h : NoHp w p) (ho : Below w.heap.size w w') : NoHp w' p := h.only (Only.of_below ho)

section
variable {w : World} {p : Option Addr} (h : NoHp w p)
include h
theorem hclosed_no : Calls Tryd.prog 26 #[.pointer p] w fun e w' => e = .returned (.bool true) ∧ w = w' := by
  have qM : ∀ (w : World) (r : Option Nat), (binOp .eql 48 (.map r) (.map none)).run Tryd.prog w = .ok (.bool r.isNone) w := fun w r => run_eql_map_nil w _ _ _ r Tryd.underlying48
  rcases h with rfl | ⟨t, rfl, _, hc⟩
  · go_enter Tryd.func26, Tryd.ntmps26
    go_wp2
    go_ret
    exact ⟨rfl, rfl⟩
  · go_enter Tryd.func26, Tryd.ntmps26
    go_wp2
    go_ret
    exact ⟨rfl, rfl⟩
theorem hhas_no8 (id : Int) : Calls Tryd.prog 42 #[.pointer p, .int .i64 id] w fun e w' => e = .returned (.bool false) ∧ w = w' := by
  have H := hide (hclosed_no h)
  clear h
  go_enter Tryd.func42, Tryd.ntmps42
  go_wp2_with (go_at_call 26; refine H.out.mono ?_; rintro e w' ⟨rfl, rfl⟩)
  go_ret
  exact ⟨rfl, rfl⟩
theorem alloc_no8 (k o : Int) : Calls Tryd.prog 11 #[.pointer p, .int .i64 k, .int .i64 o] w fun e w' => e = .returned (.tuple #[.int .i64 0, .int .i64 6]) ∧ Only [] w w' := by
  have H := hide (fun o => hclosed_no (h.only ((Only.refl [] w).alloc o)))
  have HO := hide (fun o => (Only.refl [] w).alloc o)
  clear h
  go_enter Tryd.func11, Tryd.ntmps11
  go_wp2_with (go_at_call 26; refine (H.out _).mono ?_; rintro e w' ⟨rfl, rfl⟩)
  go_ret2
  exact ⟨rfl, HO.out _⟩
theorem free_no8 (id : Int) : Calls Tryd.prog 14 #[.pointer p, .int .i64 id] w fun e w' => e = .returned (.int .i64 6) ∧ w = w' := by
  have H := hide (hclosed_no h)
  clear h
  go_enter Tryd.func14, Tryd.ntmps14
  go_wp2_with (go_at_call 26; refine H.out.mono ?_; rintro e w' ⟨rfl, rfl⟩)
  go_ret
  exact ⟨rfl, rfl⟩
theorem kind_no8 (id : Int) : Calls Tryd.prog 21 #[.pointer p, .int .i64 id] w fun e w' => e = .returned (.int .i64 0) ∧ w = w' := by
  have H := hide (fun id => hhas_no8 h id)
  clear h
  go_enter Tryd.func21, Tryd.ntmps21
  go_wp2_with (go_at_call 42; refine (H.out _).mono ?_; rintro e w' ⟨rfl, rfl⟩)
  go_ret
  exact ⟨rfl, rfl⟩
theorem owner_no8 (id : Int) : Calls Tryd.prog 22 #[.pointer p, .int .i64 id] w fun e w' => e = .returned (.int .i64 0) ∧ w = w' := by
  have H := hide (fun id => hhas_no8 h id)
  clear h
  go_enter Tryd.func22, Tryd.ntmps22
  go_wp2_with (go_at_call 42; refine (H.out _).mono ?_; rintro e w' ⟨rfl, rfl⟩)
  go_ret
  exact ⟨rfl, rfl⟩
theorem live_no8  : Calls Tryd.prog 19 #[.pointer p] w fun e w' => e = .returned (.int .i64 0) ∧ w = w' := by
  have H := hide (hclosed_no h)
  clear h
  go_enter Tryd.func19, Tryd.ntmps19
  go_wp2_with (go_at_call 26; refine H.out.mono ?_; rintro e w' ⟨rfl, rfl⟩)
  go_ret
  exact ⟨rfl, rfl⟩
theorem used_no8  : Calls Tryd.prog 17 #[.pointer p] w fun e w' => e = .returned (.int .i64 0) ∧ w = w' := by
  have H := hide (hclosed_no h)
  clear h
  go_enter Tryd.func17, Tryd.ntmps17
  go_wp2_with (go_at_call 26; refine H.out.mono ?_; rintro e w' ⟨rfl, rfl⟩)
  go_ret
  exact ⟨rfl, rfl⟩
theorem bytes_no8  : Calls Tryd.prog 18 #[.pointer p] w fun e w' => e = .returned (.int .i64 0) ∧ w = w' := by
  have H := hide (hclosed_no h)
  clear h
  go_enter Tryd.func18, Tryd.ntmps18
  go_wp2_with (go_at_call 26; refine H.out.mono ?_; rintro e w' ⟨rfl, rfl⟩)
  go_ret
  exact ⟨rfl, rfl⟩
theorem limit_no8  : Calls Tryd.prog 23 #[.pointer p] w fun e w' => e = .returned (.int .i64 0) ∧ w = w' := by
  have H := hide (hclosed_no h)
  clear h
  go_enter Tryd.func23, Tryd.ntmps23
  go_wp2_with (go_at_call 26; refine H.out.mono ?_; rintro e w' ⟨rfl, rfl⟩)
  go_ret
  exact ⟨rfl, rfl⟩
theorem owned_no8 (o : Int) : Calls Tryd.prog 24 #[.pointer p, .int .i64 o] w fun e w' => e = .returned (.int .i64 0) ∧ w = w' := by
  have H := hide (hclosed_no h)
  clear h
  go_enter Tryd.func24, Tryd.ntmps24
  go_wp2_with (go_at_call 26; refine H.out.mono ?_; rintro e w' ⟨rfl, rfl⟩)
  go_ret
  exact ⟨rfl, rfl⟩
theorem room_no8 (k : Int) : Calls Tryd.prog 20 #[.pointer p, .int .i64 k] w fun e w' => e = .returned (.int .i64 0) ∧ w = w' := by
  have H := hide (hclosed_no h)
  clear h
  go_enter Tryd.func20, Tryd.ntmps20
  go_wp2_with (go_at_call 26; refine H.out.mono ?_; rintro e w' ⟨rfl, rfl⟩)
  go_ret
  exact ⟨rfl, rfl⟩
theorem fits_no8 (A : Option Addr) (n c : Nat) : Calls Tryd.prog 15 #[.pointer p, .slice A n c] w fun e w' => e = .returned (.bool false) ∧ w = w' := by
  have H := hide (hclosed_no h)
  clear h
  go_enter Tryd.func15, Tryd.ntmps15
  go_wp2_with (go_at_call 26; refine H.out.mono ?_; rintro e w' ⟨rfl, rfl⟩)
  go_ret
  exact ⟨rfl, rfl⟩
theorem fork_no8  : Calls Tryd.prog 10 #[.pointer p] w fun e w' => e = .returned (.pointer none) ∧ w = w' := by
  have H := hide (hclosed_no h)
  clear h
  go_enter Tryd.func10, Tryd.ntmps10
  go_wp2_with (go_at_call 26; refine H.out.mono ?_; rintro e w' ⟨rfl, rfl⟩)
  go_ret
  exact ⟨rfl, rfl⟩
/-- Its iterator gives nothing. -/
theorem all1_no8 (n n₀ B : Nat) (hn : 1 ≤ n) (hB : Blk w B 24 #[.pointer p]) :
    SeqStopsK Fence.wide n Tryd.prog 46 #[.pointer (some ⟨B, 0, none⟩)] (fun x : Empty => x.elim) (Below n₀) (fun xs => xs = []) (fun _ => False) 0 w := fun l J Jx W hW hJ hJx hY h0 => by
  have hcW := (hW.cell (p := ⟨B, 0, none⟩) hB.lt).trans (hB.cell 0)
  have H := hide (hclosed_no (h.below hW))
  refine callsIn_of_wp Tryd.func46 rfl trivial ?_ rfl
  simp only [Tryd.ntmps46, List.size_toArray, List.length_cons, List.length_nil, Nat.reduceAdd, Nat.reduceSub, Array.replicate_succ, Array.replicate_zero, List.push_toArray, List.append_toArray, List.nil_append, List.cons_append]
  gi_wp2_with (refine ⟨trivial, ?_⟩; gi_at_call 26; refine (callsIn_wide.2 H.out).mono ?_; rintro e w' ⟨rfl, rfl⟩)
  refine bodyPost_ret (results_none rfl _ _ _) rfl ?_
  exact ⟨⟨_, rfl⟩, .inl ⟨_, rfl, h0⟩⟩
end
theorem take_one8 {α : Type} (l : List α) (i : Nat) (h : i < l.length) : (l.drop i).take 1 = [l[i]] := by
  rw [List.drop_eq_getElem_cons h]; rfl
end Go.Proofs.YtgoaebikgdecoaaDoor
