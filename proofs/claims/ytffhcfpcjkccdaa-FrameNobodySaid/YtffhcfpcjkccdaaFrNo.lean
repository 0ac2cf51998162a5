/-
  Frames (parapet/frame) that New did not give: nil, or a struct without a memory.
-/
import Derived.Test.YtffhcfpcjkccdaaFrAwake
namespace Go.Proofs.Ytffhcfpcjkccdaa
open Go.ChangeShapes Go.WideShapes Go.ChangeAt Go.RowKit Go.Shelf
set_option linter.unusedVariables false
attribute [local go_sem] Oper.semAt_some

def NoFr (w : World) (p : Option Addr) : Prop := p = none ∨ ∃ t, p = some ⟨t, 0, none⟩ ∧ t < w.heap.size ∧ w.cell? ⟨t, 0, none⟩ = some (.pointer none)
theorem NoFr.only {w w' : World} {p : Option Addr} (h : NoFr w p) (ho : Only [] w w') : NoFr w' p := by
  rcases h with rfl | ⟨t, rfl, hl, hc⟩
  · exact .inl rfl
  · exact .inr ⟨t, rfl, Nat.lt_of_lt_of_le hl ho.size, (ho.cell hl (by simp)).trans hc⟩
theorem NoFr.below {w w' : World} {p : Option Addr} (h : NoFr w p) (ho : Below w.heap.size w w') : NoFr w' p := h.only (Only.of_below ho)

section
variable {w : World} {p : Option Addr} (h : NoFr w p)
include h
theorem fclosed_no : Calls Try.prog 34 #[.pointer p] w fun e w' => e = .returned (.bool true) ∧ w = w' := by
  rcases h with rfl | ⟨t, rfl, _, hc⟩
  · go_enter Try.func34, Try.ntmps34
    go_wp2
    go_ret
    exact ⟨rfl, rfl⟩
  · go_enter Try.func34, Try.ntmps34
    go_wp2
    go_ret
    exact ⟨rfl, rfl⟩
theorem alloc_no (x : Int) : Calls Try.prog 13 #[.pointer p, .int .i64 x] w fun e w' => e = .returned (.tuple #[.int .i64 0, .int .i64 6]) ∧ w = w' := by
  have H := hide (fclosed_no h)
  clear h
  go_enter Try.func13, Try.ntmps13
  go_wp2_with (go_at_call 34; refine H.out.mono ?_; rintro e w' ⟨rfl, rfl⟩)
  go_ret2
  exact ⟨rfl, rfl⟩
theorem decr_no' (x y : Int) : Calls Try.prog 15 #[.pointer p, .int .i64 x, .int .i64 y] w fun e w' => e = .returned (.tuple #[.bool false, .int .i64 6]) ∧ w = w' := by
  have H := hide (fclosed_no h)
  clear h
  go_enter Try.func15, Try.ntmps15
  go_wp2_with (go_at_call 34; refine H.out.mono ?_; rintro e w' ⟨rfl, rfl⟩)
  go_ret2
  exact ⟨rfl, rfl⟩
theorem incr_no' (x : Int) : Calls Try.prog 19 #[.pointer p, .int .i64 x] w fun e w' => e = .returned (.int .i64 6) ∧ w = w' := by
  have H := hide (fclosed_no h)
  clear h
  go_enter Try.func19, Try.ntmps19
  go_wp2_with (go_at_call 34; refine H.out.mono ?_; rintro e w' ⟨rfl, rfl⟩)
  go_ret
  exact ⟨rfl, rfl⟩
theorem count_no (x : Int) : Calls Try.prog 20 #[.pointer p, .int .i64 x] w fun e w' => e = .returned (.int .i64 0) ∧ ∃ n, w' = w.drewN n := by
  have H := hide (fun n => fclosed_no (h.only ((Only.refl [] w).drewN n)))
  clear h
  go_enter Try.func20, Try.ntmps20
  go_wp2_with fail
  go_quiet (first | (go_at_call 34; exact Calls.quiet_of_same ((H.out _).mono fun _ _ h => ⟨h.1, h.2.symm⟩)))
  go_wp2
  go_ret
  exact ⟨rfl, _, rfl⟩
theorem free_no : Calls Try.prog 17 #[.pointer p] w fun e w' => e = .returned (.int .i64 0) ∧ w = w' := by
  have H := hide (fclosed_no h)
  clear h
  go_enter Try.func17, Try.ntmps17
  go_wp2_with (go_at_call 34; refine H.out.mono ?_; rintro e w' ⟨rfl, rfl⟩)
  go_ret
  exact ⟨rfl, rfl⟩
theorem used_no : Calls Try.prog 16 #[.pointer p] w fun e w' => e = .returned (.int .i64 0) ∧ w = w' := by
  have H := hide (fclosed_no h)
  clear h
  go_enter Try.func16, Try.ntmps16
  go_wp2_with (go_at_call 34; refine H.out.mono ?_; rintro e w' ⟨rfl, rfl⟩)
  go_ret
  exact ⟨rfl, rfl⟩
theorem list_no' (x : Int) : Calls Try.prog 21 #[.pointer p, .int .i64 x] w fun e w' => e = .returned (.slice none 0 0) ∧ w = w' := by
  have H := hide (fclosed_no h)
  clear h
  go_enter Try.func21, Try.ntmps21
  go_wp2_with (go_at_call 34; refine H.out.mono ?_; rintro e w' ⟨rfl, rfl⟩)
  go_ret
  exact ⟨rfl, rfl⟩
theorem common_no : Calls Try.prog 22 #[.pointer p] w fun e w' => e = .returned (.slice none 0 0) ∧ w = w' := by
  have H := hide (fclosed_no h)
  clear h
  go_enter Try.func22, Try.ntmps22
  go_wp2_with (go_at_call 34; refine H.out.mono ?_; rintro e w' ⟨rfl, rfl⟩)
  go_ret
  exact ⟨rfl, rfl⟩
theorem right_no : Calls Try.prog 18 #[.pointer p] w fun e w' => e = .returned (.bool false) ∧ w' = w.alloc (.cells #[.pointer p] 28) := by
  have H := hide (fclosed_no (h.only ((Only.refl [] w).alloc (.cells #[.pointer p] 28))))
  clear h
  go_enter Try.func18, Try.ntmps18
  go_wp2_with (go_at_call 34; refine H.out.mono ?_; rintro e w' ⟨rfl, rfl⟩)
  go_ret
  exact ⟨rfl, rfl⟩
/-- Its iterator gives nothing. -/
theorem all1_no (n n₀ B : Nat) (hn : 1 ≤ n) (hB : Blk w B 28 #[.pointer p]) :
    SeqStopsK Fence.wide n Try.prog 44 #[.pointer (some ⟨B, 0, none⟩)] (fun x : Empty => x.elim) (Below n₀) (fun xs => xs = []) (fun _ => False) 0 w := fun l J Jx W hW hJ hJx hY h0 => by
  have hcW := (hW.cell (p := ⟨B, 0, none⟩) hB.lt).trans (hB.cell 0)
  have H := hide (fclosed_no (h.below hW))
  refine callsIn_of_wp Try.func44 rfl trivial ?_ rfl
  simp only [Try.ntmps44, List.size_toArray, List.length_cons, List.length_nil, Nat.reduceAdd, Nat.reduceSub, Array.replicate_succ, Array.replicate_zero, List.push_toArray, List.append_toArray, List.nil_append, List.cons_append]
  gi_wp2_with (refine ⟨trivial, ?_⟩; gi_at_call 34; refine (callsIn_wide.2 H.out).mono ?_; rintro e w' ⟨rfl, rfl⟩)
  refine bodyPost_ret (results_none rfl _ _ _) rfl ?_
  exact ⟨⟨_, rfl⟩, .inl ⟨_, rfl, h0⟩⟩
end

theorem take_one6 {α : Type} (l : List α) (i : Nat) (h : i < l.length) : (l.drop i).take 1 = [l[i]] := by
  rw [List.drop_eq_getElem_cons h]; rfl
end Go.Proofs.Ytffhcfpcjkccdaa
