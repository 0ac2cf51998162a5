/-
  Open files (parapet/fdtab): what no call gave.
-/
import Derived.Test.YtfplfpfnlffnjaaFdMap
namespace Go.Proofs.Ytfplfpfnlffnjaa
open Go.ChangeShapes Go.WideShapes Go.ChangeAt Go.RowKit
set_option linter.unusedVariables false

def NoFi (w : World) (p : Value) : Prop := p = .pointer none ∨ ∃ g, p = .pointer (some ⟨g, 0, none⟩) ∧ Blk w g 52 #[.map none]
def NoTa (w : World) (p : Value) : Prop := p = .pointer none ∨ ∃ g cs, p = .pointer (some ⟨g, 0, none⟩) ∧ Blk w g 62 cs ∧ cs[0]? = some (.pointer none)
section
variable {w w' : World} {p : Value} {S : List Nat}
theorem NoFi.quiet (h : NoFi w p) (ho : Only [] w w') : NoFi w' p := by
  rcases h with e | ⟨g, e, hb⟩
  · exact .inl e
  · exact .inr ⟨g, e, hb.only ho (by simp)⟩
theorem NoTa.quiet (h : NoTa w p) (ho : Only [] w w') : NoTa w' p := by
  rcases h with e | ⟨g, cs, e, hb, hc⟩
  · exact .inl e
  · exact .inr ⟨g, cs, e, hb.only ho (by simp), hc⟩
theorem fdclosed_no (h : NoFi w p) : Calls Try.prog 38 #[p] w fun e w' => e = .returned (.bool true) ∧ w = w' := by
  rcases h with rfl | ⟨g, rfl, hb⟩
  · go_enter Try.func38, Try.ntmps38
    go_wp2
    go_ret
    exact ⟨rfl, rfl⟩
  · have c0 : w.cell? ⟨g, 0, none⟩ = some (.map none) := hb.cell 0
    clear hb
    have qM : ∀ (w : World) (r : Option Nat), (binOp .eql 50 (.map r) (.map none)).run Try.prog w = .ok (.bool r.isNone) w := fun w r => run_eql_map_nil w _ _ _ r Try.underlying50
    go_enter Try.func38, Try.ntmps38
    go_wp2
    go_ret
    exact ⟨rfl, rfl⟩
theorem tbclosed_no (h : NoTa w p) : Calls Try.prog 37 #[p] w fun e w' => e = .returned (.bool true) ∧ w = w' := by
  rcases h with rfl | ⟨g, cs, rfl, hb, hc⟩
  · go_enter Try.func37, Try.ntmps37
    go_wp2
    go_ret
    exact ⟨rfl, rfl⟩
  · have c0 : w.cell? ⟨g, 0, none⟩ = some (.pointer none) := (hb.cell 0).trans hc
    clear hb hc
    go_enter Try.func37, Try.ntmps37
    go_wp2
    go_ret
    exact ⟨rfl, rfl⟩
theorem open_no (h : NoFi w p) (a b c : Int) : Calls Try.prog 10 #[p, .int .i64 a, .int .i64 b, .int .i64 c] w fun e w' => e = .returned (.tuple #[.int .i64 0, .int .i64 6]) ∧ w = w' := by
  have HC := hide (fdclosed_no h)
  clear h
  go_enter Try.func10, Try.ntmps10
  go_wp2_with (go_at_call 38; refine HC.out.mono ?_; rintro e w' ⟨rfl, rfl⟩)
  go_ret2
  exact ⟨rfl, rfl⟩
theorem get_no (h : NoFi w p) (a : Int) : Calls Try.prog 19 #[p, .int .i64 a] w fun e w' => e = .returned (.tuple #[.agg #[.int .i64 0, .int .i64 0, .int .i64 0, .int .i64 0, .int .i64 0], .int .i64 6]) ∧ Only [] w w' := by
  have HC := hide (fun W (ho : Only [] w W) => fdclosed_no (h.quiet ho))
  clear h
  go_enter Try.func19, Try.ntmps19
  go_wp2_with (go_at_call 38; refine (HC.out _ (by repeat (first | exact Only.refl _ _ | apply Only.drew | apply Only.drewN | apply Only.alloc))).mono ?_; rintro e w' ⟨rfl, rfl⟩)
  exact bodyPost_ret (get_results (p := 4) (q := 5) (f := f0) rfl rfl rfl (heap_alloc_new w _)) rfl ⟨rfl, (by repeat (first | exact Only.refl _ _ | apply Only.drew | apply Only.drewN | apply Only.alloc))⟩
theorem move_no (h : NoFi w p) (a b : Int) : Calls Try.prog 16 #[p, .int .i64 a, .int .i64 b] w fun e w' => e = .returned (.int .i64 6) ∧ Only [] w w' := by
  have HC := hide (fun W (ho : Only [] w W) => get_no (h.quiet ho) a)
  clear h
  go_enter Try.func16, Try.ntmps16
  go_wp2_with (go_at_call 19; refine (HC.out _ (Only.refl _ _)).mono ?_; rintro e w' ⟨rfl, ho⟩; have HO := hide ho; clear ho)
  go_ret
  exact ⟨rfl, HO.out.alloc _⟩
theorem drop_no (h : NoFi w p) (a : Int) : Calls Try.prog 20 #[p, .int .i64 a] w fun e w' => e = .returned (.tuple #[.agg #[.int .i64 0, .int .i64 0, .int .i64 0, .int .i64 0, .int .i64 0], .bool false, .int .i64 6]) ∧ Only [] w w' := by
  have HC := hide (fun W (ho : Only [] w W) => get_no (h.quiet ho) a)
  have HW := hide (show ∀ W, Only [] (w.alloc (.cells (fC f0) 42)) W → Blk (W.alloc (.cells (fC f0) 42)) w.heap.size 42 (fC f0) ∧ Only [] w ((W.alloc (.cells (fC f0) 42)).setRow w.heap.size (fC f0)) from fun W ho =>
    ⟨((Blk.new w 42 (fC f0)).only ho (by simp)).alloc _, ((((Only.refl [] w).alloc _).trans ho).alloc _).setRow _ (fun hlt => absurd hlt (Nat.lt_irrefl _))⟩)
  clear h
  go_enter Try.func20, Try.ntmps20
  go_wp2_with (first | (with_reducible refine wp_region_lit (id := 3) ?_) | (go_at_call 19; refine (HC.out _ (by repeat (first | exact Only.refl _ _ | apply Only.drew | apply Only.drewN | apply Only.alloc))).mono ?_; rintro e w1 ⟨rfl, ho⟩; have HX := hide (HW.out _ ho); clear ho HW) | ((with_reducible refine file_store (.tmp 4) (.tmp 17) f0 HX.out.1 ?_ ?_ ?_); (· rfl); (· rfl)))
  exact bodyPost_ret (drop_results (p := 4) (q := 5) (s := 6) (f := f0) rfl rfl rfl rfl (HX.out.1.row _)) rfl ⟨rfl, HX.out.2⟩
theorem all_no (h : NoFi w p) : Calls Try.prog 21 #[p] w fun e w' => e = .returned (.slice none 0 0) ∧ w = w' := by
  have HC := hide (fdclosed_no h)
  clear h
  go_enter Try.func21, Try.ntmps21
  go_wp2_with (go_at_call 38; refine HC.out.mono ?_; rintro e w' ⟨rfl, rfl⟩)
  go_ret
  exact ⟨rfl, rfl⟩
theorem on_no (h : NoFi w p) (a b : Int) : Calls Try.prog 22 #[p, .int .i64 a, .int .i64 b] w fun e w' => e = .returned (.int .i64 0) ∧ w = w' := by
  have HC := hide (fdclosed_no h)
  clear h
  go_enter Try.func22, Try.ntmps22
  go_wp2_with (go_at_call 38; refine HC.out.mono ?_; rintro e w' ⟨rfl, rfl⟩)
  go_ret
  exact ⟨rfl, rfl⟩
theorem table_no (h : NoFi w p) : Calls Try.prog 23 #[p] w fun e w' => e = .returned (.pointer none) ∧ w = w' := by
  have HC := hide (fdclosed_no h)
  clear h
  go_enter Try.func23, Try.ntmps23
  go_wp2_with (go_at_call 38; refine HC.out.mono ?_; rintro e w' ⟨rfl, rfl⟩)
  go_ret
  exact ⟨rfl, rfl⟩
theorem install_no (h : NoTa w p) (a : Int) : Calls Try.prog 11 #[p, .int .i64 a] w fun e w' => e = .returned (.tuple #[.int .i64 0, .int .i64 6]) ∧ w = w' := by
  have HC := hide (tbclosed_no h)
  clear h
  go_enter Try.func11, Try.ntmps11
  go_wp2_with (go_at_call 37; refine HC.out.mono ?_; rintro e w' ⟨rfl, rfl⟩)
  go_ret2
  exact ⟨rfl, rfl⟩
theorem tget_no (h : NoTa w p) (a : Int) : Calls Try.prog 15 #[p, .int .i64 a] w fun e w' => e = .returned (.tuple #[.int .i64 0, .int .i64 6]) ∧ w = w' := by
  have HC := hide (tbclosed_no h)
  clear h
  go_enter Try.func15, Try.ntmps15
  go_wp2_with (go_at_call 37; refine HC.out.mono ?_; rintro e w' ⟨rfl, rfl⟩)
  go_ret2
  exact ⟨rfl, rfl⟩
theorem dup_no (h : NoTa w p) (a : Int) : Calls Try.prog 12 #[p, .int .i64 a] w fun e w' => e = .returned (.tuple #[.int .i64 0, .int .i64 6]) ∧ w = w' := by
  have HC := hide (tget_no h a)
  clear h
  go_enter Try.func12, Try.ntmps12
  go_wp2_with (go_at_call 15; refine HC.out.mono ?_; rintro e w' ⟨rfl, rfl⟩)
  go_ret2
  exact ⟨rfl, rfl⟩
theorem close_no (h : NoTa w p) (a : Int) : Calls Try.prog 13 #[p, .int .i64 a] w fun e w' => e = .returned (.tuple #[.agg #[.int .i64 0, .int .i64 0, .int .i64 0, .int .i64 0, .int .i64 0], .bool false, .int .i64 6]) ∧ Only [] w w' := by
  have HC := hide (fun W (ho : Only [] w W) => tget_no (h.quiet ho) a)
  clear h
  go_enter Try.func13, Try.ntmps13
  go_wp2_with (go_at_call 15; refine (HC.out _ (by repeat (first | exact Only.refl _ _ | apply Only.drew | apply Only.drewN | apply Only.alloc))).mono ?_; rintro e w' ⟨rfl, rfl⟩)
  exact bodyPost_ret (drop_results (p := 4) (q := 5) (s := 6) (f := f0) rfl rfl rfl rfl (heap_alloc_new w _)) rfl ⟨rfl, (by repeat (first | exact Only.refl _ _ | apply Only.drew | apply Only.drewN | apply Only.alloc))⟩
theorem fork_no (h : NoTa w p) : Calls Try.prog 14 #[p] w fun e w' => e = .returned (.tuple #[.pointer none, .int .i64 6]) ∧ w = w' := by
  have HC := hide (tbclosed_no h)
  clear h
  go_enter Try.func14, Try.ntmps14
  go_wp2_with (go_at_call 37; refine HC.out.mono ?_; rintro e w' ⟨rfl, rfl⟩)
  go_ret2
  exact ⟨rfl, rfl⟩
theorem fds_no (h : NoTa w p) : Calls Try.prog 24 #[p] w fun e w' => e = .returned (.slice none 0 0) ∧ w = w' := by
  have HC := hide (tbclosed_no h)
  clear h
  go_enter Try.func24, Try.ntmps24
  go_wp2_with (go_at_call 37; refine HC.out.mono ?_; rintro e w' ⟨rfl, rfl⟩)
  go_ret
  exact ⟨rfl, rfl⟩
theorem free_no (h : NoTa w p) : Calls Try.prog 9 #[p] w fun e w' => e = .returned (.int .i64 0) ∧ w = w' := by
  have HC := hide (tbclosed_no h)
  clear h
  go_enter Try.func9, Try.ntmps9
  go_wp2_with (go_at_call 37; refine HC.out.mono ?_; rintro e w' ⟨rfl, rfl⟩)
  go_ret
  exact ⟨rfl, rfl⟩
end
end Go.Proofs.Ytfplfpfnlffnjaa
