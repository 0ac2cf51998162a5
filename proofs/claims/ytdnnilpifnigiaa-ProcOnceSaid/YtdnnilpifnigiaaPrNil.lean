/-
  Processes and threads (parapet/proc): what no call gave.
-/
import Derived.Test.YtdnnilpifnigiaaPrDo3
namespace Go.Proofs.Ytdnnilpifnigiaa
open Go.ChangeShapes Go.WideShapes Go.ChangeAt Go.RowKit Go.Maps
set_option linter.unusedVariables false
def NoPt (w : World) (p : Value) : Prop := p = .pointer none ∨ ∃ g cs, p = .pointer (some ⟨g, 0, none⟩) ∧ Blk w g 54 cs ∧ cs[0]? = some (.map none)
section
variable {w w' : World} {p : Value} {S : List Nat}
theorem NoPt.quiet (h : NoPt w p) (ho : Only [] w w') : NoPt w' p := by
  rcases h with e | ⟨g, cs, e, hb, hc⟩
  · exact .inl e
  · exact .inr ⟨g, cs, e, hb.only ho (by simp), hc⟩
theorem NoPt.form (h : NoPt w p) : ∃ A, p = .pointer A := by
  rcases h with e | ⟨g, cs, e, _, _⟩
  · exact ⟨_, e⟩
  · exact ⟨_, e⟩
theorem pcclosed_no (h : NoPt w p) : Calls Try.prog 27 #[p] w fun e w' => e = .returned (.bool true) ∧ w = w' := by
  rcases h with rfl | ⟨g, cs, rfl, hb, hc⟩
  · go_enter Try.func27, Try.ntmps27
    go_wp2
    go_ret
    exact ⟨rfl, rfl⟩
  · have c0 : w.cell? ⟨g, 0, none⟩ = some (.map none) := (hb.cell 0).trans hc
    clear hb hc
    have qM : ∀ (w : World) (r : Option Nat), (binOp .eql 51 (.map r) (.map none)).run Try.prog w = .ok (.bool r.isNone) w := fun w r => run_eql_map_nil w _ _ _ r Try.underlying51
    go_enter Try.func27, Try.ntmps27
    go_wp2
    go_ret
    exact ⟨rfl, rfl⟩
theorem fork_no (h : NoPt w p) (a : Int) : Calls Try.prog 11 #[p, .int .i64 a] w fun e w' => e = .returned (.tuple #[.int .i64 0, .int .i64 0, .int .i64 6]) ∧ w = w' := by
  have HC := hide (pcclosed_no h)
  clear h
  go_enter Try.func11, Try.ntmps11
  go_wp2_with (go_at_call 27; refine HC.out.mono ?_; rintro e w' ⟨rfl, rfl⟩)
  go_ret3
  exact ⟨rfl, rfl⟩
theorem spawn_no (h : NoPt w p) (a : Int) : Calls Try.prog 15 #[p, .int .i64 a] w fun e w' => e = .returned (.tuple #[.int .i64 0, .int .i64 6]) ∧ w = w' := by
  have HC := hide (pcclosed_no h)
  clear h
  go_enter Try.func15, Try.ntmps15
  go_wp2_with (go_at_call 27; refine HC.out.mono ?_; rintro e w' ⟨rfl, rfl⟩)
  go_ret2
  exact ⟨rfl, rfl⟩
theorem tend_no (h : NoPt w p) (a b : Int) : Calls Try.prog 17 #[p, .int .i64 a, .int .i64 b] w fun e w' => e = .returned (.tuple #[.bool false, .int .i64 6]) ∧ w = w' := by
  have HC := hide (pcclosed_no h)
  clear h
  go_enter Try.func17, Try.ntmps17
  go_wp2_with (go_at_call 27; refine HC.out.mono ?_; rintro e w' ⟨rfl, rfl⟩)
  go_ret2
  exact ⟨rfl, rfl⟩
theorem exit_no (h : NoPt w p) (a b : Int) : Calls Try.prog 12 #[p, .int .i64 a, .int .i64 b] w fun e w' => e = .returned (.tuple #[.slice none 0 0, .int .i64 6]) ∧ w = w' := by
  have HC := hide (pcclosed_no h)
  clear h
  go_enter Try.func12, Try.ntmps12
  go_wp2_with (go_at_call 27; refine HC.out.mono ?_; rintro e w' ⟨rfl, rfl⟩)
  go_ret2
  exact ⟨rfl, rfl⟩
theorem wait_no (h : NoPt w p) (a : Int) : Calls Try.prog 19 #[p, .int .i64 a] w fun e w' => e = .returned (.tuple #[.int .i64 0, .int .i64 0, .int .i64 6]) ∧ w = w' := by
  have HC := hide (pcclosed_no h)
  clear h
  go_enter Try.func19, Try.ntmps19
  go_wp2_with (go_at_call 27; refine HC.out.mono ?_; rintro e w' ⟨rfl, rfl⟩)
  go_ret3
  exact ⟨rfl, rfl⟩
theorem join_no (h : NoPt w p) (a b : Int) : Calls Try.prog 21 #[p, .int .i64 a, .int .i64 b] w fun e w' => e = .returned (.tuple #[.int .i64 0, .int .i64 6]) ∧ w = w' := by
  have HC := hide (pcclosed_no h)
  clear h
  go_enter Try.func21, Try.ntmps21
  go_wp2_with (go_at_call 27; refine HC.out.mono ?_; rintro e w' ⟨rfl, rfl⟩)
  go_ret2
  exact ⟨rfl, rfl⟩
theorem procs_no (h : NoPt w p) : Calls Try.prog 23 #[p] w fun e w' => e = .returned (.slice none 0 0) ∧ w = w' := by
  have HC := hide (pcclosed_no h)
  clear h
  go_enter Try.func23, Try.ntmps23
  go_wp2_with (go_at_call 27; refine HC.out.mono ?_; rintro e w' ⟨rfl, rfl⟩)
  go_ret
  exact ⟨rfl, rfl⟩
theorem threads_no (h : NoPt w p) : Calls Try.prog 24 #[p] w fun e w' => e = .returned (.slice none 0 0) ∧ w = w' := by
  have HC := hide (pcclosed_no h)
  clear h
  go_enter Try.func24, Try.ntmps24
  go_wp2_with (go_at_call 27; refine HC.out.mono ?_; rintro e w' ⟨rfl, rfl⟩)
  go_ret
  exact ⟨rfl, rfl⟩
theorem copy_no (h : NoPt w p) : Calls Try.prog 10 #[p] w fun e w' => e = .returned (.pointer none) ∧ w = w' := by
  have HC := hide (pcclosed_no h)
  clear h
  go_enter Try.func10, Try.ntmps10
  go_wp2_with (go_at_call 27; refine HC.out.mono ?_; rintro e w' ⟨rfl, rfl⟩)
  go_ret
  exact ⟨rfl, rfl⟩
theorem proc_no (h : NoPt w p) (a : Int) : Calls Try.prog 22 #[p, .int .i64 a] w fun e w' => e = .returned (.tuple #[kV k0, .int .i64 6]) ∧ Only [] w w' := by
  have HC := hide (fun W (ho : Only [] w W) => pcclosed_no (h.quiet ho))
  clear h
  go_enter Try.func22, Try.ntmps22
  go_wp2_with (go_at_call 27; refine (HC.out _ (by repeat (first | exact Only.refl _ _ | apply Only.drew | apply Only.drewN | apply Only.alloc))).mono ?_; rintro e w' ⟨rfl, rfl⟩)
  exact bodyPost_ret (kin_results (p := 4) (q := 5) (f := k0) (v0 := .slice none 0 0) rfl rfl rfl (heap_alloc_new w _)) rfl ⟨rfl, (by repeat (first | exact Only.refl _ _ | apply Only.drew | apply Only.drewN | apply Only.alloc))⟩
theorem thread_no (h : NoPt w p) (a : Int) : Calls Try.prog 16 #[p, .int .i64 a] w fun e w' => e = .returned (.tuple #[sV s0, .int .i64 6]) ∧ Only [] w w' := by
  have HC := hide (fun W (ho : Only [] w W) => pcclosed_no (h.quiet ho))
  clear h
  go_enter Try.func16, Try.ntmps16
  go_wp2_with (go_at_call 27; refine (HC.out _ (by repeat (first | exact Only.refl _ _ | apply Only.drew | apply Only.drewN | apply Only.alloc))).mono ?_; rintro e w' ⟨rfl, rfl⟩)
  exact bodyPost_ret (strand_results (p := 4) (q := 5) (g := s0) rfl rfl rfl (heap_alloc_new w _)) rfl ⟨rfl, (by repeat (first | exact Only.refl _ _ | apply Only.drew | apply Only.drewN | apply Only.alloc))⟩
set_option maxRecDepth 100000 in
theorem children_no (h : NoPt w p) (a : Int) : Calls Try.prog 18 #[p, .int .i64 a] w fun e w' => e = .returned (.slice none 0 0) ∧ Only [] w w' := by
  obtain ⟨A, rfl⟩ := h.form
  have HC := hide (fun W (ho : Only [] w W) => procs_no (h.quiet ho))
  have HD := hide (fun (W : World) b1 b2 => (delCh_is (w := W) (b1 := b1) (b2 := b2) (q := fun _ => true) (KRow.nil .i64 3 W 0) (by simp) (by simp)).mono (R' := fun e w' => e = .returned (.slice none 0 0) ∧ Only [] W w') (fun e w' ⟨v', e1, hr, hb, ho⟩ => by
    rcases hr.2 with ⟨e2, _⟩ | ⟨q, cap, cur, e2, _⟩
    · exact ⟨by rw [e1, e2], ho.mono (by simp [Value.ownBlock])⟩
    · have := hb q (by rw [e2]; rfl)
      simp [Value.ownBlock] at this))
  clear h
  go_enter Try.func18, Try.ntmps18
  go_wp2_with (first | (go_at_call 23; refine (HC.out _ (by repeat (first | exact Only.refl _ _ | apply Only.drew | apply Only.drewN | apply Only.alloc))).mono ?_; rintro e w' ⟨rfl, rfl⟩) | (go_at_call 46; refine (HD.out _ _ _).mono ?_; rintro e w' ⟨rfl, ho⟩; have HO := hide ho; clear ho))
  go_ret
  exact ⟨rfl, Only.trans (by repeat (first | exact Only.refl _ _ | apply Only.drew | apply Only.drewN | apply Only.alloc)) HO.out⟩
end
end Go.Proofs.Ytdnnilpifnigiaa
