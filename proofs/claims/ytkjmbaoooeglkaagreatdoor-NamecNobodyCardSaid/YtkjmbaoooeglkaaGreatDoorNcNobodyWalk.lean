/-
  The walk of 'NamecNobody'.
-/
import Derived.Test.YtkjmbaoooeglkaaGreatDoorNcLives
import Derived.Test.YtkjmbaoooeglkaaGreatDoorReadName
import Derived.Deep.AppendLies
import Derived.Deep.RegionLaw
namespace Go.Proofs.YtkjmbaoooeglkaaGreatDoor
open Go.ChangeShapes Go.WideShapes Go.ChangeAt Go.RowKit Go.Deep
set_option linter.unusedVariables false
set_option linter.unusedSimpArgs false
section
variable {w w' : World} {k : NM}
theorem nil_closed (w : World) : Calls Tryz.prog 30 #[.pointer none] w fun e w' => e = .returned (.bool true) ∧ w = w' := by
  go_enter Tryz.func30, Tryz.ntmps30
  go_wp2
  go_ret
  exact ⟨rfl, rfl⟩
theorem nil_look (k : NM) (w : World) : Calls Tryz.prog 13 #[.pointer none, kV k] w fun e w' => e = .returned (.tuple #[.int .i64 0, .bool false]) ∧ Only [] w w' := by
  have HO := hide ((Only.refl [] w).alloc (.cells #[.int .i64 k.dir, .string k.name] 43))
  unfold kV
  go_enter Tryz.func13, Tryz.ntmps13
  go_wp2_with (go_at_call 30; refine (nil_closed _).mono ?_; rintro e w' ⟨rfl, rfl⟩)
  go_ret2
  exact ⟨rfl, HO.out⟩
theorem nil_put (k : NM) (n : Int) (w : World) : Calls Tryz.prog 15 #[.pointer none, kV k, .int .i64 n] w fun e w' => e = .returned (.int .i64 6) ∧ Only [] w w' := by
  have HO := hide ((Only.refl [] w).alloc (.cells #[.int .i64 k.dir, .string k.name] 43))
  unfold kV
  go_enter Tryz.func15, Tryz.ntmps15
  go_wp2_with (go_at_call 30; refine (nil_closed _).mono ?_; rintro e w' ⟨rfl, rfl⟩)
  go_ret
  exact ⟨rfl, HO.out⟩
theorem nil_forget (k : NM) (w : World) : Calls Tryz.prog 16 #[.pointer none, kV k] w fun e w' => e = .returned (.bool false) ∧ Only [] w w' := by
  have HO := hide ((Only.refl [] w).alloc (.cells #[.int .i64 k.dir, .string k.name] 43))
  unfold kV
  go_enter Tryz.func16, Tryz.ntmps16
  go_wp2_with (go_at_call 30; refine (nil_closed _).mono ?_; rintro e w' ⟨rfl, rfl⟩)
  go_ret
  exact ⟨rfl, HO.out⟩
theorem nil_forgetDir (n : Int) (w : World) : Calls Tryz.prog 17 #[.pointer none, .int .i64 n] w fun e w' => e = .returned (.int .i64 0) ∧ Only [] w w' := by
  have HO := hide ((Only.refl [] w).alloc (.cells #[.int .i64 n] 3))
  go_enter Tryz.func17, Tryz.ntmps17
  go_wp2_with (go_at_call 30; refine (nil_closed _).mono ?_; rintro e w' ⟨rfl, rfl⟩)
  go_ret
  exact ⟨rfl, HO.out⟩
theorem nil_kept (w : World) : Calls Tryz.prog 18 #[.pointer none] w fun e w' => e = .returned (.slice none 0 0) ∧ w = w' := by
  go_enter Tryz.func18, Tryz.ntmps18
  go_wp2_with (go_at_call 30; refine (nil_closed _).mono ?_; rintro e w' ⟨rfl, rfl⟩)
  go_ret
  exact ⟨rfl, rfl⟩
theorem nil_walk (I : Value) (a b c : Int) (s : ByteArray) (w : World) : Calls Tryz.prog 8 #[.pointer none, I, .agg #[.int .i64 a, .int .i64 b, .int .i64 c], .string s] w fun e w' => e = .returned (.tuple #[.int .i64 0, .int .i64 6]) ∧ Only [] w w' := by
  go_enter Tryz.func8, Tryz.ntmps8
  go_wp2_with (go_at_call 30; refine (nil_closed _).mono ?_; rintro e w' ⟨rfl, rfl⟩)
  go_ret2
  exact ⟨rfl, by repeat (first | exact Only.refl _ _ | apply Only.drew | apply Only.drewN | apply Only.alloc)⟩
theorem nil_parent (I : Value) (a b c : Int) (s : ByteArray) (w : World) : Calls Tryz.prog 14 #[.pointer none, I, .agg #[.int .i64 a, .int .i64 b, .int .i64 c], .string s] w fun e w' => e = .returned (.tuple #[.int .i64 0, .string ⟨#[]⟩, .int .i64 6]) ∧ Only [] w w' := by
  go_enter Tryz.func14, Tryz.ntmps14
  go_wp2_with (go_at_call 30; refine (nil_closed _).mono ?_; rintro e w' ⟨rfl, rfl⟩)
  go_ret3
  exact ⟨rfl, by repeat (first | exact Only.refl _ _ | apply Only.drew | apply Only.drewN | apply Only.alloc)⟩
theorem new_nil (n : Int) (w : World) : Calls Tryz.prog 12 #[.pointer none, .int .i64 n] w fun e w' => e = .returned (.tuple #[.pointer none, .int .i64 1]) ∧ w = w' := by
  go_enter Tryz.func12, Tryz.ntmps12
  go_wp2
  go_ret2
  exact ⟨rfl, rfl⟩
theorem layout_is (w : World) : Calls Tryz.prog 9 #[] w fun e w' => e = .returned (.agg #[.int .i64 64, .int .i64 8, .int .i64 24]) ∧ Only [] w w' := by
  go_enter Tryz.func9, Tryz.ntmps9
  go_wp2
  refine bodyPost_ret (v := .agg #[.int .i64 64, .int .i64 8, .int .i64 24]) (results_cell_row (p := 0) rfl _ _ w.heap.size 38 _ (0, 0) _ rfl (heap_alloc_new w _) Tryz.underlying38 rfl (by kernel_rfl)) rfl ?_
  exact ⟨rfl, by repeat (first | exact Only.refl _ _ | apply Only.drew | apply Only.drewN | apply Only.alloc)⟩
theorem info_row8 : (Tryz.prog.info? 83).map (fun i => (i.zero, i.size, i.bytes)) = some (some (.slice none 0 0), 1, 24) := by kernel_rfl
set_option maxRecDepth 100000 in
set_option maxHeartbeats 1000000 in
/-- A row of one block. -/
theorem blocks1_is (w : World) : Calls Tryz.prog 11 #[.int .i64 1] w fun e w' => (∃ b, e = .returned (.pointer (some ⟨b, 0, none⟩))) ∧ Only [] w w' := by
  obtain ⟨i1, hj, hy0, hy1, hy2⟩ := info_parts info_u8
  have hmk : ∀ u : World, (Instr.makeSlice 83 (.int .i64 512) (.int .i64 512)).run Tryz.prog u =
      .ok (.slice (some ⟨u.heap.size, 0, none⟩) 512 512) (u.alloc (.cells (madeCells #[.int .u8 0] 512) 5)) := fun u => by
    have h := run_make (P := Tryz.prog) u 83 5 i1 (.int .u8 0) Tryz.underlying83 hj hy0 .i64 .i64 (512 : Int) (512 : Int) (by omega) (Int.le_refl _) (by rw [hy2]; omega) (by omega)
    simpa [hy1, Value.cells] using h
  obtain ⟨i0, hi, hz0, hz1, hz2⟩ := info_parts info_row8
  clear hj hy0 hy1 hy2
  go_enter Tryz.func11, Tryz.ntmps11
  go_wp2
  have HBK := hide (Blk.new w 82 #[.slice none 0 0])
  have HOA := hide ((Only.refl [] w).alloc (.cells #[.slice none 0 0] 82))
  generalize hW : w.alloc (.cells #[.slice none 0 0] 82) = W1 at *
  generalize hq : w.heap.size = q at *
  go_loopw [4] (fun iv wr => (iv = .int .i64 0 ∧ Only [] w wr ∧ Blk wr q 82 #[.slice none 0 0]) ∨ (iv = .int .i64 1 ∧ Only [] w wr)) (fun iv _ => 1 - (intOf iv).toNat)
  case atStart => exact .inl ⟨rfl, HOA.out.trans (by repeat (first | exact Only.refl _ _ | apply Only.drew | apply Only.drewN)), HBK.out.only (S := []) (by repeat (first | exact Only.refl _ _ | apply Only.drew | apply Only.drewN)) (by simp)⟩
  case round =>
    rcases hrel with ⟨rfl, ho, hb⟩ | ⟨rfl, ho⟩
    · have HO := hide ho
      have HB := hide hb
      have c0 : wr.cell? ⟨q, 0, none⟩ = some (.slice none 0 0) := hb.cell 0
      have c0a : ∀ o, (wr.alloc o).cell? ⟨q, 0, none⟩ = some (.slice none 0 0) := fun o => (hb.only ((Only.refl [] wr).alloc o) (by simp)).cell 0
      have c0b : ∀ o o', ((wr.alloc o).alloc o').cell? ⟨q, 0, none⟩ = some (.slice none 0 0) := fun o o' => (hb.only (((Only.refl [] wr).alloc o).alloc o') (by simp)).cell 0
      have hql : w.heap.size ≤ q := Nat.le_of_eq hq
      clear ho hb
      go_wp2_with fail
      go_region_law (refine step_append_lies _ rfl _ _ 80 rfl 0 83 i0 _ 1 24 Tryz.underlying80 hi hz0 hz1 hz2 rfl (by decide) (.slice none 0 0) 0 [] (by simp [Act.eval, Act.put]) ⟨by simp, .inl ⟨rfl, by simp⟩⟩ ⟨_, 0, none⟩ 1 1 [.slice (some ⟨_, 0, none⟩) 512 512] (by simp [Act.eval, Act.put]) rfl (World.news_of_block (cs := #[.slice (some ⟨_, 0, none⟩) 512 512]) (t := 83) (fr := (0, 0)) (heap_alloc_new _ _)) (by simp [Value.oneCell']) (by decide) (by unfold maxLen; omega) (by omega) (Nat.zero_le _) _ rfl ?_; intro g5 cap5 w5 hown5 hgrow5 hat5 hlt5; have k4 : Only [] _ w5 := only_grown' hgrow5; have k5 : Only [] wr w5 := Only.trans (by repeat (first | exact Only.refl _ _ | apply Only.drew | apply Only.alloc)) k4; have c5 : w5.cell? ⟨q, 0, none⟩ = some (.slice none 0 0) := (HB.out.only k5 (by simp)).cell 0; have f5 : w5.frozen? ⟨q, 0, none⟩ = false := (HB.out.only k5 (by simp)).frozen 0; have K5 := hide k5; clear hown5 hgrow5 hat5 hlt5 k5)
      all_goals
        go_wp2
        go_roundw
        case rel => exact .inr ⟨by go_num, (HO.out.trans K5.out).trans' ((Only.refl [q] w5).setCell (p := ⟨q, 0, none⟩) _ (by simp)) (fun x hx hm => by simp at hm; omega)⟩
        case measure => simp [intOf]
    · go_wp2
      go_ret
      exact ⟨⟨_, rfl⟩, ho⟩
end
end Go.Proofs.YtkjmbaoooeglkaaGreatDoor
