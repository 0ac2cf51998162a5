/-
  The walk of 'FdNobody'.
-/
import Derived.Test.YtfplfpfnlffnjaaFdAwake
import Derived.Test.YtfplfpfnlffnjaaFdNil
import Derived.Test.YtfplfpfnlffnjaaRead
namespace Go.Proofs.Ytfplfpfnlffnjaa
open Go.ChangeShapes Go.WideShapes Go.ChangeAt Go.RowKit Go.Deep
set_option linter.unusedVariables false
set_option linter.unusedSimpArgs false
def tabC0 : Array Value := #[.pointer none, .int .i64 0, .int .i64 0, .int .i64 0, .int .i64 0, .int .i64 0, .int .i64 0, .int .i64 0, .int .i64 0, .int .i64 0, .int .i64 0, .int .i64 0, .int .i64 0, .int .i64 0, .int .i64 0, .int .i64 0, .int .i64 0]
abbrev opC (a b c d e : Int) : Array Value := #[.int .i64 a, .int .i64 b, .int .i64 c, .int .i64 d, .int .i64 e]
section
variable {H : Type} {enc : TypeId × Value → H} {w : World} {base : Nat} {d : DataW H}
set_option maxRecDepth 100000 in
theorem Rd.op22 {v : Value} (o : Value.okWide Try.prog w .any base 26 v) (h : Rd enc Try.prog w 26 v.cells.toList d) : ∃ a b c d e, v = .agg (opC a b c d e) := by
  obtain ⟨cs, rfl, hsz⟩ := okWide_struct Try.underlying26 o
  rw [show Try.prog.cellsOf 26 = 5 by kernel_rfl] at hsz
  obtain ⟨l⟩ := cs
  match l, hsz with
  | [c0, c1, c2, c3, c4], _ =>
    obtain ⟨⟨n, ps, hn⟩, _⟩ := h
    obtain ⟨ys, n', _, _, hlen, hyl, hfs⟩ := DataW.trod_struct Try.underlying26 hn
    obtain ⟨x0, e0⟩ : ∃ x, c0 = .int .i64 x := by
      have hk : DataW.trod enc Try.prog w 0 (fun _ => true) true n' 3 (List.take (Try.prog.cellsOf 3) (List.drop 0 [c0, c1, c2, c3, c4])) = ys[0]? := hfs 0 _ rfl
      rw [List.getElem?_eq_getElem (by rw [hyl]; decide), show Try.prog.cellsOf 3 = 1 by kernel_rfl] at hk
      obtain ⟨x, hx, _, hw⟩ := DataW.trod_int Try.underlying3 hk
      injection hx with hx _
      exact ⟨x, hx⟩
    obtain ⟨x1, e1⟩ : ∃ x, c1 = .int .i64 x := by
      have hk : DataW.trod enc Try.prog w 0 (fun _ => true) true n' 3 (List.take (Try.prog.cellsOf 3) (List.drop 1 [c0, c1, c2, c3, c4])) = ys[1]? := hfs 1 _ rfl
      rw [List.getElem?_eq_getElem (by rw [hyl]; decide), show Try.prog.cellsOf 3 = 1 by kernel_rfl] at hk
      obtain ⟨x, hx, _, hw⟩ := DataW.trod_int Try.underlying3 hk
      injection hx with hx _
      exact ⟨x, hx⟩
    obtain ⟨x2, e2⟩ : ∃ x, c2 = .int .i64 x := by
      have hk : DataW.trod enc Try.prog w 0 (fun _ => true) true n' 3 (List.take (Try.prog.cellsOf 3) (List.drop 2 [c0, c1, c2, c3, c4])) = ys[2]? := hfs 2 _ rfl
      rw [List.getElem?_eq_getElem (by rw [hyl]; decide), show Try.prog.cellsOf 3 = 1 by kernel_rfl] at hk
      obtain ⟨x, hx, _, hw⟩ := DataW.trod_int Try.underlying3 hk
      injection hx with hx _
      exact ⟨x, hx⟩
    obtain ⟨x3, e3⟩ : ∃ x, c3 = .int .i64 x := by
      have hk : DataW.trod enc Try.prog w 0 (fun _ => true) true n' 3 (List.take (Try.prog.cellsOf 3) (List.drop 3 [c0, c1, c2, c3, c4])) = ys[3]? := hfs 3 _ rfl
      rw [List.getElem?_eq_getElem (by rw [hyl]; decide), show Try.prog.cellsOf 3 = 1 by kernel_rfl] at hk
      obtain ⟨x, hx, _, hw⟩ := DataW.trod_int Try.underlying3 hk
      injection hx with hx _
      exact ⟨x, hx⟩
    obtain ⟨x4, e4⟩ : ∃ x, c4 = .int .i64 x := by
      have hk : DataW.trod enc Try.prog w 0 (fun _ => true) true n' 3 (List.take (Try.prog.cellsOf 3) (List.drop 4 [c0, c1, c2, c3, c4])) = ys[4]? := hfs 4 _ rfl
      rw [List.getElem?_eq_getElem (by rw [hyl]; decide), show Try.prog.cellsOf 3 = 1 by kernel_rfl] at hk
      obtain ⟨x, hx, _, hw⟩ := DataW.trod_int Try.underlying3 hk
      injection hx with hx _
      exact ⟨x, hx⟩
    subst e0 e1 e2 e3 e4
    exact ⟨x0, x1, x2, x3, x4, rfl⟩
end
section
variable {w w' : World}
theorem op_cells {a b c d e : Int} {g : Nat} (h : Blk w g 26 (opC a b c d e)) : w.cell? ⟨g, 2, none⟩ = some (.int .i64 c) ∧ w.cell? ⟨g, 3, none⟩ = some (.int .i64 d) ∧ w.cell? ⟨g, 4, none⟩ = some (.int .i64 e) :=
  ⟨h.cell 2, h.cell 3, h.cell 4⟩
set_option maxRecDepth 100000 in
set_option maxHeartbeats 2000000 in
theorem fdNobody_walk {H : Type} {enc : TypeId × Value → H} {base : Nat} {dd : DataW H} {v : Value} (ov : Value.okWide Try.prog w .any base 26 v) (rv : Rd enc Try.prog w 26 v.cells.toList dd) :
    Calls Try.prog 5 #[v] w fun e w' => e = .returned (.bool true) ∧ Below w.heap.size w w' := by
  obtain ⟨a, b, c, d, e, rfl⟩ := Rd.op22 ov rv
  clear ov rv
  have HB := hide (Blk.new w 26 (opC a b c d e))
  unfold opC
  go_enter Try.func5, Try.ntmps5
  go_wp2_with (go_at_call 18; refine (awake_is _).mono ?_; rintro e w1 ⟨rfl, ho⟩; have HB1 := hide (HB.out.only ho (by simp)); have HO1 := hide (((Only.refl [] w).alloc _).trans ho); clear ho HB)
  have HW := hide (show Blk ((w1.alloc (.cells #[.map none] 52)).alloc (.cells #[.pointer none, .pointer (some ⟨w1.heap.size, 0, none⟩)] 29)) w.heap.size 26 (opC a b c d e) ∧ Blk ((w1.alloc (.cells #[.map none] 52)).alloc (.cells #[.pointer none, .pointer (some ⟨w1.heap.size, 0, none⟩)] 29)) w1.heap.size 52 #[.map none] ∧ Blk ((w1.alloc (.cells #[.map none] 52)).alloc (.cells #[.pointer none, .pointer (some ⟨w1.heap.size, 0, none⟩)] 29)) (w1.heap.size + 1) 29 #[.pointer none, .pointer (some ⟨w1.heap.size, 0, none⟩)] ∧ Only [] w ((w1.alloc (.cells #[.map none] 52)).alloc (.cells #[.pointer none, .pointer (some ⟨w1.heap.size, 0, none⟩)] 29)) from
    ⟨(HB1.out.alloc _).alloc _, (Blk.new w1 _ _).alloc _, (by have := Blk.new (w1.alloc (.cells #[.map none] 52)) 29 #[.pointer none, .pointer (some ⟨w1.heap.size, 0, none⟩)]; rw [World.size_alloc] at this; exact this), (HO1.out.alloc _).alloc _⟩)
  clear HB1 HO1
  generalize (w1.alloc (.cells #[.map none] 52)).alloc (.cells #[.pointer none, .pointer (some ⟨w1.heap.size, 0, none⟩)] 29) = W0 at *
  generalize w1.heap.size = q at *
  clear w1
  go_loopw [31] (fun iv wr => ∃ i : Nat, i ≤ 2 ∧ iv = .int .i64 i ∧ Only [] W0 wr) (fun iv _ => 2 - (intOf iv).toNat)
  case atStart => exact ⟨0, by omega, rfl, Only.refl _ _⟩
  case round =>
    obtain ⟨i, hi, rfl, ho⟩ := hrel
    have HO := hide ho
    by_cases hlt : i < 2
    · have hltI : (i : Int) < 2 := by omega
      obtain ⟨p, hp, hn⟩ : ∃ p, wr.cell? ⟨q + 1, i, none⟩ = some p ∧ NoFi wr p := by
        have h1 := (HW.out.2.2.1.only ho (by simp)).cell i
        rcases i with _ | i
        · exact ⟨_, h1, .inl rfl⟩
        · obtain rfl : i = 0 := by omega
          exact ⟨_, h1, .inr ⟨q, rfl, HW.out.2.1.only ho (by simp)⟩⟩
      have HN := hide hn
      have HCL := hide (fun W (ho2 : Only [] wr W) => op_cells (HW.out.1.only (ho.trans ho2) (by simp)))
      obtain ⟨k2, k3, k4⟩ := HCL.out wr (Only.refl _ _)
      clear hn ho
      go_wp2_with (first | (go_at_call 10; refine (open_no HN.out _ _ _).mono ?_; rintro e w' ⟨rfl, rfl⟩) | (go_at_call 19; refine (get_no HN.out _).mono ?_; rintro e w2 ⟨rfl, ho⟩; have HG := hide (ho.alloc (.cells #[.int .i64 0, .int .i64 0, .int .i64 0, .int .i64 0, .int .i64 0] 42)); obtain ⟨k22, k23, k24⟩ := HCL.out _ HG.out; clear ho) | (go_at_call 20; refine (drop_no (HN.out.quiet HG.out) _).mono ?_; rintro e w3 ⟨rfl, ho⟩; have HD := hide ((HG.out.trans ho).alloc (.cells #[.int .i64 0, .int .i64 0, .int .i64 0, .int .i64 0, .int .i64 0] 42)); obtain ⟨k32, k33, k34⟩ := HCL.out _ HD.out; clear ho) | (go_at_call 16; refine (move_no (HN.out.quiet HD.out) _ _).mono ?_; rintro e w4 ⟨rfl, ho⟩; have HM := hide (HD.out.trans ho); obtain ⟨k42, k43, k44⟩ := HCL.out _ HM.out; clear ho) | (go_at_call 21; refine (all_no (HN.out.quiet HM.out)).mono ?_; rintro e w' ⟨rfl, rfl⟩) | (go_at_call 22; refine (on_no (HN.out.quiet HM.out) _ _).mono ?_; rintro e w' ⟨rfl, rfl⟩) | (go_at_call 23; refine (table_no (HN.out.quiet HM.out)).mono ?_; rintro e w' ⟨rfl, rfl⟩))
      go_roundw
      case rel => exact ⟨i + 1, by omega, by go_num, HO.out.trans HM.out⟩
      case measure => simp [intOf]; omega
    · obtain rfl : i = 2 := by omega
      rw [show ((2 : Nat) : Int) = 2 from rfl]
      have HOp := hide (HW.out.1.only ho (by simp))
      have HO0 := hide (HW.out.2.2.2.trans ho)
      clear HO HW ho
      go_wp2_with fail
      have HW := hide (show Blk ((wr.alloc (.cells (tabC0) 62)).alloc (.cells #[.pointer none, .pointer (some ⟨wr.heap.size, 0, none⟩)] 35)) w.heap.size 26 (opC a b c d e) ∧ Blk ((wr.alloc (.cells (tabC0) 62)).alloc (.cells #[.pointer none, .pointer (some ⟨wr.heap.size, 0, none⟩)] 35)) wr.heap.size 62 tabC0 ∧ Blk ((wr.alloc (.cells (tabC0) 62)).alloc (.cells #[.pointer none, .pointer (some ⟨wr.heap.size, 0, none⟩)] 35)) (wr.heap.size + 1) 35 #[.pointer none, .pointer (some ⟨wr.heap.size, 0, none⟩)] ∧ Only [] w ((wr.alloc (.cells (tabC0) 62)).alloc (.cells #[.pointer none, .pointer (some ⟨wr.heap.size, 0, none⟩)] 35)) from
        ⟨(HOp.out.alloc _).alloc _, (Blk.new wr _ _).alloc _, (by have := Blk.new (wr.alloc (.cells (tabC0) 62)) 35 #[.pointer none, .pointer (some ⟨wr.heap.size, 0, none⟩)]; rw [World.size_alloc] at this; exact this), (HO0.out.alloc _).alloc _⟩)
      clear HOp HO0
      unfold tabC0 at HW
      generalize (wr.alloc (.cells #[.pointer none, .int .i64 0, .int .i64 0, .int .i64 0, .int .i64 0, .int .i64 0, .int .i64 0, .int .i64 0, .int .i64 0, .int .i64 0, .int .i64 0, .int .i64 0, .int .i64 0, .int .i64 0, .int .i64 0, .int .i64 0, .int .i64 0] 62)).alloc (.cells #[.pointer none, .pointer (some ⟨wr.heap.size, 0, none⟩)] 35) = W2 at *
      generalize wr.heap.size = p at *
      clear wr
      go_loopw [103] (fun iv wr => ∃ i : Nat, i ≤ 2 ∧ iv = .int .i64 i ∧ Only [] W2 wr) (fun iv _ => 2 - (intOf iv).toNat)
      case atStart => exact ⟨0, by omega, rfl, Only.refl _ _⟩
      case round =>
        obtain ⟨i, hi, rfl, ho⟩ := hrel
        have HO := hide ho
        by_cases hlt : i < 2
        · have hltI : (i : Int) < 2 := by omega
          obtain ⟨y, hp, hn⟩ : ∃ y, wr.cell? ⟨p + 1, i, none⟩ = some y ∧ NoTa wr y := by
            have h1 := (HW.out.2.2.1.only ho (by simp)).cell i
            rcases i with _ | i
            · exact ⟨_, h1, .inl rfl⟩
            · obtain rfl : i = 0 := by omega
              exact ⟨_, h1, .inr ⟨p, _, rfl, HW.out.2.1.only ho (by simp), rfl⟩⟩
          have HN := hide hn
          have HCL := hide (fun W (ho2 : Only [] wr W) => op_cells (HW.out.1.only (ho.trans ho2) (by simp)))
          obtain ⟨k2, k3, k4⟩ := HCL.out wr (Only.refl _ _)
          clear hn ho
          go_wp2_with (first | (go_at_call 11; refine (install_no HN.out _).mono ?_; rintro e w' ⟨rfl, rfl⟩) | (go_at_call 15; refine (tget_no HN.out _).mono ?_; rintro e w' ⟨rfl, rfl⟩) | (go_at_call 12; refine (dup_no HN.out _).mono ?_; rintro e w' ⟨rfl, rfl⟩) | (go_at_call 13; refine (close_no HN.out _).mono ?_; rintro e w2 ⟨rfl, ho⟩; have HG := hide (ho.alloc (.cells #[.int .i64 0, .int .i64 0, .int .i64 0, .int .i64 0, .int .i64 0] 42)); obtain ⟨k22, k23, k24⟩ := HCL.out _ HG.out; clear ho) | (go_at_call 14; refine (fork_no (HN.out.quiet HG.out)).mono ?_; rintro e w' ⟨rfl, rfl⟩) | (go_at_call 24; refine (fds_no (HN.out.quiet HG.out)).mono ?_; rintro e w' ⟨rfl, rfl⟩) | (go_at_call 9; refine (free_no (HN.out.quiet HG.out)).mono ?_; rintro e w' ⟨rfl, rfl⟩))
          go_roundw
          case rel => exact ⟨i + 1, by omega, by go_num, HO.out.trans HG.out⟩
          case measure => simp [intOf]; omega
        · obtain rfl : i = 2 := by omega
          have HO0 := hide (HW.out.2.2.2.trans ho)
          clear HO HW ho
          go_wp2
          go_ret
          exact ⟨rfl, HO0.out.below (Nat.le_refl _) (by simp)⟩
end
end Go.Proofs.Ytfplfpfnlffnjaa
