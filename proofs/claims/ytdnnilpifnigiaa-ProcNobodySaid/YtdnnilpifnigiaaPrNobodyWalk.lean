/-
  The walk of 'ProcNobody'.
-/
import Derived.Test.YtdnnilpifnigiaaPrPt
import Derived.Test.YtdnnilpifnigiaaRead
namespace Go.Proofs.Ytdnnilpifnigiaa
open Go.ChangeShapes Go.WideShapes Go.ChangeAt Go.RowKit Go.Deep
set_option linter.unusedVariables false
set_option linter.unusedSimpArgs false
abbrev opC24 (a b c : Int) : Array Value := #[.int .i64 a, .int .i64 b, .int .i64 c]
section
variable {H : Type} {enc : TypeId × Value → H} {w : World} {base : Nat} {d : DataW H}
set_option maxRecDepth 100000 in
theorem Rd.op24 {v : Value} (o : Value.okWide Try.prog w .any base 29 v) (h : Rd enc Try.prog w 29 v.cells.toList d) : ∃ a b c, v = .agg (opC24 a b c) := by
  obtain ⟨cs, rfl, hsz⟩ := okWide_struct Try.underlying29 o
  rw [show Try.prog.cellsOf 29 = 3 by kernel_rfl] at hsz
  obtain ⟨l⟩ := cs
  match l, hsz with
  | [c0, c1, c2], _ =>
    obtain ⟨⟨n, ps, hn⟩, _⟩ := h
    obtain ⟨ys, n', _, _, hlen, hyl, hfs⟩ := DataW.trod_struct Try.underlying29 hn
    obtain ⟨x0, e0⟩ : ∃ x, c0 = .int .i64 x := by
      have hk : DataW.trod enc Try.prog w 0 (fun _ => true) true n' 3 (List.take (Try.prog.cellsOf 3) (List.drop 0 [c0, c1, c2])) = ys[0]? := hfs 0 _ rfl
      rw [List.getElem?_eq_getElem (by rw [hyl]; decide), show Try.prog.cellsOf 3 = 1 by kernel_rfl] at hk
      obtain ⟨x, hx, _, hw⟩ := DataW.trod_int Try.underlying3 hk
      injection hx with hx _
      exact ⟨x, hx⟩
    obtain ⟨x1, e1⟩ : ∃ x, c1 = .int .i64 x := by
      have hk : DataW.trod enc Try.prog w 0 (fun _ => true) true n' 3 (List.take (Try.prog.cellsOf 3) (List.drop 1 [c0, c1, c2])) = ys[1]? := hfs 1 _ rfl
      rw [List.getElem?_eq_getElem (by rw [hyl]; decide), show Try.prog.cellsOf 3 = 1 by kernel_rfl] at hk
      obtain ⟨x, hx, _, hw⟩ := DataW.trod_int Try.underlying3 hk
      injection hx with hx _
      exact ⟨x, hx⟩
    obtain ⟨x2, e2⟩ : ∃ x, c2 = .int .i64 x := by
      have hk : DataW.trod enc Try.prog w 0 (fun _ => true) true n' 3 (List.take (Try.prog.cellsOf 3) (List.drop 2 [c0, c1, c2])) = ys[2]? := hfs 2 _ rfl
      rw [List.getElem?_eq_getElem (by rw [hyl]; decide), show Try.prog.cellsOf 3 = 1 by kernel_rfl] at hk
      obtain ⟨x, hx, _, hw⟩ := DataW.trod_int Try.underlying3 hk
      injection hx with hx _
      exact ⟨x, hx⟩
    subst e0 e1 e2
    exact ⟨x0, x1, x2, rfl⟩
end
section
variable {w w' : World}
theorem op24_cells {a b c : Int} {g : Nat} (h : Blk w g 29 (opC24 a b c)) : w.cell? ⟨g, 1, none⟩ = some (.int .i64 b) ∧ w.cell? ⟨g, 2, none⟩ = some (.int .i64 c) := ⟨h.cell 1, h.cell 2⟩
set_option maxRecDepth 100000 in
set_option maxHeartbeats 2000000 in
theorem procNobody_walk {H : Type} {enc : TypeId × Value → H} {base : Nat} {dd : DataW H} {v : Value} (ov : Value.okWide Try.prog w .any base 29 v) (rv : Rd enc Try.prog w 29 v.cells.toList dd) :
    Calls Try.prog 5 #[v] w fun e w' => e = .returned (.bool true) ∧ Below w.heap.size w w' := by
  obtain ⟨a, b, c, rfl⟩ := Rd.op24 ov rv
  clear ov rv
  have HB := hide (Blk.new w 29 (opC24 a b c))
  unfold opC24
  go_enter Try.func5, Try.ntmps5
  go_wp2_with (go_at_call 8; refine (awake24 _).mono ?_; rintro e w1 ⟨rfl, ho⟩; have HB1 := hide (HB.out.only ho (by simp)); have HO1 := hide (((Only.refl [] w).alloc _).trans ho); clear ho HB)
  have HW := hide (show Blk ((w1.alloc (.cells #[.map none, .map none, .int .i64 0, .int .i64 0] 54)).alloc (.cells #[.pointer none, .pointer (some ⟨w1.heap.size, 0, none⟩)] 23)) w.heap.size 29 (opC24 a b c) ∧ Blk ((w1.alloc (.cells #[.map none, .map none, .int .i64 0, .int .i64 0] 54)).alloc (.cells #[.pointer none, .pointer (some ⟨w1.heap.size, 0, none⟩)] 23)) w1.heap.size 54 #[.map none, .map none, .int .i64 0, .int .i64 0] ∧ Blk ((w1.alloc (.cells #[.map none, .map none, .int .i64 0, .int .i64 0] 54)).alloc (.cells #[.pointer none, .pointer (some ⟨w1.heap.size, 0, none⟩)] 23)) (w1.heap.size + 1) 23 #[.pointer none, .pointer (some ⟨w1.heap.size, 0, none⟩)] ∧ Only [] w ((w1.alloc (.cells #[.map none, .map none, .int .i64 0, .int .i64 0] 54)).alloc (.cells #[.pointer none, .pointer (some ⟨w1.heap.size, 0, none⟩)] 23)) from
    ⟨(HB1.out.alloc _).alloc _, (Blk.new w1 _ _).alloc _, (by have := Blk.new (w1.alloc (.cells #[.map none, .map none, .int .i64 0, .int .i64 0] 54)) 23 #[.pointer none, .pointer (some ⟨w1.heap.size, 0, none⟩)]; rw [World.size_alloc] at this; exact this), (HO1.out.alloc _).alloc _⟩)
  clear HB1 HO1
  generalize (w1.alloc (.cells #[.map none, .map none, .int .i64 0, .int .i64 0] 54)).alloc (.cells #[.pointer none, .pointer (some ⟨w1.heap.size, 0, none⟩)] 23) = W0 at *
  generalize w1.heap.size = q at *
  clear w1
  go_loopw [31] (fun iv wr => ∃ i : Nat, i ≤ 2 ∧ iv = .int .i64 i ∧ Only [] W0 wr) (fun iv _ => 2 - (intOf iv).toNat)
  case atStart => exact ⟨0, by omega, rfl, Only.refl _ _⟩
  case round =>
    obtain ⟨i, hi, rfl, ho⟩ := hrel
    have HO := hide ho
    by_cases hlt : i < 2
    · have hltI : (i : Int) < 2 := by omega
      obtain ⟨p, hp, hn⟩ : ∃ p, wr.cell? ⟨q + 1, i, none⟩ = some p ∧ NoPt wr p := by
        have h1 := (HW.out.2.2.1.only ho (by simp)).cell i
        rcases i with _ | i
        · exact ⟨_, h1, .inl rfl⟩
        · obtain rfl : i = 0 := by omega
          exact ⟨_, h1, .inr ⟨q, _, rfl, HW.out.2.1.only ho (by simp), rfl⟩⟩
      have HN := hide hn
      have HCL := hide (fun W (ho2 : Only [] wr W) => op24_cells (HW.out.1.only (ho.trans ho2) (by simp)))
      obtain ⟨k1, k2⟩ := HCL.out wr (Only.refl _ _)
      clear hn ho
      go_wp2_with (first | (go_at_call 11; refine (fork_no HN.out _).mono ?_; rintro e w' ⟨rfl, rfl⟩) | (go_at_call 15; refine (spawn_no HN.out _).mono ?_; rintro e w' ⟨rfl, rfl⟩) | (go_at_call 17; refine (tend_no HN.out _ _).mono ?_; rintro e w' ⟨rfl, rfl⟩) | (go_at_call 12; refine (exit_no HN.out _ _).mono ?_; rintro e w' ⟨rfl, rfl⟩) | (go_at_call 19; refine (wait_no HN.out _).mono ?_; rintro e w' ⟨rfl, rfl⟩) | (go_at_call 21; refine (join_no HN.out _ _).mono ?_; rintro e w' ⟨rfl, rfl⟩) | (go_at_call 22; refine (proc_no HN.out _).mono ?_; rintro e w2 ⟨rfl, ho⟩; have HG := hide (ho.alloc (.cells (kC k0) 58)); obtain ⟨k21, k22⟩ := HCL.out _ HG.out; clear ho) | (go_at_call 16; refine (thread_no (HN.out.quiet HG.out) _).mono ?_; rintro e w3 ⟨rfl, ho⟩; have HD := hide ((HG.out.trans ho).alloc (.cells (sC s0) 43)); obtain ⟨k31, k32⟩ := HCL.out _ HD.out; clear ho))
      have HE := hide (HD.out.alloc (.cells #[.int .i64 6, .int .i64 6, .int .i64 6, .int .i64 6, .int .i64 6, .int .i64 6, .int .i64 6, .int .i64 6] 30))
      have HX := hide (Blk.new (w3.alloc (.cells (sC s0) 43)) 30 #[.int .i64 6, .int .i64 6, .int .i64 6, .int .i64 6, .int .i64 6, .int .i64 6, .int .i64 6, .int .i64 6])
      clear k1 k2 k21 k22 k31 k32 HG HD
      dsimp only [sC] at HE HX
      generalize (w3.alloc (.cells #[.int .i64 0, .int .i64 0, .bool false, .int .i64 0] 43)).alloc (.cells #[.int .i64 6, .int .i64 6, .int .i64 6, .int .i64 6, .int .i64 6, .int .i64 6, .int .i64 6, .int .i64 6] 30) = W5 at *
      rw [World.size_alloc] at HX
      generalize w3.heap.size + 1 = q3 at *
      go_loopw [109] (fun iv wz => ∃ j : Nat, j ≤ 8 ∧ iv = .int .i64 j ∧ Only [] W5 wz) (fun iv _ => 8 - (intOf iv).toNat)
      case atStart => exact ⟨0, by omega, rfl, Only.refl _ _⟩
      case round =>
        obtain ⟨j, hj, rfl, ho⟩ := hrel
        have HOZ := hide ho
        by_cases hlt2 : j < 8
        · have hltJ : (j : Int) < 8 := by omega
          have cj : wr.cell? ⟨q3, j, none⟩ = some (.int .i64 6) := by
            rw [(HX.out.only ho (by simp)).cell j]
            rcases j with _ | _ | _ | _ | _ | _ | _ | _ | j
            all_goals first | rfl | omega
          clear ho
          go_wp2
          go_roundw
          case rel => exact ⟨j + 1, by omega, by go_num, HOZ.out⟩
          case measure => simp [intOf]; omega
        · obtain rfl : j = 8 := by omega
          rw [show ((8 : Nat) : Int) = 8 from rfl]
          have HF := hide (HE.out.trans ho)
          obtain ⟨k41, k42⟩ := HCL.out _ HF.out
          clear ho
          go_wp2_with (first | (go_at_call 18; refine (children_no (HN.out.quiet HF.out) _).mono ?_; rintro e w6 ⟨rfl, ho⟩; have HG := hide (HF.out.trans ho); clear ho) | (go_at_call 23; refine (procs_no (HN.out.quiet HG.out)).mono ?_; rintro e w' ⟨rfl, rfl⟩) | (go_at_call 24; refine (threads_no (HN.out.quiet HG.out)).mono ?_; rintro e w' ⟨rfl, rfl⟩) | (go_at_call 10; refine (copy_no (HN.out.quiet HG.out)).mono ?_; rintro e w' ⟨rfl, rfl⟩))
          go_roundw
          case rel => exact ⟨i + 1, by omega, by go_num, HO.out.trans HG.out⟩
          case measure => simp [intOf]; omega
    · obtain rfl : i = 2 := by omega
      rw [show ((2 : Nat) : Int) = 2 from rfl]
      have HO0 := hide (HW.out.2.2.2.trans ho)
      clear HO HW ho
      go_wp2
      go_ret
      exact ⟨rfl, HO0.out.below (Nat.le_refl _) (by simp)⟩
end
end Go.Proofs.Ytdnnilpifnigiaa
