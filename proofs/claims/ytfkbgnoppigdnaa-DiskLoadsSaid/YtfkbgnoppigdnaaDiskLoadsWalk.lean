/-
  The walk of 'DiskLoads': it answers true, and turns nothing that was there.
-/
import Derived.Test.YtfkbgnoppigdnaaLooks
import Derived.Test.YtfkbgnoppigdnaaRead
namespace Go.Proofs.Ytfkbgnoppigdnaa
open Go.ChangeShapes Go.WideShapes Go.ChangeAt Go.RowKit
set_option linter.unusedVariables false

theorem cells_u8_ : Try.prog.cellsOf 5 = 1 := by kernel_rfl
theorem bytes_u8_ : Try.prog.bytesOf 5 = 1 := by kernel_rfl

/-- A slice of bytes that is read: it sees a list of bytes, within the reach. -/
theorem Rd.bytes_ {H : Type} {enc : TypeId × Value → H} {w : World} {v : Value} {d : DataW H} (h : Rd enc Try.prog w 32 [v] d) :
    ∃ A n c zs, v = .slice A n c ∧ Sees w A n zs ∧ U8 zs ∧ (A = none → n = 0 ∧ c = 0) ∧ n ≤ 140737488351232 := by
  obtain ⟨A, n, c, zs, hv, hr, hb⟩ := h.ints Try.underlying32 Try.underlying5 cells_u8_
  have hv' : v = .slice A n c := by injection hv
  rw [bytes_u8_, Nat.mul_one] at hb
  rcases hr with ⟨rfl, rfl, rfl, rfl⟩ | ⟨x, rfl, hl, hm, hz, hc, hw⟩
  · exact ⟨none, 0, 0, [], hv', ⟨rfl, fun h => absurd h (by omega)⟩, (by intro x hx; cases hx), fun _ => ⟨rfl, rfl⟩, by omega⟩
  · refine ⟨some x, n, c, zs.take n, hv', ⟨by simp; omega, fun hn => ?_⟩, ?_, (fun h => by cases h), (by unfold reachBytes at hb; omega)⟩
    · obtain ⟨b, o, rfl, hc'⟩ := ints_at hc (by omega)
      refine ⟨b, o, rfl, World.block_lt_of_cell? w _ (hc' 0 (by omega)), fun i hi => ?_⟩
      rw [hc' i (by omega)]
      simp [gb, List.getD, hi]
    · intro y hy
      have := hw y (List.mem_of_mem_take hy)
      simpa [Lit.wf, IntKind.min, IntKind.max, IntKind.signed, IntKind.bits] using this

set_option maxRecDepth 100000 in
set_option maxHeartbeats 1000000 in
theorem diskLoads_bad (A : Option Addr) (n c : Nat) (xs : List Int) (w : World) (hs : Sees w A n xs) (hu : U8 xs) (hA : A = none → n = 0 ∧ c = 0) (hn : n ≤ 140737488351232) (hb : n = 0 ∨ n % 512 ≠ 0 ∨ 4096 < n / 512) :
    Calls Try.prog 8 #[.slice A n c] w fun e w' => e = .returned (.bool true) ∧ Below w.heap.size w w' := by
  have HS := hide hs
  have HA := hide hA
  have HB := hide hb
  have HN := hide hn
  clear hs hA hb hn
  go_enter Try.func8, Try.ntmps8
  go_wp2_with fail
  refine (awake_ok _).mono ?_
  rintro e w1 ⟨rfl, ho1⟩
  have HO1 := hide ho1
  clear ho1
  go_wp2_with (at_builtin; refine wpList_append_new rfl _ _ rfl _ w1.heap.size w1.heap.size rfl (Nat.le_refl _) (Blk.new w1 5 #[]) A n c rfl HA.out xs (HS.out.only (HO1.out.alloc _) (by simp)) (by have := HN.out; omega) ?_; intro v' w2 hf ho; obtain ⟨d, cd, r, rfl, hB, hbk, hcl⟩ := hf; have HBK := hide hbk; have HBB := hide hB; have HO2 := hide ((HO1.out.alloc (.cells #[] 5)).trans' ho (fun k hk hm => by have := HO1.out.size; simp at hm; omega)); clear ho hbk hcl hB)
  have hlx : xs.length = n := HS.out.1
  rw [hlx]
  have hq1 : (convert 32 9 (.slice (some ⟨d, 0, none⟩) n cd)).run Try.prog w2 = .ok (.string (strB xs)) w2 :=
    conv_bytes w2 _ _ _ xs ⟨hlx, fun _ => ⟨d, 0, rfl, HBK.out.lt, fun i hi => by rw [Nat.zero_add, HBK.out.cell]; exact u8l_get _ _ i (by omega)⟩⟩ (by simp) hu
  have hq2 : (convert 32 9 (.slice A n c)).run Try.prog w2 = .ok (.string (strB xs)) w2 :=
    conv_bytes w2 _ _ _ xs (HS.out.only HO2.out (by simp)) (fun h => (HA.out h).1) hu
  have HL := hide (dload_bad (some ⟨d, 0, none⟩) n cd w2 (by have := HN.out; omega) HB.out)
  have HR := hide (rload_bad A n c w2 (by have := HN.out; omega) HB.out)
  go_wp2_with (first | (go_at_call 40; refine HL.out.mono ?_; rintro e w' ⟨rfl, rfl⟩) | (go_at_call 41; refine HR.out.mono ?_; rintro e w' ⟨rfl, rfl⟩))
  go_ret
  exact ⟨rfl, HO2.out.below (Nat.le_refl _) (by simp)⟩

set_option maxRecDepth 100000 in
set_option maxHeartbeats 1000000 in
theorem diskLoads_good (A : Option Addr) (n c N : Nat) (xs : List Int) (w : World) (hs : Sees w A n xs) (hu : U8 xs) (hA : A = none → n = 0 ∧ c = 0) (hn : n = 512 * N) (h1 : 1 ≤ N) (h2 : N ≤ 4096) :
    Calls Try.prog 8 #[.slice A n c] w fun e w' => e = .returned (.bool true) ∧ Below w.heap.size w w' := by
  obtain ⟨b, o, rfl, hbl, hcs⟩ := hs.2 (by omega)
  subst hn
  have HS := hide hs
  clear hs hA hcs
  go_enter Try.func8, Try.ntmps8
  go_wp2_with fail
  refine (awake_ok _).mono ?_
  rintro e w1 ⟨rfl, ho1⟩
  have HO1 := hide ho1
  clear ho1
  go_wp2_with (at_builtin; refine wpList_append_new rfl _ _ rfl _ w1.heap.size w1.heap.size rfl (Nat.le_refl _) (Blk.new w1 5 #[]) (some ⟨b, o, none⟩) (512 * N) c rfl (by simp) xs (HS.out.only (HO1.out.alloc _) (by simp)) (by omega) ?_; intro v' w2 hf ho; obtain ⟨d, cd, r, rfl, hB, hbk, hcl⟩ := hf; have HBK := hide hbk; have HBB := hide hB; have HO2 := hide ((HO1.out.alloc (.cells #[] 5)).trans' ho (fun k hk hm => by have := HO1.out.size; simp at hm; omega)); clear ho hbk hcl hB)
  have hlx : xs.length = 512 * N := HS.out.1
  rw [hlx]
  refine (dload_ok (some ⟨d, 0, none⟩) (512 * N) cd N w2 xs ⟨hlx, fun _ => ⟨d, 0, rfl, HBK.out.lt, fun i hi => by rw [Nat.zero_add, HBK.out.cell]; exact u8l_get _ _ i (by omega)⟩⟩ hu rfl h1 h2).mono ?_
  rintro e w3 ⟨g, pb, pc, mb, pr, rfl, hg, hpb, hmb, ho3, hd3⟩
  have HO3 := hide ho3
  have HD3 := hide hd3
  have HGB := hide (And.intro hg (And.intro hpb hmb))
  clear hg hpb hmb ho3 hd3
  go_wp2_with fail
  refine (rload_ok (some ⟨b, o, none⟩) (512 * N) c N w3 xs (HS.out.only (HO2.out.trans HO3.out) (by simp)) hu rfl h1 h2).mono ?_
  rintro e w4 ⟨g', pb', pc', pr', rfl, hg', hpb', ho4, hr4⟩
  have HO4 := hide (HO3.out.trans ho4)
  have HD4 := hide (HD3.out.only ho4 (by simp) (by simp))
  have HR4 := hide hr4
  have HGR := hide (show w2.heap.size ≤ g' ∧ w2.heap.size ≤ pb' from ⟨Nat.le_trans HO3.out.size hg', Nat.le_trans HO3.out.size hpb'⟩)
  have HBK4 := hide (HBK.out.only HO4.out (by simp))
  have hq1 : (convert 32 9 (.slice (some ⟨d, 0, none⟩) (512 * N) cd)).run Try.prog w4 = .ok (.string (strB xs)) w4 :=
    conv_bytes w4 _ _ _ xs ⟨hlx, fun _ => ⟨d, 0, rfl, HBK4.out.lt, fun i hi => by rw [Nat.zero_add, HBK4.out.cell]; exact u8l_get _ _ i (by omega)⟩⟩ (by simp) hu
  have hq2 : (convert 32 9 (.slice (some ⟨b, o, none⟩) (512 * N) c)).run Try.prog w4 = .ok (.string (strB xs)) w4 :=
    conv_bytes w4 _ _ _ xs (HS.out.only (HO2.out.trans HO4.out) (by simp)) (by simp) hu
  clear hg' hpb' ho4 hr4 HD3 HO3
  go_wp2_with fail
  have HND := hide (show ∀ k ∈ foot g pb mb (.slice none 0 0), k ∉ [d] from fun k hk hm => by
    have h1 := HGB.out
    have h2 := HBK.out.lt
    simp only [foot, Value.ownBlock, List.mem_cons, List.not_mem_nil, or_false] at hk hm
    omega)
  have HNR := hide (show g' ∉ [d] ∧ pb' ∉ [d] from by
    have h1 := HGR.out
    have h2 := HBK.out.lt
    simp only [List.mem_singleton]
    omega)
  clear hq1 hq2 HS
  go_loopw [45] (fun i wr => ∃ k : Nat, k ≤ 512 * N ∧ i = .int .i64 k ∧ Only [d] w4 wr ∧ ∃ zs : List Int, zs.length = 512 * N ∧ Blk wr d 5 (u8l zs ++ r).toArray) (fun i _ => 512 * N - (intOf i).toNat)
  case atStart => exact ⟨0, Nat.zero_le _, rfl, Only.refl _ _, xs, hlx, HBK4.out⟩
  case round =>
    obtain ⟨k, hk, rfl, ho, zs, hzl, hbk⟩ := hrel
    have HO := hide ho
    have HB := hide hbk
    have HZL := hide hzl
    by_cases hlt : k < 512 * N
    · have hck : wr.cell? ⟨d, k, none⟩ = some (.int .u8 (gb zs k)) := by
        rw [hbk.cell]
        exact u8l_get _ _ k (by omega)
      have hfk := hbk.frozen k
      have hk2 : (k : Int) < 512 * N := by omega
      clear hbk ho hzl
      generalize gb zs k = x at hck
      go_wp2
      go_roundw
      case rel => exact ⟨k + 1, hlt, by go_num, HO.out.setCell _ (by simp), _, (List.length_set ..).trans HZL.out, HB.out.setu_ (by rw [HZL.out]; exact hlt) _⟩
      case measure => simp [intOf]; omega
    · clear hbk ho
      have HD5 := hide (HD4.out.only HO.out HND.out (by simp))
      have HR5 := hide (show IsRef2 wr g' pb' pc' pr' none 0 N xs [] 0 false 0 0 0 from
        ⟨HR4.out.str.only HO.out HNR.out.1, HR4.out.row.only HO.out HNR.out.2, HR4.out.len, HR4.out.cap, HR4.out.pos, HR4.out.big, HR4.out.u8, fun hp => absurd hp (by simp), HR4.out.few⟩)
      have HO5 := hide (show Only [] w wr from (HO2.out.trans HO4.out).trans' HO.out (fun q hq hm => by
        have h1 := HBB.out
        have h2 := HO1.out.size
        simp at hm
        omega))
      go_wp2_with fail
      refine (looks_ok HD5.out (ws := []) HR5.out (by decide)).mono ?_
      rintro e w6 ⟨rfl, ho6⟩
      have HO6 := hide (HO5.out.trans ho6)
      clear ho6
      go_wp2
      go_ret
      exact ⟨rfl, HO6.out.below (Nat.le_refl _) (by simp)⟩

theorem diskLoads_walk {H : Type} {enc : TypeId × Value → H} (A : Option Addr) (n c : Nat) (w : World) {d : DataW H} (h : Rd enc Try.prog w 32 [.slice A n c] d) :
    Calls Try.prog 8 #[.slice A n c] w fun e w' => e = .returned (.bool true) ∧ Below w.heap.size w w' := by
  obtain ⟨A', n', c', xs, he, hs, hu, hA, hn⟩ := h.bytes_
  injection he with h1 h2 h3
  subst h1 h2 h3
  by_cases hb : n = 0 ∨ n % 512 ≠ 0 ∨ 4096 < n / 512
  · exact diskLoads_bad A n c xs w hs hu hA hn hb
  · exact diskLoads_good A n c (n / 512) xs w hs hu hA (by omega) (by omega) (by omega)
end Go.Proofs.Ytfkbgnoppigdnaa
