/-
  The document's own run queues (parapetref11): New, Sleep, Remove, and where nothing is done.
-/
import Derived.Test.YtdinndpeoankdaaRq11Do
namespace Go.Proofs.Ytdinndpeoankdaa
open Go.ChangeShapes Go.WideShapes Go.ChangeAt Go.RowKit Go.Maps
set_option linter.unusedVariables false

theorem info_hart11 : (Try.prog.info? 57).map (fun i => (i.zero, i.size, i.bytes)) = some (some (.agg #[.int .i64 0, .slice none 0 0]), 2, 32) := by kernel_rfl
theorem made_harts (n : Nat) : madeCells #[.int .i64 0, .slice none 0 0] (n * 2) = rowG (valX (emptyQ n) (fun _ => .slice none 0 0)) (2 * n) := by
  unfold madeCells rowG
  apply Array.ext'
  simp only [Array.toList_map, Array.toList_range]
  rw [Nat.mul_comm n 2]
  refine List.map_congr_left fun i _ => ?_
  unfold valX emptyQ
  by_cases e : i % 2 = 0
  · rw [if_pos e]
    show (#[Value.int .i64 0, .slice none 0 0])[i % 2]! = _
    rw [e]; rfl
  · have e1 : i % 2 = 1 := by omega
    rw [if_neg e]
    show (#[Value.int .i64 0, .slice none 0 0])[i % 2]! = _
    rw [e1]; rfl
def MadeX (w : World) (n : Nat) (e : Ending) (w' : World) : Prop := ∃ gx hx xs, e = .returned (.tuple #[.pointer (some ⟨gx, 0, none⟩), .int .i64 0]) ∧ IsX w' gx hx (emptyQ n) xs ∧ (∀ q, q ∈ footX gx hx xs n → w.heap.size ≤ q) ∧ Only [] w w'
theorem xNew_ok (n : Nat) (h : 1 ≤ n ∧ n ≤ 8) (w : World) : Calls Try.prog 5 #[.int .i64 n] w fun e w' => MadeX w n e w' := by
  have h1 : ¬ (n : Int) < 1 := by omega
  have h2 : ¬ 8 < (n : Int) := by omega
  have h1d : decide ((n : Int) < 1) = false := by simp; omega
  have h2d : decide (8 < (n : Int)) = false := by simp; omega
  obtain ⟨i0, hi, hz0, hz1, hz2⟩ := info_parts info_hart11
  have hmk : ∀ u : World, (Instr.makeSlice 42 (.int .i64 (n : Int)) (.int .i64 (n : Int))).run Try.prog u =
      .ok (.slice (some ⟨u.heap.size, 0, none⟩) n n) (u.alloc (.cells (madeCells #[.int .i64 0, .slice none 0 0] (n * 2)) 57)) := fun u => by
    have h := run_make (P := Try.prog) u 42 57 i0 _ Try.underlying42 hi hz0 .i64 .i64 (n : Int) (n : Int) (by omega) (Int.le_refl _) (by rw [hz2]; omega) (by omega)
    simpa [hz1, Value.cells] using h
  have HN := hide h
  clear hi hz0 hz1 hz2 h
  go_enter Try.func5, Try.ntmps5
  go_wp2
  go_ret2
  refine ⟨w.heap.size + 1, w.heap.size, fun _ => .slice none 0 0, rfl, ⟨?_, ?_, fun _ _ => KRow.nil _ _ _ _, ?_⟩, ?_, ((Only.refl [] w).alloc _).alloc _⟩
  · have h := Blk.new (w.alloc (.cells (madeCells #[.int .i64 0, .slice none 0 0] (n * 2)) 57)) 44 #[.slice (some ⟨w.heap.size, 0, none⟩) n n]
    rw [show (w.alloc (.cells (madeCells #[.int .i64 0, .slice none 0 0] (n * 2)) 57)).heap.size = w.heap.size + 1 by simp] at h
    exact h
  · have h := (Blk.new w 57 (madeCells #[.int .i64 0, .slice none 0 0] (n * 2))).alloc (.cells #[.slice (some ⟨w.heap.size, 0, none⟩) n n] 44)
    rw [made_harts] at h
    rw [made_harts]
    exact h
  · intro a b q _ _ _ e
    simp [Value.ownBlock] at e
  · intro q hq
    rcases mem_footX.1 hq with rfl | rfl | ⟨o, _, e⟩
    · omega
    · exact Nat.le_refl _
    · simp [Value.ownBlock] at e
theorem xNew_bad (n : Int) (h : ¬ (1 ≤ n ∧ n ≤ 8)) (w : World) : Calls Try.prog 5 #[.int .i64 n] w fun e w' => e = .returned (.tuple #[.pointer none, .int .i64 1]) ∧ w = w' := by
  go_enter Try.func5, Try.ntmps5
  by_cases h1 : n < 1
  · clear h
    go_wp2
    go_ret2
    exact ⟨rfl, rfl⟩
  · have h2 : 8 < n := by omega
    have h1d : decide (n < 1) = false := by simp; omega
    clear h
    go_wp2
    go_ret2
    exact ⟨rfl, rfl⟩
section
variable {w w' w1 w5 : World} {gx hx : Nat} {s s' : RQ} {xs : Nat → Value} {S : List Nat} {v5 : Value} {zs : List Int}
theorem xSleep_is (X : IsX w gx hx s xs) (o : OkQ s) (h : Int) : Calls Try.prog 19 #[.pointer (some ⟨gx, 0, none⟩), .int .i64 h] w fun e w' => e = .returned (.tuple #[.int .i64 (sleepF s h).2.1, .int .i64 (sleepF s h).2.2]) ∧ DidX w w' gx hx s.H xs (sleepF s h).1 := by
  have HH := hide (xhart_is X h)
  have HX := hide X
  unfold sleepF
  by_cases hb : hasQ s h = true
  · obtain ⟨k, rfl, hk⟩ := hasQ_nat hb
    have er : runningF s k = s.r k := by unfold runningF; rw [if_pos hb, Int.toNat_natCast]
    rw [hb] at HH
    rw [er, Int.toNat_natCast]
    have c0 := X.cT
    have cr := X.cR hk
    have hhi : (k : Int) < s.H := by omega
    by_cases hr : s.r k = 0
    · rw [if_pos hr]
      rw [hr] at cr
      clear X hb er o
      go_enter Try.func19, Try.ntmps19
      go_wp2_with (go_at_call 35; refine HH.out.mono ?_; rintro e w' ⟨rfl, rfl⟩)
      go_ret2
      exact ⟨rfl, HX.out.sameX (Only.refl _ _)⟩
    · rw [if_neg hr]
      have hrb : (s.r k == 0) = false := by simp [hr]
      have fr := X.fr (k * 2)
      have HD := hide (show DidX w (w.setCell ⟨hx, k * 2, none⟩ (.int .i64 0)) gx hx s.H xs (dropS s k (s.r k)) from by
        have h3 := (X.sameX (Only.refl _ _)).run hk 0 (s' := dropS s k (s.r k)) (by unfold dropS; rw [if_pos rfl]) (by unfold dropS; rw [if_pos rfl]) (by unfold dropS; rw [if_pos rfl])
        exact h3.2.2.2)
      clear X hb er o
      go_enter Try.func19, Try.ntmps19
      go_wp2_with (go_at_call 35; refine HH.out.mono ?_; rintro e w' ⟨rfl, rfl⟩)
      go_ret2
      exact ⟨rfl, HD.out⟩
  · have hb' : hasQ s h = false := by simpa using hb
    have er : runningF s h = 0 := by unfold runningF; rw [if_neg hb]
    rw [hb'] at HH
    rw [er, if_pos rfl]
    clear X hb hb' er o
    go_enter Try.func19, Try.ntmps19
    go_wp2_with (go_at_call 35; refine HH.out.mono ?_; rintro e w' ⟨rfl, rfl⟩)
    go_ret2
    exact ⟨rfl, HX.out.sameX (Only.refl _ _)⟩
theorem xRemove_no (X : IsX w gx hx s xs) (o : OkQ s) (t : Int) (hn : t ∉ keysQ s) : Calls Try.prog 21 #[.pointer (some ⟨gx, 0, none⟩), .int .i64 t] w fun e w' => e = .returned (.bool false) ∧ w = w' := by
  have HW := hide (xWhere_is X o t)
  rw [show whereF s t = (0, false) by unfold whereF; rw [if_neg hn]] at HW
  clear X o hn
  go_enter Try.func21, Try.ntmps21
  go_wp2_with (go_at_call 23; refine HW.out.mono ?_; rintro e w' ⟨rfl, rfl⟩)
  go_ret
  exact ⟨rfl, rfl⟩
theorem xRemove_run (X : IsX w gx hx s xs) (o : OkQ s) (k : Nat) (t : Int) (ha : atQ s t k) (hr : s.r k = t) : Calls Try.prog 21 #[.pointer (some ⟨gx, 0, none⟩), .int .i64 t] w fun e w' => e = .returned (.bool true) ∧ DidX w w' gx hx s.H xs (dropS s k t) := by
  have HW := hide (xWhere_is X o t)
  rw [whereF_at o ha] at HW
  have hk := o.lt ha
  have c0 := X.cT
  have cr := X.cR hk
  rw [hr] at cr
  have fr := X.fr (k * 2)
  have hhi : (k : Int) < s.H := by omega
  have htt : (t == t) = true := by simp
  have HD := hide (show DidX w (w.setCell ⟨hx, k * 2, none⟩ (.int .i64 0)) gx hx s.H xs (dropS s k t) from by
    have h3 := (X.sameX (Only.refl _ _)).run hk 0 (s' := dropS s k t) (by unfold dropS; rw [if_pos hr]) (by unfold dropS; rw [if_pos hr]) (by unfold dropS; rw [if_pos hr])
    exact h3.2.2.2)
  clear X o ha hr
  go_enter Try.func21, Try.ntmps21
  go_wp2_with (go_at_call 23; refine HW.out.mono ?_; rintro e w' ⟨rfl, rfl⟩)
  go_ret
  exact ⟨rfl, HD.out⟩
theorem filter_take {ns : List Int} {i : Nat} (hi : i < ns.length) (t : Int) : (ns.take (i + 1)).filter (fun x => decide (x ≠ t)) = (ns.take i).filter (fun x => decide (x ≠ t)) ++ (if gb ns i ≠ t then [gb ns i] else []) := by
  have hg : ns[i] = gb ns i := by simp [gb, List.getD, List.getElem?_eq_getElem hi]
  rw [List.take_add_one, List.getElem?_eq_getElem hi, hg, List.filter_append]
  by_cases e : gb ns i = t <;> simp [e]
theorem erase_filter {ns : List Int} (hd : ns.Nodup) (t : Int) : ns.filter (fun x => decide (x ≠ t)) = ns.erase t := by
  rw [hd.erase_eq_filter]
  refine List.filter_congr fun x _ => ?_
  simp [bne]
  by_cases e : x = t <;> simp [e]
set_option maxHeartbeats 2000000 in
theorem xRemove_queue (X : IsX w gx hx s xs) (o : OkQ s) (k : Nat) (t : Int) (ha : atQ s t k) (hr : s.r k ≠ t) : Calls Try.prog 21 #[.pointer (some ⟨gx, 0, none⟩), .int .i64 t] w fun e w' => e = .returned (.bool true) ∧ DidX w w' gx hx s.H xs (dropS s k t) := by
  have HW := hide (xWhere_is X o t)
  rw [whereF_at o ha] at HW
  have hk := o.lt ha
  have c0 := X.cT
  have cr := X.cR hk
  have hhi : (k : Int) < s.H := by omega
  have hrb : (s.r k == t) = false := by simp [hr]
  have hf := o.small.few k (by have := o.h8; omega)
  have HX := hide X
  have HE := hide (erase_filter (o.nd k) t)
  have HR := hide hr
  clear X o ha hr
  go_enter Try.func21, Try.ntmps21
  go_wp2_with (go_at_call 23; refine HW.out.mono ?_; rintro e w' ⟨rfl, rfl⟩)
  go_loopw [7, 8] (fun lv iv wr => ∃ (i : Nat) (A : Option Addr) (c : Nat), i ≤ (s.n k).length ∧ iv = .int .i64 i ∧ lv = .slice A ((s.n k).take i |>.filter (fun x => decide (x ≠ t))).length c ∧ Copied w wr (.slice A ((s.n k).take i |>.filter (fun x => decide (x ≠ t))).length c) ((s.n k).take i |>.filter (fun x => decide (x ≠ t)))) (fun _ iv _ => (s.n k).length - (intOf iv).toNat)
  case atStart => exact ⟨0, none, 0, Nat.zero_le _, rfl, by simp, by simpa using ⟨KRow.nil _ _ _ _, Only.refl _ _, by simp [Value.ownBlock]⟩⟩
  case round =>
    obtain ⟨i, A, c, hi, rfl, rfl, hcp⟩ := hrel
    have Xr := HX.out.quiet hcp.only
    have d0 := Xr.cT
    obtain ⟨B, cB, hvB, cn, hB, _, _, hcell⟩ := Xr.form hk
    have HCP := hide hcp
    have HBN := hide hB
    have HCL := hide hcell
    have fn := Xr.fr (k * 2 + 1)
    have hll : ((s.n k).take i |>.filter (fun x => decide (x ≠ t))).length ≤ 64 := Nat.le_trans (List.length_filter_le _ _) (by simp; omega)
    clear hcp Xr hB hcell hvB c0 cr
    by_cases hil : i < (s.n k).length
    · have hiI : (i : Int) < (s.n k).length := by omega
      obtain ⟨ad, rfl⟩ : ∃ ad, B = some ad := by
        rcases B with _ | ad
        · have := (HBN.out rfl).1; omega
        · exact ⟨ad, rfl⟩
      obtain ⟨b, rfl, _, hc2⟩ := HCL.out ad rfl
      have ci := hc2 i (.int .i64 (gb (s.n k) i)) (by simp [i64l, gb, List.getD, List.getElem?_eq_getElem hil])
      have HFT := hide (filter_take hil t)
      clear hc2
      generalize gb (s.n k) i = y at *
      by_cases hy : y = t
      · rw [if_neg (by simp [hy]), List.append_nil] at HFT
        have hyb : (y != t) = false := by simp [hy]
        clear hy
        go_wp2_with fail
        go_roundw
        case rel => exact ⟨i + 1, A, c, hil, by go_num, by rw [HFT.out], by rw [HFT.out]; exact HCP.out⟩
        case measure => simp [intOf]; omega
      · rw [if_pos hy] at HFT
        have hyb : (y != t) = true := by simp [hy]
        clear hy
        have HLN := hide hll
        have HLIT := hide (Blk.new wr 3 #[.int .i64 y])
        generalize (((s.n k).take i).filter (fun x => decide (x ≠ t))) = F at *
        have HB1 := hide (show F.length + 1 < 4000000000000 by omega)
        clear hll
        go_wp2_with (at_builtin; refine wpList_append_any rfl _ _ rfl (.slice A F.length c) F rfl (HCP.out.row.only ((Only.refl [] wr).alloc _) (by simp)) (some ⟨wr.heap.size, 0, none⟩) 1 1 rfl (fun e => by cases e) [y] rfl (one_news HLIT.out) HB1.out ?_; intro v7 w7 h1 h2 h3; have hc7 := copied_app HCP.out ((Only.refl [] wr).alloc _) h1 h2 h3; obtain ⟨A7, c7, rfl, -⟩ := hc7.row.form; have HC7 := hide hc7; clear h1 h2 h3 hc7)
        go_roundw
        case rel => exact ⟨i + 1, A7, c7, hil, by go_num, by rw [HFT.out, List.length_append]; rfl, by rw [HFT.out]; exact HC7.out⟩
        case measure => simp [intOf]; omega
    · obtain rfl : i = (s.n k).length := by omega
      have hfl : ((s.n k).take (s.n k).length |>.filter (fun x => decide (x ≠ t))) = (s.n k).erase t := by rw [List.take_of_length_le (Nat.le_refl _), HE.out]
      rw [hfl] at HCP
      rw [hfl]
      have HD := hide (HX.out.putN hk HCP.out (s' := dropS s k t) (by unfold dropS; rw [if_neg HR.out]) (by unfold dropS; rw [if_neg HR.out]) (by unfold dropS; rw [if_neg HR.out]))
      clear hfl hll
      go_wp2_with fail
      go_ret
      exact ⟨rfl, HD.out⟩
end
end Go.Proofs.Ytdinndpeoankdaa
