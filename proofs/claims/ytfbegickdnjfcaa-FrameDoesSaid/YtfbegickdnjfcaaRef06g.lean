/-
  The document's own frames (parapetref06): New.
-/
import Derived.Test.YtfbegickdnjfcaaRef06f
import Derived.Test.YtfbegickdnjfcaaFrNew
namespace Go.Proofs.Ytfbegickdnjfcaa
open Go.ChangeShapes Go.WideShapes Go.ChangeAt Go.RowKit
set_option linter.unusedVariables false
set_option linter.unusedSimpArgs false
theorem info_ints : (Try.prog.info? 46).map (fun i => (i.zero, i.size, i.bytes)) = some (some (.slice none 0 0), 1, 24) := by kernel_rfl

theorem rnew_bad (w : World) (f a b c : Int) (hf : 0 ≤ f) (hf2 : f ≤ 4096) (hbad : c < 1 ∨ 8 < c ∨ b < 1 ∨ a < 0 ∨ f ≤ a ∨ f - a < b) :
    Calls Try.prog 8 #[.int .i64 f, .int .i64 a, .int .i64 b, .int .i64 c] w fun e w' => e = .returned (.tuple #[.pointer none, .int .i64 1]) ∧ w = w' := by
  by_cases hd1' : c < 1
  · have hd1 : decide (c < 1) = true := by simp; omega
    clear hbad
    go_enter Try.func8, Try.ntmps8
    go_wp2
    go_ret2
    exact ⟨rfl, rfl⟩
  have hd1 : decide (c < 1) = false := by simp; omega
  by_cases hd2' : 8 < c
  · have hd2 : decide (8 < c) = true := by simp; omega
    clear hbad
    go_enter Try.func8, Try.ntmps8
    go_wp2
    go_ret2
    exact ⟨rfl, rfl⟩
  have hd2 : decide (8 < c) = false := by simp; omega
  by_cases hd3' : b < 1
  · have hd3 : decide (b < 1) = true := by simp; omega
    clear hbad
    go_enter Try.func8, Try.ntmps8
    go_wp2
    go_ret2
    exact ⟨rfl, rfl⟩
  have hd3 : decide (b < 1) = false := by simp; omega
  by_cases hd4' : a < 0
  · have hd4 : decide (a < 0) = true := by simp; omega
    clear hbad
    go_enter Try.func8, Try.ntmps8
    go_wp2
    go_ret2
    exact ⟨rfl, rfl⟩
  have hd4 : decide (a < 0) = false := by simp; omega
  by_cases hd5' : f ≤ a
  · have hd5 : decide (f ≤ a) = true := by simp; omega
    clear hbad
    go_enter Try.func8, Try.ntmps8
    go_wp2
    go_ret2
    exact ⟨rfl, rfl⟩
  have hd5 : decide (f ≤ a) = false := by simp; omega
  have hd6 : decide (f - a < b) = true := by simp; omega
  have hwr : IntKind.i64.wrap (f - a) = f - a := by rw [IntKind.wrap_i64]; omega
  clear hbad
  go_enter Try.func8, Try.ntmps8
  go_wp2
  go_ret2
  exact ⟨rfl, rfl⟩

/-- Numbers from first on. -/
def upL (first k : Nat) : List Int := (List.range k).map fun (i : Nat) => (first : Int) + (i : Int)
theorem upL_succ (first k : Nat) : upL first (k + 1) = upL first k ++ [(first : Int) + (k : Int)] := by simp [upL, List.range_succ]
theorem upL_length (first k : Nat) : (upL first k).length = k := by simp [upL]
theorem upL_rises (first k : Nat) : Rises (upL first k) := by
  unfold Rises upL
  rw [List.pairwise_map]
  exact (List.pairwise_lt_range).imp fun h => by omega
theorem nsNew_12 (first count : Nat) : nsNew first count count 12 = upL first count := by
  unfold nsNew upL
  rw [if_neg (by decide), if_pos rfl]
  exact List.map_congr_left fun i hi => if_pos (List.mem_range.1 hi)

/-- At New's loop. -/
def RNewRel (w : World) (t cC bL first harts count : Nat) (iv : Value) (wr : World) : Prop :=
  ∃ (k : Nat) (v12 : Value), k ≤ count ∧ iv = .int .i64 k ∧ Blk wr t 64 #[.int .i64 first, .slice (some ⟨cC, 0, none⟩) count count, .slice (some ⟨bL, 0, none⟩) harts harts, v12] ∧ Blk wr cC 3 (i64l (List.replicate count 0)).toArray ∧
    Blk wr bL 46 ((List.range harts).map fun _ => (.slice none 0 0 : Value)).toArray ∧ IRow wr v12 (upL first k) ∧ Only [] w wr ∧ ∀ q, v12.ownBlock = some q → w.heap.size + 3 ≤ q

/-- What New leaves. -/
def RNewed (w w' : World) (e : Ending) (first harts count : Nat) : Prop :=
  ∃ t cC bL vs Z, e = .returned (.tuple #[.pointer (some ⟨t, 0, none⟩), .int .i64 0]) ∧ R6 w' t cC bL vs Z first harts (nsNew first count count) ∧ (∀ k, k ∈ t :: cC :: bL :: Z → w.heap.size ≤ k) ∧ Only [] w w'

theorem RNewRel.fin {w wr : World} {t cC bL first harts count : Nat} (H : RNewRel w t cC bL first harts count (.int .i64 (count : Int)) wr) (hh : 1 ≤ harts ∧ harts ≤ 8) (hfit : first + count ≤ 4096)
    (ht : w.heap.size ≤ t ∧ t < w.heap.size + 3) (hc : w.heap.size ≤ cC ∧ cC < w.heap.size + 3) (hb : w.heap.size ≤ bL ∧ bL < w.heap.size + 3) : RNewed w wr (.returned (.tuple #[.pointer (some ⟨t, 0, none⟩), .int .i64 0])) first harts count := by
  obtain ⟨k, v12, hk, ek, h1, h2, h3, h4, h5, h6⟩ := H
  injection ek with _ ek
  obtain rfl : count = k := by omega
  have hown : ∀ q, q ∈ v12.ownBlock.toList → w.heap.size + 3 ≤ q := fun q hq => h6 q (mem_own.1 hq)
  refine ⟨t, cC, bL, fun o => if o = 12 then v12 else .slice none 0 0, v12.ownBlock.toList, rfl, ⟨?_, ?_, ?_, fun o ho => ?_, fun hm => ?_, fun hm => ?_, fun hm => ?_, hh, fun o h7 h8 => ?_, ?_, fun o => ?_, fun q hq => ?_⟩, fun q hq => ?_, h5⟩
  · have e2 : (nsNew first count count 2).length = count := by simp [nsNew]
    rw [e2]
    exact h1
  · exact h2
  · have e3 : ((List.range harts).map fun h => (if 4 + h = 12 then v12 else (.slice none 0 0 : Value))) = (List.range harts).map fun _ => (.slice none 0 0 : Value) := List.map_congr_left fun i hi => by
      have := List.mem_range.1 hi
      rw [if_neg (by omega)]
    show Blk wr bL 46 ((List.range harts).map fun h => (if 4 + h = 12 then v12 else (.slice none 0 0 : Value))).toArray
    rw [e3]
    exact h3
  · by_cases e : o = 12
    · subst e
      rw [if_pos rfl, nsNew_12]
      exact SeesZ.of_row h4
    · have e2 : nsNew first count count o = [] := by
        unfold RSlot at ho
        unfold nsNew
        rw [if_neg (by omega), if_neg e]
      rw [if_neg e, e2]
      exact ⟨none, 0, rfl, Nat.le_refl _, Nat.zero_le _, fun _ => ⟨rfl, rfl⟩, fun h => by simp at h⟩
  · have := hown _ hm; omega
  · have := hown _ hm; omega
  · have := hown _ hm; omega
  · unfold nsNew
    rw [if_neg (by omega), if_neg (by omega)]
  · have e2 : (nsNew first count count 2).length = count := by simp [nsNew]
    rw [e2]
    exact hfit
  · unfold nsNew
    split
    · rw [List.length_replicate]; omega
    · split
      · rw [List.length_map, List.length_range]; omega
      · exact Nat.zero_le _
  · exact (KRow.at_ h4 (mem_own.1 hq)).2.1
  · simp only [List.mem_cons] at hq
    rcases hq with rfl | rfl | rfl | hq
    · omega
    · omega
    · omega
    · have := hown q hq; omega

theorem zeros_made (n : Nat) : madeCells #[.int .i64 0] n = (i64l (List.replicate n 0)).toArray := by
  apply Array.ext'
  rw [toList_madeCells_one]
  simp [i64l]
theorem nils_made (n : Nat) : madeCells #[.slice none 0 0] n = ((List.range n).map fun _ => (.slice none 0 0 : Value)).toArray := by
  apply Array.ext'
  rw [toList_madeCells_one, List.map_const', List.length_range]

set_option maxRecDepth 100000 in
set_option maxHeartbeats 2000000 in
theorem rnew_ok (w : World) (f a b c : Int) (first harts count : Nat) (hh : 1 ≤ harts ∧ harts ≤ 8) (hc : 1 ≤ count) (hfit : (first : Int) + count ≤ f) (hf2 : f ≤ 4096) (ea : a = first) (eb : b = count) (ec : c = harts) :
    Calls Try.prog 8 #[.int .i64 f, .int .i64 a, .int .i64 b, .int .i64 c] w fun e w' => RNewed w w' e first harts count := by
  have hh1 := hh.1
  have hh2 := hh.2
  subst ea; subst eb; subst ec
  obtain ⟨i0, hi, hz0, hz1, hz2⟩ := info_parts info_int
  have hmk : ∀ u : World, (Instr.makeSlice 46 (.int .i64 (count : Int)) (.int .i64 (count : Int))).run Try.prog u =
      .ok (.slice (some ⟨u.heap.size, 0, none⟩) count count) (u.alloc (.cells (madeCells #[.int .i64 0] count) 3)) := fun u => by
    have h := run_make (P := Try.prog) u 46 3 i0 (.int .i64 0) Try.underlying46 hi hz0 .i64 .i64 (count : Int) (count : Int) (by omega) (Int.le_refl _) (by rw [hz2]; omega) (by omega)
    simpa [hz1, Value.cells] using h
  obtain ⟨i1, hi', hy0, hy1, hy2⟩ := info_parts info_ints
  have hmk2 : ∀ u : World, (Instr.makeSlice 62 (.int .i64 (harts : Int)) (.int .i64 (harts : Int))).run Try.prog u =
      .ok (.slice (some ⟨u.heap.size, 0, none⟩) harts harts) (u.alloc (.cells (madeCells #[.slice none 0 0] harts) 46)) := fun u => by
    have h := run_make (P := Try.prog) u 62 46 i1 (.slice none 0 0) Try.underlying62 hi' hy0 .i64 .i64 (harts : Int) (harts : Int) (by omega) (Int.le_refl _) (by rw [hy2]; omega) (by omega)
    simpa [hy1, Value.cells] using h
  clear hi hz0 hz1 hz2 hi' hy0 hy1 hy2
  have hd1 : decide ((harts : Int) < 1) = false := by simp; omega
  have hd2 : decide (8 < (harts : Int)) = false := by simp; omega
  have hd3 : decide ((count : Int) < 1) = false := by simp; omega
  have hd4 : decide ((first : Int) < 0) = false := by simp
  have hd5 : decide (f ≤ (first : Int)) = false := by simp; omega
  have hd6 : decide (f - (first : Int) < (count : Int)) = false := by simp; omega
  have hwr : IntKind.i64.wrap (f - (first : Int)) = f - first := by rw [IntKind.wrap_i64]; omega
  have hf64 : ((first : Int)) ≤ 4096 := by omega
  have hc64 : ((count : Int)) ≤ 4096 := by omega
  have HFIT := hide (show first + count ≤ 4096 by omega)
  have HH := hide hh
  clear hfit hf2 hh
  have HS1 := hide (fun (w1 : World) (e1 : w1 = (((w.alloc (.cells (madeCells #[.int .i64 0] count) 3)).alloc (.cells (madeCells #[.slice none 0 0] harts) 46)).alloc
      (.cells #[.int .i64 first, .slice (some ⟨w.heap.size, 0, none⟩) count count, .slice (some ⟨w.heap.size + 1, 0, none⟩) harts harts, .slice none 0 0] 64)).drew) =>
    (show ∃ cC bL, RNewRel w (w.heap.size + 1 + 1) cC bL first harts count (.int .i64 0) w1 ∧ (w.heap.size ≤ cC ∧ cC < w.heap.size + 3) ∧ (w.heap.size ≤ bL ∧ bL < w.heap.size + 3) from by
      refine ⟨w.heap.size, w.heap.size + 1, ⟨0, .slice none 0 0, Nat.zero_le _, rfl, ?_, ?_, ?_, KRow.nil _ _ _ _, ?_, fun q hq => by cases hq⟩, by omega, by omega⟩
      · rw [e1]
        have := (Blk.new ((w.alloc (.cells (madeCells #[.int .i64 0] count) 3)).alloc (.cells (madeCells #[.slice none 0 0] harts) 46)) 64 #[.int .i64 first, .slice (some ⟨w.heap.size, 0, none⟩) count count, .slice (some ⟨w.heap.size + 1, 0, none⟩) harts harts, .slice none 0 0]).drew
        simpa using this
      · rw [e1, ← zeros_made]; exact ((((Blk.new w 3 (madeCells #[.int .i64 0] count)).alloc _).alloc _).drew)
      · rw [e1, ← nils_made]
        have := ((Blk.new (w.alloc (.cells (madeCells #[.int .i64 0] count) 3)) 46 (madeCells #[.slice none 0 0] harts)).alloc (.cells #[.int .i64 first, .slice (some ⟨w.heap.size, 0, none⟩) count count, .slice (some ⟨w.heap.size + 1, 0, none⟩) harts harts, .slice none 0 0] 64)).drew
        simpa using this
      · rw [e1]; exact ((((Only.refl [] w).alloc _).alloc _).alloc _).drew))
  have HS2 := hide (fun (w1 : World) (e1 : w1 = (((w.alloc (.cells (madeCells #[.slice none 0 0] harts) 46)).alloc (.cells (madeCells #[.int .i64 0] count) 3)).alloc
      (.cells #[.int .i64 first, .slice (some ⟨w.heap.size + 1, 0, none⟩) count count, .slice (some ⟨w.heap.size, 0, none⟩) harts harts, .slice none 0 0] 64)).drew) =>
    (show ∃ cC bL, RNewRel w (w.heap.size + 1 + 1) cC bL first harts count (.int .i64 0) w1 ∧ (w.heap.size ≤ cC ∧ cC < w.heap.size + 3) ∧ (w.heap.size ≤ bL ∧ bL < w.heap.size + 3) from by
      refine ⟨w.heap.size + 1, w.heap.size, ⟨0, .slice none 0 0, Nat.zero_le _, rfl, ?_, ?_, ?_, KRow.nil _ _ _ _, ?_, fun q hq => by cases hq⟩, by omega, by omega⟩
      · rw [e1]
        have := (Blk.new ((w.alloc (.cells (madeCells #[.slice none 0 0] harts) 46)).alloc (.cells (madeCells #[.int .i64 0] count) 3)) 64 #[.int .i64 first, .slice (some ⟨w.heap.size + 1, 0, none⟩) count count, .slice (some ⟨w.heap.size, 0, none⟩) harts harts, .slice none 0 0]).drew
        simpa using this
      · rw [e1, ← zeros_made]
        have := ((Blk.new (w.alloc (.cells (madeCells #[.slice none 0 0] harts) 46)) 3 (madeCells #[.int .i64 0] count)).alloc (.cells #[.int .i64 first, .slice (some ⟨w.heap.size + 1, 0, none⟩) count count, .slice (some ⟨w.heap.size, 0, none⟩) harts harts, .slice none 0 0] 64)).drew
        simpa using this
      · rw [e1, ← nils_made]; exact ((((Blk.new w 46 (madeCells #[.slice none 0 0] harts)).alloc _).alloc _).drew)
      · rw [e1]; exact ((((Only.refl [] w).alloc _).alloc _).alloc _).drew))
  go_enter Try.func8, Try.ntmps8
  go_wp2_with fail
  go_region
  all_goals
    generalize hW : World.drew _ = w1
    obtain ⟨cC, bL, hI, hbc, hbb⟩ := (show ∃ cC bL, RNewRel w (w.heap.size + 1 + 1) cC bL first harts count (.int .i64 0) w1 ∧ (w.heap.size ≤ cC ∧ cC < w.heap.size + 3) ∧ (w.heap.size ≤ bL ∧ bL < w.heap.size + 3) from by
      first
        | exact HS1.out w1 hW.symm
        | exact HS2.out w1 hW.symm)
    have HI0 := hide hI
    have HBC := hide hbc
    have HBB := hide hbb
    clear hI hbc hbb hW HS1 HS2 hmk hmk2
    go_wp2
    go_loopw [11] (fun iv wr => RNewRel w (w.heap.size + 1 + 1) cC bL first harts count iv wr) (fun iv _ => count - (intOf iv).toNat)
    case atStart => exact HI0.out
    case round =>
      clear HI0
      have HREL := hide hrel
      obtain ⟨k, v12, hk, rfl, h1, h2, h3, h4, h5, h6⟩ := hrel
      by_cases hlt : k < count
      · obtain ⟨A, c, ev, -⟩ := h4.form2
        rw [upL_length] at ev
        subst ev
        have d3 : wr.cell? ⟨w.heap.size + 1 + 1, 3, none⟩ = some (.slice A k c) := h1.cell 3
        have hkc : (k : Int) < count := by omega
        have HRA := hide (fun W (ho : Only [] wr W) => (KRow.only h4 ho (by simp) : IRow W (.slice A k c) (upL first k)))
        have HNW := hide (news_one wr ((first : Int) + k))
        have HBG := hide (show (upL first k).length + 1 < 4000000000000 by rw [upL_length]; omega)
        have hap : ∀ q, (Value.slice A k c).ownBlock = some q → q ≠ w.heap.size + 1 + 1 ∧ q ≠ cC ∧ q ≠ bL := fun q hq => by
          have := h6 q hq
          have := HBC.out
          have := HBB.out
          omega
        have HP := hide (fun (A5 : Option Addr) (c5 : Nat) (w5 : World) (g1 : IRow w5 (.slice A5 (k + 1) c5) (upL first k ++ [(first : Int) + k])) (g2 : Only (Value.slice A k c).ownBlock.toList (wr.alloc (.cells #[.int .i64 ((first : Int) + k)] 3)) w5)
            (g3 : ∀ q, (Value.slice A5 (k + 1) c5).ownBlock = some q → (Value.slice A k c).ownBlock = some q ∨ (wr.alloc (.cells #[.int .i64 ((first : Int) + k)] 3)).heap.size ≤ q) =>
          (show (w5.cell? ⟨w.heap.size + 1 + 1, 3, none⟩ = some (.slice A k c) ∧ w5.frozen? ⟨w.heap.size + 1 + 1, 3, none⟩ = false) ∧ RNewRel w (w.heap.size + 1 + 1) cC bL first harts count (.int .i64 ((k + 1 : Nat) : Int)) (w5.setCell ⟨w.heap.size + 1 + 1, 3, none⟩ (.slice A5 (k + 1) c5)) from by
            have ho : Only (Value.slice A k c).ownBlock.toList wr w5 := ((Only.refl [] wr).alloc _ |>.mono (by simp)).trans g2
            have b1 := h1.only ho (fun hm => (hap _ (mem_own.1 hm)).1 rfl)
            have b2 := h2.only ho (fun hm => (hap _ (mem_own.1 hm)).2.1 rfl)
            have b3 := h3.only ho (fun hm => (hap _ (mem_own.1 hm)).2.2 rfl)
            have hs5 := h5.size
            have hnew : ∀ q, (Value.slice A5 (k + 1) c5).ownBlock = some q → w.heap.size + 3 ≤ q := fun q hq => by
              rcases g3 q hq with h | h
              · exact h6 q h
              · have h7 := h1.lt
                have : wr.heap.size ≤ q := by simp at h; omega
                omega
            have hset : Only [w.heap.size + 1 + 1] w5 (w5.setCell ⟨w.heap.size + 1 + 1, 3, none⟩ (.slice A5 (k + 1) c5)) := (Only.refl _ _).setCell _ (by simp)
            refine ⟨⟨b1.cell 3, b1.frozen _⟩, k + 1, _, hlt, rfl, b1.set_ 3 _, b2.only hset (by simp; exact Ne.symm (h1.ne_ h2 (by decide))), b3.only hset (by simp; exact Ne.symm (h1.ne_ h3 (by decide))), ?_, ?_, hnew⟩
            · rw [upL_succ]
              exact KRow.only g1 hset (fun q hq hm => by have := hnew q hq; simp at hm; omega)
            · refine (h5.trans' ho (fun q hq hm => by have := h6 q (mem_own.1 hm); omega)).trans' hset (fun q hq hm => by simp at hm; omega)))
        clear h1 h2 h3 h4 h5 h6 hap HREL
        go_wp2_with (at_builtin; refine wpList_append_any rfl _ _ rfl (.slice A k c) (upL first k) rfl (HRA.out _ (by repeat (first | exact Only.refl _ _ | apply Only.drew | apply Only.alloc))) (some ⟨wr.heap.size, 0, none⟩) 1 1 rfl (fun e => by cases e) [(first : Int) + k] rfl (HNW.out _ (by repeat (first | exact Only.refl _ _ | apply Only.drew))) HBG.out ?_; intro v5 w5 g1 g2 g3; obtain ⟨A5, c5, e5, -⟩ := g1.form2; rw [List.length_append, List.length_singleton, upL_length] at e5; subst e5; obtain ⟨⟨k1, k2⟩, k3⟩ := HP.out A5 c5 w5 g1 g2 g3; have HR := hide k3; clear g1 g2 g3 k3)
        go_roundw
        case rel => exact HR.out
        case measure => simp [intOf]; omega
      · obtain rfl : k = count := by omega
        have HF := hide (HREL.out.fin HH.out HFIT.out (by omega) HBC.out HBB.out)
        clear h1 h2 h3 h4 h5 h6 HREL
        go_wp2
        go_ret2
        exact HF.out
end Go.Proofs.Ytfbegickdnjfcaa
