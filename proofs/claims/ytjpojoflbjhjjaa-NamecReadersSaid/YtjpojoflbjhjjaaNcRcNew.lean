/-
  Domains (parapet/rcu): New.
-/
import Derived.Test.YtjpojoflbjhjjaaNcRcu
import Derived.Deep.CutBlock
import Derived.Deep.DeepCutAuto
namespace Go.Proofs.Ytjpojoflbjhjjaa
open Go.ChangeShapes Go.WideShapes Go.ChangeAt Go.RowKit Go.Maps
set_option linter.unusedVariables false
set_option linter.unusedSimpArgs false
theorem info_bool : (Try.prog.info? 4).map (fun i => (i.zero, i.size, i.bytes)) = some (some (.bool false), 1, 1) := by kernel_rfl
theorem rcNew_bad (n : Int) (h : ¬ (1 ≤ n ∧ n ≤ 8)) (w : World) : Calls Try.prog 10 #[.int .i64 n] w fun e w' => e = .returned (.tuple #[.pointer none, .int .i64 1]) ∧ w = w' := by
  go_enter Try.func10, Try.ntmps10
  by_cases h1 : n < 1
  · clear h
    go_wp2
    go_ret2
    exact ⟨rfl, rfl⟩
  · have h2 : 8 < n := by omega
    clear h
    go_wp2
    go_ret2
    exact ⟨rfl, rfl⟩
theorem made_bools (n : Nat) : madeCells #[.bool false] n = (boolL (List.replicate n false)).toArray := by
  apply Array.ext'
  rw [toList_madeCells_one]
  simp [boolL]
theorem made_ints (n : Nat) : madeCells #[.int .i64 0] n = (i64l (List.replicate n 0)).toArray := by
  apply Array.ext'
  rw [toList_madeCells_one]
  simp [i64l]
theorem boolL_get {l : List Bool} {i : Nat} {b : Bool} (h : l[i]? = some b) : (boolL l).toArray[i]? = some (.bool b) := by simp [boolL, h]
theorem boolL_set (l : List Bool) (i : Nat) (b : Bool) : (boolL l).toArray.setIfInBounds i (.bool b) = (boolL (l.set i b)).toArray := by
  rw [List.setIfInBounds_toArray]
  simp [boolL, List.map_set]
theorem rep_set (n i : Nat) (h : i < n) : (List.replicate i true ++ List.replicate (n - i) false).set i true = List.replicate (i + 1) true ++ List.replicate (n - (i + 1)) false := by
  rw [List.set_append_right _ _ (by simp), List.length_replicate, Nat.sub_self, show n - i = (n - (i + 1)) + 1 from by omega, List.replicate_succ, List.set_cons_zero, List.replicate_succ', List.append_assoc]
  rfl
theorem rep_get (n i : Nat) (h : i < n) : (List.replicate i true ++ List.replicate (n - i) false)[i]? = some false := by
  rw [List.getElem?_append_right (by simp), List.length_replicate, Nat.sub_self, show n - i = (n - (i + 1)) + 1 from by omega, List.replicate_succ]
  rfl
theorem ownsMap_made {w : World} {b : Nat} (h : w.heap[b]? = some (.map #[] 0)) (k : TypeId) (R : Value → Option (DataW Unit × List MemPlace)) : w.ownsMap Try.prog k R b 0 (.map []) := by
  obtain ⟨es, clock, h1, F, hs, hD⟩ := World.ownsMap_made w Try.prog k R
  rw [show (w.alloc (.map #[] 0)).heap[w.heap.size]? = some (.map #[] 0) from heap_alloc_new w _] at h1
  injection h1 with h1
  injection h1 with e1 e2
  subst e1; subst e2
  exact ⟨#[], 0, h, F, hs, hD⟩
theorem heap_keep (w : World) (o : Obj) {k : Nat} (h : k < w.heap.size) : (w.alloc o).heap[k]? = w.heap[k]? := ((Only.refl [] w).alloc o).block k h (by simp)
/-- Four blocks, one behind the other. -/
theorem heap4 (w : World) (a b c e : Obj) : ((((w.alloc a).alloc b).alloc c).alloc e).drew.heap[w.heap.size]? = some a ∧ ((((w.alloc a).alloc b).alloc c).alloc e).drew.heap[w.heap.size + 1]? = some b ∧ ((((w.alloc a).alloc b).alloc c).alloc e).drew.heap[w.heap.size + 1 + 1]? = some c ∧ ((((w.alloc a).alloc b).alloc c).alloc e).drew.heap[w.heap.size + 1 + 1 + 1]? = some e := by
  have s1 : (w.alloc a).heap.size = w.heap.size + 1 := by simp
  have s2 : ((w.alloc a).alloc b).heap.size = w.heap.size + 1 + 1 := by simp
  have s3 : (((w.alloc a).alloc b).alloc c).heap.size = w.heap.size + 1 + 1 + 1 := by simp
  have n1 : (w.alloc a).heap[w.heap.size]? = some a := heap_alloc_new w a
  have n2 : ((w.alloc a).alloc b).heap[w.heap.size + 1]? = some b := by rw [← s1]; exact heap_alloc_new _ b
  have n3 : (((w.alloc a).alloc b).alloc c).heap[w.heap.size + 1 + 1]? = some c := by rw [← s2]; exact heap_alloc_new _ c
  have n4 : ((((w.alloc a).alloc b).alloc c).alloc e).heap[w.heap.size + 1 + 1 + 1]? = some e := by rw [← s3]; exact heap_alloc_new _ e
  refine ⟨?_, ?_, ?_, n4⟩
  · show ((((w.alloc a).alloc b).alloc c).alloc e).heap[w.heap.size]? = _
    rw [heap_keep _ _ (by omega), heap_keep _ _ (by omega), heap_keep _ _ (by omega)]; exact n1
  · show ((((w.alloc a).alloc b).alloc c).alloc e).heap[w.heap.size + 1]? = _
    rw [heap_keep _ _ (by omega), heap_keep _ _ (by omega)]; exact n2
  · show ((((w.alloc a).alloc b).alloc c).alloc e).heap[w.heap.size + 1 + 1]? = _
    rw [heap_keep _ _ (by omega)]; exact n3
/-- The blocks of a new domain, whatever order they were made in. -/
def MadeRc (w : World) (n : Nat) (t : Value) (wx : World) : Prop := ∃ d nb pb m, t = .pointer (some ⟨d, 0, none⟩) ∧ IsRc wx d nb pb m (.slice none 0 0) ⟨List.replicate n 0, List.replicate n false, 0, []⟩ ∧ (w.heap.size ≤ d ∧ w.heap.size ≤ nb ∧ w.heap.size ≤ pb ∧ w.heap.size ≤ m) ∧ Only [] w wx
theorem madeRc_mk {w wx : World} {n d nb pb m : Nat} (hn : 1 ≤ n ∧ n ≤ 8) (h1 : Blk wx d 67 #[.slice (some ⟨nb, 0, none⟩) n n, .slice (some ⟨pb, 0, none⟩) n n, .int .i64 0, .slice none 0 0, .map (some m)])
    (h2 : Blk wx nb 3 (madeCells #[.int .i64 0] n)) (h3 : Blk wx pb 4 (madeCells #[.bool false] n)) (h4 : wx.heap[m]? = some (.map #[] 0)) (hs : w.heap.size ≤ d ∧ w.heap.size ≤ nb ∧ w.heap.size ≤ pb ∧ w.heap.size ≤ m) (ho : Only [] w wx) : MadeRc w n (.pointer (some ⟨d, 0, none⟩)) wx := by
  refine ⟨d, nb, pb, m, rfl, ⟨by simpa using h1, by rw [← made_ints]; exact h2, by rw [← made_bools]; exact h3, KRow.nil _ _ _ _, ⟨_, ownsMap_made h4 _ _, MHolds.empty⟩, by simp [Value.ownBlock], ⟨by simpa using hn.1, by simpa using hn.2, by simp, Int.le_refl _, by show (0 : Int) < 4611686018427387904; decide, by simp⟩⟩, hs, ho⟩
set_option maxRecDepth 100000 in
theorem rcNew_ok (n : Nat) (h : 1 ≤ n ∧ n ≤ 8) (w : World) : Calls Try.prog 10 #[.int .i64 n] w fun e w' => ∃ d F, e = .returned (.tuple #[.pointer (some ⟨d, 0, none⟩), .int .i64 0]) ∧ Only [] w w' ∧ (∀ q ∈ F, w.heap.size ≤ q) ∧ Rc w' d ⟨List.replicate n 0, List.replicate n true, 0, []⟩ F := by
  have h1 : ¬ (n : Int) < 1 := by omega
  have h2 : ¬ 8 < (n : Int) := by omega
  have hmm := @run_makeMap Try.prog
  obtain ⟨i0, hi, hz0, hz1, hz2⟩ := info_parts info_int
  have hmk : ∀ u : World, (Instr.makeSlice 38 (.int .i64 (n : Int)) (.int .i64 (n : Int))).run Try.prog u =
      .ok (.slice (some ⟨u.heap.size, 0, none⟩) n n) (u.alloc (.cells (madeCells #[.int .i64 0] n) 3)) := fun u => by
    have h := run_make (P := Try.prog) u 38 3 i0 (.int .i64 0) Try.underlying38 hi hz0 .i64 .i64 (n : Int) (n : Int) (by omega) (Int.le_refl _) (by rw [hz2]; omega) (by omega)
    simpa [hz1, Value.cells] using h
  obtain ⟨i1, hj, hy0, hy1, hy2⟩ := info_parts info_bool
  have hmb : ∀ u : World, (Instr.makeSlice 64 (.int .i64 (n : Int)) (.int .i64 (n : Int))).run Try.prog u =
      .ok (.slice (some ⟨u.heap.size, 0, none⟩) n n) (u.alloc (.cells (madeCells #[.bool false] n) 4)) := fun u => by
    have h := run_make (P := Try.prog) u 64 4 i1 (.bool false) Try.underlying64 hj hy0 .i64 .i64 (n : Int) (n : Int) (by omega) (Int.le_refl _) (by rw [hy2]; omega) (by omega)
    simpa [hy1, Value.cells] using h
  clear hi hz0 hz1 hz2 hj hy0 hy1 hy2
  go_enter Try.func10, Try.ntmps10
  go_wp2
  go_cut [4] from 12 to 18 (fun t4 wx => MadeRc w n t4 wx)
  case first =>
    go_region
    all_goals
      go_wp2
      go_meet
      case rel =>
        first | (exact madeRc_mk (nb := w.heap.size) (pb := w.heap.size + 1) (m := w.heap.size + 1 + 1) h (heap4 w _ _ _ _).2.2.2 (heap4 w _ _ _ _).1 (heap4 w _ _ _ _).2.1 (heap4 w _ _ _ _).2.2.1 ⟨by omega, by omega, by omega, by omega⟩ (by repeat (first | exact Only.refl _ _ | apply Only.drew | apply Only.alloc))) | (exact madeRc_mk (nb := w.heap.size) (pb := w.heap.size + 1 + 1) (m := w.heap.size + 1) h (heap4 w _ _ _ _).2.2.2 (heap4 w _ _ _ _).1 (heap4 w _ _ _ _).2.2.1 (heap4 w _ _ _ _).2.1 ⟨by omega, by omega, by omega, by omega⟩ (by repeat (first | exact Only.refl _ _ | apply Only.drew | apply Only.alloc))) | (exact madeRc_mk (nb := w.heap.size + 1) (pb := w.heap.size) (m := w.heap.size + 1 + 1) h (heap4 w _ _ _ _).2.2.2 (heap4 w _ _ _ _).2.1 (heap4 w _ _ _ _).1 (heap4 w _ _ _ _).2.2.1 ⟨by omega, by omega, by omega, by omega⟩ (by repeat (first | exact Only.refl _ _ | apply Only.drew | apply Only.alloc))) | (exact madeRc_mk (nb := w.heap.size + 1) (pb := w.heap.size + 1 + 1) (m := w.heap.size) h (heap4 w _ _ _ _).2.2.2 (heap4 w _ _ _ _).2.1 (heap4 w _ _ _ _).2.2.1 (heap4 w _ _ _ _).1 ⟨by omega, by omega, by omega, by omega⟩ (by repeat (first | exact Only.refl _ _ | apply Only.drew | apply Only.alloc))) | (exact madeRc_mk (nb := w.heap.size + 1 + 1) (pb := w.heap.size) (m := w.heap.size + 1) h (heap4 w _ _ _ _).2.2.2 (heap4 w _ _ _ _).2.2.1 (heap4 w _ _ _ _).1 (heap4 w _ _ _ _).2.1 ⟨by omega, by omega, by omega, by omega⟩ (by repeat (first | exact Only.refl _ _ | apply Only.drew | apply Only.alloc))) | (exact madeRc_mk (nb := w.heap.size + 1 + 1) (pb := w.heap.size + 1) (m := w.heap.size) h (heap4 w _ _ _ _).2.2.2 (heap4 w _ _ _ _).2.2.1 (heap4 w _ _ _ _).2.1 (heap4 w _ _ _ _).1 ⟨by omega, by omega, by omega, by omega⟩ (by repeat (first | exact Only.refl _ _ | apply Only.drew | apply Only.alloc)))
  case rest =>
    obtain ⟨d, nb, pb, m, rfl, hI, hnew, ho⟩ := hcut
    rename_i wc
    have HI := hide hI
    have HN := hide hnew
    have HO := hide ho
    have c1 := hI.c1
    rw [List.length_replicate] at c1
    clear hI hnew ho hmm hmk hmb
    go_wp2_with fail
    go_loopw [24, 5] (fun iv _ wr => ∃ i : Nat, i ≤ n ∧ iv = .int .i64 i ∧ Only [pb] wc wr ∧ Blk wr pb 4 (boolL (List.replicate i true ++ List.replicate (n - i) false)).toArray) (fun iv _ _ => n - (intOf iv).toNat)
    case atStart => exact ⟨0, Nat.zero_le _, rfl, Only.refl _ _, by simpa using HI.out.pass⟩
    case round =>
      obtain ⟨i, hi, rfl, ho, hb⟩ := hrel
      have hpd : d ≠ pb := HI.out.blk.ne_ HI.out.pass (by decide)
      have c1r := (ho.cell HI.out.blk.lt (by simpa using hpd)).trans c1
      have HOr := hide ho
      have HBr := hide hb
      by_cases hlt : i < n
      · have hck : wr.cell? ⟨pb, i, none⟩ = some (.bool false) := by
          rw [hb.cell]
          exact boolL_get (rep_get n i hlt)
        have hfr := hb.frozen i
        have hltI : (i : Int) < n := by omega
        clear ho hb c1 hpd
        go_wp2
        go_roundw
        case rel =>
          refine ⟨i + 1, hlt, by go_num, HOr.out.setCell (p := ⟨pb, i, none⟩) _ (by simp), ?_⟩
          have h2 := HBr.out.set_ i (.bool true)
          rw [boolL_set, rep_set n i hlt] at h2
          exact h2
        case measure => simp [intOf]; omega
      · obtain rfl : i = n := by omega
        clear ho hb c1 hpd
        go_wp2
        go_ret2
        have hb := HBr.out
        rw [Nat.sub_self, List.replicate_zero, List.append_nil] at hb
        obtain ⟨D, d1, d2⟩ := HI.out.own
        have hI := HI.out
        have hnd : nb ≠ pb := hI.nests.ne_ hI.pass (by decide)
        have hpd : d ≠ pb := hI.blk.ne_ hI.pass (by decide)
        have hI2 : IsRc wr d nb pb m (.slice none 0 0) ⟨List.replicate i 0, List.replicate i true, 0, []⟩ := by
          refine ⟨?_, hI.nests.only HOr.out (by simpa using hnd), hb, hI.row.only HOr.out (by simp [Value.ownBlock]), ⟨D, ownsMap_only d1 HOr.out (by simpa using ownsMap_ne d1 hI.pass), d2⟩, hI.vn, ⟨hI.ok.one, hI.ok.few, by simp, hI.ok.ep0, hI.ok.ep1, hI.ok.len⟩⟩
          have := hI.blk.only HOr.out (by simpa using hpd)
          simpa using this
        have HNN := HN.out
        refine ⟨d, footR d nb pb m (.slice none 0 0), rfl, HO.out.trans' HOr.out (fun q hq hm => by simp at hm; omega), fun q hq => ?_, nb, pb, m, .slice none 0 0, hI2, fun q hq => hq, hI2.lt⟩
        rcases mem_footR.1 hq with rfl | rfl | rfl | rfl | e
        · exact HNN.1
        · exact HNN.2.1
        · exact HNN.2.2.1
        · exact HNN.2.2.2
        · simp [Value.ownBlock] at e
end Go.Proofs.Ytjpojoflbjhjjaa
