/-
  Open files (parapet/fdtab): the names as an array; Fds, Free.
-/
import Derived.Test.YtfplfpfnlffnjaaFdTabC
import Derived.Test.YtfplfpfnlffnjaaFdSame
import Derived.Deep.MidRow
namespace Go.Proofs.Ytfplfpfnlffnjaa
open Go.ChangeShapes Go.WideShapes Go.ChangeAt Go.RowKit Go.Maps
set_option linter.unusedVariables false
set_option linter.unusedSimpArgs false
/-- The names as an array. -/
def nA (T : List Int) : Array Value := (T.map (Value.int .i64)).toArray
theorem info_arr16 : (Try.prog.info? 60).map (·.size) = some 16 := by kernel_rfl
theorem size_int : (Try.prog.info? 3).map (·.size) = some 1 := by kernel_rfl
theorem nA_get (T : List Int) {i : Nat} (h : i < T.length) : (nA T)[i]? = some (.int .i64 (gb T i)) := by
  simp [nA, gb, List.getElem?_eq_getElem h, List.getD]
theorem run_index_names {T : List Int} {k : Nat} {x : Int} (w : World) (hl : T.length = 16) (hk : k < 16) (hx : gb T k = x) :
    (Instr.index 60 (.agg (nA T)) (.int .i64 (k : Int))).run Try.prog w = .ok (.int .i64 x) w := by
  subst hx
  have hget : (nA T)[k]? = some (.int .i64 (gb T k)) := nA_get T (by omega)
  obtain ⟨i0, hi, hs⟩ : ∃ i0, Try.prog.info? 3 = some i0 ∧ i0.size = 1 := by
    have := size_int
    cases h : Try.prog.info? 3 with
    | none => rw [h] at this; cases this
    | some i => rw [h] at this; injection this with this; exact ⟨i, rfl, this⟩
  have hs2 : (sizeOf 3).run Try.prog w = .ok 1 w := by
    simp [sizeOf, typeInfo, Sem.run_bind, hi, hs]
  have hu := run_underlying Try.underlying60 w
  have hn : (0 : Int) ≤ (k : Int) ∧ (k : Int) < ((16 : Nat) : Int) := by omega
  simp only [Instr.index, asIntOf, Sem.run_bind, Sem.run_pure, Result.andThen_ok, hu]
  rw [if_pos hn]
  simp only [Sem.run_bind, hs2, Result.andThen_ok]
  rw [Nat.mul_one, Int.toNat_natCast]
  have hpk : Try.prog.plainKey 3 = true := by kernel_rfl
  exact run_part_plain _ hpk hget
section
variable {w w' w1 : World} {t f m : Nat} {O : List (Int × F5)} {T : List Int} {S : List Nat} {k : Int} {x : F5}
theorem IsTa.range (h : IsTa w t f T) : w.rangeAt t 1 (T.map (Value.int .i64)) := fun j v hv => by
  have hj : j < T.length := by simpa using (List.getElem?_eq_some_iff.1 hv).1
  rw [h.ci (by rw [← h.len]; exact hj), ← hv]
  simp [gb, List.getElem?_eq_getElem hj, List.getD]
theorem IsTa.load (h : IsTa w t f T) : (Instr.loadAt 60 (.pointer (some ⟨t, 1, none⟩))).run Try.prog w = .ok (.agg (nA T)) w :=
  run_loadAt_mid w t 1 60 _ _ h.range Try.underlying60 rfl (by rw [info_arr16, List.length_map, h.len])
theorem names_load {ops : Array Oper} {rest : List Oper} {ds ty ps af} {a : Act} {Q : Exit → Act → World → Prop} (y : Operand)
    (hg : IsTa w t f T) (hx : a.eval y = .pointer (some ⟨t, 1, none⟩))
    (h : wpList Try.prog ops Q rest (a.put ds (.agg (nA T))) w) : wpList Try.prog ops Q (⟨ds, .load 60 y, ty, ps, af, none⟩ :: rest) a w :=
  wpList_load_mid rfl 60 y rfl t 1 hx _ _ hg.range Try.underlying60 rfl (by rw [info_arr16, List.length_map, hg.len]) h
/-- The descriptors below n that name something. -/
def fdsN (T : List Int) (n : Nat) : List Int := ((List.range n).filter fun i => gb T i != -1).map fun (i : Nat) => (i : Int)
theorem fdsN_len (T : List Int) (n : Nat) : (fdsN T n).length ≤ n := by
  unfold fdsN
  rw [List.length_map]
  exact Nat.le_trans (List.length_filter_le _ _) (by simp)
theorem fdsN_yes {T : List Int} {i : Nat} (h : (gb T i != -1) = true) : fdsN T (i + 1) = fdsN T i ++ [(i : Int)] := by
  simp [fdsN, List.range_succ, List.filter_append, h]
theorem fdsN_no {T : List Int} {i : Nat} (h : (gb T i != -1) = false) : fdsN T (i + 1) = fdsN T i := by
  simp [fdsN, List.range_succ, List.filter_append, h]
set_option maxRecDepth 100000 in
theorem fds_is (h : IsTa w t f T) : Calls Try.prog 24 #[.pointer (some ⟨t, 0, none⟩)] w fun e w' => ∃ v, e = .returned v ∧ KRow .i64 3 w' w.heap.size v (fdsN T 16) ∧ Only [] w w' := by
  have HC := hide (tbclosed_is h)
  have HT := hide h
  have HL := hide h.len
  clear h
  go_enter Try.func24, Try.ntmps24
  go_wp2_with (first | (with_reducible refine wp_region_lit (id := 4) ?_) | (go_at_call 37; refine HC.out.mono ?_; rintro e w' ⟨rfl, rfl⟩) | ((with_reducible refine names_load (.tmp 10) HT.out ?_ ?_); (· rfl)))
  go_loopw [3, 12] (fun v iv wr => ∃ i : Nat, i ≤ 16 ∧ iv = .int .i64 i ∧ KRow .i64 3 wr w.heap.size v (fdsN T i) ∧ Only [] w wr) (fun _ iv _ => 16 - (intOf iv).toNat)
  case atStart => exact ⟨0, by omega, rfl, KRow.nil _ _ _ _, Only.refl _ _⟩
  case round =>
    obtain ⟨i, hi, rfl, hr, ho⟩ := hrel
    have hlen := fdsN_len T i
    have HO := hide ho
    obtain ⟨A, cap, hv, -⟩ := hr.form
    subst hv
    by_cases hlt : i < 16
    · have hltI : (i : Int) < 16 := by omega
      cases hg : (gb T i != -1)
      · have HE := hide (fdsN_no hg)
        have hx := run_index_names wr HL.out hlt rfl
        have HR := hide hr
        clear hr ho
        generalize gb T i = y at *
        go_wp2
        go_roundw
        case rel => exact ⟨i + 1, hlt, by go_num, by rw [HE.out]; exact HR.out, HO.out⟩
        case measure => simp [intOf]; omega
      · have HE := hide (fdsN_yes hg)
        have hx := run_index_names wr HL.out hlt rfl
        have HRA := hide (show KRow .i64 3 (wr.alloc (.cells #[.int .i64 i] 3)) w.heap.size (.slice A (fdsN T i).length cap) (fdsN T i) from KRow.only hr ((Only.refl [] wr).alloc _) (by simp))
        have HCC := hide ((Blk.new wr 3 #[.int .i64 i]).cell 0)
        have HB := hide (show w.heap.size ≤ (wr.alloc (.cells #[.int .i64 i] 3)).heap.size by have := ho.size; simp; omega)
        clear hr ho
        generalize gb T i = y at *
        go_wp2_with (at_builtin; refine wpList_append_k (k := .i64) (e := 3) (T := 56) (bytes := 8) (v := .slice A (fdsN T i).length cap) Try.underlying56 info_int (by decide) rfl _ _ rfl _ rfl HRA.out wr.heap.size i rfl HCC.out (by omega) HB.out ?_; intro v' w1 h1 h2; obtain ⟨A', c', hv', -⟩ := h1.form; subst hv'; have H1 := hide h1; have H2 := hide h2; clear h1 h2)
        go_roundw
        case rel =>
          refine ⟨i + 1, hlt, by go_num, ?_, KRow.grew HRA.out H2.out (HO.out.alloc _) (Nat.le_refl _)⟩
          rw [HE.out]
          have := H1.out
          rwa [List.length_append, List.length_singleton] at this
        case measure => simp [intOf]; omega
    · obtain rfl : i = 16 := by omega
      have HR := hide hr
      clear hr ho
      go_wp2
      go_ret
      exact ⟨_, rfl, HR.out, HO.out⟩
theorem free_is (h : IsTa w t f T) : Calls Try.prog 9 #[.pointer (some ⟨t, 0, none⟩)] w fun e w' => e = .returned (.int .i64 (16 - (fdsN T 16).length)) ∧ Only [] w w' := by
  have HC := hide (tbclosed_is h)
  have HF := hide (fds_is h)
  have hlen := fdsN_len T 16
  clear h
  generalize fdsN T 16 = l at *
  go_enter Try.func9, Try.ntmps9
  go_wp2_with (first | (go_at_call 37; refine HC.out.mono ?_; rintro e w' ⟨rfl, rfl⟩) | (go_at_call 24; refine HF.out.mono ?_; rintro e w' ⟨v, rfl, hr, ho⟩; obtain ⟨A, cap, rfl, -⟩ := hr.form; have HO := hide ho; clear hr ho))
  go_ret
  exact ⟨rfl, HO.out⟩
end
end Go.Proofs.Ytfplfpfnlffnjaa
