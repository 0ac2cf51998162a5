/-
  Slabs (parapet/slab): arrays of eleven numbers; spare.
-/
import Derived.Test.YtgoaebikgdecoaaDoorSlabFits
import Derived.Laws.Tables
import Derived.Deep.RegionLaw
namespace Go.Proofs.YtgoaebikgdecoaaDoor
open Go.ChangeShapes Go.WideShapes Go.ChangeAt Go.RowKit Go.Maps
set_option linter.unusedVariables false

/-- An array of a number for each kind. -/
def arrL (f : Int → Int) : List Value := (List.range 11).map fun (i : Nat) => Value.int .i64 (f i)
def arrA (f : Int → Int) : Array Value := (arrL f).toArray
theorem arrA_size (f : Int → Int) : (arrA f).size = 11 := by simp [arrA, arrL]
theorem arrA_get (f : Int → Int) {i : Nat} (h : i < 11) : (arrA f)[i]? = some (.int .i64 (f i)) := by
  simp [arrA, arrL, List.getElem?_map, List.getElem?_range h]
theorem arrA_set (f : Int → Int) {i : Nat} (h : i < 11) (x : Int) : (arrA f).setIfInBounds i (.int .i64 x) = arrA (updF f i x) := by
  unfold arrA
  rw [List.setIfInBounds_toArray]
  congr 1
  refine List.ext_getElem (by simp [arrL]) fun j h1 h2 => ?_
  have hj : j < 11 := by simpa [arrL] using h2
  rw [List.getElem_set]
  by_cases e : i = j
  · subst e; simp [arrL, updF]
  · rw [if_neg e]
    have : ¬ ((j : Int) = (i : Int)) := by omega
    simp [arrL, updF, this]
theorem arrA_one (f : Int → Int) : (arrA f).all (·.oneCell') = true := by
  rw [Array.all_eq_true]
  intro i hi
  have h : i < 11 := by rw [arrA_size] at hi; exact hi
  have := arrA_get f h
  rw [Array.getElem?_eq_getElem hi] at this
  injection this with this
  rw [this]; rfl
theorem info_arr : (Tryd.prog.info? 72).map (·.size) = some 11 := by kernel_rfl
theorem arr_load {ops : Array Oper} {rest : List Oper} {ds ty ps af} {a : Act} {w : World} {Q : Exit → Act → World → Prop} (x : Operand)
    {g : Nat} {f : Int → Int} {T : TypeId} (hg : Blk w g T (arrA f)) (hx : a.eval x = .pointer (some ⟨g, 0, none⟩))
    (h : wpList Tryd.prog ops Q rest (a.put ds (.agg (arrA f))) w) : wpList Tryd.prog ops Q (⟨ds, .load 72 x, ty, ps, af, none⟩ :: rest) a w :=
  wpList_load_row rfl 72 x rfl _ hx T (arrA f) (0, 0) _ hg Tryd.underlying72 rfl (by rw [info_arr, arrA_size]) h
theorem arr_store {ops : Array Oper} {rest : List Oper} {ds ty ps af} {a : Act} {w : World} {Q : Exit → Act → World → Prop} (x y : Operand)
    {g : Nat} {T : TypeId} (f : Int → Int) (hg : ∃ old : Array Value, old.size = 11 ∧ Blk w g T old) (hx : a.eval x = .pointer (some ⟨g, 0, none⟩)) (hy : a.eval y = .agg (arrA f))
    (h : wpList Tryd.prog ops Q rest (a.put ds undef) (w.setRow g (arrA f))) : wpList Tryd.prog ops Q (⟨ds, .store 72 x y, ty, ps, af, none⟩ :: rest) a w := by
  obtain ⟨old, h1, h2⟩ := hg
  exact wpList_store_row rfl 72 x y rfl _ (arrA f) hx hy T old h2 (by rw [info_arr, arrA_size]) (by rw [h1, arrA_size]) (arrA_one f) h
theorem arr_zero : (#[.int .i64 0, .int .i64 0, .int .i64 0, .int .i64 0, .int .i64 0, .int .i64 0, .int .i64 0, .int .i64 0, .int .i64 0, .int .i64 0, .int .i64 0] : Array Value) = arrA (fun _ => 0) := by rfl
theorem arrA_congr {f f' : Int → Int} (h : ∀ i : Nat, i < 11 → f i = f' i) : arrA f = arrA f' := by
  unfold arrA arrL
  congr 1
  refine List.map_congr_left fun i hi => ?_
  rw [h i (List.mem_range.1 hi)]

theorem kind_nat {s : SL} (h : okL s) : ∃ kn : Nat, kn < 11 ∧ s.kind = (kn : Int) := by
  rcases h.1 with e | e
  · exact ⟨0, by decide, by rw [e]; rfl⟩
  · unfold szF at e
    split at e
    · exact ⟨s.kind.toNat, by omega, by omega⟩
    · exact absurd rfl e
theorem spareF_takeI {ss : List SL} {i : Nat} {s : SL} (hs : ss[i]? = some s) (k : Int) : spareF (ss.take (i + 1)) k = spareF (ss.take i) k + spC k s := by
  rw [List.take_add_one, hs, Option.toList_some, spareF_append]
  simp [spareF]
theorem spC_le (k : Int) (s : SL) : 0 ≤ spC k s ∧ spC k s ≤ 64 := by
  have := popN_le 64 s.free
  unfold spC pop
  split <;> omega
theorem spareF_le (ss : List SL) (k : Int) : 0 ≤ spareF ss k ∧ spareF ss k ≤ 64 * ss.length := by
  induction ss with
  | nil => simp [spareF]
  | cons x r ih =>
    have := spC_le k x
    simp only [spareF, List.map_cons, List.sum_cons, List.length_cons] at ih ⊢
    omega
theorem World.size_alloc8 (w : World) (o : Obj) : (w.alloc o).heap.size = w.heap.size + 1 := by simp
section
variable {w w' : World} {g m : Nat} {L : Int} {v : Value} {ss : List SL} {O : List (Int × Int)} {S : List Nat}
set_option maxRecDepth 100000 in
set_option maxHeartbeats 1500000 in
theorem hspare_is (h : IsHp w g L v ss m O) (hO : OkH L ss O) : Calls Tryd.prog 44 #[.pointer (some ⟨g, 0, none⟩)] w fun e w' => e = .returned (.agg (arrA (spareF ss))) ∧ Only [] w w' := by
  have c1 : w.cell? ⟨g, 1, none⟩ = some v := h.blk.cell 1
  have HR := hide h.row
  have HG := hide hO.good
  have hgl : g < w.heap.size := Blk.lt h.blk
  have hf := hO.few
  obtain ⟨A, cap, rfl, hA⟩ := h.row.form
  have HA := hide hA
  clear h hA hO
  go_enter Tryd.func44, Tryd.ntmps44
  go_wp2
  go_loopw [11] (fun iv wr => ∃ i : Nat, i ≤ ss.length ∧ iv = .int .i64 i ∧ Blk wr w.heap.size 72 (arrA (fun _ => 0)) ∧ Blk wr (w.heap.size + 1) 72 (arrA (spareF (ss.take i))) ∧ Only [] w wr) (fun iv _ => ss.length - (intOf iv).toNat)
  case atStart =>
    rw [arr_zero]
    refine ⟨0, Nat.zero_le _, rfl, (Blk.new w _ _).alloc _, ?_, ((Only.refl [] w).alloc _).alloc _⟩
    have := Blk.new (w.alloc (.cells (arrA fun _ => 0) 72)) 72 (arrA fun _ => 0)
    rw [World.size_alloc8] at this
    exact this
  case round =>
    obtain ⟨i, hi, rfl, hb0, hb1, ho⟩ := hrel
    by_cases hlt : i < ss.length
    · obtain ⟨b, rfl, _⟩ := HA.out (by omega)
      obtain ⟨s, hsi⟩ : ∃ s, ss[i]? = some s := ⟨_, List.getElem?_eq_getElem hlt⟩
      obtain ⟨q0, q1⟩ := (HR.out.only ho (by simp)).cell rfl rfl hsi
      have hok := HG.out s (List.mem_of_getElem? hsi)
      obtain ⟨kn, hkn, hke⟩ := kind_nat hok
      rw [hke] at q0
      have hl := hok.lt
      have HL := hide (fun (wA : World) => ones64_is wA s.free hl)
      have c3 := fun (o : Obj) => ((hb1.alloc o).cell kn).trans (arrA_get _ hkn)
      have z3 := fun (o : Obj) => (hb1.alloc o).frozen kn
      have hsp := spareF_le (ss.take i) kn
      have hpo := popN_le 64 s.free
      have htl : (ss.take i).length ≤ 512 := by simp; omega
      have e1 : IntKind.i64.wrap (spareF (ss.take i) kn + (pop s.free : Nat)) = spareF (ss.take i) kn + (pop s.free : Nat) := by unfold pop; rw [IntKind.wrap_i64]; omega
      have hkI : (kn : Int) < 11 := by omega
      have HO := hide ho
      have HB := hide (And.intro hb0 hb1)
      have HSI := hide hsi
      have HKE := hide hke
      have HX := hide (show Blk (((wr.alloc (.cells #[.int .i64 kn, .int .u64 s.free] 62)).setCell ⟨w.heap.size + 1, kn, none⟩ (.int .i64 (spareF (ss.take i) kn + (pop s.free : Nat)))).drew) w.heap.size 72 (arrA fun _ => 0) ∧ Blk (((wr.alloc (.cells #[.int .i64 kn, .int .u64 s.free] 62)).setCell ⟨w.heap.size + 1, kn, none⟩ (.int .i64 (spareF (ss.take i) kn + (pop s.free : Nat)))).drew) (w.heap.size + 1) 72 (arrA (spareF (ss.take (i + 1)))) ∧ Only [] w (((wr.alloc (.cells #[.int .i64 kn, .int .u64 s.free] 62)).setCell ⟨w.heap.size + 1, kn, none⟩ (.int .i64 (spareF (ss.take i) kn + (pop s.free : Nat)))).drew) from by
        refine ⟨(hb0.alloc _).far (by simp) _, ?_, ((ho.alloc _).setCell (p := ⟨w.heap.size + 1, kn, none⟩) _ (fun hlt => by simp at hlt; omega)).drew⟩
        have h1 := (hb1.alloc (.cells #[.int .i64 kn, .int .u64 s.free] 62)).set_ kn (.int .i64 (spareF (ss.take i) kn + (pop s.free : Nat)))
        rw [arrA_set _ hkn] at h1
        rw [arrA_congr (f := spareF (ss.take (i + 1))) (f' := updF (spareF (ss.take i)) kn (spareF (ss.take i) kn + (pop s.free : Nat))) fun j hj => by
          rw [spareF_takeI hsi]
          unfold updF spC
          by_cases e : (j : Int) = kn
          · rw [e, if_pos rfl, if_pos hke]
          · rw [if_neg e, if_neg (show ¬ s.kind = (j : Int) by rw [hke]; exact fun x => e x.symm)]; omega]
        exact h1)
      clear hok hl hsp hpo htl hke hsi ho hb0 hb1
      go_wp2_with fail
      go_region_law (first | (go_simp; go_at_call 51; refine (HL.out _).mono ?_; rintro e w2 ⟨rfl, rfl⟩))
      all_goals
        clear c3 z3
        go_wp2
        go_roundw
        case rel => exact ⟨i + 1, hlt, by go_num, HX.out.1, HX.out.2.1, HX.out.2.2⟩
        case measure => simp [intOf]; omega
    · obtain rfl : i = ss.length := by omega
      rw [List.take_length] at hb1
      have HST := hide (show ∃ old : Array Value, old.size = 11 ∧ Blk wr w.heap.size 72 old from ⟨_, arrA_size _, hb0⟩)
      have HB := hide (And.intro hb0 hb1)
      have HO := hide ho
      clear ho hb0 hb1
      go_wp2_with (first | (with_reducible refine wp_region_lit (id := 7) ?_) | ((with_reducible refine arr_load (.tmp 3) HB.out.2 ?_ ?_); (· rfl)) | ((with_reducible refine arr_store (.tmp 2) (.tmp 25) (spareF ss) HST.out ?_ ?_ ?_); (· rfl); (· rfl)))
      (try simp only [Exit.inBlock, Exit.then])
      refine bodyPost_ret (v := .agg (arrA (spareF ss))) (results_cell_row (p := 2) rfl _ _ w.heap.size 72 (arrA (spareF ss)) (0, 0) _ rfl ?_ Tryd.underlying72 rfl (by rw [info_arr, arrA_size])) rfl ⟨rfl, ?_⟩
      · exact HB.out.1.row (arrA (spareF ss))
      · exact HO.out.setRow _ (fun hlt => by omega)
end
end Go.Proofs.YtgoaebikgdecoaaDoor
