/-
  Translations (parapet/tlb): New.
-/
import Derived.Test.YtdkbjnnflpopdaaTlbCalls
namespace Go.Proofs.Ytdkbjnnflpopdaa
open Go.ChangeShapes Go.WideShapes Go.ChangeAt Go.RowKit Go.Maps
set_option linter.unusedVariables false

/-- The row of n harts of which the first k have their maps. -/
def hRowK (n k : Nat) (bs : Nat → Nat) : Array Value := ((List.range (2 * n)).map fun i => if i % 2 = 0 then (if i / 2 < k then Value.map (some (bs (i / 2))) else .map none) else .int .i64 0).toArray
theorem hRowK_made (n : Nat) (bs : Nat → Nat) : madeCells #[.map none, .int .i64 0] (n * 2) = hRowK n 0 bs := by
  refine Array.ext (by simp [madeCells, hRowK]; omega) fun i h1 h2 => ?_
  simp only [madeCells, hRowK, Array.getElem_map, Array.getElem_range, List.getElem_toArray, List.getElem_map, List.getElem_range]
  rcases Nat.mod_two_eq_zero_or_one i with e | e
  · simp [e]
  · simp [e]
theorem hRowK_full (n : Nat) (bs : Nat → Nat) : hRowK n n bs = hRow n bs (fun _ => 0) := by
  unfold hRowK hRow
  congr 1
  refine List.map_congr_left fun i hi => ?_
  have := List.mem_range.1 hi
  by_cases e : i % 2 = 0
  · simp [e]; omega
  · simp [e]
theorem hRowK_set {n k : Nat} (bs : Nat → Nat) (h : k < n) : (hRowK n k bs).setIfInBounds (k * 2) (.map (some (bs k))) = hRowK n (k + 1) bs := by
  unfold hRowK
  rw [List.setIfInBounds_toArray]
  congr 1
  refine List.ext_getElem (by simp) fun i h1 h2 => ?_
  rw [List.getElem_set]
  by_cases e : k * 2 = i
  · subst e
    simp
  · rw [if_neg e]
    by_cases e1 : i % 2 = 0
    · simp [e1]
      by_cases e2 : i / 2 < k
      · rw [if_pos e2, if_pos (by omega)]
      · rw [if_neg e2, if_neg (by omega)]
    · simp [e1]
theorem hRowK_get {n k : Nat} (bs : Nat → Nat) (h : k < n) : (hRowK n k bs)[k * 2]? = some (.map none) := by
  simp [hRowK, List.getElem?_map, List.getElem?_range (show k * 2 < 2 * n by omega)]

def BNewRel (w : World) (n size : Nat) (iv : Value) (wr : World) : Prop :=
  ∃ k : Nat, k ≤ n ∧ iv = .int .i64 k ∧ Blk wr (w.heap.size + 2) 58 #[.slice (some ⟨w.heap.size, 0, none⟩) n n, .int .i64 size, .int .i64 0, .map (some (w.heap.size + 1))] ∧
    Blk wr w.heap.size 61 (hRowK n k (fun j => w.heap.size + 3 + j)) ∧ wr.heap[w.heap.size + 1]? = some (.map #[] 0) ∧ (∀ j, j < k → wr.heap[w.heap.size + 3 + j]? = some (.map #[] 0)) ∧ wr.heap.size = w.heap.size + 3 + k ∧ Only [] w wr

theorem ownsMap_empty {w : World} {b : Nat} (h : w.heap[b]? = some (.map #[] 0)) (k : TypeId) (R : Value → Option (DataW Unit × List MemPlace)) : w.ownsMap Try.prog k R b 0 (.map []) := by
  obtain ⟨es, clock, h1, F, hs, hD⟩ := World.ownsMap_made w Try.prog k R
  rw [show (w.alloc (.map #[] 0)).heap[w.heap.size]? = some (.map #[] 0) from heap_alloc_new w _] at h1
  injection h1 with h1
  injection h1 with e1 e2
  subst e1; subst e2
  exact ⟨#[], 0, h, F, hs, hD⟩

set_option maxRecDepth 100000 in
theorem bNew_ok (n size : Nat) (w : World) (hn : 1 ≤ n ∧ n ≤ 8) (hs : 1 ≤ size ∧ size ≤ 64) :
    Calls Try.prog 8 #[.int .i64 n, .int .i64 size] w fun e w' => ∃ t hb ob bs, e = .returned (.tuple #[.pointer (some ⟨t, 0, none⟩), .int .i64 0]) ∧ IsTlb w' t hb ob n size 0 bs (fun _ => []) (fun _ => 0) [] ∧ w.heap.size ≤ t ∧ w.heap.size ≤ hb ∧ w.heap.size ≤ ob ∧ (∀ j, j < n → w.heap.size ≤ bs j) ∧ Only [] w w' := by
  obtain ⟨i0, hi, hz0, hz1, hz2⟩ := info_parts info_hart
  have hmk : ∀ u : World, (Instr.makeSlice 55 (.int .i64 (n : Int)) (.int .i64 (n : Int))).run Try.prog u =
      .ok (.slice (some ⟨u.heap.size, 0, none⟩) n n) (u.alloc (.cells (madeCells #[.map none, .int .i64 0] (n * 2)) 61)) := fun u => by
    have h := run_make (P := Try.prog) u 55 61 i0 (.agg #[.map none, .int .i64 0]) Try.underlying55 hi hz0 .i64 .i64 (n : Int) (n : Int) (by omega) (Int.le_refl _) (by rw [hz2]; omega) (by omega)
    simpa [hz1, Value.cells] using h
  have hmm := @run_makeMap Try.prog
  have d1 : decide ((n : Int) < 1) = false := by simp; omega
  have d2 : decide (8 < (n : Int)) = false := by simp; omega
  have d3 : decide ((size : Int) < 1) = false := by simp; omega
  have d4 : decide (64 < (size : Int)) = false := by simp; omega
  clear hi hz0 hz1 hz2
  go_enter Try.func8, Try.ntmps8
  go_wp2_with fail
  go_loopw [33] (fun iv wr => BNewRel w n size iv wr) (fun iv _ => n - (intOf iv).toNat)
  case atStart =>
    obtain ⟨W1, e1⟩ : ∃ W1 : World, w.alloc (.cells (madeCells #[.map none, .int .i64 0] (n * 2)) 61) = W1 := ⟨_, rfl⟩
    have s1 : W1.heap.size = w.heap.size + 1 := by rw [← e1]; simp
    have b1 : Blk W1 w.heap.size 61 (hRowK n 0 (fun j => w.heap.size + 3 + j)) := by rw [← e1, ← hRowK_made]; exact Blk.new w _ _
    have m1 : (W1.alloc (.map #[] 0)).heap[w.heap.size + 1]? = some (.map #[] 0) := by rw [← s1]; exact heap_alloc_new W1 _
    have s2 : (W1.alloc (.map #[] 0)).heap.size = w.heap.size + 2 := by simp [s1]
    have o1 : Only [] w W1 := by rw [← e1]; exact (Only.refl _ _).alloc _
    rw [e1]
    refine ⟨0, Nat.zero_le _, rfl, ?_, (b1.alloc _).alloc _, ?_, fun j hj => by omega, by simp [s1], ((o1.alloc _).alloc _)⟩
    · rw [← s2]; exact Blk.new (W1.alloc (.map #[] 0)) _ _
    · exact (((Only.refl [] (W1.alloc (.map #[] 0))).alloc _).block _ (by simp [s1]) (by simp)).trans m1
  case round =>
    obtain ⟨k, hk, rfl, hT, hR, hO, hM, hsz, ho⟩ := hrel
    by_cases hlt : k < n
    · have c0 := hT.cell 0
      have c1 : ∀ o1, (wr.alloc o1).cell? ⟨w.heap.size, k * 2, none⟩ = some (.map none) := fun o1 => ((hR.alloc o1).cell _).trans (hRowK_get _ hlt)
      have z1 : ∀ o1, (wr.alloc o1).frozen? ⟨w.heap.size, k * 2, none⟩ = false := fun o1 => (hR.alloc o1).frozen _
      have hkn : (k : Int) < n := by omega
      have HE := hide (show BNewRel w n size (.int .i64 ((k + 1 : Nat) : Int)) ((wr.setCell ⟨w.heap.size, k * 2, none⟩ (.map (some wr.heap.size))).alloc (.map #[] 0)) from by
        have hset : Only [w.heap.size] wr (wr.setCell ⟨w.heap.size, k * 2, none⟩ (.map (some wr.heap.size))) := (Only.refl _ _).setCell _ (by simp)
        have hs2 : (wr.setCell ⟨w.heap.size, k * 2, none⟩ (.map (some wr.heap.size))).heap.size = w.heap.size + 3 + k := by simp [World.setCell, hsz]
        have hR2 := hR.set_ (k * 2) (.map (some wr.heap.size))
        rw [show (Value.map (some wr.heap.size)) = .map (some ((fun j => w.heap.size + 3 + j) k)) by rw [hsz], hRowK_set _ hlt] at hR2
        refine ⟨k + 1, hlt, rfl, (hT.only hset (by simp)).alloc _, ?_, ?_, fun j hj => ?_, by simp [hs2]; omega, (ho.trans' hset (fun q h1 h2 => by simp at h2; omega)).alloc _⟩
        · rw [show (Value.map (some wr.heap.size)) = .map (some ((fun j => w.heap.size + 3 + j) k)) by rw [hsz]]
          exact hR2.alloc _
        · exact ((((Only.refl [] (wr.setCell ⟨w.heap.size, k * 2, none⟩ (.map (some wr.heap.size)))).alloc _).block _ (by omega) (by simp)).trans (hset.block _ (by omega) (by simp))).trans hO
        · by_cases e : j = k
          · subst e
            have := heap_alloc_new (wr.setCell ⟨w.heap.size, j * 2, none⟩ (.map (some wr.heap.size))) (.map #[] 0)
            rwa [hs2] at this
          · exact ((((Only.refl [] (wr.setCell ⟨w.heap.size, k * 2, none⟩ (.map (some wr.heap.size)))).alloc _).block _ (by omega) (by simp)).trans (hset.block _ (by omega) (by simp; omega))).trans (hM j (by omega)))
      have hnw : ¬ (w.heap.size = wr.heap.size) := by omega
      have hlw : w.heap.size < wr.heap.size := by omega
      clear hT hR hO hM hsz ho
      go_wp2
      go_roundw
      case rel => exact HE.out
      case measure => simp [intOf]; omega
    · obtain rfl : n = k := by omega
      have HE := hide (show IsTlb wr (w.heap.size + 2) w.heap.size (w.heap.size + 1) n size 0 (fun j => w.heap.size + 3 + j) (fun _ => []) (fun _ => 0) [] from by
        rw [hRowK_full] at hR
        exact ⟨hT, hR, fun j hj => ⟨⟨_, ownsMap_empty (hM j hj) _ _, Holds.empty⟩, List.Pairwise.nil, by simp⟩, fun j hj => Nat.zero_le _, fun j hj => Int.le_refl _, fun i j _ _ e => by omega, fun j hj => by omega, ⟨_, ownsMap_empty hO _ _, MHolds.empty⟩, hn, hs⟩)
      have HO := hide ho
      clear hT hR hO hM hsz ho
      go_wp2
      go_ret2
      exact ⟨_, _, _, _, rfl, HE.out, by omega, by omega, by omega, fun j hj => by omega, HO.out⟩
end Go.Proofs.Ytdkbjnnflpopdaa
