/-
  Open files (parapet/fdtab): All: their numbers, rising.
-/
import Derived.Test.YtfplfpfnlffnjaaShelf
import Derived.Test.YtfplfpfnlffnjaaFdDup
namespace Go.Proofs.Ytfplfpfnlffnjaa
open Go.ChangeShapes Go.WideShapes Go.ChangeAt Go.RowKit Go.Maps Go.Sort Go.Shelf
set_option linter.unusedVariables false
theorem sorts22 (m : Nat) : AnyZI.SortsIn Try.prog Try.sortedA_ren Fence.wide m :=
  ⟨fun blk off cap ss W hH hblk hsz => callsIn_wide.2 (Try.slices_Sort_int blk off cap ss W hH hblk hsz),
   fun p cap W => callsIn_wide.2 (Try.slices_Sort_int_none p cap W)⟩
def sort22 (l : List Int) : List Int := l.mergeSort fun x y => decide (x ≤ y)
section
variable {w w' w1 : World} {f m : Nat} {O : List (Int × F5)}
theorem keys22 {D : DataW Unit} {w : World} {m n : Nat} {O : List (Int × F5)} (hown : w.ownsMap Try.prog 3 elemF m n D) (h : MHolds encF D O) : (O.map (·.1)).Perm (intKeys D) := by
  have hc : CollectedI D (fun _ => false) (O.map (·.1)) := by
    refine ⟨h.nd, fun x => ?_⟩
    rw [h.has]
    constructor
    · intro hx
      obtain ⟨e, he, rfl⟩ := List.mem_map.1 hx
      exact ⟨⟨_, he, rfl⟩, rfl⟩
    · rintro ⟨⟨p, hp, e⟩, _⟩
      have e1 : p.1 = x := by injection e
      rw [← e1]
      exact List.mem_map.2 ⟨p, hp, rfl⟩
  exact hc.perm hown lawInt Try.underlying3 (fun _ => rfl)
set_option maxHeartbeats 2000000 in
set_option maxRecDepth 100000 in
theorem all_is (h : IsFi w f m O) : Calls Try.prog 21 #[.pointer (some ⟨f, 0, none⟩)] w fun e w' => ∃ v, e = .returned v ∧ IRow w' v (sort22 (O.map (·.1))) ∧ (∀ q, v.ownBlock = some q → w.heap.size ≤ q) ∧ Only [] w w' := by
  obtain ⟨D0, hown, hM⟩ := h.own
  have hsz : Maps.size D0 = O.length := hM.size
  have hsz2 : Maps.size D0 ≤ 64 := by rw [hsz]; exact h.few
  have hmax : Maps.size D0 ≤ maxLen := Nat.le_trans hsz2 (by decide)
  have hbytes : Maps.size D0 * 8 ≤ 140737488355328 := by omega
  have hc := fdclosed_is h
  have c0 := h.c0
  have hbl := hown.lt
  have hseq : SeqGives Fence.wide 2 Try.prog 51 #[.pointer (some ⟨w.heap.size, 0, none⟩)] encZ (fun ss => ss.Perm (intKeys D0)) (Maps.size D0) (w.alloc (.cells #[.map (some m)] 50)) :=
    AnyZI.keys_gives (ρ := Try.keysA_ren) { Try.keysA with } Fence.wide _ trivial rfl (by omega) w.heap.size m _ D0 _ (by simp) (by simp) (by
      obtain ⟨es, clock, hb, Ft, hs, hD⟩ := hown
      exact ⟨es, clock, (Below.heap_alloc _ _ m hbl).trans hb, Ft, hs, hD⟩)
  have cK : ∀ mb W, CallsIn Fence.wide 5 Try.prog 44 #[.map mb] W fun e w' => e = .returned (.func (.func 51) #[] #[.pointer (some ⟨W.heap.size, 0, none⟩)]) ∧ w' = W.alloc (.cells #[.map mb] 50) := fun mb W => AnyZI.keys_in Try.keysA Fence.wide 5 trivial rfl mb W
  have cS := AnyZI.sorted_in Try.sortedA Fence.wide 5 trivial trivial trivial trivial rfl (by omega) (sorts22 _) (enters_of Try.func50 (by kernel_rfl) rfl) 51 #[.pointer (some ⟨w.heap.size, 0, none⟩)] trivial (enters_of Try.func51 (by kernel_rfl) rfl) _ _ hmax hbytes _ hseq
  have HP := hide (keys22 hown hM)
  rw [show Try.sortedA_ren.f 6 = 43 from rfl] at cS
  have HC := hide (callsIn_wide (n := 5).2 hc)
  have HS := hide cS
  have HK := hide cK
  clear hc hseq cK cS hown hM hbl hsz hsz2 hmax hbytes h
  refine (callsIn_wide (n := 6)).1 ?_
  refine callsIn_of_wp Try.func21 rfl trivial ?_ rfl
  simp only [Try.ntmps21, List.size_toArray, List.length_cons, List.length_nil, Nat.reduceAdd, Nat.reduceSub, Array.replicate_succ, Array.replicate_zero, List.push_toArray, List.append_toArray, List.nil_append, List.cons_append]
  have hf1 : Fence.wide.fn 38 := trivial
  have hf2 : Fence.wide.fn 44 := trivial
  have hf3 : Fence.wide.fn 43 := trivial
  gi_wp2_with (first | (gi_at_call 38; refine HC.out.mono ?_; rintro e w' ⟨rfl, rfl⟩) | (gi_at_call 44; refine (HK.out _ _).mono ?_; rintro e w' ⟨rfl, rfl⟩) | (gi_at_call 43; refine HS.out.mono ?_; rintro e w' ⟨v, ss, rfl, hS, hrow, hnil, hb⟩))
  go_ret
  have e1 : ss.mergeSort (fun x y => decide (x ≤ y)) = sort22 (O.map (·.1)) := mergeSort_of_perm_i (hS.trans HP.out.symm)
  have e2 : ss.length = (sort22 (O.map (·.1))).length := by rw [← e1, List.length_mergeSort]
  rw [e1, e2] at hrow
  have hr : w'.ownsRow w.heap.size 3 1 v (sort22 (O.map (·.1))).length ((sort22 (O.map (·.1))).map encZ) := ownsRow_base_a hrow (by simp)
  refine ⟨v, rfl, ownsRow_base_a hr (Nat.zero_le _), fun q hq => ?_, ?_⟩
  · rcases hr.2 with ⟨e, _⟩ | ⟨b, cap, cur, e, hB, _⟩
    · rw [e] at hq; simp [Value.ownBlock] at hq
    · rw [e] at hq
      simp only [Value.ownBlock, Option.some.injEq] at hq
      omega
  · exact Only.of_below (((Below.refl _ w).alloc (Nat.le_refl _) _).trans (hb.mono (by simp)))
theorem sort22_length (l : List Int) : (sort22 l).length = l.length := List.length_mergeSort l
theorem mem_sort22 {l : List Int} {x : Int} : x ∈ sort22 l ↔ x ∈ l := List.mem_mergeSort
end
end Go.Proofs.Ytfplfpfnlffnjaa
