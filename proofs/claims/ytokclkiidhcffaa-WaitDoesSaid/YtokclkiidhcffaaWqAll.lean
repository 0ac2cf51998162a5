/-
  Sleepers (parapet/waitq): All: those that sleep, rising.
-/
import Derived.Test.YtokclkiidhcffaaShelf
import Derived.Test.YtokclkiidhcffaaWqLaw2
namespace Go.Proofs.Ytokclkiidhcffaa
open Go.ChangeShapes Go.WideShapes Go.ChangeAt Go.RowKit Go.Maps Go.Sort Go.Shelf
set_option linter.unusedVariables false
theorem sorts12 (m : Nat) : AnyZI.SortsIn Try.prog Try.sortedA_ren Fence.wide m :=
  ⟨fun blk off cap ss W hH hblk hsz => callsIn_wide.2 (Try.slices_Sort_int blk off cap ss W hH hblk hsz),
   fun p cap W => callsIn_wide.2 (Try.slices_Sort_int_none p cap W)⟩
def sort12 (l : List Int) : List Int := l.mergeSort fun x y => decide (x ≤ y)
section
variable {w w' w1 : World} {g m1 m2 : Nat} {R1 : List (EN Int CH)} {R2 : List (EN CH Int)}
theorem keys12 {D : DataW Unit} {w : World} {m n : Nat} {R1 : List (EN Int CH)} (hown : w.ownsMap Try.prog 3 elemSl m n D) (h : MHolds encOn D (refsE R1)) : (R1.map (·.k)).Perm (intKeys D) := by
  have hn := h.nd
  rw [refsE_keys] at hn
  have hc : CollectedI D (fun _ => false) (R1.map (·.k)) := by
    refine ⟨hn, fun x => ?_⟩
    rw [h.has]
    constructor
    · intro hx
      obtain ⟨e, he, rfl⟩ := List.mem_map.1 hx
      exact ⟨⟨_, mem_refsE he, rfl⟩, rfl⟩
    · rintro ⟨⟨p, hp, e⟩, _⟩
      have e1 : p.1 = x := by injection e
      rw [← refsE_keys]
      exact List.mem_map.2 ⟨p, hp, e1⟩
  exact hc.perm hown lawInt Try.underlying3 (fun _ => rfl)
set_option maxHeartbeats 2000000 in
set_option maxRecDepth 100000 in
theorem wAll_is (h : IsWq w g m1 m2 R1 R2) (hl : R1.length ≤ 64) : Calls Try.prog 17 #[.pointer (some ⟨g, 0, none⟩)] w fun e w' => ∃ v, e = .returned v ∧ IRow w' v (sort12 (R1.map (·.k))) ∧ (∀ q, v.ownBlock = some q → w.heap.size ≤ q) ∧ Only [] w w' := by
  obtain ⟨D0, hown, hM⟩ := h.on.own
  have hsz : Maps.size D0 = (refsE R1).length := hM.size
  have hsz2 : Maps.size D0 ≤ 64 := by rw [hsz, refsE_length]; exact hl
  have hmax : Maps.size D0 ≤ maxLen := Nat.le_trans hsz2 (by decide)
  have hbytes : Maps.size D0 * 8 ≤ 140737488355328 := by omega
  have hc := wclosed_is h
  have c0 := h.c0
  have hbl := hown.lt
  have hseq : SeqGives Fence.wide 2 Try.prog 42 #[.pointer (some ⟨w.heap.size, 0, none⟩)] encZ (fun ss => ss.Perm (intKeys D0)) (Maps.size D0) (w.alloc (.cells #[.map (some m1)] 51)) :=
    AnyZI.keys_gives (ρ := Try.keysA_ren) { Try.keysA with } Fence.wide _ trivial rfl (by omega) w.heap.size m1 _ D0 _ (by simp) (by simp) (by
      obtain ⟨es, clock, hb, Ft, hs, hD⟩ := hown
      exact ⟨es, clock, (Below.heap_alloc _ _ m1 hbl).trans hb, Ft, hs, hD⟩)
  have cK : ∀ mb W, CallsIn Fence.wide 5 Try.prog 37 #[.map mb] W fun e w' => e = .returned (.func (.func 42) #[] #[.pointer (some ⟨W.heap.size, 0, none⟩)]) ∧ w' = W.alloc (.cells #[.map mb] 51) := fun mb W => AnyZI.keys_in Try.keysA Fence.wide 5 trivial rfl mb W
  have cS := AnyZI.sorted_in Try.sortedA Fence.wide 5 trivial trivial trivial trivial rfl (by omega) (sorts12 _) (enters_of Try.func41 (by kernel_rfl) rfl) 42 #[.pointer (some ⟨w.heap.size, 0, none⟩)] trivial (enters_of Try.func42 (by kernel_rfl) rfl) _ _ hmax hbytes _ hseq
  have HP := hide (keys12 hown hM)
  rw [show Try.sortedA_ren.f 6 = 36 from rfl] at cS
  have HC := hide (callsIn_wide (n := 5).2 hc)
  have HS := hide cS
  have HK := hide cK
  clear hc hseq cK cS hown hM hbl hsz hsz2 hmax hbytes h hl
  refine (callsIn_wide (n := 6)).1 ?_
  refine callsIn_of_wp Try.func17 rfl trivial ?_ rfl
  simp only [Try.ntmps17, List.size_toArray, List.length_cons, List.length_nil, Nat.reduceAdd, Nat.reduceSub, Array.replicate_succ, Array.replicate_zero, List.push_toArray, List.append_toArray, List.nil_append, List.cons_append]
  have hf1 : Fence.wide.fn 20 := trivial
  have hf2 : Fence.wide.fn 37 := trivial
  have hf3 : Fence.wide.fn 36 := trivial
  gi_wp2_with (first | (gi_at_call 20; refine HC.out.mono ?_; rintro e w' ⟨rfl, rfl⟩) | (gi_at_call 37; refine (HK.out _ _).mono ?_; rintro e w' ⟨rfl, rfl⟩) | (gi_at_call 36; refine HS.out.mono ?_; rintro e w' ⟨v, ss, rfl, hS, hrow, hnil, hb⟩))
  go_ret
  have e1 : ss.mergeSort (fun x y => decide (x ≤ y)) = sort12 (R1.map (·.k)) := mergeSort_of_perm_i (hS.trans HP.out.symm)
  have e2 : ss.length = (sort12 (R1.map (·.k))).length := by rw [← e1, List.length_mergeSort]
  rw [e1, e2] at hrow
  have hr : w'.ownsRow w.heap.size 3 1 v (sort12 (R1.map (·.k))).length ((sort12 (R1.map (·.k))).map encZ) := ownsRow_base_a hrow (by simp)
  refine ⟨v, rfl, ownsRow_base_a hr (Nat.zero_le _), fun q hq => ?_, ?_⟩
  · rcases hr.2 with ⟨e, _⟩ | ⟨b, cap, cur, e, hB, _⟩
    · rw [e] at hq; simp [Value.ownBlock] at hq
    · rw [e] at hq
      simp only [Value.ownBlock, Option.some.injEq] at hq
      omega
  · exact Only.of_below (((Below.refl _ w).alloc (Nat.le_refl _) _).trans (hb.mono (by simp)))
theorem wq_all {L1 : List (Int × List CH)} {L2 : List (CH × List Int)} {F : List Nat} (h : Wq w g L1 L2 F) (hl : L1.length ≤ 64) : Calls Try.prog 17 #[.pointer (some ⟨g, 0, none⟩)] w fun e w' => ∃ v, e = .returned v ∧ IRow w' v (sort12 (L1.map (·.1))) ∧ (∀ q, v.ownBlock = some q → w.heap.size ≤ q) ∧ Only [] w w' := by
  obtain ⟨m1, m2, R1, R2, h, rfl, rfl, rfl⟩ := h
  rw [viewE_keys]
  exact wAll_is h (by simpa [viewE] using hl)
theorem lq_wall {w0 : World} {m : Nat} {s : LW} {bs : List Nat} (h : LQ w0 w g s m bs) : Calls Try.prog 17 #[.pointer (some ⟨g, 0, none⟩)] w fun e w' => ∃ v, e = .returned v ∧ IRow w' v (sort12 (s.1.map (·.1))) ∧ (∀ q, v.ownBlock = some q → w.heap.size ≤ q) ∧ Only [] w w' := by
  obtain ⟨F, h⟩ := h
  exact wq_all h.q h.ok.few
theorem sort12_length (l : List Int) : (sort12 l).length = l.length := List.length_mergeSort l
theorem mem_sort12 {l : List Int} {x : Int} : x ∈ sort12 l ↔ x ∈ l := List.mem_mergeSort
end
end Go.Proofs.Ytokclkiidhcffaa
