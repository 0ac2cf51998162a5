/-
  Processes and threads (parapet/proc): Procs, Threads: their numbers, rising.
-/
import Derived.Test.YtdnnilpifnigiaaShelf
import Derived.Test.YtdnnilpifnigiaaPrMk
import Derived.Maps.RangeWalk
namespace Go.Proofs.Ytdnnilpifnigiaa
open Go.ChangeShapes Go.WideShapes Go.ChangeAt Go.RowKit Go.Maps Go.Sort Go.Shelf
set_option linter.unusedVariables false
theorem sorts24 (m : Nat) : AnyZI.SortsIn Try.prog Try.sortedA_ren Fence.wide m :=
  ⟨fun blk off cap ss W hH hblk hsz => callsIn_wide.2 (Try.slices_Sort_int blk off cap ss W hH hblk hsz),
   fun p cap W => callsIn_wide.2 (Try.slices_Sort_int_none p cap W)⟩
theorem sorted_self {l : List Int} (h : l.Pairwise (· < ·)) : (l.mergeSort fun x y => decide (x ≤ y)) = l :=
  List.mergeSort_of_pairwise (h.imp fun {x y} hxy => by simp; omega)

theorem keysK4 {D : DataW Unit} {w : World} {m n : Nat} {O : List (Int × K5)} (hown : w.ownsMap Try.prog 3 elemK m n D) (h : MHolds encK D O) : (O.map (·.1)).Perm (intKeys D) := by
  have hc : CollectedI D (fun _ => false) (O.map (·.1)) := by
    refine ⟨h.nd, fun x => ?_⟩
    rw [h.has]
    constructor
    · intro hx
      obtain ⟨e, he, rfl⟩ := List.mem_map.1 hx
      exact ⟨⟨_, he, rfl⟩, rfl⟩
    · rintro ⟨⟨p, hp, e⟩, _⟩
      have e1 : p.1 = x := by injection e
      rw [← e1]
      exact List.mem_map.2 ⟨p, hp, rfl⟩
  exact hc.perm hown lawInt Try.underlying3 (fun _ => rfl)
section
variable {w w' w1 : World} {t a b : Nat} {s : PS}
set_option maxHeartbeats 2000000 in
set_option maxRecDepth 100000 in
theorem procs_is (h : IsPt w t a b s) (hs : (s.P.map (·.pid)).Pairwise (· < ·)) (hl : s.P.length < 100000) : Calls Try.prog 23 #[.pointer (some ⟨t, 0, none⟩)] w fun e w' => ∃ v, e = .returned v ∧ KRow .i64 3 w' w.heap.size v (s.P.map (·.pid)) ∧ Only [] w w' := by
  obtain ⟨D0, hown, hM⟩ := h.ma
  have hsz : Maps.size D0 = s.P.length := by rw [hM.size, kp_length]
  have hsz2 : Maps.size D0 ≤ 100000 := by omega
  have hmax : Maps.size D0 ≤ maxLen := Nat.le_trans hsz2 (by decide)
  have hbytes : Maps.size D0 * 8 ≤ 140737488355328 := by omega
  have hc := pcclosed_is h
  have c0 := h.c0
  have hbl := ownsMap_lt hown
  have hseq : SeqGives Fence.wide 2 Try.prog 61 #[.pointer (some ⟨w.heap.size, 0, none⟩)] encZ (fun ss => ss.Perm (intKeys D0)) (Maps.size D0) (w.alloc (.cells #[.map (some a)] 51)) :=
    AnyZI.keys_gives (ρ := Try.keysA_ren) { Try.keysA with } Fence.wide _ trivial rfl (by omega) w.heap.size a _ D0 _ (by simp) (by simp) (by
      obtain ⟨es, clock, hb, Ft, hs, hD⟩ := hown
      exact ⟨es, clock, (Below.heap_alloc _ _ a hbl).trans hb, Ft, hs, hD⟩)
  have cK : ∀ mb W, CallsIn Fence.wide 5 Try.prog 49 #[.map mb] W fun e w' => e = .returned (.func (.func 61) #[] #[.pointer (some ⟨W.heap.size, 0, none⟩)]) ∧ w' = W.alloc (.cells #[.map mb] 51) := fun mb W => AnyZI.keys_in Try.keysA Fence.wide 5 trivial rfl mb W
  have cS := AnyZI.sorted_in Try.sortedA Fence.wide 5 trivial trivial trivial trivial rfl (by omega) (sorts24 _) (enters_of Try.func60 (by kernel_rfl) rfl) 61 #[.pointer (some ⟨w.heap.size, 0, none⟩)] trivial (enters_of Try.func61 (by kernel_rfl) rfl) _ _ hmax hbytes _ hseq
  have HP := hide (keysK4 hown hM)
  rw [show Try.sortedA_ren.f 6 = 48 from rfl] at cS
  have HC := hide (callsIn_wide (n := 5).2 hc)
  have HS := hide cS
  have HK := hide cK
  have HSO := hide hs
  clear hc hseq cK cS hown hM hbl hsz hsz2 hmax hbytes h hs hl
  refine (callsIn_wide (n := 6)).1 ?_
  refine callsIn_of_wp Try.func23 rfl trivial ?_ rfl
  simp only [Try.ntmps23, List.size_toArray, List.length_cons, List.length_nil, Nat.reduceAdd, Nat.reduceSub, Array.replicate_succ, Array.replicate_zero, List.push_toArray, List.append_toArray, List.nil_append, List.cons_append]
  have hf1 : Fence.wide.fn 27 := trivial
  have hf2 : Fence.wide.fn 49 := trivial
  have hf3 : Fence.wide.fn 48 := trivial
  gi_wp2_with (first | (gi_at_call 27; refine HC.out.mono ?_; rintro e w' ⟨rfl, rfl⟩) | (gi_at_call 49; refine (HK.out _ _).mono ?_; rintro e w' ⟨rfl, rfl⟩) | (gi_at_call 48; refine HS.out.mono ?_; rintro e w' ⟨v, ss, rfl, hS, hrow, hnil, hb⟩))
  go_ret
  have e1 : ss.mergeSort (fun x y => decide (x ≤ y)) = s.P.map (·.pid) := by
    rw [mergeSort_of_perm_i (hS.trans HP.out.symm), kp_keys]
    exact sorted_self HSO.out
  have e2 : ss.length = (s.P.map (·.pid)).length := by rw [← e1, List.length_mergeSort]
  rw [e1, e2] at hrow
  have hr : w'.ownsRow w.heap.size 3 1 v (s.P.map (·.pid)).length ((s.P.map (·.pid)).map encZ) := ownsRow_base_a hrow (by simp)
  exact ⟨v, rfl, hr, Only.of_below (((Below.refl _ w).alloc (Nat.le_refl _) _).trans (hb.mono (by simp)))⟩
end

theorem keysS4 {D : DataW Unit} {w : World} {m n : Nat} {O : List (Int × S4)} (hown : w.ownsMap Try.prog 3 elemS m n D) (h : MHolds encS D O) : (O.map (·.1)).Perm (intKeys D) := by
  have hc : CollectedI D (fun _ => false) (O.map (·.1)) := by
    refine ⟨h.nd, fun x => ?_⟩
    rw [h.has]
    constructor
    · intro hx
      obtain ⟨e, he, rfl⟩ := List.mem_map.1 hx
      exact ⟨⟨_, he, rfl⟩, rfl⟩
    · rintro ⟨⟨p, hp, e⟩, _⟩
      have e1 : p.1 = x := by injection e
      rw [← e1]
      exact List.mem_map.2 ⟨p, hp, rfl⟩
  exact hc.perm hown lawInt Try.underlying3 (fun _ => rfl)
section
variable {w w' w1 : World} {t a b : Nat} {s : PS}
set_option maxHeartbeats 2000000 in
set_option maxRecDepth 100000 in
theorem threads_is (h : IsPt w t a b s) (hs : (s.T.map (·.tid)).Pairwise (· < ·)) (hl : s.T.length < 100000) : Calls Try.prog 24 #[.pointer (some ⟨t, 0, none⟩)] w fun e w' => ∃ v, e = .returned v ∧ KRow .i64 3 w' w.heap.size v (s.T.map (·.tid)) ∧ Only [] w w' := by
  obtain ⟨D0, hown, hM⟩ := h.mb
  have hsz : Maps.size D0 = s.T.length := by rw [hM.size, tp_length]
  have hsz2 : Maps.size D0 ≤ 100000 := by omega
  have hmax : Maps.size D0 ≤ maxLen := Nat.le_trans hsz2 (by decide)
  have hbytes : Maps.size D0 * 8 ≤ 140737488355328 := by omega
  have hc := pcclosed_is h
  have c0 := h.c1
  have hbl := ownsMap_lt hown
  have hseq : SeqGives Fence.wide 2 Try.prog 62 #[.pointer (some ⟨w.heap.size, 0, none⟩)] encZ (fun ss => ss.Perm (intKeys D0)) (Maps.size D0) (w.alloc (.cells #[.map (some b)] 52)) :=
    AnyZI.keys_gives (ρ := Try.keysB_ren) { Try.keysB with } Fence.wide _ trivial rfl (by omega) w.heap.size b _ D0 _ (by simp) (by simp) (by
      obtain ⟨es, clock, hb, Ft, hs, hD⟩ := hown
      exact ⟨es, clock, (Below.heap_alloc _ _ b hbl).trans hb, Ft, hs, hD⟩)
  have cK : ∀ mb W, CallsIn Fence.wide 5 Try.prog 50 #[.map mb] W fun e w' => e = .returned (.func (.func 62) #[] #[.pointer (some ⟨W.heap.size, 0, none⟩)]) ∧ w' = W.alloc (.cells #[.map mb] 52) := fun mb W => AnyZI.keys_in Try.keysB Fence.wide 5 trivial rfl mb W
  have cS := AnyZI.sorted_in Try.sortedA Fence.wide 5 trivial trivial trivial trivial rfl (by omega) (sorts24 _) (enters_of Try.func60 (by kernel_rfl) rfl) 62 #[.pointer (some ⟨w.heap.size, 0, none⟩)] trivial (enters_of Try.func62 (by kernel_rfl) rfl) _ _ hmax hbytes _ hseq
  have HP := hide (keysS4 hown hM)
  rw [show Try.sortedA_ren.f 6 = 48 from rfl] at cS
  have HC := hide (callsIn_wide (n := 5).2 hc)
  have HS := hide cS
  have HK := hide cK
  have HSO := hide hs
  clear hc hseq cK cS hown hM hbl hsz hsz2 hmax hbytes h hs hl
  refine (callsIn_wide (n := 6)).1 ?_
  refine callsIn_of_wp Try.func24 rfl trivial ?_ rfl
  simp only [Try.ntmps24, List.size_toArray, List.length_cons, List.length_nil, Nat.reduceAdd, Nat.reduceSub, Array.replicate_succ, Array.replicate_zero, List.push_toArray, List.append_toArray, List.nil_append, List.cons_append]
  have hf1 : Fence.wide.fn 27 := trivial
  have hf2 : Fence.wide.fn 50 := trivial
  have hf3 : Fence.wide.fn 48 := trivial
  gi_wp2_with (first | (gi_at_call 27; refine HC.out.mono ?_; rintro e w' ⟨rfl, rfl⟩) | (gi_at_call 50; refine (HK.out _ _).mono ?_; rintro e w' ⟨rfl, rfl⟩) | (gi_at_call 48; refine HS.out.mono ?_; rintro e w' ⟨v, ss, rfl, hS, hrow, hnil, hb⟩))
  go_ret
  have e1 : ss.mergeSort (fun x y => decide (x ≤ y)) = s.T.map (·.tid) := by
    rw [mergeSort_of_perm_i (hS.trans HP.out.symm), tp_keys]
    exact sorted_self HSO.out
  have e2 : ss.length = (s.T.map (·.tid)).length := by rw [← e1, List.length_mergeSort]
  rw [e1, e2] at hrow
  have hr : w'.ownsRow w.heap.size 3 1 v (s.T.map (·.tid)).length ((s.T.map (·.tid)).map encZ) := ownsRow_base_a hrow (by simp)
  exact ⟨v, rfl, hr, Only.of_below (((Below.refl _ w).alloc (Nat.le_refl _) _).trans (hb.mono (by simp)))⟩
end
end Go.Proofs.Ytdnnilpifnigiaa
