/-
  Sleepers (parapet/waitq): New, closed, On, Sleepers, Len.
-/
import Derived.Test.YtokclkiidhcffaaWqIs
import Derived.Deep.RegionLaw
import Derived.RegionTactic
namespace Go.Proofs.Ytokclkiidhcffaa
open Go.ChangeShapes Go.WideShapes Go.ChangeAt Go.RowKit Go.Maps
set_option linter.unusedVariables false

/-- What stands under a key. -/
def atE {κ α : Type} [DecidableEq κ] (R : List (EN κ α)) (k : κ) : List α := ((R.find? fun e => decide (e.k = k)).map (·.l)).getD []
theorem atE_mem {κ α : Type} [DecidableEq κ] {R : List (EN κ α)} (hn : (R.map (·.k)).Nodup) {e : EN κ α} (he : e ∈ R) : atE R e.k = e.l := by
  unfold atE
  cases hf : R.find? fun x => decide (x.k = e.k) with
  | none =>
    have := List.find?_eq_none.1 hf e he
    simp at this
  | some x =>
    have h1 := List.mem_of_find?_eq_some hf
    have h2 := List.find?_some hf
    rw [keys_uniq hn h1 he (by simpa using h2)]
    rfl
theorem atE_no {κ α : Type} [DecidableEq κ] {R : List (EN κ α)} {k : κ} (hk : k ∉ R.map (·.k)) : atE R k = [] := by
  unfold atE
  rw [List.find?_eq_none.2 (fun x hx e => hk (List.mem_map.2 ⟨x, hx, by simpa using e⟩))]
  rfl

section
variable {w w' w1 : World} {g m1 m2 : Nat} {R1 : List (EN Int CH)} {R2 : List (EN CH Int)}
theorem ownsMap_empty12 {w : World} {b : Nat} (h : w.heap[b]? = some (.map #[] 0)) (k : TypeId) (R : Value → Option (DataW Unit × List MemPlace)) : w.ownsMap Try.prog k R b 0 (.map []) := by
  obtain ⟨es, clock, h1, F, hs, hD⟩ := World.ownsMap_made w Try.prog k R
  rw [show (w.alloc (.map #[] 0)).heap[w.heap.size]? = some (.map #[] 0) from heap_alloc_new w _] at h1
  injection h1 with h1
  injection h1 with e1 e2
  subst e1; subst e2
  exact ⟨#[], 0, h, F, hs, hD⟩
theorem half_empty {κ α : Type} {E : Enc κ SO} {kt : TypeId} {row : World → Value → List α → Prop} {w : World} {b : Nat} (h : w.heap[b]? = some (.map #[] 0)) : Half (κ := κ) (α := α) E kt row w b [] :=
  ⟨⟨.map [], ownsMap_empty12 h _ _, MHolds.empty⟩, by simp, by simp, by simp, by simp, by simp⟩
theorem wNew_is (w : World) : Calls Try.prog 7 #[] w fun e w' => ∃ g m1 m2, e = .returned (.pointer (some ⟨g, 0, none⟩)) ∧ IsWq w' g m1 m2 [] [] ∧ (∀ k, k ∈ footW g m1 m2 [] [] → w.heap.size ≤ k) ∧ Only [] w w' := by
  have hmm := @run_makeMap Try.prog
  go_enter Try.func7, Try.ntmps7
  go_wp2
  go_ret
  have h0 : Only [] w (((w.alloc (.map #[] 0)).alloc (.map #[] 0)).alloc (.cells #[.map (some w.heap.size), .map (some (w.heap.size + 1))] 54)) := (((Only.refl [] w).alloc _).alloc _).alloc _
  have b1 : (((w.alloc (.map #[] 0)).alloc (.map #[] 0)).alloc (.cells #[.map (some w.heap.size), .map (some (w.heap.size + 1))] 54)).heap[w.heap.size]? = some (.map #[] 0) :=
    (((((Only.refl [] (w.alloc (.map #[] 0))).alloc _).alloc _).block _ (by simp) (by simp))).trans (heap_alloc_new w _)
  have b2 : (((w.alloc (.map #[] 0)).alloc (.map #[] 0)).alloc (.cells #[.map (some w.heap.size), .map (some (w.heap.size + 1))] 54)).heap[w.heap.size + 1]? = some (.map #[] 0) := by
    have h := heap_alloc_new (w.alloc (.map #[] 0)) (.map #[] 0)
    rw [show (w.alloc (.map #[] 0)).heap.size = w.heap.size + 1 by simp] at h
    exact (((Only.refl [] ((w.alloc (.map #[] 0)).alloc (.map #[] 0))).alloc _).block _ (by simp) (by simp)).trans h
  refine ⟨w.heap.size + 1 + 1, w.heap.size, w.heap.size + 1, rfl, ⟨?_, half_empty b1, half_empty b2, by omega⟩, fun k hk => ?_, h0⟩
  · have h := Blk.new ((w.alloc (.map #[] 0)).alloc (.map #[] 0)) 54 #[.map (some w.heap.size), .map (some (w.heap.size + 1))]
    rw [show ((w.alloc (.map #[] 0)).alloc (.map #[] 0)).heap.size = w.heap.size + 1 + 1 by simp] at h
    exact h
  · rcases mem_footW.1 hk with rfl | rfl | rfl | ⟨e, he, rfl⟩ | ⟨e, he, rfl⟩
    · omega
    · exact Nat.le_refl _
    · omega
    · cases he
    · cases he
theorem wclosed_is (h : IsWq w g m1 m2 R1 R2) : Calls Try.prog 20 #[.pointer (some ⟨g, 0, none⟩)] w fun e w' => e = .returned (.bool false) ∧ w = w' := by
  have qM : ∀ (w : World) (r : Option Nat), (binOp .eql 51 (.map r) (.map none)).run Try.prog w = .ok (.bool r.isNone) w := fun w r => run_eql_map_nil w _ _ _ r Try.underlying51
  have c0 := h.c0
  clear h
  go_enter Try.func20, Try.ntmps20
  go_wp2
  go_ret
  exact ⟨rfl, rfl⟩
theorem wLen_is (h : IsWq w g m1 m2 R1 R2) : Calls Try.prog 16 #[.pointer (some ⟨g, 0, none⟩)] w fun e w' => e = .returned (.int .i64 R1.length) ∧ w = w' := by
  have HC := hide (wclosed_is h)
  have c0 := h.c0
  have hl := h.len1
  clear h
  go_enter Try.func16, Try.ntmps16
  go_wp2_with (go_at_call 20; refine HC.out.mono ?_; rintro e w' ⟨rfl, rfl⟩)
  go_ret
  exact ⟨rfl, rfl⟩
theorem wOn_is (h : IsWq w g m1 m2 R1 R2) (hl : ∀ e ∈ R1, e.l.length ≤ 64) (t : Int) (ht : iW t) : Calls Try.prog 19 #[.pointer (some ⟨g, 0, none⟩), .int .i64 t] w fun e w' => ∃ v', e = .returned v' ∧ CRw w' v' (atE R1 t) ∧ (∀ q, v'.ownBlock = some q → w.heap.size ≤ q) ∧ Only [] w w' := by
  have HC := hide (wclosed_is h)
  have c0 := h.c0
  by_cases hm : t ∈ R1.map (·.k)
  · obtain ⟨e, he, rfl⟩ := List.mem_map.1 hm
    rw [atE_mem h.on.keys he]
    have hlk := h.look1 he
    have HK := hide (cloneC_is (h.on.row e he) (hl e he))
    clear h hl hm ht
    go_enter Try.func19, Try.ntmps19
    go_wp2_with (first | (go_at_call 20; refine HC.out.mono ?_; rintro e w' ⟨rfl, rfl⟩) | (go_at_call 21; refine HK.out.mono ?_; rintro e w' ⟨v', rfl, hr, hb, ho⟩; have HR := hide hr; have HB := hide hb; have HO := hide ho; clear hr hb ho))
    go_ret
    exact ⟨_, rfl, HR.out, HB.out, HO.out⟩
  · rw [atE_no hm]
    have hlk := h.look1_no ht hm
    have HK := hide (cloneC_is (CRw.nil w) (by simp))
    clear h hl hm ht
    go_enter Try.func19, Try.ntmps19
    go_wp2_with (first | (go_at_call 20; refine HC.out.mono ?_; rintro e w' ⟨rfl, rfl⟩) | (go_at_call 21; refine HK.out.mono ?_; rintro e w' ⟨v', rfl, hr, hb, ho⟩; have HR := hide hr; have HB := hide hb; have HO := hide ho; clear hr hb ho))
    go_ret
    exact ⟨_, rfl, HR.out, HB.out, HO.out⟩
abbrev cC (c : CH) : Array Value := #[.int .i64 c.kind, .int .i64 c.a, .int .i64 c.b]
set_option maxRecDepth 100000 in
theorem sleepers_run (h : IsWq w g m1 m2 R1 R2) (c : CH) {sl : Value} {l : List Int} (hsl : IRow w sl l) (hl : l.length ≤ 64)
    (hlk : ∀ W, Only [] w W → (Instr.lookup 52 (.map (some m2)) (.agg (cC c)) false).run Try.prog W = .ok sl W) :
    Calls Try.prog 14 #[.pointer (some ⟨g, 0, none⟩), kV c] w fun e w' => ∃ v', e = .returned v' ∧ IRow w' v' l ∧ (∀ q, v'.ownBlock = some q → w.heap.size ≤ q) ∧ Only [] w w' := by
  have HC := hide (fun o => wclosed_is (h.quiet ((Only.refl [] w).alloc o)))
  have HW := hide ((Only.refl [] w).alloc (.cells (cC c) 32))
  have HQ := hide (fun W (hw : Only [] w W) => h.quiet hw)
  have HK := hide (fun W (hw : Only [] w W) => (cloneI_is (KRow.only hsl hw (by simp)) (Nat.le_trans hl (by decide))).mono (R' := fun e w' => ∃ v', e = .returned v' ∧ IRow w' v' l ∧ (∀ q, v'.ownBlock = some q → w.heap.size ≤ q) ∧ Only [] w w') (fun e w' ⟨v', h1, h2, h3, h4⟩ => ⟨v', h1, h2, fun q hq => Nat.le_trans hw.size (h3 q hq), hw.trans h4⟩))
  have c1 := fun o => (HQ.out _ ((Only.refl [] w).alloc o)).c1
  have k0 : (w.alloc (.cells (cC c) 32)).cell? ⟨w.heap.size, 0, none⟩ = some (.int .i64 c.kind) := (Blk.new w 32 (cC c)).cell 0
  have k1 : (w.alloc (.cells (cC c) 32)).cell? ⟨w.heap.size, 1, none⟩ = some (.int .i64 c.a) := (Blk.new w 32 (cC c)).cell 1
  have k2 : (w.alloc (.cells (cC c) 32)).cell? ⟨w.heap.size, 2, none⟩ = some (.int .i64 c.b) := (Blk.new w 32 (cC c)).cell 2
  have l0 := hlk _ HW.out
  have l1 := hlk _ HW.out.drew
  have l2 := fun n => hlk _ (HW.out.drewN n)
  clear h hlk hsl hl
  go_enter Try.func14, Try.ntmps14
  go_wp2_with (go_at_call 20; refine (HC.out _).mono ?_; rintro e w' ⟨rfl, rfl⟩)
  go_region_law (go_simp; go_at_call 22; refine (HK.out _ (by repeat (first | exact HW.out | apply Only.drew | apply Only.drewN))).mono ?_; rintro e w' ⟨v', rfl, hr, hb, ho⟩; have HR := hide hr; have HB := hide hb; have HO := hide ho; clear hr hb ho)
  all_goals (first | (go_ret; exact ⟨_, rfl, HR.out, HB.out, HO.out⟩) | (go_wp2; go_ret; exact ⟨_, rfl, HR.out, HB.out, HO.out⟩))
theorem wSleepers_is (h : IsWq w g m1 m2 R1 R2) (hl : ∀ e ∈ R2, e.l.length ≤ 64) (c : CH) (hc : c.wf) : Calls Try.prog 14 #[.pointer (some ⟨g, 0, none⟩), kV c] w fun e w' => ∃ v', e = .returned v' ∧ IRow w' v' (atE R2 c) ∧ (∀ q, v'.ownBlock = some q → w.heap.size ≤ q) ∧ Only [] w w' := by
  by_cases hm : c ∈ R2.map (·.k)
  · obtain ⟨e, he, rfl⟩ := List.mem_map.1 hm
    rw [atE_mem h.sl.keys he]
    exact sleepers_run h e.k (h.sl.row e he) (hl e he) (fun W hw => (h.quiet hw).look2 he)
  · rw [atE_no hm]
    exact sleepers_run h c (KRow.nil .i64 3 w 0) (by simp) (fun W hw => (h.quiet hw).look2_no hc hm)
end
end Go.Proofs.Ytokclkiidhcffaa
