/-
  The cache of names (parapet/namec): slices.Index of names; Look, Kept, New.
-/
import Derived.Test.YtjpojoflbjhjjaaNcCache
import Derived.Test.YtjpojoflbjhjjaaNmEq
namespace Go.Proofs.Ytjpojoflbjhjjaa
open Go.ChangeShapes Go.WideShapes Go.ChangeAt Go.RowKit Go.Maps
set_option linter.unusedVariables false
set_option linter.unusedSimpArgs false
theorem ownsMap_made19 {w : World} {b : Nat} (h : w.heap[b]? = some (.map #[] 0)) (k : TypeId) (R : Value → Option (DataW Unit × List MemPlace)) : w.ownsMap Try.prog k R b 0 (.map []) := by
  obtain ⟨es, clock, h1, F, hs, hD⟩ := World.ownsMap_made w Try.prog k R
  rw [show (w.alloc (.map #[] 0)).heap[w.heap.size]? = some (.map #[] 0) from heap_alloc_new w _] at h1
  injection h1 with h1
  injection h1 with e1 e2
  subst e1; subst e2
  exact ⟨#[], 0, h, F, hs, hD⟩
section
variable {w w' w1 : World} {c d mm : Nat} {room made : Int} {v : Value} {O : List NM} {M : List (NM × (Int × Int))} {S F FD T : List Nat} {s : RS} {k : NM} {f : Int × Int}
set_option maxRecDepth 100000 in
set_option maxHeartbeats 1000000 in
theorem idxN_is (h : NRw w v O) (hf : O.length ≤ 4096) (i : Nat) (hi : O[i]? = some k) (hm : ∀ j, j < i → O[j]? ≠ some k) : Calls Try.prog 37 #[v, kV k] w fun e w' => e = .returned (.int .i64 i) ∧ Only [] w w' := by
  have hil := (List.getElem?_eq_some_iff.1 hi).1
  obtain ⟨A, cap, rfl, hA⟩ := h.form
  obtain ⟨b, rfl, hbl⟩ := hA (by omega)
  have HCL := hide (fun (W : World) (ho : Only [] w W) (j : Nat) (x : NM) (hx : O[j]? = some x) => (show W.cell? ⟨b, j * 2, none⟩ = some (.int .i64 x.dir) ∧ W.cell? ⟨b, j * 2 + 1, none⟩ = some (.string x.name) from
    ⟨(ho.cell hbl (by simp)).trans (h.cell rfl rfl hx).1, (ho.cell hbl (by simp)).trans (h.cell rfl rfl hx).2⟩))
  have HBX := hide (Blk.new w 42 #[.int .i64 k.dir, .string k.name])
  have hoa : Only [] w (w.alloc (.cells #[.int .i64 k.dir, .string k.name] 42)) := (Only.refl _ _).alloc _
  have HI := hide hi
  have HM := hide hm
  have HOA := hide hoa
  clear h hi hm hA hbl hoa
  unfold kV
  go_enter Try.func37, Try.ntmps37
  go_wp2_with fail
  generalize w.alloc (.cells #[.int .i64 k.dir, .string k.name] 42) = W1 at *
  generalize hq : w.heap.size = q at *
  have HQ := hide hq
  clear hq
  go_loopw [8, 5] (fun iv _ wr => ∃ j : Nat, j ≤ i ∧ iv = .int .i64 j ∧ Only [] W1 wr) (fun iv _ _ => i + 1 - (intOf iv).toNat)
  case atStart => exact ⟨0, Nat.zero_le _, rfl, Only.refl _ _⟩
  case round =>
    obtain ⟨j, hj, rfl, ho⟩ := hrel
    have hjO : j < O.length := by omega
    obtain ⟨x, hx⟩ : ∃ x, O[j]? = some x := ⟨_, List.getElem?_eq_getElem hjO⟩
    obtain ⟨e0, e1⟩ := HCL.out wr (HOA.out.trans ho) j x hx
    have b0 := ((HBX.out.only ho (by simp)).cell 0).trans (b := some (Value.int .i64 k.dir)) rfl
    have b1 := ((HBX.out.only ho (by simp)).cell 1).trans (b := some (Value.string k.name)) rfl
    have HO := hide ho
    have hjI : (j : Int) < O.length := by omega
    have HJ := hide hx
    clear ho hx
    by_cases he : j = i
    · subst he
      have hxk : k = x := by have := HI.out; rw [HJ.out] at this; exact (Option.some.inj this).symm
      subst hxk
      have heq := fun W => name_eql (a := k) (b := k) (r := true) (by simp) W
      go_wp2_with fail
      go_quiet (fail)
      go_wp2
      go_ret
      exact ⟨rfl, HOA.out.trans (HO.out.drewN _)⟩
    · have hne : ¬ (k = x) := fun e => by
        subst e
        exact HM.out j (by omega) HJ.out
      have heq := fun W => name_eql (a := k) (b := x) (r := false) (by simp [hne]) W
      clear hne
      go_wp2_with fail
      go_quiet (fail)
      go_wp2
      go_roundw
      case rel => exact ⟨j + 1, by omega, by go_num, HO.out.drewN _⟩
      case measure => simp [intOf]; omega
set_option maxRecDepth 100000 in
set_option maxHeartbeats 1000000 in
/-- What is kept under a name that is there. -/
theorem ncLook_yes (h : IsCa w c d mm room v O M made) (hp : (k, f) ∈ M) : Calls Try.prog 12 #[.pointer (some ⟨c, 0, none⟩), kV k] w fun e w' => e = .returned (.tuple #[.int .i64 f.1, .bool true]) ∧ Only [] w w' := by
  have HC := hide (fun W (ho : Only [] w W) => ncclosed_is (h.quiet ho))
  obtain ⟨D, d1, d2⟩ := h.own
  have HLK := hide (fun (W : World) (ho : Only [] w W) => (show (Instr.lookup 68 (.map (some mm)) (.agg #[.int .i64 k.dir, .string k.name]) true).run Try.prog W = .ok (.tuple #[.agg #[.int .i64 f.1, .int .i64 f.2], .bool true]) W from lookN d2 (ownsMap_only d1 ho (by simp)) hp true))
  have H2 := hide (fun (W : World) (ho : Only [] w W) => (h.quiet ho).c2)
  have hoa : Only [] w (w.alloc (.cells #[.int .i64 k.dir, .string k.name] 42)) := (Only.refl _ _).alloc _
  have HBX := hide (Blk.new w 42 #[.int .i64 k.dir, .string k.name])
  have HOA := hide hoa
  clear h d1 d2 hp hoa
  unfold kV
  go_enter Try.func12, Try.ntmps12
  go_wp2_with (go_at_call 33; refine (HC.out _ HOA.out).mono ?_; rintro e w' ⟨rfl, rfl⟩)
  generalize w.alloc (.cells #[.int .i64 k.dir, .string k.name] 42) = W1 at *
  generalize hq : w.heap.size = q at *
  have HQ := hide hq
  clear hq
  have l1 := HLK.out W1 HOA.out
  have l2 := fun o => HLK.out (W1.alloc o) (HOA.out.alloc o)
  have l3 := HLK.out W1.drew HOA.out.drew
  have l4 := fun o => HLK.out (W1.alloc o).drew (HOA.out.alloc o).drew
  have c2 := H2.out W1 HOA.out
  have c2' := fun o => H2.out (W1.alloc o) (HOA.out.alloc o)
  have b0 := (HBX.out.cell 0).trans (b := some (Value.int .i64 k.dir)) rfl
  have b1 := (HBX.out.cell 1).trans (b := some (Value.string k.name)) rfl
  have b0' := fun o => ((HBX.out.alloc o).cell 0).trans (b := some (Value.int .i64 k.dir)) rfl
  have b1' := fun o => ((HBX.out.alloc o).cell 1).trans (b := some (Value.string k.name)) rfl
  go_region
  have HO2 := hide ((HOA.out.alloc (.cells #[.int .i64 f.1, .int .i64 f.2] 72)).drew)
  clear l1 l2 l3 l4 c2 c2' b0 b1 b0' b1'
  go_wp2
  go_ret2
  exact ⟨rfl, HO2.out⟩
set_option maxRecDepth 100000 in
set_option maxHeartbeats 1000000 in
/-- Nothing is kept under that name. -/
theorem ncLook_no (h : IsCa w c d mm room v O M made) (hk : k.wf) (hn : k ∉ M.map (·.1)) : Calls Try.prog 12 #[.pointer (some ⟨c, 0, none⟩), kV k] w fun e w' => e = .returned (.tuple #[.int .i64 0, .bool false]) ∧ Only [] w w' := by
  have HC := hide (fun W (ho : Only [] w W) => ncclosed_is (h.quiet ho))
  obtain ⟨D, d1, d2⟩ := h.own
  have HLK := hide (fun (W : World) (ho : Only [] w W) => (show (Instr.lookup 68 (.map (some mm)) (.agg #[.int .i64 k.dir, .string k.name]) true).run Try.prog W = .ok (.tuple #[.agg #[.int .i64 0, .int .i64 0], .bool false]) W from lookN_no d2 (ownsMap_only d1 ho (by simp)) hk hn true))
  have H2 := hide (fun (W : World) (ho : Only [] w W) => (h.quiet ho).c2)
  have hoa : Only [] w (w.alloc (.cells #[.int .i64 k.dir, .string k.name] 42)) := (Only.refl _ _).alloc _
  have HBX := hide (Blk.new w 42 #[.int .i64 k.dir, .string k.name])
  have HOA := hide hoa
  clear h d1 d2 hk hn hoa
  unfold kV
  go_enter Try.func12, Try.ntmps12
  go_wp2_with (go_at_call 33; refine (HC.out _ HOA.out).mono ?_; rintro e w' ⟨rfl, rfl⟩)
  generalize w.alloc (.cells #[.int .i64 k.dir, .string k.name] 42) = W1 at *
  generalize hq : w.heap.size = q at *
  have HQ := hide hq
  clear hq
  have l1 := HLK.out W1 HOA.out
  have l2 := fun o => HLK.out (W1.alloc o) (HOA.out.alloc o)
  have l3 := HLK.out W1.drew HOA.out.drew
  have l4 := fun o => HLK.out (W1.alloc o).drew (HOA.out.alloc o).drew
  have c2 := H2.out W1 HOA.out
  have c2' := fun o => H2.out (W1.alloc o) (HOA.out.alloc o)
  have b0 := (HBX.out.cell 0).trans (b := some (Value.int .i64 k.dir)) rfl
  have b1 := (HBX.out.cell 1).trans (b := some (Value.string k.name)) rfl
  have b0' := fun o => ((HBX.out.alloc o).cell 0).trans (b := some (Value.int .i64 k.dir)) rfl
  have b1' := fun o => ((HBX.out.alloc o).cell 1).trans (b := some (Value.string k.name)) rfl
  go_region
  have HO2 := hide ((HOA.out.alloc (.cells #[.int .i64 0, .int .i64 0] 72)).drew)
  clear l1 l2 l3 l4 c2 c2' b0 b1 b0' b1'
  go_wp2
  go_ret2
  exact ⟨rfl, HO2.out⟩
set_option maxRecDepth 100000 in
theorem ncKept_is (h : IsCa w c d mm room v O M made) (hf : O.length ≤ 4096) : Calls Try.prog 21 #[.pointer (some ⟨c, 0, none⟩)] w fun e w' => ∃ v', e = .returned v' ∧ NRw w' v' O ∧ (∀ q, v'.ownBlock = some q → w.heap.size ≤ q) ∧ Only [] w w' := by
  have HC := hide (ncclosed_is h)
  have HCL := hide (cloneN_is h.row hf)
  have c3 := h.c3
  obtain ⟨A, cap, rfl, -⟩ := h.row.form
  clear h
  go_enter Try.func21, Try.ntmps21
  go_wp2_with (first | (go_at_call 33; refine HC.out.mono ?_; rintro e w' ⟨rfl, rfl⟩) | (go_at_call 44; refine HCL.out.mono ?_; rintro e w1 ⟨v', rfl, hr, hn, ho⟩; obtain ⟨A', c', rfl, -⟩ := hr.form; have HR := hide hr; have HN := hide hn; have HO := hide ho; clear hr hn ho))
  go_ret
  exact ⟨_, rfl, HR.out, HN.out, HO.out⟩
theorem ncNew_bad (n : Int) (hn : n < 1 ∨ 4096 < n) (w : World) : Calls Try.prog 11 #[.pointer (some ⟨d, 0, none⟩), .int .i64 n] w fun e w' => e = .returned (.tuple #[.pointer none, .int .i64 1]) ∧ w = w' := by
  go_enter Try.func11, Try.ntmps11
  by_cases h1 : n < 1
  · clear hn
    go_wp2
    go_ret2
    exact ⟨rfl, rfl⟩
  · have h2 : 4096 < n := by omega
    clear hn
    go_wp2
    go_ret2
    exact ⟨rfl, rfl⟩
def MadeCa (w : World) (d : Nat) (n : Int) (e : Ending) (w' : World) : Prop := ∃ c mm, e = .returned (.tuple #[.pointer (some ⟨c, 0, none⟩), .int .i64 0]) ∧ IsCa w' c d mm n (.slice none 0 0) [] [] 0 ∧ w.heap.size ≤ c ∧ w.heap.size ≤ mm ∧ Only [] w w'
theorem ncNew_ok (n : Int) (h0 : 1 ≤ n) (h1 : n ≤ 4096) (w : World) : Calls Try.prog 11 #[.pointer (some ⟨d, 0, none⟩), .int .i64 n] w fun e w' => MadeCa w d n e w' := by
  have e1 : ¬ n < 1 := by omega
  have e2 : ¬ 4096 < n := by omega
  have hmm := @run_makeMap Try.prog
  clear h0 h1
  go_enter Try.func11, Try.ntmps11
  go_wp2
  go_ret2
  refine ⟨w.heap.size + 1, w.heap.size, rfl, ⟨?_, NRw.nil _, .map [], ?_, MHolds.empty⟩, by omega, Nat.le_refl _, ((Only.refl [] w).alloc _).alloc _⟩
  · have h := Blk.new (w.alloc (.map #[] 0)) 70 #[.pointer (some ⟨d, 0, none⟩), .int .i64 n, .map (some w.heap.size), .slice none 0 0, .int .i64 0]
    rw [show (w.alloc (.map #[] 0)).heap.size = w.heap.size + 1 by simp] at h
    exact h
  · exact ownsMap_made19 ((((Only.refl [] (w.alloc (.map #[] 0))).alloc _).block _ (by simp) (by simp)).trans (heap_alloc_new w _)) _ _
end
end Go.Proofs.Ytjpojoflbjhjjaa
