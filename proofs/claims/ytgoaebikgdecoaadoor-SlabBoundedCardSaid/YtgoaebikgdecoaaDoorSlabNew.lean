/-
  Slabs (parapet/slab): New; Used.
-/
import Derived.Test.YtgoaebikgdecoaaDoorSlabHeap
import Derived.Deep.RegionHeld3
namespace Go.Proofs.YtgoaebikgdecoaaDoor
open Go.ChangeShapes Go.WideShapes Go.ChangeAt Go.RowKit Go.Maps
set_option linter.unusedVariables false

theorem liveAt_nil (id : Int) : ¬ liveAt [] id := by
  rintro ⟨n, s, p, h, _⟩
  simp at h
theorem OkH.new {L : Int} (h : 0 ≤ L ∧ L ≤ 1048576) : OkH L [] [] := ⟨h, by simp, by simp, by simp [cntK]; omega, fun id => by simp [liveAt_nil]⟩
theorem ownsMap_empty8 {w : World} {b : Nat} (h : w.heap[b]? = some (.map #[] 0)) (k : TypeId) (R : Value → Option (DataW Unit × List MemPlace)) : w.ownsMap Tryd.prog k R b 0 (.map []) := by
  obtain ⟨es, clock, h1, F, hs, hD⟩ := World.ownsMap_made w Tryd.prog k R
  rw [show (w.alloc (.map #[] 0)).heap[w.heap.size]? = some (.map #[] 0) from heap_alloc_new w _] at h1
  injection h1 with h1
  injection h1 with e1 e2
  subst e1; subst e2
  exact ⟨#[], 0, h, F, hs, hD⟩
/-- A slab's objects' bytes. -/
def useL (s : SL) : Int := (plF s.kind - pop s.free) * szF s.kind
def usedL (ss : List SL) : Int := (ss.map useL).sum
theorem usedL_take {ss : List SL} {i : Nat} {s : SL} (hs : ss[i]? = some s) : usedL (ss.take (i + 1)) = usedL (ss.take i) + useL s := by
  rw [List.take_add_one, hs, Option.toList_some]
  simp [usedL]
theorem szF_le (k : Int) : 0 ≤ szF k ∧ szF k ≤ 576 := by
  by_cases h : szF k = 0
  · omega
  · have := szF_vals k h; omega
/-- As many places without an object as a slab has at most. -/
theorem popN_lt : ∀ (f k x : Nat), x < 2 ^ k → popN f x ≤ k
  | 0, k, x, _ => Nat.zero_le _
  | f + 1, 0, x, h => by
    obtain rfl : x = 0 := by simpa using h
    have := popN_lt f 0 0 (by simp)
    simp [popN]; omega
  | f + 1, k + 1, x, h => by
    have := popN_lt f k (x / 2) (by rw [Nat.pow_succ] at h; omega)
    simp only [popN]; omega
theorem useL_ok {s : SL} (h : okL s) : 0 ≤ useL s ∧ useL s ≤ 64 * 576 := by
  have h1 := plF_le s.kind
  have h2 := szF_le s.kind
  have h3 : pop s.free ≤ (plF s.kind).toNat := popN_lt 64 _ _ h.2
  unfold useL
  have h4 : 0 ≤ plF s.kind - (pop s.free : Nat) := by omega
  have h5 : plF s.kind - (pop s.free : Nat) ≤ 64 := by omega
  exact ⟨Int.mul_nonneg h4 h2.1, Int.le_trans (Int.mul_le_mul_of_nonneg_right h5 h2.1) (Int.mul_le_mul_of_nonneg_left h2.2 (by decide))⟩
theorem usedL_part {ss : List SL} (h : ∀ s ∈ ss, okL s) : 0 ≤ usedL ss ∧ usedL ss ≤ 36864 * ss.length := by
  induction ss with
  | nil => simp [usedL]
  | cons s r ih =>
    have h1 := useL_ok (h s (by simp))
    have h2 := ih fun x hx => h x (by simp [hx])
    simp only [usedL, List.map_cons, List.sum_cons, List.length_cons] at h2 ⊢
    omega

section
variable {w w' : World} {g m : Nat} {L : Int} {v : Value} {ss : List SL} {O : List (Int × Int)} {S : List Nat}
theorem hNew_no (n : Int) (h : n < 0 ∨ 1048576 < n) : Calls Tryd.prog 8 #[.int .i64 n] w fun e w' => e = .returned (.tuple #[.pointer none, .int .i64 1]) ∧ w = w' := by
  by_cases h1 : n < 0
  · clear h
    go_enter Tryd.func8, Tryd.ntmps8
    go_wp2
    go_ret2
    exact ⟨rfl, rfl⟩
  · have h2 : 1048576 < n := by omega
    clear h
    go_enter Tryd.func8, Tryd.ntmps8
    go_wp2
    go_ret2
    exact ⟨rfl, rfl⟩
def MadeH (w : World) (n : Int) (e : Ending) (w' : World) : Prop := ∃ g m, e = .returned (.tuple #[.pointer (some ⟨g, 0, none⟩), .int .i64 0]) ∧ IsHp w' g n (.slice none 0 0) [] m [] ∧ w.heap.size ≤ g ∧ w.heap.size ≤ m ∧ Only [] w w'
theorem hNew_ok (n : Int) (h : 0 ≤ n ∧ n ≤ 1048576) : Calls Tryd.prog 8 #[.int .i64 n] w fun e w' => MadeH w n e w' := by
  have h1 : ¬ n < 0 := by omega
  have h2 : ¬ 1048576 < n := by omega
  have hmm := @run_makeMap Tryd.prog
  clear h
  go_enter Tryd.func8, Tryd.ntmps8
  go_wp2
  go_ret2
  refine ⟨w.heap.size + 1, w.heap.size, ?_, ⟨?_, LRw.nil _, ?_⟩, by omega, Nat.le_refl _, ((Only.refl [] w).alloc _).alloc _⟩
  · rfl
  · have h := Blk.new (w.alloc (.map #[] 0)) 50 #[.int .i64 n, .slice none 0 0, .map (some w.heap.size)]
    simpa using h
  · refine ⟨.map [], ownsMap_empty8 ?_ _ _, MHolds.empty⟩
    exact (((Only.refl [] (w.alloc (.map #[] 0))).alloc _).block _ (by simp) (by simp)).trans (heap_alloc_new w _)
theorem mulw {a b : Int} (ha : 0 ≤ a ∧ a ≤ 36864) : IntKind.i64.wrap a = a := by rw [IntKind.wrap_i64]; omega
theorem hUsed_is (h : IsHp w g L v ss m O) (hO : OkH L ss O) (hT : TabS w) : Calls Tryd.prog 17 #[.pointer (some ⟨g, 0, none⟩)] w fun e w' => e = .returned (.int .i64 (usedL ss)) ∧ Only [] w w' := by
  have HC := hide (hclosed_is h)
  have c1 : w.cell? ⟨g, 1, none⟩ = some v := h.blk.cell 1
  have HR := hide h.row
  have HG := hide hO.good
  have HT := hide hT
  have hf := hO.few
  obtain ⟨A, cap, rfl, hA⟩ := h.row.form
  have HA := hide hA
  clear h hA hT hO
  go_enter Tryd.func17, Tryd.ntmps17
  go_wp2_with (go_at_call 26; refine HC.out.mono ?_; rintro e w' ⟨rfl, rfl⟩)
  go_loopw [3, 13] (fun nv iv wr => ∃ i : Nat, i ≤ ss.length ∧ iv = .int .i64 i ∧ nv = .int .i64 (usedL (ss.take i)) ∧ Only [] w wr) (fun _ iv _ => ss.length - (intOf iv).toNat)
  case atStart => exact ⟨0, Nat.zero_le _, rfl, rfl, Only.refl _ _⟩
  case round =>
    obtain ⟨i, hi, rfl, rfl, ho⟩ := hrel
    by_cases hlt : i < ss.length
    · obtain ⟨b, rfl, _⟩ := HA.out (by omega)
      obtain ⟨s, hsi⟩ : ∃ s, ss[i]? = some s := ⟨_, List.getElem?_eq_getElem hlt⟩
      obtain ⟨q0, q1⟩ := (HR.out.only ho (by simp)).cell rfl rfl hsi
      have HK := hide (usedL_take hsi)
      have hok := HG.out s (List.mem_of_getElem? hsi)
      have hu := useL_ok hok
      have hp := usedL_part (ss := ss.take i) fun x hx => HG.out x (List.mem_of_mem_take hx)
      have hpl : (ss.take i).length ≤ ss.length := by simp; omega
      have e2 : IntKind.i64.wrap ((plF s.kind - (pop s.free : Nat)) * szF s.kind) = useL s := by show IntKind.i64.wrap (useL s) = _; rw [IntKind.wrap_i64]; omega
      have e1 : IntKind.i64.wrap (usedL (ss.take i) + useL s) = usedL (ss.take i) + useL s := by rw [IntKind.wrap_i64]; omega
      have HO := hide (fun o => ho.alloc o)
      have HL := hide (fun (wA : World) (kA : Only [] w wA) => hlive_is (HT.out.only kA (by simp)) s hok)
      have HZ := hide (fun (wA : World) (kA : Only [] w wA) => hSize_is (HT.out.only kA (by simp)) s.kind)
      have hb := Blk.new wr 62 #[.int .i64 s.kind, .int .u64 s.free]
      have HF := hide (fun (wA : World) (kA : Only [] (wr.alloc (.cells #[.int .i64 s.kind, .int .u64 s.free] 62)) wA) => (show wA.cell? ⟨wr.heap.size, 0, none⟩ = some (.int .i64 s.kind) ∧ wA.cell? ⟨wr.heap.size, 1, none⟩ = some (.int .u64 s.free) from ⟨(hb.only kA (by simp)).cell 0, (hb.only kA (by simp)).cell 1⟩))
      have k0 := HF.out _ (Only.refl _ _)
      obtain ⟨k0, k1⟩ := k0
      clear hok hu hp hpl ho hsi hb
      go_wp2_with fail
      go_region_held3 (fun w' => w'.cell? ⟨wr.heap.size, 0, none⟩ = some (.int .i64 s.kind) ∧ w'.cell? ⟨wr.heap.size, 1, none⟩ = some (.int .u64 s.free)) (first | go_keep | exact HF.out _ kA) (first | (go_at_call 43; refine (HL.out _ (by repeat (first | exact HO.out _ | apply Only.drew | apply Only.drewN))).mono ?_; rintro e wA ⟨rfl, hoA⟩; have kA : Only [] (wr.alloc (.cells #[.int .i64 s.kind, .int .u64 s.free] 62)) wA := Only.trans (by repeat (first | exact Only.refl _ _ | apply Only.drew | apply Only.drewN)) hoA) | (go_at_call 16; refine (HZ.out _ (by repeat (first | exact (HO.out _).trans kA | apply Only.drew | apply Only.drewN))).mono ?_; rintro e wB ⟨rfl, rfl⟩))
      have HK2 := hide ((HO.out _).trans kA)
      clear kA hoA k0 k1
      go_wp2
      go_roundw
      case rel => exact ⟨i + 1, hlt, by go_num, by rw [HK.out], HK2.out⟩
      case measure => simp [intOf]; omega
    · obtain rfl : i = ss.length := by omega
      have HO := hide ho
      clear ho
      go_wp2
      go_ret
      exact ⟨by rw [List.take_length]; rfl, HO.out⟩
end
end Go.Proofs.YtgoaebikgdecoaaDoor
