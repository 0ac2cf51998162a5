/-
  The walk of 'FrameShares'.
-/
import Derived.Test.YtfbegickdnjfcaaFrGive
import Derived.Test.YtfbegickdnjfcaaFrZero
import Derived.Test.YtfbegickdnjfcaaPhysLives
import Derived.Test.YtfbegickdnjfcaaFrAwake
import Derived.Test.YtfbegickdnjfcaaRead
namespace Go.Proofs.Ytfbegickdnjfcaa
open Go.ChangeShapes Go.WideShapes Go.ChangeAt Go.RowKit Go.Deep
set_option linter.unusedVariables false

theorem cells_op6 : Try.prog.cellsOf 37 = 3 := by kernel_rfl
def I64p (x : Int) : Prop := -9223372036854775808 ≤ x ∧ x ≤ 9223372036854775807

/-- What is known of call i of the list. -/
def OpAt6 (w : World) (A : Option Addr) (i : Nat) : Prop :=
  ∃ (q o : Nat) (k b c : Int), A = some ⟨q, o, none⟩ ∧ q < w.heap.size ∧ w.cell? ⟨q, o + i * 3, none⟩ = some (.int .i64 k) ∧ w.cell? ⟨q, o + i * 3 + 1, none⟩ = some (.int .i64 b) ∧ w.cell? ⟨q, o + i * 3 + 2, none⟩ = some (.int .i64 c) ∧ I64p b ∧ I64p c

theorem wf_i64p {x : Int} (h : (Lit.int .i64 x).wf = true) : I64p x := by
  have : -9223372036854775808 ≤ x ∧ x ≤ 9223372036854775807 := by simpa [Lit.wf, IntKind.min, IntKind.max, IntKind.signed, IntKind.bits] using h
  exact this

set_option maxRecDepth 100000 in
theorem Rd.ops6 {H : Type} {enc : TypeId × Value → H} {w : World} {A : Option Addr} {n c : Nat} {d : DataW H} (h : Rd enc Try.prog w 22 [.slice A n c] d) : n < 5900000000000 ∧ ∀ i, i < n → OpAt6 w A i := by
  obtain ⟨A', n', c', hv, hl, hm, hb, _, hf⟩ := h.structs Try.underlying22 Try.underlying37
  injection hv with hv _
  injection hv with e1 e2 e3
  subst e1 e2 e3
  have hby : Try.prog.bytesOf 37 = 24 := by kernel_rfl
  rw [hby] at hb
  refine ⟨by unfold reachBytes at hb; omega, fun i hi => ?_⟩
  rw [cells_op6] at hf
  obtain ⟨q, o, v0, y0, hA, hq, c0, r0⟩ := hf i hi 0 _ rfl (by kernel_rfl) (by decide)
  obtain ⟨q1, o1, v1, y1, hA1, _, c1, r1⟩ := hf i hi 1 _ rfl (by kernel_rfl) (by decide)
  obtain ⟨q2, o2, v2, y2, hA2, _, c2, r2⟩ := hf i hi 2 _ rfl (by kernel_rfl) (by decide)
  have a1 : q1 = q ∧ o1 = o := by rw [hA] at hA1; injection hA1 with h; injection h with h1 h2; exact ⟨h1.symm, h2.symm⟩
  have a2 : q2 = q ∧ o2 = o := by rw [hA] at hA2; injection hA2 with h; injection h with h1 h2; exact ⟨h1.symm, h2.symm⟩
  obtain ⟨rfl, rfl⟩ := a1
  obtain ⟨rfl, rfl⟩ := a2
  obtain ⟨k, e0, _⟩ := r0.int (k := .i64) Try.underlying3
  obtain ⟨b, e1, wb⟩ := r1.int (k := .i64) Try.underlying3
  obtain ⟨c, e2, wc⟩ := r2.int (k := .i64) Try.underlying3
  injection e0 with e0 _; injection e1 with e1 _; injection e2 with e2 _
  subst e0 e1 e2
  exact ⟨_, _, k, b, c, hA, hq, c0, c1, c2, wf_i64p wb, wf_i64p wc⟩

/-- Frames, and who holds some, in blocks of one's own from w on. -/
def ShI (w wr : World) (t g d cap n h : Nat) (hv : Value) (held : List Int) : Prop :=
  ∃ xs ns v, IsFr wr t g d cap xs [] 2 h v ns ∧ (∀ k, k ∈ d :: footL t v → w.heap.size ≤ k) ∧ Only [] w wr ∧ IRow wr hv held ∧ (∀ q, hv.ownBlock = some q → w.heap.size ≤ q ∧ q ∉ d :: footL t v) ∧ ShP xs ns n held
theorem wrap64_own (n : Int) (h : -9223372036854775808 ≤ n ∧ n ≤ 9223372036854775807) : wrap64 n = n := by unfold wrap64; omega
theorem wrapped {x m : Int} (hm : 0 < m) (hm2 : m ≤ 4096) : ∃ j : Nat, (j : Int) < m ∧ (wrap64 (x.tmod m + m)).tmod m = (j : Int) := by
  have h1 : -m < x.tmod m ∧ x.tmod m < m := by
    have h := Int.natAbs_tmod x m
    have h2 : x.natAbs % m.natAbs < m.natAbs := Nat.mod_lt _ (by omega)
    omega
  have hw : wrap64 (x.tmod m + m) = x.tmod m + m := wrap64_own _ (by omega)
  rw [hw, Int.tmod_eq_emod_of_nonneg (by omega)]
  have h3 := Int.emod_nonneg (x.tmod m + m) (show m ≠ 0 by omega)
  have h4 := Int.emod_lt_of_pos (x.tmod m + m) hm
  exact ⟨((x.tmod m + m) % m).toNat, by omega, by omega⟩

section
variable {w wr W : World} {t g d cap n h : Nat} {xs : List Int} {v : Nat → Value} {ns : Nat → List Int} {hv : Value} {held : List Int}
theorem sumL_free (ns : Nat → List Int) : ∀ k, sumL ns k = (ns 12).length + (catL ns k).length
  | 0 => by simp [sumL, catL]
  | k + 1 => by rw [sumL, catL, List.length_append, sumL_free ns k]; omega
theorem sumL_tot (ns : Nat → List Int) : sumL ns 8 = (freeL ns).length := by
  rw [sumL_free, freeL, List.length_append]; omega
theorem used6 (F : IsFr W t g d cap xs [] 2 h v ns) (P : ShP xs ns n held) (L : Nat) (hL : held.length = L) : Calls Try.prog 29 #[.pointer (some ⟨t, 0, none⟩)] W fun e w' => e = .returned (.int .i64 (L : Int)) ∧ ∃ m, w' = W.drewN m := by
  have h1 := P.tot
  have h2 := P.len
  have h := used_is F P.good.few
  rw [show (((ns 2).length : Int) - (sumL ns 8 : Int)) = (L : Int) by rw [sumL_tot]; omega] at h
  exact h
theorem free6 (F : IsFr W t g d cap xs [] 2 h v ns) (P : ShP xs ns n held) (L : Nat) (hL : held.length = L) : Calls Try.prog 30 #[.pointer (some ⟨t, 0, none⟩)] W fun e w' => e = .returned (.int .i64 ((n : Int) - L)) ∧ W = w' := by
  have h1 := P.tot
  have h := free_is F P.good.few
  rw [show ((sumL ns 8 : Nat) : Int) = (n : Int) - L by rw [sumL_tot]; omega] at h
  exact h
theorem ShI.only (h' : ShI w wr t g d cap n h hv held) (ho : Only [] wr W) : ShI w W t g d cap n h hv held := by
  obtain ⟨xs, ns, v, F, hf, o, hr, hw, P⟩ := h'
  exact ⟨xs, ns, v, F.only ho (by simp) (by simp) (by simp), hf, o.trans ho, KRow.only hr ho (by simp), hw, P⟩
theorem fillN_full (ns : Nat → List Int) {h : Nat} (hh : h < 8) (he : (fillN ns h (4 + h)).length = 0) : fillN ns h = ns := by
  unfold fillN at he ⊢
  split
  · rename_i h0
    rw [if_pos h0] at he
    unfold refillN at he ⊢
    split
    · rename_i h1
      rw [if_pos h1] at he
      unfold moveN at he
      rw [upd_far _ _ (by omega), upd_same, List.length_append, List.length_take] at he
      omega
    · rename_i h1
      rw [if_neg h1] at he
      split
      · rfl
      · rename_i h2
        rw [if_neg h2] at he
        have hne : 4 + h ≠ 4 + richN ns 8 := fun e => h2 (by rw [← e]; exact h0)
        unfold moveN at he
        rw [upd_far _ _ hne, upd_same, List.length_append, List.length_take] at he
        omega
  · rfl
/-- The frames turned: the holder's list stands. -/
theorem ShI.turned {xs' : List Int} {v' : Nat → Value} {ns' : Nat → List Int} (hf : ∀ k, k ∈ d :: footL t v → w.heap.size ≤ k) (ho : Only [] w wr) (hr : IRow wr hv held) (hw : ∀ q, hv.ownBlock = some q → w.heap.size ≤ q ∧ q ∉ d :: footL t v)
    (F' : IsFr W t g d cap xs' [] 2 h v' ns') (T : Turn wr W (d :: footL t v) (d :: footL t v')) :
    (∀ k, k ∈ d :: footL t v' → w.heap.size ≤ k) ∧ Only [] w W ∧ IRow W hv held ∧ (∀ q, hv.ownBlock = some q → w.heap.size ≤ q ∧ q ∉ d :: footL t v') :=
  ⟨fun k hk => (T.foot k hk).elim (hf k) (fun h => Nat.le_trans ho.size h), ho.trans' T.only (fun k h1 h2 => by have := hf k h2; omega), KRow.only hr T.only (fun q hq => (hw q hq).2),
    fun q hq => ⟨(hw q hq).1, fun hm => (T.foot q hm).elim (hw q hq).2 (fun h => by have := (KRow.at_ hr hq).2.1; omega)⟩⟩
end

/-- At the statement's loop. -/
def ShRel (w : World) (t g d cap n h len : Nat) (iv hv : Value) (wr : World) : Prop :=
  ∃ (k : Nat) (held : List Int), k ≤ len ∧ iv = .int .i64 k ∧ ShI w wr t g d cap n h hv held



end Go.Proofs.Ytfbegickdnjfcaa