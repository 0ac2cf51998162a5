/-
  'FrameShares' as plain facts: who holds frames, and which are free.
-/
import Derived.Test.YtfbegickdnjfcaaFrPure
import Derived.Test.YtfbegickdnjfcaaFrNew
namespace Go.Proofs.Ytfbegickdnjfcaa
open Go.ChangeShapes Go.WideShapes Go.ChangeAt Go.RowKit
set_option linter.unusedVariables false

def sortI (ns : List Int) : List Int := ns.mergeSort fun x y => decide (x ≤ y)
theorem sortI_length (ns : List Int) : (sortI ns).length = ns.length := List.length_mergeSort _
theorem sortI_count (ns : List Int) (x : Int) : (sortI ns).count x = ns.count x := (List.mergeSort_perm _ _).count_eq x

/-- What give does to the rows. -/
def giveN (ns : Nat → List Int) (h : Nat) (x : Int) : Nat → List Int :=
  if (ns (4 + h)).length < 16 then upd ns (4 + h) (ns (4 + h) ++ [x])
  else upd (moveN (upd ns (4 + h) (ns (4 + h) ++ [x])) 12 (4 + h) 8) 12 (sortI (moveN (upd ns (4 + h) (ns (4 + h) ++ [x])) 12 (4 + h) 8 12))

theorem giveN_2 (ns : Nat → List Int) {h : Nat} (hh : h < 8) (x : Int) : giveN ns h x 2 = ns 2 := by
  unfold giveN moveN
  split
  · rw [upd_far _ _ (by omega)]
  · rw [upd_far _ _ (by omega), upd_far _ _ (by omega), upd_far _ _ (by omega), upd_far _ _ (by omega)]
theorem giveN_count (ns : Nat → List Int) {h : Nat} (hh : h < 8) (x y : Int) : (freeL (giveN ns h x)).count y = (freeL ns).count y + if y = x then 1 else 0 := by
  have h1 := freeL_count ns (fslot4 hh) (ns (4 + h) ++ [x]) y
  have h3 : [x].count y = if y = x then 1 else 0 := by
    by_cases e : y = x
    · subst e; simp
    · simp [e, Ne.symm e]
  rw [List.count_append, h3] at h1
  unfold giveN
  split
  · omega
  · have h2 := freeL_count (moveN (upd ns (4 + h) (ns (4 + h) ++ [x])) 12 (4 + h) 8) fslot12 (sortI (moveN (upd ns (4 + h) (ns (4 + h) ++ [x])) 12 (4 + h) 8 12)) y
    rw [sortI_count, moveN_count _ fslot12 (fslot4 hh) (by omega)] at h2
    omega
theorem giveN_length (ns : Nat → List Int) {h : Nat} (hh : h < 8) (x : Int) : (freeL (giveN ns h x)).length = (freeL ns).length + 1 := by
  have h1 := freeL_length ns (fslot4 hh) (ns (4 + h) ++ [x])
  rw [List.length_append, List.length_singleton] at h1
  unfold giveN
  split
  · omega
  · have h2 := freeL_length (moveN (upd ns (4 + h) (ns (4 + h) ++ [x])) 12 (4 + h) 8) fslot12 (sortI (moveN (upd ns (4 + h) (ns (4 + h) ++ [x])) 12 (4 + h) 8 12))
    rw [sortI_length, moveN_length _ fslot12 (fslot4 hh) (by omega)] at h2
    omega

/-- Of n frames from 2 on these are held. -/
structure ShP (xs : List Int) (ns : Nat → List Int) (n : Nat) (held : List Int) : Prop where
  good : Good xs 2 ns
  len : (ns 2).length = n
  small : n ≤ 64
  used : ∀ k : Nat, k < n → gb (ns 2) k = if (((2 : Nat) : Int) + k) ∈ held then 1 else 0
  rng : ∀ x ∈ held, ∃ k : Nat, k < n ∧ x = ((2 : Nat) : Int) + k
  nd : held.Nodup
  tot : (freeL ns).length + held.length = n

section
variable {xs : List Int} {ns : Nat → List Int} {n : Nat} {held : List Int}
theorem ShP.full (H : ShP xs ns n held) {h : Nat} (hh : h < 8) (he : (fillN ns h (4 + h)).length = 0) : held.length = n := by
  have := fillN_empty ns hh he
  have := H.tot
  omega
theorem ShP.alloc (H : ShP xs ns n held) {h : Nat} (hh : h < 8) (hp : 0 < (fillN ns h (4 + h)).length) :
    ∃ k : Nat, k < n ∧ gb (fillN ns h (4 + h)) ((fillN ns h (4 + h)).length - 1) = ((2 : Nat) : Int) + k ∧ (((2 : Nat) : Int) + k) ∉ held ∧ held.length < n ∧ ZeroAt xs (2 + k) ∧
      ∀ ys, (∀ q, q < n → q ≠ k → ZeroAt xs (2 + q) → ZeroAt ys (2 + q)) → ShP ys (allocN ns h k) n (held ++ [((2 : Nat) : Int) + k]) := by
  have hs := H.small
  have ht := H.tot
  obtain ⟨k, hk, hx, h0, hG, hfl, h2⟩ := H.good.alloc (by omega) hh hp
  rw [H.len] at hk hG
  have hnot : (((2 : Nat) : Int) + k) ∉ held := fun hm => by
    have := H.used k hk
    rw [if_pos hm] at this
    omega
  refine ⟨k, hk, hx, hnot, by omega, H.good.zero k (by rw [H.len]; exact hk) h0, fun ys hys => ⟨hG ys hys, by rw [h2, List.length_set]; exact H.len, hs, fun q hq => ?_, fun x hx => ?_, ?_, ?_⟩⟩
  · rw [h2]
    by_cases e : q = k
    · subst e
      rw [if_pos (by simp)]
      simp [gb, List.getD, H.len, hq]
    · have hgb : gb ((ns 2).set k 1) q = gb (ns 2) q := by simp [gb, List.getD, Ne.symm e]
      rw [hgb, H.used q hq]
      have : ¬ (((2 : Nat) : Int) + q = ((2 : Nat) : Int) + k) := by omega
      simp only [List.mem_append, List.mem_singleton, this, or_false]
  · rcases List.mem_append.1 hx with hx | hx
    · exact H.rng x hx
    · exact ⟨k, hk, List.mem_singleton.1 hx⟩
  · rw [List.nodup_append]
    exact ⟨H.nd, by simp, fun a ha b hb e => by
      rw [List.mem_singleton] at hb
      subst hb
      exact hnot (e ▸ ha)⟩
  · rw [List.length_append, List.length_singleton]
    omega

theorem ShP.decr (H : ShP xs ns n held) (hfit : 256 * (2 + n) ≤ xs.length) {h i : Nat} (hh : h < 8) (hi : i < held.length) :
    ∃ k : Nat, k < n ∧ held[i] = ((2 : Nat) : Int) + k ∧ gb (ns 2) k = 1 ∧ ShP (zeroF xs (2 + k)) (giveN (upd ns 2 ((ns 2).set k 0)) h (((2 : Nat) : Int) + k)) n (held.take i ++ held.drop (i + 1)) := by
  have hs := H.small
  have ht := H.tot
  obtain ⟨k, hk, hxk⟩ := H.rng held[i] (List.getElem_mem hi)
  have hmem : (((2 : Nat) : Int) + k) ∈ held := hxk ▸ List.getElem_mem hi
  have h1 : gb (ns 2) k = 1 := by rw [H.used k hk, if_pos hmem]
  have hsp : held = held.take i ++ (((2 : Nat) : Int) + k) :: held.drop (i + 1) := by
    conv => lhs; rw [← List.take_append_drop i held]
    rw [List.drop_eq_getElem_cons hi, hxk]
  have hnd := H.nd
  rw [hsp, List.nodup_append] at hnd
  obtain ⟨n1, n2, n3⟩ := hnd
  rw [List.nodup_cons] at n2
  have hn1 : (((2 : Nat) : Int) + k) ∉ held.take i := fun hm => n3 _ hm _ (by simp) rfl
  have h2 : giveN (upd ns 2 ((ns 2).set k 0)) h (((2 : Nat) : Int) + k) 2 = (ns 2).set k 0 := by rw [giveN_2 _ hh, upd_same]
  have hlen : (held.take i ++ held.drop (i + 1)).length + 1 = held.length := by
    rw [List.length_append, List.length_take, List.length_drop]; omega
  have hfl := giveN_length (upd ns 2 ((ns 2).set k 0)) hh (((2 : Nat) : Int) + k)
  rw [freeL_two] at hfl
  have hiff : ∀ y, y ∈ held.take i ++ held.drop (i + 1) ↔ y ∈ held ∧ y ≠ ((2 : Nat) : Int) + k := fun y => by
    constructor
    · intro hy
      rcases List.mem_append.1 hy with hy | hy
      · exact ⟨List.mem_of_mem_take hy, fun e => hn1 (e ▸ hy)⟩
      · exact ⟨List.mem_of_mem_drop hy, fun e => n2.1 (e ▸ hy)⟩
    · rintro ⟨hy, hne⟩
      rw [hsp] at hy
      rcases List.mem_append.1 hy with hy | hy
      · exact List.mem_append.2 (.inl hy)
      · rcases List.mem_cons.1 hy with hy | hy
        · exact absurd hy hne
        · exact List.mem_append.2 (.inr hy)
  refine ⟨k, hk, hxk, h1, ⟨H.good.back (by omega) (by rw [H.len]; exact hk) h1 h2 (fun y => by rw [giveN_count _ hh, freeL_two]) hfl (fun q hq hz j hj => ?_), by rw [h2, List.length_set]; exact H.len, hs, fun q hq => ?_, fun x hx => H.rng x ((hiff x).1 hx).1, ?_, by omega⟩⟩
  · rw [gb_splice_zero _ _ _ (by omega)]
    split
    · rfl
    · rename_i hne
      rcases hz with hz | rfl
      · exact hz j hj
      · omega
  · rw [h2]
    by_cases e : q = k
    · subst e
      rw [if_neg (fun hm => ((hiff _).1 hm).2 rfl)]
      simp [gb, List.getD, H.len, hq]
    · have hgb : gb ((ns 2).set k 0) q = gb (ns 2) q := by simp [gb, List.getD, Ne.symm e]
      rw [hgb, H.used q hq]
      have hne : ((2 : Nat) : Int) + q ≠ ((2 : Nat) : Int) + k := by omega
      by_cases hm : (((2 : Nat) : Int) + q) ∈ held
      · rw [if_pos hm, if_pos ((hiff _).2 ⟨hm, hne⟩)]
      · rw [if_neg hm, if_neg (fun hq => hm ((hiff _).1 hq).1)]
  · rw [List.nodup_append]
    exact ⟨n1, n2.2, fun a ha b hb => n3 a ha b (by simp [hb])⟩
end
end Go.Proofs.Ytfbegickdnjfcaa
