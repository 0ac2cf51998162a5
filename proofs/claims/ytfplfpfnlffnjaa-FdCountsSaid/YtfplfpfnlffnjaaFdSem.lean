/-
  Open files (parapet/fdtab): the calls as functions of what is open and of a table's names.
-/
import Derived.Test.YtfplfpfnlffnjaaFdFork
namespace Go.Proofs.Ytfplfpfnlffnjaa
open Go.ChangeShapes Go.WideShapes Go.ChangeAt Go.RowKit Go.Maps
set_option linter.unusedVariables false
set_option linter.unusedSimpArgs false
def lookO (O : List (Int × F5)) (k : Int) : Option F5 := (O.find? fun p => p.1 == k).map (·.2)
theorem lookO_some {O : List (Int × F5)} {k : Int} {x : F5} (h : lookO O k = some x) : (k, x) ∈ O := by
  unfold lookO at h
  rw [Option.map_eq_some_iff] at h
  obtain ⟨p, hp, rfl⟩ := h
  have h1 := List.find?_some hp
  have h2 := List.mem_of_find?_eq_some hp
  have h3 : p.1 = k := by simpa using h1
  rw [← h3]
  exact h2
theorem lookO_none {O : List (Int × F5)} {k : Int} (h : lookO O k = none) : k ∉ O.map (·.1) := by
  unfold lookO at h
  rw [Option.map_eq_none_iff, List.find?_eq_none] at h
  intro hm
  obtain ⟨p, hp, e⟩ := List.mem_map.1 hm
  exact h p hp (by simpa using e)
/-- What a descriptor names. -/
def getT (T : List Int) (a : Int) : Option Int := if 0 ≤ a ∧ a < 16 ∧ gb T a.toNat ≠ -1 then some (gb T a.toNat) else none
theorem getT_none {T : List Int} {a : Int} (h : getT T a = none) : badFd T a := by
  unfold getT at h
  split at h
  · cases h
  · rename_i hn
    by_cases h1 : a < 0 ∨ 16 ≤ a
    · exact .inl h1
    · refine .inr ⟨a.toNat, by omega, by omega, ?_⟩
      by_cases h2 : gb T a.toNat = -1
      · exact h2
      · exact absurd ⟨by omega, by omega, h2⟩ hn
theorem getT_some {T : List Int} {a k : Int} (h : getT T a = some k) : ∃ i : Nat, i < 16 ∧ a = i ∧ gb T i = k ∧ k ≠ -1 := by
  unfold getT at h
  split at h
  · rename_i hp
    injection h with h
    exact ⟨a.toNat, by omega, by omega, h, by rw [← h]; exact hp.2.2⟩
  · cases h
theorem freeT_cases {T : List Int} (hl : T.length = 16) : freeT T = -1 ∨ ∃ j : Nat, j < 16 ∧ freeT T = j ∧ gb T j = -1 := by
  rcases fstI_cases isN T with ⟨e, _⟩ | ⟨i, s, hs, e1, e2, _⟩
  · exact .inl e
  · have hi := (List.getElem?_eq_some_iff.1 hs).1
    refine .inr ⟨i, by omega, e2, ?_⟩
    have : gb T i = s := by simp [gb, List.getD, hs]
    rw [this]
    have : (-1 : Int) = s := by simpa [isN] using e1
    exact this.symm
def incR (x : F5) : F5 := { x with refs := x.refs + 1 }
def decR (x : F5) : F5 := { x with refs := x.refs - 1 }
def dupS (O : List (Int × F5)) (T : List Int) (a : Int) : (Int × Int) × List (Int × F5) × List Int :=
  match getT T a with
  | none => ((0, 220), O, T)
  | some k => match lookO O k with
    | none => ((0, 221), O, T)
    | some x => if freeT T = -1 then ((0, 2), O, T) else ((freeT T, 0), setV O k (incR x), T.set (freeT T).toNat k)
def dropS (O : List (Int × F5)) (k : Int) : (F5 × Bool × Int) × List (Int × F5) :=
  match lookO O k with
  | none => ((f0, false, 221), O)
  | some x => if x.refs = 1 then ((decR x, true, 0), outV O k) else ((decR x, false, 0), setV O k (decR x))
def closeS (O : List (Int × F5)) (T : List Int) (a : Int) : (F5 × Bool × Int) × List (Int × F5) × List Int :=
  match getT T a with
  | none => ((f0, false, 220), O, T)
  | some k => ((dropS O k).1, (dropS O k).2, T.set a.toNat (-1))
def installS (O : List (Int × F5)) (T : List Int) (k : Int) : (Int × Int) × List Int :=
  match lookO O k with
  | none => ((0, 221), T)
  | some _ => if freeT T = -1 then ((0, 2), T) else ((freeT T, 0), T.set (freeT T).toNat k)
section
variable {w w' w1 : World} {t f m : Nat} {O : List (Int × F5)} {T : List Int} {S : List Nat} {k : Int} {x : F5} {B : Int}
theorem get_is (h : IsTa w t f T) (a : Int) : Calls Try.prog 15 #[.pointer (some ⟨t, 0, none⟩), .int .i64 a] w fun e w' => e = .returned (.tuple #[.int .i64 ((getT T a).getD 0), .int .i64 (if (getT T a).isSome then 0 else 220)]) ∧ w = w' := by
  cases hg : getT T a with
  | none => exact tget_no2 h (getT_none hg)
  | some k =>
    obtain ⟨i, hi, rfl, rfl, hk⟩ := getT_some hg
    exact tget_ok h hi hk
theorem install_is (h : IsTa w t f T) (hf : IsFi w f m O) (hk : iW k) : Calls Try.prog 11 #[.pointer (some ⟨t, 0, none⟩), .int .i64 k] w fun e w' => e = .returned (.tuple #[.int .i64 (installS O T k).1.1, .int .i64 (installS O T k).1.2]) ∧ IsTa w' t f (installS O T k).2 ∧ Only [t] w w' := by
  unfold installS
  cases hl : lookO O k with
  | none => exact (install_none h hf hk (lookO_none hl)).mono fun e w' ⟨q1, q2⟩ => ⟨q1, h.quiet q2, q2.mono (by simp)⟩
  | some x =>
    have hm : k ∈ O.map (·.1) := List.mem_map.2 ⟨_, lookO_some hl, rfl⟩
    dsimp only
    rcases freeT_cases h.len with e | ⟨j, hj, e, _⟩
    · rw [if_pos e]
      exact (install_full h hf hk hm e).mono fun e w' ⟨q1, q2⟩ => ⟨q1, h.quiet q2, q2.mono (by simp)⟩
    · rw [if_neg (by omega), e]
      exact install_ok h hf hk hm hj e
theorem dup_none (h : IsTa w t f T) (hf : IsFi w f m O) {i : Nat} (hi : i < 16) (hg : gb T i = k) (hk : k ≠ -1) (hn : k ∉ O.map (·.1)) : Calls Try.prog 12 #[.pointer (some ⟨t, 0, none⟩), .int .i64 i] w fun e w' => e = .returned (.tuple #[.int .i64 0, .int .i64 221]) ∧ Only [] w w' := by
  have HG := hide (tget_ok h hi (by omega))
  rw [hg] at HG
  have hr := h.gbr hi
  rw [hg] at hr
  have HI := hide (install_none h hf (iW_small (x := k) (by omega) (by omega)) hn)
  clear h hf hn
  go_enter Try.func12, Try.ntmps12
  go_wp2_with (first | (go_at_call 15; refine HG.out.mono ?_; rintro e w' ⟨rfl, rfl⟩) | (go_at_call 11; refine HI.out.mono ?_; rintro e w1 ⟨rfl, ho⟩; have HO := hide ho; clear ho))
  go_ret2
  exact ⟨rfl, HO.out⟩
theorem dup_full (h : IsTa w t f T) (hf : IsFi w f m O) {i : Nat} (hi : i < 16) (hg : gb T i = k) (hk : k ≠ -1) (hn : k ∈ O.map (·.1)) (hF : freeT T = -1) : Calls Try.prog 12 #[.pointer (some ⟨t, 0, none⟩), .int .i64 i] w fun e w' => e = .returned (.tuple #[.int .i64 0, .int .i64 2]) ∧ Only [] w w' := by
  have HG := hide (tget_ok h hi (by omega))
  rw [hg] at HG
  have hr := h.gbr hi
  rw [hg] at hr
  have HI := hide (install_full h hf (iW_small (x := k) (by omega) (by omega)) hn hF)
  clear h hf hn hF
  go_enter Try.func12, Try.ntmps12
  go_wp2_with (first | (go_at_call 15; refine HG.out.mono ?_; rintro e w' ⟨rfl, rfl⟩) | (go_at_call 11; refine HI.out.mono ?_; rintro e w1 ⟨rfl, ho⟩; have HO := hide ho; clear ho))
  go_ret2
  exact ⟨rfl, HO.out⟩
theorem dup_is (h : IsTa w t f T) (hf : IsFi w f m O) (hB : RefB O B) (hB2 : B < 4611686018427387000) (a : Int) : Calls Try.prog 12 #[.pointer (some ⟨t, 0, none⟩), .int .i64 a] w fun e w' => e = .returned (.tuple #[.int .i64 (dupS O T a).1.1, .int .i64 (dupS O T a).1.2]) ∧ IsTa w' t f (dupS O T a).2.2 ∧ IsFi w' f m (dupS O T a).2.1 ∧ Only [t, m] w w' := by
  unfold dupS
  cases hg : getT T a with
  | none =>
    refine (dup_bad h (getT_none hg)).mono ?_
    rintro e w' ⟨q1, rfl⟩
    exact ⟨q1, h, hf, Only.refl _ _⟩
  | some k =>
    obtain ⟨i, hi, rfl, hgi, hk⟩ := getT_some hg
    dsimp only
    cases hl : lookO O k with
    | none => exact (dup_none h hf hi hgi hk (lookO_none hl)).mono fun e w' ⟨q1, q2⟩ => ⟨q1, h.quiet q2, hf.quiet q2, q2.mono (by simp)⟩
    | some x =>
      have hm := lookO_some hl
      dsimp only
      rcases freeT_cases h.len with e | ⟨j, hj, e, _⟩
      · rw [if_pos e]
        exact (dup_full h hf hi hgi hk (List.mem_map.2 ⟨_, hm, rfl⟩) e).mono fun e w' ⟨q1, q2⟩ => ⟨q1, h.quiet q2, hf.quiet q2, q2.mono (by simp)⟩
      · rw [if_neg (by omega), e]
        have := hB _ hm
        exact dup_ok h hf hi hgi hm (by have := this.1; dsimp only at this ⊢; omega) (by have := this.2; dsimp only at this ⊢; omega) hj e
theorem drop_is (hf : IsFi w f m O) (hB : RefB O B) (hB2 : B < 4611686018427387000) (hk : iW k) : Calls Try.prog 20 #[.pointer (some ⟨f, 0, none⟩), .int .i64 k] w fun e w' => e = .returned (.tuple #[fV (dropS O k).1.1, .bool (dropS O k).1.2.1, .int .i64 (dropS O k).1.2.2]) ∧ IsFi w' f m (dropS O k).2 ∧ Only [m] w w' := by
  unfold dropS
  cases hl : lookO O k with
  | none => exact (drop_none hf hk (lookO_none hl)).mono fun e w' ⟨q1, q2⟩ => ⟨q1, hf.quiet q2, q2.mono (by simp)⟩
  | some x =>
    have hm := lookO_some hl
    have := hB _ hm
    dsimp only at this ⊢
    by_cases e : x.refs = 1
    · rw [if_pos e]
      refine (drop_last hf hm e).mono ?_
      rintro e' w' ⟨q1, q2⟩
      refine ⟨?_, q2⟩
      rw [q1]
      dsimp only [decR]
      rw [show x.refs - 1 = 0 by omega]
    · rw [if_neg e]
      exact drop_more hf hm (by omega) (by omega)
theorem close_is (h : IsTa w t f T) (hf : IsFi w f m O) (hB : RefB O B) (hB2 : B < 4611686018427387000) (a : Int) : Calls Try.prog 13 #[.pointer (some ⟨t, 0, none⟩), .int .i64 a] w fun e w' => e = .returned (.tuple #[fV (closeS O T a).1.1, .bool (closeS O T a).1.2.1, .int .i64 (closeS O T a).1.2.2]) ∧ IsTa w' t f (closeS O T a).2.2 ∧ IsFi w' f m (closeS O T a).2.1 ∧ Only [t, m] w w' := by
  unfold closeS
  cases hg : getT T a with
  | none =>
    refine (close_bad h (getT_none hg)).mono ?_
    rintro e w' ⟨q1, q2⟩
    exact ⟨q1, h.quiet q2, hf.quiet q2, q2.mono (by simp)⟩
  | some k =>
    obtain ⟨i, hi, rfl, hgi, hk⟩ := getT_some hg
    have hr := h.gbr hi
    rw [hgi] at hr
    dsimp only
    rw [Int.toNat_natCast]
    exact close_any h hf hi hgi (by omega) (fun W hW => drop_is hW hB hB2 (iW_small (x := k) (by omega) (by omega)))
end
end Go.Proofs.Ytfplfpfnlffnjaa
