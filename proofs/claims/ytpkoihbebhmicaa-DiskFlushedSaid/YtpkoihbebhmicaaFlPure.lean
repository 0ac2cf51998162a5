/-
  What a crash leaves of sectors that no pending write is of.
-/
import Derived.Test.YtpkoihbebhmicaaDiskDk
namespace Go.Proofs.Ytpkoihbebhmicaa
open Go.ChangeShapes Go.WideShapes Go.ChangeAt Go.RowKit
set_option linter.unusedVariables false

theorem splice_sect_other {plat zs : List Int} {N n m : Nat} (hp : plat.length = 512 * N) (hz : zs.length ≤ 512) (hn : n < N) (h1 : n ≠ m) : ((Go.splice plat (512 * n) zs).drop (512 * m)).take 512 = (plat.drop (512 * m)).take 512 := by
  apply List.ext_getElem?
  intro i
  by_cases hi : i < 512
  · rw [List.getElem?_take_of_lt hi, List.getElem?_drop]
    have e := List.getElem?_append (l₁ := plat.take (512 * n)) (l₂ := zs ++ plat.drop (512 * n + zs.length)) (i := 512 * m + i)
    unfold Go.splice
    rw [e, List.length_take, hp, List.getElem?_take_of_lt hi, List.getElem?_drop]
    by_cases h2 : m < n
    · rw [if_pos (by omega), List.getElem?_take_of_lt (by omega)]
    · rw [if_neg (by omega), List.getElem?_append, if_neg (by omega), List.getElem?_drop]
      congr 1
      omega
  · rw [List.getElem?_eq_none (by rw [List.length_take]; omega), List.getElem?_eq_none (by rw [List.length_take]; omega)]
theorem splice_len_le {plat zs : List Int} {N n : Nat} (hp : plat.length = 512 * N) (hz : zs.length ≤ 512) (hn : n < N) : (Go.splice plat (512 * n) zs).length = 512 * N := by
  unfold Go.splice
  simp
  omega
theorem crash_sect {N : Nat} (l : List (Nat × List Int)) (hl : ∀ p ∈ l, p.1 < N ∧ p.2.length = 512) (m : Nat) (hm : ∀ p ∈ l, p.1 ≠ m) : ∀ (t : List (Int × Int)) (plat : List Int), plat.length = 512 * N → sect (crashAll plat l t) [] m = sect plat [] m
  | [], plat, hp => rfl
  | p :: t, plat, hp => by
    have hone : (crash1 l plat p).length = 512 * N ∧ sect (crash1 l plat p) [] m = sect plat [] m := by
      unfold crash1
      cases hx : l[p.1.toNat]? with
      | none => exact ⟨hp, rfl⟩
      | some x =>
        have hmem := List.mem_of_getElem? hx
        have h1 := hl x hmem
        have hz : (x.2.take p.2.toNat).length ≤ 512 := by rw [List.length_take]; omega
        refine ⟨splice_len_le hp hz h1.1, ?_⟩
        show ((Go.splice plat (512 * x.1) (x.2.take p.2.toNat)).drop (512 * m)).take 512 = (plat.drop (512 * m)).take 512
        exact splice_sect_other hp hz h1.1 (hm x hmem)
    have ih := crash_sect l hl m hm t (crash1 l plat p) hone.1
    show sect (crashAll (crash1 l plat p) l t) [] m = _
    rw [ih, hone.2]
/-- A sector that no write in l is of reads as the platter. -/
theorem sect_plain (plat : List Int) (l : List (Nat × List Int)) (m : Nat) (hm : ∀ p ∈ l, p.1 ≠ m) : sect plat l m = sect plat [] m := by
  unfold sect
  exact sect_skip l m _ hm
theorem strB_size (xs : List Int) : (strB xs).size = xs.length := by
  unfold strB
  simp [ByteArray.size]
end Go.Proofs.Ytpkoihbebhmicaa
