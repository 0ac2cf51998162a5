/-
  What a crash leaves, byte by byte: lists alone. Each byte of a sector is the platter's or one of a pending write of it; where all writes are kept whole, a sector is the platter's or a write's.
-/
import Derived.Test.YtlbiigaefipneaaDiskAwake
import Derived.Test.YtlbiigaefipneaaDiskOne
namespace Go.Proofs.Ytlbiigaefipneaa
open Go.ChangeShapes Go.WideShapes Go.ChangeAt Go.RowKit
set_option linter.unusedVariables false

/-- Pending writes: each has 512 bytes, and its sector is one of the disk's. -/
def Fits (N : Nat) (l : List (Nat × List Int)) : Prop := ∀ x ∈ l, x.2.length = 512 ∧ x.1 < N

theorem crash1_len {N : Nat} {l : List (Nat × List Int)} {plat : List Int} (hf : Fits N l) (hp : plat.length = 512 * N) (p : Int × Int) : (crash1 l plat p).length = 512 * N := by
  unfold crash1
  split
  · rename_i x hx
    obtain ⟨h1, h2⟩ := hf x (List.mem_of_getElem? hx)
    rw [length_splice _ _ _ (by rw [List.length_take]; omega), hp]
  · exact hp
theorem crashAll_len {N : Nat} {l : List (Nat × List Int)} (hf : Fits N l) : ∀ (t : List (Int × Int)) (plat : List Int), plat.length = 512 * N → (crashAll plat l t).length = 512 * N
  | [], plat, hp => hp
  | p :: r, plat, hp => crashAll_len hf r _ (crash1_len hf hp p)

theorem crash1_byte {N : Nat} {l : List (Nat × List Int)} {plat : List Int} (hf : Fits N l) (hp : plat.length = 512 * N) (p : Int × Int) (n i : Nat) (hn : n < N) (hi : i < 512) :
    gb (crash1 l plat p) (512 * n + i) = gb plat (512 * n + i) ∨ ∃ x ∈ l, x.1 = n ∧ gb (crash1 l plat p) (512 * n + i) = gb x.2 i := by
  unfold crash1
  split
  · rename_i x hx
    have hm := List.mem_of_getElem? hx
    obtain ⟨h1, h2⟩ := hf x hm
    have hl : 512 * x.1 + (x.2.take p.2.toNat).length ≤ plat.length := by rw [List.length_take]; omega
    rw [gb_splice_ _ _ _ _ hl, List.length_take]
    by_cases hc : 512 * x.1 ≤ 512 * n + i ∧ 512 * n + i < 512 * x.1 + Nat.min p.2.toNat x.2.length
    · right
      have hmin : Nat.min p.2.toNat x.2.length ≤ x.2.length := Nat.min_le_right _ _
      have hmin2 : Nat.min p.2.toNat x.2.length ≤ p.2.toNat := Nat.min_le_left _ _
      have hxn : x.1 = n := by omega
      refine ⟨x, hm, hxn, ?_⟩
      rw [if_pos hc, hxn, show 512 * n + i - 512 * n = i by omega]
      unfold gb
      simp only [List.getD]
      rw [List.getElem?_take, if_pos (by omega)]
    · left; exact if_neg hc
  · exact .inl rfl
theorem crashAll_byte {N : Nat} {l : List (Nat × List Int)} (hf : Fits N l) (n i : Nat) (hn : n < N) (hi : i < 512) : ∀ (t : List (Int × Int)) (plat : List Int), plat.length = 512 * N →
    gb (crashAll plat l t) (512 * n + i) = gb plat (512 * n + i) ∨ ∃ x ∈ l, x.1 = n ∧ gb (crashAll plat l t) (512 * n + i) = gb x.2 i
  | [], plat, hp => .inl rfl
  | p :: r, plat, hp => by
    have ih := crashAll_byte hf n i hn hi r (crash1 l plat p) (crash1_len hf hp p)
    show gb (crashAll (crash1 l plat p) l r) _ = _ ∨ _
    rcases ih with ih | ih
    · rcases crash1_byte hf hp p n i hn hi with h | ⟨x, hx, hxn, h⟩
      · exact .inl (ih.trans h)
      · exact .inr ⟨x, hx, hxn, ih.trans h⟩
    · exact .inr ih

/-- A sector's bytes. -/
def secL (plat : List Int) (n : Nat) : List Int := (plat.drop (512 * n)).take 512
theorem secL_len {plat : List Int} {N n : Nat} (hp : plat.length = 512 * N) (hn : n < N) : (secL plat n).length = 512 := by unfold secL; simp; omega
theorem secL_get (plat : List Int) (n i : Nat) (hi : i < 512) : gb (secL plat n) i = gb plat (512 * n + i) := gb_cut _ _ _ _ hi
theorem gb_ext {a b : List Int} (hl : a.length = b.length) (h : ∀ i, i < a.length → gb a i = gb b i) : a = b := by
  refine List.ext_getElem hl fun i h1 h2 => ?_
  have := h i h1
  simpa [gb, List.getD, List.getElem?_eq_getElem h1, List.getElem?_eq_getElem h2] using this

theorem crash1_whole {N : Nat} {l : List (Nat × List Int)} {plat : List Int} (hf : Fits N l) (hp : plat.length = 512 * N) (p : Int × Int) (hw : p.2 = 512) (n : Nat) (hn : n < N) :
    secL (crash1 l plat p) n = secL plat n ∨ ∃ x ∈ l, x.1 = n ∧ secL (crash1 l plat p) n = x.2 := by
  have hlen := crash1_len hf hp p
  by_cases hx : ∃ x, l[p.1.toNat]? = some x ∧ x.1 = n
  · obtain ⟨x, hx, hxn⟩ := hx
    have hm := List.mem_of_getElem? hx
    obtain ⟨h1, h2⟩ := hf x hm
    right
    refine ⟨x, hm, hxn, gb_ext (by rw [secL_len hlen hn, h1]) fun i hi => ?_⟩
    rw [secL_len hlen hn] at hi
    rw [secL_get _ _ _ hi]
    unfold crash1
    rw [hx]
    have ht : x.2.take p.2.toNat = x.2 := List.take_of_length_le (by rw [h1, hw]; decide)
    show gb (Go.splice plat (512 * x.1) (x.2.take p.2.toNat)) _ = _
    rw [ht, gb_splice_ _ _ _ _ (by omega), if_pos (by omega), hxn, show 512 * n + i - 512 * n = i by omega]
  · left
    refine gb_ext (by rw [secL_len hlen hn, secL_len hp hn]) fun i hi => ?_
    rw [secL_len hlen hn] at hi
    rw [secL_get _ _ _ hi, secL_get _ _ _ hi]
    unfold crash1
    split
    · rename_i x hx2
      have hm := List.mem_of_getElem? hx2
      obtain ⟨h1, h2⟩ := hf x hm
      have hne : x.1 ≠ n := fun e => hx ⟨x, hx2, e⟩
      have hl : 512 * x.1 + (x.2.take p.2.toNat).length ≤ plat.length := by rw [List.length_take]; omega
      rw [gb_splice_ _ _ _ _ hl, if_neg]
      rw [List.length_take]
      omega
    · rfl
theorem crashAll_whole {N : Nat} {l : List (Nat × List Int)} (hf : Fits N l) (n : Nat) (hn : n < N) : ∀ (t : List (Int × Int)) (plat : List Int), plat.length = 512 * N → (∀ p ∈ t, p.2 = 512) →
    secL (crashAll plat l t) n = secL plat n ∨ ∃ x ∈ l, x.1 = n ∧ secL (crashAll plat l t) n = x.2
  | [], plat, hp, _ => .inl rfl
  | p :: r, plat, hp, hw => by
    have ih := crashAll_whole hf n hn r (crash1 l plat p) (crash1_len hf hp p) (fun q hq => hw q (by simp [hq]))
    show secL (crashAll (crash1 l plat p) l r) _ = _ ∨ _
    rcases ih with ih | ih
    · rcases crash1_whole hf hp p (hw p (by simp)) n hn with h | ⟨x, hx, hxn, h⟩
      · exact .inl (ih.trans h)
      · exact .inr ⟨x, hx, hxn, ih.trans h⟩
    · exact .inr ih
end Go.Proofs.Ytlbiigaefipneaa
