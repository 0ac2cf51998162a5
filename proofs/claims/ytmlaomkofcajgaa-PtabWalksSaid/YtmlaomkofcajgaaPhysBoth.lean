/-
  parapet/phys and the document's own memory, call by call, in one form: both answer the same numbers, and hold the same bytes behind the call.
-/
import Derived.Test.YtmlaomkofcajgaaRef01c
import Derived.Deep.RegionHeld3
namespace Go.Proofs.Ytmlaomkofcajgaa
open Go.ChangeShapes Go.WideShapes Go.ChangeAt Go.RowKit
set_option linter.unusedVariables false

def IsB (xs : List Int) (a : Int) : Prop := 0 ≤ a ∧ a < xs.length
def IsW (xs : List Int) (a : Int) : Prop := 0 ≤ a ∧ a + 4 ≤ xs.length ∧ a % 4 = 0
def IsF (xs : List Int) (n : Int) : Prop := 0 ≤ n ∧ 256 * n + 256 ≤ xs.length
instance (xs : List Int) (a : Int) : Decidable (IsB xs a) := by unfold IsB; infer_instance
instance (xs : List Int) (a : Int) : Decidable (IsW xs a) := by unfold IsW; infer_instance
instance (xs : List Int) (a : Int) : Decidable (IsF xs a) := by unfold IsF; infer_instance
/-- The error of a call whose condition is p. -/
def err (p : Prop) [Decidable p] : Int := if p then 0 else 10
def l8 (xs : List Int) (a : Int) : Int := if IsB xs a then gb xs a.toNat else 0
def s8 (xs : List Int) (a x : Int) : List Int := if IsB xs a then xs.set a.toNat x else xs
def l32 (xs : List Int) (a : Int) : Int := if IsW xs a then word xs a.toNat else 0
def s32 (xs : List Int) (a x : Int) : List Int := if IsW xs a then putw xs a.toNat x else xs
def cas (xs : List Int) (a old to : Int) : List Int := if IsW xs a ∧ word xs a.toNat = old then putw xs a.toNat to else xs
def zf (xs : List Int) (n : Int) : List Int := if IsF xs n then Go.splice xs (256 * n.toNat) (List.replicate 256 0) else xs
def cf (xs : List Int) (n m : Int) : List Int := if IsF xs n ∧ IsF xs m then Go.splice xs (256 * n.toNat) ((xs.drop (256 * m.toNat)).take 256) else xs
def wr (xs : List Int) (a : Int) (ys : List Int) : List Int := if 0 ≤ a ∧ a + ys.length ≤ xs.length then Go.splice xs a.toNat ys else xs

section
variable {w : World} {g d cap : Nat} {xs : List Int} {r : List Value}









theorem not_word {xs : List Int} {a : Int} (h : ¬ IsW xs a) : a < 0 ∨ xs.length < a + 4 ∨ a % 4 ≠ 0 := by unfold IsW at h; omega

theorem mem_l32 (hm : IsMem w g d cap xs r) (hu : U8 xs) (a : Int) : Calls Try.prog 65 #[.pointer (some ⟨g, 0, none⟩), .int .i64 a] w fun e w' => e = .returned (.tuple #[.int .u32 (l32 xs a), .int .i64 (err (IsW xs a))]) ∧ Only [] w w' := by
  unfold l32 err
  by_cases h : IsW xs a
  · rw [if_pos h, if_pos h]; exact load32_ok hm hu a h.1 h.2.1 h.2.2
  · rw [if_neg h, if_neg h]; exact (load32_bad hm a (not_word h)).mono fun e w' ⟨he, hw⟩ => ⟨he, hw ▸ Only.refl _ _⟩

theorem ref_l32 (hm : IsRef w g d cap xs r) (hu : U8 xs) (a : Int) : Calls Try.prog 57 #[.pointer (some ⟨g, 0, none⟩), .int .i64 a] w fun e w' => e = .returned (.tuple #[.int .u32 (l32 xs a), .int .i64 (err (IsW xs a))]) ∧ Only [] w w' := by
  unfold l32 err
  by_cases h : IsW xs a
  · rw [if_pos h, if_pos h]; exact rload32_ok hm hu a h.1 h.2.1 h.2.2
  · rw [if_neg h, if_neg h]; exact (rload32_bad hm a (not_word h)).mono fun e w' ⟨he, hw⟩ => ⟨he, hw ▸ Only.refl _ _⟩

theorem mem_s32 (hm : IsMem w g d cap xs r) (a x : Int) (h0 : 0 ≤ x) (h1 : x ≤ 4294967295) : Calls Try.prog 25 #[.pointer (some ⟨g, 0, none⟩), .int .i64 a, .int .u32 x] w fun e w' => e = .returned (.int .i64 (err (IsW xs a))) ∧ Only [d] w w' ∧ IsMem w' g d cap (s32 xs a x) r := by
  unfold s32 err
  by_cases h : IsW xs a
  · rw [if_pos h, if_pos h]; exact store32_ok hm a x h.1 h.2.1 h.2.2 h0 h1
  · rw [if_neg h, if_neg h]; exact (store32_bad hm a x (not_word h)).mono fun e w' ⟨he, hw⟩ => ⟨he, hw ▸ Only.refl _ _, hw ▸ hm⟩

theorem ref_s32 (hm : IsRef w g d cap xs r) (a x : Int) (h0 : 0 ≤ x) (h1 : x ≤ 4294967295) : Calls Try.prog 26 #[.pointer (some ⟨g, 0, none⟩), .int .i64 a, .int .u32 x] w fun e w' => e = .returned (.int .i64 (err (IsW xs a))) ∧ Only [d] w w' ∧ IsRef w' g d cap (s32 xs a x) r := by
  unfold s32 err
  by_cases h : IsW xs a
  · rw [if_pos h, if_pos h]; exact rstore32_ok hm a x h.1 h.2.1 h.2.2 h0 h1
  · rw [if_neg h, if_neg h]; exact (rstore32_bad hm a x (not_word h)).mono fun e w' ⟨he, hw⟩ => ⟨he, hw ▸ Only.refl _ _, hw ▸ hm⟩





theorem not_frame {xs : List Int} {n : Int} (h : ¬ IsF xs n) : n < 0 ∨ xs.length < 256 * n + 256 := by unfold IsF at h; omega

theorem mem_zero (hm : IsMem w g d cap xs r) (n : Int) : Calls Try.prog 42 #[.pointer (some ⟨g, 0, none⟩), .int .i64 n] w fun e w' => e = .returned (.int .i64 (err (IsF xs n))) ∧ Only [d] w w' ∧ IsMem w' g d cap (zf xs n) r := by
  unfold zf err
  by_cases h : IsF xs n
  · rw [if_pos h, if_pos h]; exact zero_ok hm n h.1 h.2
  · rw [if_neg h, if_neg h]; exact (zero_bad hm n (not_frame h)).mono fun e w' ⟨he, hw⟩ => ⟨he, hw ▸ Only.refl _ _, hw ▸ hm⟩







theorem mem_write (hm : IsMem w g d cap xs r) (a : Int) (A : Option Addr) (n c : Nat) (ys : List Int) (hy : Sees w A n ys) : Calls Try.prog 20 #[.pointer (some ⟨g, 0, none⟩), .int .i64 a, .slice A n c] w fun e w' => e = .returned (.int .i64 (err (0 ≤ a ∧ a + ys.length ≤ xs.length))) ∧ Only [d] w w' ∧ IsMem w' g d cap (wr xs a ys) r := by
  unfold wr err
  by_cases h : 0 ≤ a ∧ a + ys.length ≤ xs.length
  · rw [if_pos h, if_pos h]
    obtain ⟨hl, hc⟩ := hy
    by_cases h0 : n = 0
    · subst h0
      have e : ys = [] := List.eq_nil_of_length_eq_zero hl
      subst e
      exact (write_nought hm a A c h.1 (by simpa using h.2)).mono fun e w' ⟨he, hw⟩ => ⟨he, hw ▸ Only.refl _ _, by rw [← hw]; simpa [Go.splice] using hm⟩
    · obtain ⟨b, o, rfl, _, hcs⟩ := hc (by omega)
      exact write_pos hm a ⟨b, o, none⟩ n c ys hl (by omega) h.1 (by rw [← hl]; exact h.2) (fun j hj => by rw [add_at]; exact hcs j hj)
  · rw [if_neg h, if_neg h]; exact (write_bad hm a A n c (by rw [← hy.1]; omega)).mono fun e w' ⟨he, hw⟩ => ⟨he, hw ▸ Only.refl _ _, hw ▸ hm⟩

end

/-- Both memories, of the same bytes. -/
structure Pair (w : World) (g d c : Nat) (r : List Value) (g' d' c' : Nat) (r' : List Value) (xs : List Int) : Prop where
  mem : IsMem w g d c xs r
  ref : IsRef w g' d' c' xs r'
  u8 : U8 xs
  ne : d ≠ d'
section
variable {w w1 : World} {g d c g' d' c' : Nat} {r r' : List Value} {xs ys : List Int} {S : List Nat}
theorem Pair.only (p : Pair w g d c r g' d' c' r' xs) (ho : Only S w w1) (hs : ∀ k, k < w.heap.size → k ∈ S → False) : Pair w1 g d c r g' d' c' r' xs :=
  ⟨p.mem.only ho (fun h => hs _ p.mem.lt.1 h) (fun h => hs _ p.mem.lt.2 h), p.ref.only ho (fun h => hs _ p.ref.lt.1 h) (fun h => hs _ p.ref.lt.2 h), p.u8, p.ne⟩
theorem Pair.gd (p : Pair w g d c r g' d' c' r' xs) : g' ≠ d := p.ref.mem.ne_ p.mem.row (by decide)
theorem Pair.gd' (p : Pair w g d c r g' d' c' r' xs) : g ≠ d' := p.mem.mem.ne_ p.ref.row (by decide)
/-- Behind a store to the first one, the second one is as it was. -/
theorem Pair.ref1 (p : Pair w g d c r g' d' c' r' xs) (ho : Only [d] w w1) : IsRef w1 g' d' c' xs r' := p.ref.only ho (by simpa using p.gd) (by simpa using p.ne.symm)
/-- And behind the second one's store both hold the new bytes. -/
theorem Pair.both (p : Pair w g d c r g' d' c' r' xs) {w2 : World} (ho : Only [d] w w1) (hm : IsMem w1 g d c ys r) (ho2 : Only [d'] w1 w2) (hm2 : IsRef w2 g' d' c' ys r') (hu : U8 ys) : Pair w2 g d c r g' d' c' r' ys ∧ Only [d, d'] w w2 :=
  ⟨⟨hm.only ho2 (by simpa using p.gd') (by simpa using p.ne), hm2, hu, p.ne⟩, (ho.mono (by simp +contextual)).trans (ho2.mono (by simp +contextual))⟩
end
end Go.Proofs.Ytmlaomkofcajgaa
