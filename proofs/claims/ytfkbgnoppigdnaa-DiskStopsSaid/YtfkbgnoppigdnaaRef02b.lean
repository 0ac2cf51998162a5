/-
  What the calls of the document's own disk (parapetref02) come to: Load, New.
-/
import Derived.Test.YtfkbgnoppigdnaaRef02
import Derived.Test.YtfkbgnoppigdnaaAppendNew
namespace Go.Proofs.Ytfkbgnoppigdnaa
open Go.ChangeShapes Go.WideShapes Go.ChangeAt Go.RowKit
set_option linter.unusedVariables false

theorem rload_bad (A : Option Addr) (n c : Nat) (w : World) (hn : n ≤ 9223372036854775807) (h : n = 0 ∨ n % 512 ≠ 0 ∨ 4096 < n / 512) : Calls Try.prog 41 #[.slice A n c] w fun e w' => e = .returned (.tuple #[.pointer none, .int .i64 1]) ∧ w = w' := by
  by_cases h2 : n % 512 ≠ 0
  · have k2 : ((n : Int) % 512 != 0) = true := by simp only [bne_iff_ne]; omega
    clear h h2
    go_enter Try.func41, Try.ntmps41
    go_wp2
    go_ret2
    exact ⟨rfl, rfl⟩
  · have k2 : ((n : Int) % 512 != 0) = false := by simp only [bne_eq_false_iff_eq]; omega
    by_cases h1 : n = 0
    · subst h1
      clear h h2
      go_enter Try.func41, Try.ntmps41
      go_wp2
      go_ret2
      exact ⟨rfl, rfl⟩
    · have k3 : 4096 < (n : Int) / 512 := by omega
      have k4 : ¬ (n : Int) / 512 < 1 := by omega
      clear h h1 h2
      go_enter Try.func41, Try.ntmps41
      go_wp2
      go_ret2
      exact ⟨rfl, rfl⟩

/-- What makes a reference disk. -/
def Made2 (w w' : World) (e : Ending) (N : Nat) (plat : List Int) : Prop :=
  ∃ g pb pc pr, e = .returned (.tuple #[.pointer (some ⟨g, 0, none⟩), .int .i64 0]) ∧ w.heap.size ≤ g ∧ w.heap.size ≤ pb ∧ Only [] w w' ∧ IsRef2 w' g pb pc pr none 0 N plat [] 0 false 0 0 0

theorem rload_ok (A : Option Addr) (n c N : Nat) (w : World) (xs : List Int) (hs : Sees w A n xs) (hu : U8 xs) (hn : n = 512 * N) (h1 : 1 ≤ N) (h2 : N ≤ 4096) : Calls Try.prog 41 #[.slice A n c] w fun e w' => Made2 w w' e N xs := by
  subst hn
  obtain ⟨b, o, rfl, hb, hc⟩ := hs.2 (by omega)
  have k2 : (512 * (N : Int) % 512 != 0) = false := by simp only [bne_eq_false_iff_eq]; omega
  have k3 : 512 * (N : Int) / 512 = N := by omega
  have HS := hide hs
  clear hs hc
  go_enter Try.func41, Try.ntmps41
  go_wp2_with (at_builtin; refine wpList_append_new rfl _ _ rfl _ w.heap.size w.heap.size rfl (Nat.le_refl _) (Blk.new w 5 #[]) (some ⟨b, o, none⟩) (512 * N) c rfl (by simp) xs (HS.out.only ((Only.refl [] w).alloc _) (by simp)) (by omega) ?_; intro v' w1 hf ho; obtain ⟨d, cd, r, rfl, hB, hbk, hcl⟩ := hf; have HBK := hide hbk; have HCL := hide hcl; have HBB := hide hB; have HO := hide (((Only.refl [] w).alloc (.cells #[] 5)).trans' ho (fun k hk hm => by simp at hm; omega)); clear ho hbk hcl hB)
  have hlx : xs.length = 512 * N := HS.out.1
  rw [hlx] at HCL ⊢
  go_ret2
  refine ⟨w1.heap.size, d, cd, r, rfl, HO.out.size, HBB.out, HO.out.alloc _, ?_⟩
  exact ⟨Blk.new _ _ _, HBK.out.alloc _, hlx, HCL.out, h1, h2, hu, by intro hp; simp at hp, by simp⟩
end Go.Proofs.Ytfkbgnoppigdnaa
