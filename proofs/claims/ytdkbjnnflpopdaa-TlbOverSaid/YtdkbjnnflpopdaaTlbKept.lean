/-
  Translations (parapet/tlb): Kept, of one.
-/
import Derived.Test.YtdkbjnnflpopdaaTlbCollect
namespace Go.Proofs.Ytdkbjnnflpopdaa
open Go.ChangeShapes Go.WideShapes Go.ChangeAt Go.RowKit Go.Maps Go.Shelf
set_option linter.unusedVariables false

theorem ins_one (A : Option Addr) (c : Nat) (f : Value) (w : World) : Calls Try.prog 68 #[.slice A 1 c, .int .i64 0, .int .i64 1, f] w fun e w' => e = .returned (.tuple #[]) ∧ w = w' := by
  go_enter Try.func68, Try.ntmps68
  go_wp2
  refine wp_loop_rounds 1 ?_
  rw [rounds_succ]
  go_wp2
  exact bodyPost_end (results_none rfl _ _ _) rfl ⟨rfl, rfl⟩
theorem pdq_one (A : Option Addr) (c : Nat) (x : Int) (f : Value) (w : World) : Calls Try.prog 62 #[.slice A 1 c, .int .i64 0, .int .i64 1, .int .i64 x, f] w fun e w' => e = .returned (.tuple #[]) ∧ w = w' := by
  go_enter Try.func62, Try.ntmps62
  go_wp2
  refine wp_loop_rounds 1 ?_
  rw [rounds_succ]
  go_wp2_with (go_at_call 68; refine (ins_one _ _ _ _).mono ?_; rintro e w' ⟨rfl, rfl⟩)
  exact bodyPost_ret (results_none rfl _ _ _) rfl ⟨rfl, rfl⟩
theorem sortFunc_one (A : Option Addr) (c : Nat) (f : Value) (w : World) : Calls Try.prog 47 #[.slice A 1 c, f] w fun e w' => e = .returned (.tuple #[]) ∧ Only [] w w' := by
  go_enter Try.func47, Try.ntmps47
  go_wp2_with (first | (go_at_call 45; refine (Try.bits_Len _ _ (by decide) (by decide)).mono ?_; rintro e w' ⟨rfl, h⟩) | (go_at_call 62; refine (pdq_one _ _ _ _ _).mono ?_; rintro e w' ⟨rfl, rfl⟩))
  exact bodyPost_end (results_none rfl _ _ _) rfl ⟨rfl, Only.refl _ _⟩
theorem keys_new (w : World) (b : Nat) : Calls Try.prog 38 #[.map (some b)] w fun e w' => e = .returned (.func (.func 48) #[] #[.pointer (some ⟨w.heap.size, 0, none⟩)]) ∧ w' = w.alloc (.cells #[.map (some b)] 59) := by
  go_enter Try.func38, Try.ntmps38
  go_wp2
  go_ret
  exact ⟨rfl, rfl⟩

section
variable {w : World} {b Bm : Nat} {D : DataW Unit} {l : List (K2 × K2)}
theorem collect_is (hBm : Bm < w.heap.size) (hm : w.cell? ⟨Bm, 0, none⟩ = some (.map (some b))) (hown : w.ownsMap Try.prog 33 elemF b l.length D) (H : Holds D l) (hlen : l.length ≤ 64) :
    Calls Try.prog 46 #[.func (.func 48) #[] #[.pointer (some ⟨Bm, 0, none⟩)]] w fun e w' => ∃ v ks, e = .returned v ∧ GRow w' (w.heap.size + 1) v ks ∧ ks.Perm (l.map (·.1)) ∧ Below w.heap.size w w' := by
  have HA := hide (appendSeq_is hBm hm hown H hlen)
  clear hm hown H
  go_enter Try.func46, Try.ntmps46
  go_wp2_with (go_at_call 61; refine HA.out.mono ?_; rintro e w1 ⟨v, ks, rfl, h1, h2, h3⟩; have HE := hide (And.intro h1 (And.intro h2 h3)); clear h1 h2 h3)
  go_ret
  exact ⟨v, ks, rfl, HE.out⟩
theorem sortedFunc_one (f : Value) (hBm : Bm < w.heap.size) (hm : w.cell? ⟨Bm, 0, none⟩ = some (.map (some b))) (hown : w.ownsMap Try.prog 33 elemF b l.length D) (H : Holds D l) (hlen : l.length = 1) :
    Calls Try.prog 37 #[.func (.func 48) #[] #[.pointer (some ⟨Bm, 0, none⟩)], f] w fun e w' => ∃ A c, e = .returned (.slice A 1 c) ∧ Only [] w w' := by
  have HC := hide (collect_is hBm hm hown H (by omega))
  clear hm hown H
  go_enter Try.func37, Try.ntmps37
  go_wp2_with fail
  refine HC.out.mono ?_
  rintro e w1 ⟨v, ks, rfl, h1, h2, h3⟩
  obtain ⟨A, c, rfl, -⟩ := GRow.form h1
  have hk : ks.length = 1 := by rw [h2.length_eq, List.length_map, hlen]
  rw [hk]
  have HO := hide (Only.of_below h3)
  clear h1 h2 h3 hk HC
  go_wp2_with (go_at_call 47; refine (sortFunc_one _ _ _ _).mono ?_; rintro e w2 ⟨rfl, h4⟩; have HO2 := hide h4; clear h4)
  go_ret
  exact ⟨A, c, rfl, HO.out.trans HO2.out⟩
end
section
variable {w w' : World} {t hb ob n size : Nat} {begun : Int} {bs : Nat → Nat} {ls : Nat → List (K2 × K2)} {nx : Nat → Int} {O : List (Int × Sh)} {S : List Nat}
set_option maxRecDepth 100000 in
theorem bKept_one (T : IsTlb w t hb ob n size begun bs ls nx O) (j : Nat) (hj : j < n) (hl : (ls j).length = 1) :
    Calls Try.prog 18 #[.pointer (some ⟨t, 0, none⟩), .int .i64 j] w fun e w' => ∃ A c, e = .returned (.slice A 1 c) ∧ Only [] w w' := by
  have HH := hide (show Calls Try.prog 32 #[.pointer (some ⟨t, 0, none⟩), .int .i64 j] w fun e w' => e = .returned (.bool true) ∧ w = w' from by
    have := bhas_is T j
    rwa [decide_eq_true (by omega)] at this)
  have hc0 : w.cell? ⟨t, 0, none⟩ = some (.slice (some ⟨hb, 0, none⟩) n n) := T.blk.cell 0
  have hcm : w.cell? ⟨hb, j * 2, none⟩ = some (.map (some (bs j))) := (T.row.cell _).trans (hRow_map hj)
  obtain ⟨D, hown, H⟩ := (T.hart j hj).own
  have HSF := hide (fun (f : Value) => sortedFunc_one (w := (w.alloc (.cells #[.map (some (bs j))] 59)).alloc (.cells #[.map (some (bs j))] 59)) (Bm := w.heap.size + 1) f (by simp) (by
    have := (Blk.new (w.alloc (.cells #[.map (some (bs j))] 59)) 59 #[.map (some (bs j))]).cell 0
    rw [show (w.alloc (.cells #[.map (some (bs j))] 59)).heap.size = w.heap.size + 1 by simp] at this
    exact this) ((hown.alloc _).alloc _) H hl)
  have hjn : (j : Int) < n := by omega
  clear T hown H
  go_enter Try.func18, Try.ntmps18
  go_wp2_with (first | (go_at_call 32; refine HH.out.mono ?_; rintro e w' ⟨rfl, rfl⟩) | (go_at_call 38; refine (keys_new _ _).mono ?_; rintro e w' ⟨rfl, rfl⟩))
  refine (HSF.out _).mono ?_
  rintro e w3 ⟨A, c, rfl, h3⟩
  have HO := hide (show Only [] w w3 from (((Only.refl [] w).alloc _).alloc _).trans h3)
  clear h3 HSF
  go_wp2
  go_ret
  exact ⟨A, c, rfl, HO.out⟩
end
end Go.Proofs.Ytdkbjnnflpopdaa
