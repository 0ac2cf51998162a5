/-
  Buffers: 'lives' holds; the walk of 'BufNobody'.
-/
import Derived.Test.YtenpifamklnkmaaBuLaw
namespace Go.Proofs.Ytenpifamklnkmaa
open Go.ChangeShapes Go.WideShapes Go.ChangeAt Go.RowKit Go.Maps
set_option linter.unusedVariables false

section
variable {w w' : World} {g gd N room : Nat} {plat : List Int} {l : List (Nat × List Int)} {k : Nat} {F : List Nat} {L : List VB}
theorem bu_pending (h : Bu w g gd N room plat l L k F) : Calls Try.prog 23 #[.pointer (some ⟨gd, 0, none⟩)] w fun e w' => ∃ d, e = .returned (.slice (some ⟨d, 0, none⟩) l.length l.length) ∧ Only [] w w' := by
  obtain ⟨m, v, LL, hi, mi, ev, wr, rd, wt, fl, FD, h1, h2, h3, h4⟩ := h
  exact (dk_pending h1.dk).mono fun e w' ⟨d, he, _, _, ho⟩ => ⟨d, he, ho⟩
end
theorem put_first (x : VB) : putV 2 [] x = [x] := by simp [putV, keysV, evV]
theorem put_again (x : VB) : putV 2 [x] x = [x] := by simp [putV, keysV, dropV]
theorem u8_rep (n : Nat) {c : Int} (h0 : 0 ≤ c) (h1 : c ≤ 255) : U8 (List.replicate n c) := fun x hx => by
  rw [List.eq_of_mem_replicate hx]; exact ⟨h0, h1⟩
/-- The cells of a new row. -/
theorem Fresh.cells512 {w : World} {B : Nat} {v : Value} {xs : List Int} (h : Fresh w B v xs) (hl : xs.length = 512) : ∃ d c, v = .slice (some ⟨d, 0, none⟩) 512 c ∧ B ≤ d ∧ d < w.heap.size ∧ (∃ r, Blk w d 5 (u8l xs ++ r).toArray) ∧ ∀ i, i < 512 → w.cell? ⟨d, 0 + i, none⟩ = some (.int .u8 (gb xs i)) := by
  obtain ⟨d, c, r, rfl, h1, h2, h3⟩ := h
  exact ⟨d, c, by rw [hl], h1, h2.lt, ⟨r, h2⟩, fun i hi => by rw [Nat.zero_add, h2.cell]; exact u8l_get _ _ i (by omega)⟩
set_option maxRecDepth 100000 in
set_option maxHeartbeats 2000000 in
theorem lives_is (w : World) : Calls Try.prog 8 #[] w fun e w' => e = .returned (.bool true) ∧ Only [] w w' := by
  go_enter Try.func8, Try.ntmps8
  go_wp2_with fail
  refine (dk_new 9 _ (by decide) (by decide)).mono ?_
  rintro e w1 ⟨gd, FD, rfl, ho1, hFD, hd⟩
  have HO1 := hide ho1
  have HFD := hide hFD
  have HD := hide hd
  clear ho1 hFD hd
  go_wp2_with fail
  refine (buNew_ok HD.out (r := 2) (by decide)).mono ?_
  rintro e w2 ⟨g, F2, rfl, ho2, hb2, hF2⟩
  have HO2 := hide (HO1.out.trans ho2)
  have HF2 := hide (show ∀ q ∈ F2, w.heap.size ≤ q from fun q hq => (hF2 q hq).elim (fun e => HFD.out q e) (fun e => Nat.le_trans HO1.out.size e))
  have HB2 := hide hb2
  clear ho2 hb2 hF2
  go_wp2_with fail
  refine (full_is _ 7 (by decide) (by decide)).mono ?_
  rintro e w3 ⟨v3, rfl, hf3, ho3⟩
  obtain ⟨d3, c3, rfl, hd3, -, -, hc3⟩ := hf3.cells512 (by simp)
  have HO3 := hide (HO2.out.trans ho3)
  have HB3 := hide (HB2.out.quiet ho3)
  have HC3 := hide hc3
  clear hf3 ho3 hd3 hc3
  go_wp2_with fail
  refine (bu_write_ok HB3.out (by decide) (n := 1) (by decide) d3 0 c3 (List.replicate 512 7) (by simp) (u8_rep _ (by decide) (by decide)) HC3.out (by decide)).mono ?_
  rintro e w4 ⟨rfl, F4, hT4, hb4⟩
  have hp4 : putV (2 : Int).toNat [] ⟨1, List.replicate 512 7, true⟩ = [⟨1, List.replicate 512 7, true⟩] := put_first _
  rw [hp4] at hb4
  have HO4 := hide (HO3.out.trans' hT4.1 (fun q hq hm => by have := HF2.out q hm; omega))
  have HF4 := hide (show ∀ q ∈ F4, w.heap.size ≤ q from fun q hq => (hT4.2 q hq).elim (fun e => HF2.out q e) (fun e => Nat.le_trans HO3.out.size e))
  have HB4 := hide hb4
  clear hT4 hb4 hp4
  go_wp2_with fail
  refine (bu_read_kept HB4.out (by decide) (x := ⟨1, List.replicate 512 7, true⟩) (by simp)).mono ?_
  rintro e w5 ⟨v5, B5, F5, rfl, hf5, hB5, hn5, hT5, hb5⟩
  obtain ⟨d5, c5, rfl, hd5, hl5, -, hc5⟩ := hf5.cells512 (by simp)
  have hp5 : putV (2 : Int).toNat [⟨1, List.replicate 512 7, true⟩] ⟨1, List.replicate 512 7, true⟩ = [⟨1, List.replicate 512 7, true⟩] := put_again _
  rw [hp5] at hb5
  have HO5 := hide (HO4.out.trans' hT5.1 (fun q hq hm => by have := HF4.out q hm; omega))
  have HF5 := hide (show ∀ q ∈ F5, w.heap.size ≤ q from fun q hq => (hT5.2 q hq).elim (fun e => HF4.out q e) (fun e => Nat.le_trans HO4.out.size e))
  have HC5 := hide (And.intro (hc5 9 (by decide)) (And.intro hl5 (show d5 ∉ F5 from fun e => by have := hn5 d5 e; omega)))
  have HB5 := hide hb5
  clear hT5 hb5 hp5 hf5 hB5 hn5 hd5 hl5 hc5
  go_wp2_with fail
  refine (bu_back_yes HB5.out (by decide) (x := ⟨1, List.replicate 512 7, true⟩) (by simp) rfl).mono ?_
  rintro e w6 ⟨rfl, F6, hT6, hb6⟩
  have c9 : w6.cell? ⟨d5, 9, none⟩ = some (.int .u8 7) := by
    have h9 := HC5.out.1
    rw [Nat.zero_add] at h9
    rw [hT6.1.cell HC5.out.2.1 HC5.out.2.2, h9]
    simp [gb]
  have HO6 := hide (HO5.out.trans' hT6.1 (fun q hq hm => by have := HF5.out q hm; omega))
  have HB6 := hide hb6
  clear hT6 hb6
  have HP := hide (bu_pending HB6.out)
  have HK := hide (fun W (hW : Only [] w6 W) => bu_kept (HB6.out.quiet hW))
  go_wp2_with (first | (go_at_call 23; refine HP.out.mono ?_; rintro e w7 ⟨d7, rfl, ho7⟩; have HO7 := hide ho7; clear ho7) | (go_at_call 20; refine (HK.out _ HO7.out).mono ?_; rintro e w8 ⟨v8, rfl, hr8, -, ho8⟩; obtain ⟨A8, c8, hv8, -⟩ := hr8.form2; rw [show (keysV (cleanV [⟨1, List.replicate 512 7, true⟩] (1 : Int))).length = 1 from rfl] at hv8; subst hv8; have HO8 := hide ho8; clear hr8 ho8))
  go_ret
  exact ⟨rfl, (HO6.out.trans HO7.out).trans HO8.out⟩

set_option maxRecDepth 100000 in
set_option maxHeartbeats 2000000 in
theorem bufNobody_walk (n : Int) (A : Option Addr) (m c : Nat) (w : World) :
    Calls Try.prog 5 #[.int .i64 n, .slice A m c] w fun e w' => e = .returned (.bool true) ∧ Below w.heap.size w w' := by
  go_enter Try.func5, Try.ntmps5
  go_wp2_with (first | (go_at_call 9; refine (buNew_nil _ _).mono ?_; rintro e w' ⟨rfl, rfl⟩) | (go_at_call 10; refine (buRead_nil _ _).mono ?_; rintro e w' ⟨rfl, rfl⟩) | (go_at_call 14; refine (buBack_nil _ _).mono ?_; rintro e w' ⟨rfl, rfl⟩) | (go_at_call 8; refine (lives_is _).mono ?_; rintro e w1 ⟨rfl, ho⟩; have HO := hide ho; clear ho) | (go_at_call 13; refine (buWrite_nil _ _ _ _ _).mono ?_; rintro e w' ⟨rfl, rfl⟩) | (go_at_call 16; refine (buDirty_nil _).mono ?_; rintro e w' ⟨rfl, rfl⟩) | (go_at_call 20; refine (buKept_nil _).mono ?_; rintro e w' ⟨rfl, rfl⟩) | (go_at_call 15; refine (buForget_nil _).mono ?_; rintro e w' ⟨rfl, rfl⟩) | (go_at_call 21; refine (buCounts_nil _).mono ?_; rintro e w2 ⟨rfl, ho2⟩; have HO2 := hide ho2; clear ho2))
  go_ret
  exact ⟨rfl, (HO.out.trans HO2.out).below (Nat.le_refl _) (by simp)⟩
end Go.Proofs.Ytenpifamklnkmaa
