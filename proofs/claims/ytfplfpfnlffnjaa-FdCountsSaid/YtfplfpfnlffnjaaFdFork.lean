/-
  Open files (parapet/fdtab): Fork.
-/
import Derived.Test.YtfplfpfnlffnjaaFdDup
namespace Go.Proofs.Ytfplfpfnlffnjaa
open Go.ChangeShapes Go.WideShapes Go.ChangeAt Go.RowKit Go.Maps
set_option linter.unusedVariables false
set_option linter.unusedSimpArgs false
/-- One more who names it. -/
def shareO (O : List (Int × F5)) (k : Int) : List (Int × F5) := O.map fun p => if p.1 = k then (k, { p.2 with refs := p.2.refs + 1 }) else p
theorem shareO_keys (O : List (Int × F5)) (k : Int) : (shareO O k).map (·.1) = O.map (·.1) := by
  unfold shareO
  rw [List.map_map]
  refine List.map_congr_left fun p _ => ?_
  show (if p.1 = k then (k, { p.2 with refs := p.2.refs + 1 }) else p).1 = p.1
  split <;> simp_all
theorem shareO_no {O : List (Int × F5)} {k : Int} (h : k ∉ O.map (·.1)) : shareO O k = O := by
  unfold shareO
  conv => rhs; rw [← List.map_id O]
  refine List.map_congr_left fun p hp => ?_
  rw [if_neg (fun e => h (List.mem_map.2 ⟨p, hp, e⟩))]
  rfl
theorem nodup_uniq {O : List (Int × F5)} (h : (O.map (·.1)).Nodup) {p q : Int × F5} (hp : p ∈ O) (hq : q ∈ O) (e : p.1 = q.1) : p = q := by
  induction O with
  | nil => cases hp
  | cons a r ih =>
    rw [List.map_cons, List.nodup_cons] at h
    rcases List.mem_cons.1 hp with hp | hp <;> rcases List.mem_cons.1 hq with hq | hq
    · rw [hp, hq]
    · exact absurd (List.mem_map.2 ⟨q, hq, by rw [← e, hp]⟩) h.1
    · exact absurd (List.mem_map.2 ⟨p, hp, by rw [e, hq]⟩) h.1
    · exact ih h.2 hp hq
theorem shareO_yes {O : List (Int × F5)} {k : Int} {x : F5} (h : (O.map (·.1)).Nodup) (hp : (k, x) ∈ O) : shareO O k = setV O k { x with refs := x.refs + 1 } := by
  unfold shareO setV
  refine List.map_congr_left fun p hq => ?_
  by_cases e : p.1 = k
  · have := nodup_uniq h hq hp e
    subst this
    simp
  · rw [if_neg e, if_neg e]
/-- Nobody has more Refs than this. -/
def RefB (O : List (Int × F5)) (B : Int) : Prop := ∀ p ∈ O, 1 ≤ p.2.refs ∧ p.2.refs ≤ B
theorem RefB.share {O : List (Int × F5)} {B k : Int} (h : RefB O B) : RefB (shareO O k) (B + 1) := fun p hp => by
  obtain ⟨q, hq, rfl⟩ := List.mem_map.1 hp
  have := h q hq
  split
  · exact ⟨by show 1 ≤ q.2.refs + 1; omega, by show q.2.refs + 1 ≤ B + 1; omega⟩
  · omega
def forkN (O : List (Int × F5)) (T : List Int) (n : Nat) : List (Int × F5) := (T.take n).foldl shareO O
theorem forkN_succ (O : List (Int × F5)) {T : List Int} {n : Nat} (h : n < T.length) : forkN O T (n + 1) = shareO (forkN O T n) (gb T n) := by
  unfold forkN
  rw [List.take_add_one, List.getElem?_eq_getElem h, List.foldl_append]
  simp [gb, List.getD, List.getElem?_eq_getElem h]
theorem len16 {T : List Int} (h : T.length = 16) : ∃ a0 a1 a2 a3 a4 a5 a6 a7 a8 a9 b0 b1 b2 b3 b4 b5 : Int, T = [a0, a1, a2, a3, a4, a5, a6, a7, a8, a9, b0, b1, b2, b3, b4, b5] := by
  match T, h with
  | [a0, a1, a2, a3, a4, a5, a6, a7, a8, a9, b0, b1, b2, b3, b4, b5], _ => exact ⟨_, _, _, _, _, _, _, _, _, _, _, _, _, _, _, _, rfl⟩
section
variable {w w' w1 : World} {t f m : Nat} {O : List (Int × F5)} {T : List Int} {S : List Nat} {k : Int} {x : F5}
set_option maxRecDepth 100000 in
theorem fork_is (h : IsTa w t f T) (hf : IsFi w f m O) {B : Int} (hB : RefB O B) (hB2 : B < 4611686018427387000) : Calls Try.prog 14 #[.pointer (some ⟨t, 0, none⟩)] w fun e w' => ∃ t', w.heap.size ≤ t' ∧ e = .returned (.tuple #[.pointer (some ⟨t', 0, none⟩), .int .i64 0]) ∧ IsTa w' t' f T ∧ IsTa w' t f T ∧ IsFi w' f m (forkN O T 16) ∧ RefB (forkN O T 16) (B + 16) ∧ Only [m] w w' := by
  have HC := hide (tbclosed_is h)
  have HT := hide h
  have HL := hide h.len
  have HTM := hide (h.tf hf)
  have HR := hide hB
  have HF := hide hf
  clear h hf hB
  go_enter Try.func14, Try.ntmps14
  go_wp2_with (first | (with_reducible refine wp_region_lit (id := 3) ?_) | (go_at_call 37; refine HC.out.mono ?_; rintro e w' ⟨rfl, rfl⟩) | ((with_reducible refine names_load (.tmp 10) HT.out ?_ ?_); (· rfl)))
  go_loopw [12] (fun iv wr => ∃ i : Nat, i ≤ 16 ∧ iv = .int .i64 i ∧ IsTa wr t f T ∧ IsFi wr f m (forkN O T i) ∧ RefB (forkN O T i) (B + i) ∧ Only [m] w wr) (fun iv _ => 16 - (intOf iv).toNat)
  case atStart => exact ⟨0, by omega, rfl, HT.out, HF.out, by simpa [forkN] using HR.out, Only.refl _ _⟩
  case round =>
    obtain ⟨i, hi, rfl, ht, hf, hr, ho⟩ := hrel
    have HO := hide ho
    have c0 := ht.c0
    by_cases hlt : i < 16
    · have hltI : (i : Int) < 16 := by omega
      have hx := run_index_names wr HL.out hlt rfl
      have hrg := ht.gbr hlt
      have HE := hide (forkN_succ O (T := T) (n := i) (by rw [HL.out]; exact hlt))
      have HT2 := hide ht
      have HF2 := hide hf
      have HR2 := hide hr
      generalize gb T i = y at *
      have HH := hide (fdhas_is hf (iW_small (x := y) (by omega) (by omega)))
      clear ht hf hr ho
      by_cases hm : y ∈ (forkN O T i).map (·.1)
      · rw [show hasB (forkN O T i) y = true from decide_eq_true hm] at HH
        obtain ⟨⟨y', x⟩, hp, rfl⟩ := List.mem_map.1 hm
        have hrx := HR2.out _ hp
        have HS := hide (fun (W : World) (hoW : Only [] wr W) => (share_is (HF2.out.quiet hoW) hp (by have := hrx.1; dsimp only at this ⊢; omega) (by have := hrx.2; dsimp only at this ⊢; omega)).mono (R' := fun e w' => e = .returned (.tuple #[]) ∧ IsTa w' t f T ∧ IsFi w' f m (forkN O T (i + 1)) ∧ RefB (forkN O T (i + 1)) (B + (i + 1 : Nat)) ∧ Only [m] w w') (fun e w' ⟨q1, q2, q3⟩ =>
          ⟨q1, (HT2.out.quiet hoW).only q3 (by simpa using HTM.out.2), by rw [HE.out, shareO_yes HF2.out.nd hp]; exact q2, by rw [HE.out]; have := HR2.out.share (k := y'); rwa [show B + (i : Int) + 1 = B + ((i + 1 : Nat) : Int) by omega] at this, (HO.out.trans (hoW.mono (by simp))).trans q3⟩))
        have HCW := hide (fun (W : World) (hoW : Only [] wr W) => (HT2.out.quiet hoW).c0)
        clear hm hp hrx
        dsimp only at *
        go_wp2_with (first | (go_at_call 40; refine HH.out.mono ?_; rintro e w2 ⟨rfl, ho2⟩; have c2 := HCW.out _ ho2; have HO2 := hide ho2; clear ho2) | (go_at_call 42; refine (HS.out _ HO2.out).mono ?_; rintro e w3 ⟨rfl, q⟩; have HQ := hide q; clear q))
        go_roundw
        case rel => exact ⟨i + 1, hlt, by go_num, HQ.out⟩
        case measure => simp [intOf]; omega
      · rw [show hasB (forkN O T i) y = false from decide_eq_false hm] at HH
        have HM := hide (shareO_no hm)
        clear hm
        go_wp2_with (go_at_call 40; refine HH.out.mono ?_; rintro e w2 ⟨rfl, ho2⟩; have HO2 := hide ho2; clear ho2)
        go_roundw
        case rel => exact ⟨i + 1, hlt, by go_num, HT2.out.quiet HO2.out, by rw [HE.out, HM.out]; exact HF2.out.quiet HO2.out, by rw [HE.out, HM.out]; exact fun p hp => ⟨(HR2.out p hp).1, by have := (HR2.out p hp).2; omega⟩, HO.out.trans (HO2.out.mono (by simp))⟩
        case measure => simp [intOf]; omega
    · obtain rfl : i = 16 := by omega
      obtain ⟨a0, a1, a2, a3, a4, a5, a6, a7, a8, a9, b0, b1, b2, b3, b4, b5, rfl⟩ := len16 HL.out
      have q0 : wr.cell? ⟨t, 1, none⟩ = some (.int .i64 a0) := ht.ci (i := 0) (by omega)
      have q1 : wr.cell? ⟨t, 2, none⟩ = some (.int .i64 a1) := ht.ci (i := 1) (by omega)
      have q2 : wr.cell? ⟨t, 3, none⟩ = some (.int .i64 a2) := ht.ci (i := 2) (by omega)
      have q3 : wr.cell? ⟨t, 4, none⟩ = some (.int .i64 a3) := ht.ci (i := 3) (by omega)
      have q4 : wr.cell? ⟨t, 5, none⟩ = some (.int .i64 a4) := ht.ci (i := 4) (by omega)
      have q5 : wr.cell? ⟨t, 6, none⟩ = some (.int .i64 a5) := ht.ci (i := 5) (by omega)
      have q6 : wr.cell? ⟨t, 7, none⟩ = some (.int .i64 a6) := ht.ci (i := 6) (by omega)
      have q7 : wr.cell? ⟨t, 8, none⟩ = some (.int .i64 a7) := ht.ci (i := 7) (by omega)
      have q8 : wr.cell? ⟨t, 9, none⟩ = some (.int .i64 a8) := ht.ci (i := 8) (by omega)
      have q9 : wr.cell? ⟨t, 10, none⟩ = some (.int .i64 a9) := ht.ci (i := 9) (by omega)
      have q10 : wr.cell? ⟨t, 11, none⟩ = some (.int .i64 b0) := ht.ci (i := 10) (by omega)
      have q11 : wr.cell? ⟨t, 12, none⟩ = some (.int .i64 b1) := ht.ci (i := 11) (by omega)
      have q12 : wr.cell? ⟨t, 13, none⟩ = some (.int .i64 b2) := ht.ci (i := 12) (by omega)
      have q13 : wr.cell? ⟨t, 14, none⟩ = some (.int .i64 b3) := ht.ci (i := 13) (by omega)
      have q14 : wr.cell? ⟨t, 15, none⟩ = some (.int .i64 b4) := ht.ci (i := 14) (by omega)
      have q15 : wr.cell? ⟨t, 16, none⟩ = some (.int .i64 b5) := ht.ci (i := 15) (by omega)
      have HF2 := hide hf
      have HR2 := hide hr
      have HT2 := hide ht
      clear ht hf hr ho HC HT HR HF
      go_wp2_with fail
      go_region
      all_goals go_wp2
      go_ret2
      refine ⟨wr.heap.size, HO.out.size, rfl, ⟨(Blk.new wr 62 (tabC f [a0, a1, a2, a3, a4, a5, a6, a7, a8, a9, b0, b1, b2, b3, b4, b5]).toArray).drew, rfl, HT2.out.rng⟩, HT2.out.quiet (((Only.refl _ _).alloc _).drew), HF2.out.quiet (((Only.refl _ _).alloc _).drew), HR2.out, HO.out.trans (((Only.refl _ _).alloc _).drew)⟩
end
end Go.Proofs.Ytfplfpfnlffnjaa
