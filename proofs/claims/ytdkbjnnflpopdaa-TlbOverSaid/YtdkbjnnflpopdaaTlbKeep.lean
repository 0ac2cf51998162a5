/-
  Translations (parapet/tlb): Kept, whole.
-/
import Derived.Test.YtdkbjnnflpopdaaTlbIns2
namespace Go.Proofs.Ytdkbjnnflpopdaa
open Go.ChangeShapes Go.WideShapes Go.ChangeAt Go.RowKit Go.Maps Go.Shelf
set_option linter.unusedVariables false

theorem ins_zero (A : Option Addr) (c : Nat) (f : Value) (w : World) : Calls Try.prog 68 #[.slice A 0 c, .int .i64 0, .int .i64 0, f] w fun e w' => e = .returned (.tuple #[]) ∧ w = w' := by
  go_enter Try.func68, Try.ntmps68
  go_wp2
  refine wp_loop_rounds 1 ?_
  rw [rounds_succ]
  go_wp2
  exact bodyPost_end (results_none rfl _ _ _) rfl ⟨rfl, rfl⟩

theorem pdq_zero (A : Option Addr) (c : Nat) (x : Int) (f : Value) (w : World) : Calls Try.prog 62 #[.slice A 0 c, .int .i64 0, .int .i64 0, .int .i64 x, f] w fun e w' => e = .returned (.tuple #[]) ∧ w = w' := by
  go_enter Try.func62, Try.ntmps62
  go_wp2
  refine wp_loop_rounds 1 ?_
  rw [rounds_succ]
  go_wp2_with (go_at_call 68; refine (ins_zero _ _ _ _).mono ?_; rintro e w' ⟨rfl, rfl⟩)
  exact bodyPost_ret (results_none rfl _ _ _) rfl ⟨rfl, rfl⟩

theorem sortFunc_zero (A : Option Addr) (c : Nat) (f : Value) (w : World) : Calls Try.prog 47 #[.slice A 0 c, f] w fun e w' => e = .returned (.tuple #[]) ∧ Only [] w w' := by
  go_enter Try.func47, Try.ntmps47
  go_wp2_with (first | (go_at_call 45; refine (Try.bits_Len _ _ (by decide) (by decide)).mono ?_; rintro e w' ⟨rfl, h⟩) | (go_at_call 62; refine (pdq_zero _ _ _ _ _).mono ?_; rintro e w' ⟨rfl, rfl⟩))
  exact bodyPost_end (results_none rfl _ _ _) rfl ⟨rfl, Only.refl _ _⟩

section
variable {w : World} {b Bx g cap : Nat} {D : DataW Unit} {l : List (K2 × K2)} {ks : List K2} {rest : List Value}
def SortedTo (w : World) (g : Nat) (rest : List Value) (l : List (K2 × K2)) (ks : List K2) (w' : World) : Prop :=
  ∃ L : List K2, InOut (tau l) ks L ks.length ∧ KBlk w' g L rest ∧ Only [g] w w'

theorem pdq_small (x : Int) (hB : KBlk w g ks rest) (hm : w.cell? ⟨Bx, 0, none⟩ = some (.map (some b))) (hBl : Bx < w.heap.size) (hBg : Bx ≠ g) (hown : w.ownsMap Try.prog 33 elemF b l.length D) (hbg : b ≠ g) (H : Holds D l) (hks : ∀ k ∈ ks, ∃ f, (k, f) ∈ l) (hlen : ks.length ≤ 12) :
    Calls Try.prog 62 #[.slice (some ⟨g, 0, none⟩) ks.length cap, .int .i64 0, .int .i64 ks.length, .int .i64 x, cmpF Bx] w fun e w' => e = .returned (.tuple #[]) ∧ SortedTo w g rest l ks w' := by
  have HI := hide ((ins_is (cap := cap) hB hm hBl hBg hown hbg H hks (by omega)).mono (fun e w' h => (And.intro h.1 (show SortedTo w g rest l ks w' from h.2))))
  clear hB hm hown H hks
  have hn : (ks.length : Int) ≤ 12 := by omega
  unfold cmpF at HI ⊢
  generalize ks.length = n at *
  go_enter Try.func62, Try.ntmps62
  go_wp2
  refine wp_loop_rounds 1 ?_
  rw [rounds_succ]
  go_wp2_with (go_at_call 68; refine HI.out.mono ?_; rintro e w' ⟨rfl, hh⟩; have HE := hide hh; clear hh HI)
  refine bodyPost_ret (results_none rfl _ _ _) rfl ?_
  exact ⟨rfl, HE.out⟩

theorem sortFunc_small (hB : KBlk w g ks rest) (hm : w.cell? ⟨Bx, 0, none⟩ = some (.map (some b))) (hBl : Bx < w.heap.size) (hBg : Bx ≠ g) (hown : w.ownsMap Try.prog 33 elemF b l.length D) (hbg : b ≠ g) (H : Holds D l) (hks : ∀ k ∈ ks, ∃ f, (k, f) ∈ l) (hlen : ks.length ≤ 12) :
    Calls Try.prog 47 #[.slice (some ⟨g, 0, none⟩) ks.length cap, cmpF Bx] w fun e w' => e = .returned (.tuple #[]) ∧ SortedTo w g rest l ks w' := by
  have HP := hide (fun x => pdq_small (cap := cap) x hB hm hBl hBg hown hbg H hks hlen)
  clear hB hm hown H hks
  have hn : (ks.length : Int) ≤ 12 := by omega
  unfold cmpF at HP ⊢
  generalize ks.length = n at *
  go_enter Try.func47, Try.ntmps47
  go_wp2_with (first | (go_at_call 45; refine (Try.bits_Len _ _ (by omega) (by omega)).mono ?_; rintro e w' ⟨rfl, h⟩) | (go_at_call 62; refine (HP.out _).mono ?_; rintro e w' ⟨rfl, hh⟩; have HE := hide hh; clear hh HP))
  refine bodyPost_end (results_none rfl _ _ _) rfl ?_
  exact ⟨rfl, HE.out⟩

theorem inOut_eq {L : List K2} (ht : Turns l) (H : Holds D l) (h : InOut (tau l) ks L ks.length) (hk : ks.Perm (l.map (·.1))) : L = l.map (·.1) := by
  have hp := h.1.trans hk
  have e1 := h.1.length_eq
  refine List.Perm.eq_of_pairwise (le := fun a c => tau l a ≤ tau l c) ?_ ?_ ?_ hp
  · intro a c ha hc h1 h2
    obtain ⟨⟨a', fa⟩, ma, rfl⟩ := List.mem_map.1 (hp.mem_iff.1 ha)
    obtain ⟨⟨c', fc⟩, mc, rfl⟩ := List.mem_map.1 hc
    rw [tau_is H ma, tau_is H mc] at h1 h2
    have : fa.2 = fc.2 := by omega
    obtain ⟨i, hi, ei⟩ := List.mem_iff_getElem.1 ma
    obtain ⟨j, hj, ej⟩ := List.mem_iff_getElem.1 mc
    have hpw := List.pairwise_iff_getElem.1 ht
    rcases Nat.lt_trichotomy i j with hij | hij | hij
    · have := hpw i j hi hj hij
      rw [ei, ej] at this
      simp only at this
      omega
    · subst hij
      rw [ei] at ej
      injection ej with e _
    · have := hpw j i hj hi hij
      rw [ei, ej] at this
      simp only at this
      omega
  · rw [List.pairwise_iff_getElem]
    intro i j hi hj hij
    have := h.2 i j hij (by omega)
    unfold gk at this
    rwa [List.getD_eq_getElem?_getD, List.getD_eq_getElem?_getD, List.getElem?_eq_getElem hi, List.getElem?_eq_getElem hj] at this
  · rw [List.pairwise_map]
    refine List.Pairwise.imp_of_mem ?_ ht
    rintro ⟨a, fa⟩ ⟨c, fc⟩ ma mc hlt
    rw [tau_is H ma, tau_is H mc]
    exact Int.le_of_lt hlt

theorem sortFunc_row {B : Nat} {v : Value} (hR : GRow w B v ks) (hk : ks.Perm (l.map (·.1))) (ht : Turns l) (hm : w.cell? ⟨Bx, 0, none⟩ = some (.map (some b))) (hBl : Bx < w.heap.size) (hBg : Bx < B) (hown : w.ownsMap Try.prog 33 elemF b l.length D) (hbg : b < B) (H : Holds D l) (hlen : l.length ≤ 12) :
    Calls Try.prog 47 #[v, cmpF Bx] w fun e w' => e = .returned (.tuple #[]) ∧ GRow w' B v (l.map (·.1)) ∧ ∃ S, Only S w w' ∧ ∀ q ∈ S, B ≤ q := by
  have e1 := hk.length_eq
  rw [List.length_map] at e1
  by_cases h0 : ks.length = 0
  · have hks : ks = [] := List.eq_nil_of_length_eq_zero h0
    have hl : l.map (·.1) = [] := List.eq_nil_of_length_eq_zero (by rw [List.length_map]; omega)
    obtain ⟨A, c, hv, -⟩ := GRow.form hR
    rw [h0] at hv
    have : GRow w B v (l.map (·.1)) := by rw [hl]; rw [hks] at hR; exact hR
    rw [hv] at this ⊢
    refine (sortFunc_zero A c _ w).mono ?_
    rintro e w' ⟨rfl, h⟩
    exact ⟨rfl, this.only h (by simp), [], h, by simp⟩
  · obtain ⟨hl, ⟨e', hx⟩ | ⟨g, cap, cur, rfl, hb, hg, hn, hmx, hs, htk⟩⟩ := hR
    · exact absurd hx h0
    · have hg' : KBlk w g ks (cur.toList.drop (ks.length * 2)) := by
        show Blk w g 33 _
        rw [show (ks.flatMap kC ++ cur.toList.drop (ks.length * 2)).toArray = cur by rw [← htk, List.take_append_drop]]
        exact hg
      refine (sortFunc_small hg' hm hBl (by omega) hown (by omega) H (fun k hkk => ?_) (by omega)).mono ?_
      · obtain ⟨⟨k', f⟩, hm', rfl⟩ := List.mem_map.1 (hk.mem_iff.1 hkk)
        exact ⟨f, hm'⟩
      · rintro e w' ⟨rfl, L, hio, hkb, ho⟩
        have hLe := inOut_eq ht H hio hk
        subst hLe
        refine ⟨rfl, ⟨by rw [flat_len, List.length_map], .inr ⟨g, cap, _, by rw [List.length_map, e1], hb, hkb, by rw [List.length_map]; omega, hmx, ?_, ?_⟩⟩, [g], ho, by simpa using hb⟩
        · have := flat_len (l.map (·.1))
          rw [List.length_map] at this
          show ((l.map (·.1)).flatMap kC ++ cur.toList.drop (ks.length * 2)).length = cap * 2
          have e2 := Array.length_toList (xs := cur)
          rw [List.length_append, List.length_drop, this, e2, hs]
          omega
        · have := flat_len (l.map (·.1))
          rw [← this]
          simp

theorem sortedFunc_is (hBm : Bx < w.heap.size) (hm : w.cell? ⟨Bx, 0, none⟩ = some (.map (some b))) {Bm : Nat} (hBk : Bm < w.heap.size) (hmk : w.cell? ⟨Bm, 0, none⟩ = some (.map (some b))) (hown : w.ownsMap Try.prog 33 elemF b l.length D) (hbl : b < w.heap.size) (H : Holds D l) (ht : Turns l) (hlen : l.length ≤ 12) :
    Calls Try.prog 37 #[.func (.func 48) #[] #[.pointer (some ⟨Bm, 0, none⟩)], cmpF Bx] w fun e w' => ∃ v, e = .returned v ∧ GRow w' (w.heap.size + 1) v (l.map (·.1)) ∧ Only [] w w' := by
  have HC := hide (collect_is hBk hmk hown H (by omega))
  have HS := hide (fun (W : World) (hW : Below w.heap.size w W) (v : Value) (ks : List K2) (hR : GRow W (w.heap.size + 1) v ks) (hk : ks.Perm (l.map (·.1))) =>
    sortFunc_row hR hk ht ((hW.cell (p := ⟨Bx, 0, none⟩) hBm).trans hm) (Nat.lt_of_lt_of_le hBm hW.size) (by omega) (own_only hown (Only.of_below hW) (by simp)) (by omega) H hlen)
  clear hm hmk hown H ht
  go_enter Try.func37, Try.ntmps37
  go_wp2_with fail
  refine HC.out.mono ?_
  rintro e w1 ⟨v, ks, rfl, h1, h2, h3⟩
  have HF := hide (HS.out w1 h3 v ks h1 h2)
  have HB := hide h3
  clear HS HC h1 h2 h3
  unfold cmpF at HF ⊢
  go_wp2_with (go_at_call 47; refine HF.out.mono ?_; rintro e w2 ⟨rfl, h4⟩; have HE := hide h4; clear h4 HF)
  go_ret
  obtain ⟨h5, S, h6, h7⟩ := HE.out
  refine ⟨v, rfl, h5, Only.of_below (HB.out.trans ?_)⟩
  exact h6.below HB.out.size fun q hq => by have := h7 q hq; omega
end
section
variable {w w' : World} {t hb ob n size : Nat} {begun : Int} {bs : Nat → Nat} {ls : Nat → List (K2 × K2)} {nx : Nat → Int} {O : List (Int × Sh)} {S : List Nat}
set_option maxRecDepth 100000 in
theorem bKept_is (T : IsTlb w t hb ob n size begun bs ls nx O) (j : Nat) (hj : j < n) (hl : (ls j).length ≤ 12) :
    Calls Try.prog 18 #[.pointer (some ⟨t, 0, none⟩), .int .i64 j] w fun e w' => ∃ v, e = .returned v ∧ GRow w' w.heap.size v ((ls j).map (·.1)) ∧ Only [] w w' := by
  have HH := hide (show Calls Try.prog 32 #[.pointer (some ⟨t, 0, none⟩), .int .i64 j] w fun e w' => e = .returned (.bool true) ∧ w = w' from by
    have := bhas_is T j
    rwa [decide_eq_true (by omega)] at this)
  have hc0 : w.cell? ⟨t, 0, none⟩ = some (.slice (some ⟨hb, 0, none⟩) n n) := T.blk.cell 0
  have hcm : w.cell? ⟨hb, j * 2, none⟩ = some (.map (some (bs j))) := (T.row.cell _).trans (hRow_map hj)
  obtain ⟨D, hown, H⟩ := (T.hart j hj).own
  have hbl : bs j < w.heap.size := by
    obtain ⟨es, clock, h1, _⟩ := hown
    exact (Array.getElem?_eq_some_iff.1 h1).1
  have HSF := hide (sortedFunc_is (w := (w.alloc (.cells #[.map (some (bs j))] 59)).alloc (.cells #[.map (some (bs j))] 59)) (Bx := w.heap.size) (Bm := w.heap.size + 1) (by simp; omega) (Lib.cell?_alloc_some _ ((Blk.new w 59 #[.map (some (bs j))]).cell 0)) (by simp) (by
    have := (Blk.new (w.alloc (.cells #[.map (some (bs j))] 59)) 59 #[.map (some (bs j))]).cell 0
    rw [show (w.alloc (.cells #[.map (some (bs j))] 59)).heap.size = w.heap.size + 1 by simp] at this
    exact this) ((hown.alloc _).alloc _) (by simp; omega) H (T.hart j hj).turns hl)
  have hjn : (j : Int) < n := by omega
  clear T hown H
  unfold cmpF at HSF
  go_enter Try.func18, Try.ntmps18
  go_wp2_with (first | (go_at_call 32; refine HH.out.mono ?_; rintro e w' ⟨rfl, rfl⟩) | (go_at_call 38; refine (keys_new _ _).mono ?_; rintro e w' ⟨rfl, rfl⟩))
  refine HSF.out.mono ?_
  rintro e w3 ⟨v, rfl, h2, h3⟩
  have HO := hide (And.intro (grow_base h2 (B' := w.heap.size) (by simp; omega)) (show Only [] w w3 from (((Only.refl [] w).alloc _).alloc _).trans h3))
  clear h2 h3 HSF
  go_wp2
  go_ret
  exact ⟨v, rfl, HO.out⟩

theorem bKept_bad (T : IsTlb w t hb ob n size begun bs ls nx O) (h : Int) (hj : ¬ (0 ≤ h ∧ h < n)) :
    Calls Try.prog 18 #[.pointer (some ⟨t, 0, none⟩), .int .i64 h] w fun e w' => e = .returned (.slice none 0 0) ∧ Only [] w w' := by
  have HH := hide (show Calls Try.prog 32 #[.pointer (some ⟨t, 0, none⟩), .int .i64 h] w fun e w' => e = .returned (.bool false) ∧ w = w' from by
    have := bhas_is T h
    rwa [decide_eq_false hj] at this)
  clear T
  go_enter Try.func18, Try.ntmps18
  go_wp2_with (go_at_call 32; refine HH.out.mono ?_; rintro e w' ⟨rfl, rfl⟩)
  go_ret
  exact ⟨rfl, Only.refl _ _⟩
end
end Go.Proofs.Ytdkbjnnflpopdaa
