/-
  Frames (parapet/frame): free (slices.Concat, slices.Grow), blank (slices.ContainsFunc over bytes).
-/
import Derived.Test.YtfbegickdnjfcaaFrLook
import Derived.Lib.AppendZeros
namespace Go.Proofs.Ytfbegickdnjfcaa
open Go.ChangeShapes Go.WideShapes Go.ChangeAt Go.RowKit
set_option linter.unusedVariables false

theorem blank1_no (w : World) : Calls Try.prog 53 #[.int .u8 0] w fun e w' => e = .returned (.bool false) ∧ w = w' := by
  go_enter Try.func53, Try.ntmps53
  go_wp2
  go_ret
  exact ⟨rfl, rfl⟩
theorem right1_no (w : World) : Calls Try.prog 41 #[.int .i64 1] w fun e w' => e = .returned (.bool false) ∧ w = w' := by
  go_enter Try.func41, Try.ntmps41
  go_wp2
  go_ret
  exact ⟨rfl, rfl⟩

theorem idxB_none (w : World) (A : Option Addr) (n c : Nat) (hn : n ≤ 1000000) (h : 0 < n → ∃ b o, A = some ⟨b, o, none⟩ ∧ ∀ i, i < n → w.cell? ⟨b, o + i, none⟩ = some (.int .u8 0)) :
    Calls Try.prog 61 #[.slice A n c, .func (.func 53) #[] #[]] w fun e w' => e = .returned (.int .i64 (-1)) ∧ w = w' := by
  have H := hide h
  clear h
  go_enter Try.func61, Try.ntmps61
  go_wp2
  go_loopw [8] (fun i wr => ∃ k : Nat, k ≤ n ∧ i = .int .i64 k ∧ wr = w) (fun i _ => n - (intOf i).toNat)
  case atStart => exact ⟨0, Nat.zero_le _, rfl, rfl⟩
  case round =>
    obtain ⟨k, hk, rfl, rfl⟩ := hrel
    by_cases hlt : k < n
    · obtain ⟨b, o, rfl, hc⟩ := H.out (by omega)
      have hck := hc k hlt
      clear hc
      go_wp2_with (go_at_call 53; refine (blank1_no _).mono ?_; rintro e w' ⟨rfl, rfl⟩)
      go_roundw
      case rel => exact ⟨k + 1, hlt, by go_num, trivial⟩
      case measure => simp [intOf]; omega
    · go_wp2
      go_ret
      exact ⟨rfl, rfl⟩

theorem idxI_none (w : World) (A : Option Addr) (n c : Nat) (hn : n ≤ 1000000) (h : 0 < n → ∃ b o, A = some ⟨b, o, none⟩ ∧ ∀ i, i < n → w.cell? ⟨b, o + i, none⟩ = some (.int .i64 1)) :
    Calls Try.prog 54 #[.slice A n c, .func (.func 41) #[] #[]] w fun e w' => e = .returned (.int .i64 (-1)) ∧ w = w' := by
  have H := hide h
  clear h
  go_enter Try.func54, Try.ntmps54
  go_wp2
  go_loopw [8] (fun i wr => ∃ k : Nat, k ≤ n ∧ i = .int .i64 k ∧ wr = w) (fun i _ => n - (intOf i).toNat)
  case atStart => exact ⟨0, Nat.zero_le _, rfl, rfl⟩
  case round =>
    obtain ⟨k, hk, rfl, rfl⟩ := hrel
    by_cases hlt : k < n
    · obtain ⟨b, o, rfl, hc⟩ := H.out (by omega)
      have hck := hc k hlt
      clear hc
      go_wp2_with (go_at_call 41; refine (right1_no _).mono ?_; rintro e w' ⟨rfl, rfl⟩)
      go_roundw
      case rel => exact ⟨k + 1, hlt, by go_num, trivial⟩
      case measure => simp [intOf]; omega
    · go_wp2
      go_ret
      exact ⟨rfl, rfl⟩

theorem hasB_none (w : World) (A : Option Addr) (n c : Nat) (hn : n ≤ 1000000) (h : 0 < n → ∃ b o, A = some ⟨b, o, none⟩ ∧ ∀ i, i < n → w.cell? ⟨b, o + i, none⟩ = some (.int .u8 0)) :
    Calls Try.prog 52 #[.slice A n c, .func (.func 53) #[] #[]] w fun e w' => e = .returned (.bool false) ∧ w = w' := by
  have H := hide (idxB_none w A n c hn h)
  clear h
  go_enter Try.func52, Try.ntmps52
  go_wp2_with (go_at_call 61; refine H.out.mono ?_; rintro e w' ⟨rfl, rfl⟩)
  go_ret
  exact ⟨rfl, rfl⟩
theorem hasI_none (w : World) (A : Option Addr) (n c : Nat) (hn : n ≤ 1000000) (h : 0 < n → ∃ b o, A = some ⟨b, o, none⟩ ∧ ∀ i, i < n → w.cell? ⟨b, o + i, none⟩ = some (.int .i64 1)) :
    Calls Try.prog 40 #[.slice A n c, .func (.func 41) #[] #[]] w fun e w' => e = .returned (.bool false) ∧ w = w' := by
  have H := hide (idxI_none w A n c hn h)
  clear h
  go_enter Try.func40, Try.ntmps40
  go_wp2_with (go_at_call 54; refine H.out.mono ?_; rintro e w' ⟨rfl, rfl⟩)
  go_ret
  exact ⟨rfl, rfl⟩

/-- A frame's bytes are all 0. -/
def ZeroAt (xs : List Int) (x : Nat) : Prop := ∀ j, j < 256 → gb xs (256 * x + j) = 0

theorem blank_yes {w : World} {t g d cap : Nat} {xs : List Int} {r : List Value} {first harts : Nat} {v : Nat → Value} {ns : Nat → List Int}
    (F : IsFr w t g d cap xs r first harts v ns) (x : Int) (k : Nat) (hxk : x = first + k) (hk : k < (ns 2).length) (hz : ZeroAt xs (first + k)) :
    Calls Try.prog 39 #[.pointer (some ⟨t, 0, none⟩), .int .i64 x] w fun e w' => e = .returned (.bool true) ∧ Only [] w w' := by
  have hc0 := F.cell 0 (by decide)
  rw [F.v0] at hc0
  have hfit : 256 * (first + k) + 256 ≤ xs.length := by have := F.fit; omega
  have HG := hide ((getframe_ok F.mem x (by omega) (by omega)).mono (R' := fun e w' => ∃ A n c, e = .returned (.tuple #[.slice A n c, .int .i64 0]) ∧ n ≤ 1000000 ∧ (0 < n → ∃ b o, A = some ⟨b, o, none⟩ ∧ ∀ i, i < n → w'.cell? ⟨b, o + i, none⟩ = some (.int .u8 0)) ∧ Only [] w w') (by
    rintro e w' ⟨v', he, ⟨d2, c, r2, hv, _, hb, _⟩, ho⟩
    have hl : ((xs.drop (256 * x.toNat)).take 256).length = 256 := by rw [List.length_take, List.length_drop]; omega
    refine ⟨some ⟨d2, 0, none⟩, 256, c, by rw [he, hv, hl], by decide, fun _ => ⟨d2, 0, rfl, fun i hi => ?_⟩, ho⟩
    rw [Nat.zero_add, hb.cell, u8l_get _ _ _ (by rw [hl]; exact hi), gb_cut _ _ _ _ hi, show x.toNat = first + k by omega, hz i hi]))
  clear F hz hxk hk hfit
  go_enter Try.func39, Try.ntmps39
  go_wp2_with fail
  refine HG.out.mono ?_
  rintro e w1 ⟨A, n, c, rfl, hn, hc, ho⟩
  have HH := hide (hasB_none w1 A n c hn hc)
  have HO := hide ho
  clear hc ho
  go_wp2_with (go_at_call 52; refine HH.out.mono ?_; rintro e w' ⟨rfl, rfl⟩)
  go_ret
  exact ⟨rfl, HO.out⟩

theorem grownCap_lt (w : World) (need old : Nat) (e : TypeId) (h : need ≤ 4000000) : grownCap w need old e ≤ maxLen := by
  unfold grownCap Question.cut maxLen
  have := Nat.mod_lt (w.tape w.drawn (.appendCap need old e)) (show 0 < 2 ^ 63 - need by omega)
  show need + _ ≤ _
  omega

theorem krow_rebase {k : IntKind} {e : TypeId} {w : World} {B B' : Nat} {v : Value} {ns : List Int} (h : KRow k e w B v ns) (hb : ∀ q, v.ownBlock = some q → B' ≤ q) : KRow k e w B' v ns := by
  obtain ⟨hl, h⟩ := h
  refine ⟨hl, ?_⟩
  rcases h with hn | ⟨q, cap, cur, rfl, _, rest⟩
  · exact .inl hn
  · exact .inr ⟨q, cap, cur, rfl, hb q rfl, rest⟩

theorem grow_nought (w : World) : Calls Try.prog 60 #[.slice none 0 0, .int .i64 0] w fun e w' => e = .returned (.slice none 0 0) ∧ w = w' := by
  go_enter Try.func60, Try.ntmps60
  go_wp2
  go_ret
  exact ⟨rfl, rfl⟩
set_option maxRecDepth 100000 in
theorem grow_new (w : World) (n : Nat) (h0 : 0 < n) (hn : n ≤ 4000000) : Calls Try.prog 60 #[.slice none 0 0, .int .i64 n] w fun e w' => NewRow w w' e [] := by
  obtain ⟨i0, hi0, hz0, hz1, hz2⟩ := info_parts info_int
  have HR := hide (fun ty => Lib.run_append_nil_zeros (P := Try.prog) w 46 3 ty 3 i0 _ .i64 .i64 Try.underlying46 Try.underlying3 hi0 hz0 n h0 (by rw [hz1]; decide) (by omega) (by rw [hz2]; omega))
  obtain ⟨c, hc⟩ : ∃ c, grownCap w n 0 3 = c := ⟨_, rfl⟩
  have hcm := grownCap_lt w n 0 3 hn
  have hcn := grownCap_ge w n 0 3
  rw [hc] at HR hcm hcn
  have HF := hide (show KRow .i64 3 (w.drew.alloc (.cells (Builtin.zeroCells (Value.int .i64 0).cells n ++ Builtin.zeroCells (Value.int .i64 0).cells (c - n)) 3)) w.heap.size (.slice (some ⟨w.heap.size, 0, none⟩) 0 c) [] from
    ⟨by simp, .inr ⟨w.heap.size, c, _, rfl, Nat.le_refl _, Blk.new w.drew _ _, by simp, hcm, by simp [Builtin.zeroCells, Value.cells]; omega, by simp⟩⟩)
  have HO := hide (((Only.refl [] w).drew).alloc (.cells (Builtin.zeroCells (Value.int .i64 0).cells n ++ Builtin.zeroCells (Value.int .i64 0).cells (c - n)) 3))
  generalize (w.drew.alloc (.cells (Builtin.zeroCells (Value.int .i64 0).cells n ++ Builtin.zeroCells (Value.int .i64 0).cells (c - n)) 3)) = w1 at HR HF HO
  unfold maxLen at hcm
  clear hc
  go_enter Try.func60, Try.ntmps60
  go_wp2_with (at_builtin; refine Lib.wpList_append_run _ rfl _ _ _ _ rfl _ _ rfl rfl _ _ (HR.out _) ?_)
  go_ret
  exact ⟨_, rfl, HF.out, HO.out⟩
theorem grow_any (w : World) (n : Nat) (hn : n ≤ 4000000) : Calls Try.prog 60 #[.slice none 0 0, .int .i64 n] w fun e w' => NewRow w w' e [] := by
  rcases Nat.eq_zero_or_pos n with rfl | h0
  · exact (grow_nought w).mono fun e w' ⟨h1, h2⟩ => ⟨_, h1, KRow.nil _ _ _ _, by rw [h2]; exact Only.refl _ _⟩
  · exact grow_new w n h0 hn

/-- The first k lists, end to end. -/
def catL (ns : Nat → List Int) : Nat → List Int
  | 0 => []
  | k + 1 => catL ns k ++ ns (4 + k)
theorem catL_le (ns : Nat → List Int) (hs : ∀ o, Slot o → (ns o).length ≤ 4096) : ∀ k, k ≤ 8 → (catL ns k).length ≤ 4096 * k
  | 0, _ => by simp [catL]
  | k + 1, h => by
    have := catL_le ns hs k (by omega)
    have := hs (4 + k) (by unfold Slot; omega)
    rw [catL, List.length_append]; omega

section
variable {w w' : World} {t g d cap : Nat} {xs : List Int} {r : List Value} {first harts : Nat} {v : Nat → Value} {ns : Nat → List Int}

theorem IRow.news {w : World} {A : Option Addr} {n c : Nat} {ns : List Int} (h : IRow w (.slice A n c) ns) : ∀ ad, A = some ad → ∀ j u, (i64l ns)[j]? = some u → w.cell? (ad.add j) = some u := by
  rintro ad rfl j u hu
  rcases h.2 with ⟨e, _⟩ | ⟨b, cap, cur, e, hB, hg, hnc, hm, hs, ht⟩
  · cases e
  · injection e with e1 e2 e3
    injection e1 with e1
    subst e1
    rw [Nat.mul_one] at ht
    have hj : j < ns.length := by
      have := (List.getElem?_eq_some_iff.1 hu).1
      rwa [i64l_length] at this
    rw [add_at, Nat.zero_add, Blk.cell (t := 3) hg, ← hu, show i64l ns = _ from ht.symm, List.getElem?_take]
    simp [hj]

def CatRel (w : World) (t : Nat) (ns : Nat → List Int) (nv iv : Value) (wr : World) : Prop :=
  ∃ k : Nat, k ≤ 8 ∧ iv = .int .i64 k ∧ KRow .i64 3 wr w.heap.size nv (catL ns k) ∧ Only [] w wr

set_option maxHeartbeats 1000000 in
theorem concat_is (R : RowsAt w t v ns) (hs : ∀ o, Slot o → (ns o).length ≤ 4096) : Calls Try.prog 51 #[.slice (some ⟨t, 4, none⟩) 8 8] w fun e w' => NewRow w w' e (catL ns 8) := by
  have HR := hide R
  have HS := hide hs
  clear R hs
  go_enter Try.func51, Try.ntmps51
  go_wp2
  go_loopw [3, 11] (fun nv iv wr => ∃ k : Nat, k ≤ 8 ∧ iv = .int .i64 k ∧ nv = .int .i64 (catL ns k).length ∧ wr = w) (fun _ iv _ => 8 - (intOf iv).toNat)
  case atStart => exact ⟨0, by decide, rfl, rfl, rfl⟩
  case round =>
    obtain ⟨k, hk, rfl, rfl, rfl⟩ := hrel
    have hsk := catL_le ns HS.out k hk
    by_cases hlt : k < 8
    · obtain ⟨A, c, hA, _⟩ := (HR.out.row (4 + k) (by unfold Slot; omega)).form
      have hck := HR.out.cell (4 + k) (by omega)
      rw [hA] at hck
      have hs1 := HS.out (4 + k) (by unfold Slot; omega)
      have HE := hide (show (((catL ns (k + 1)).length : Nat) : Int) = ((catL ns k).length : Int) + (ns (4 + k)).length by rw [catL, List.length_append]; omega)
      clear hA
      go_wp2
      go_roundw
      case rel => exact ⟨k + 1, by omega, by go_num, by rw [HE.out], trivial⟩
      case measure => simp [intOf]; omega
    · obtain rfl : k = 8 := by omega
      have HG := hide (grow_any wr (catL ns 8).length (by omega))
      generalize (catL ns 8).length = L at *
      rw [show ((8 : Nat) : Int) = 8 from rfl]
      obtain ⟨W, rfl⟩ : ∃ W : World, W = wr := ⟨_, rfl⟩
      go_wp2_with (go_at_call 60; refine HG.out.mono ?_; rintro e w1 ⟨v1, rfl, hr1, ho1⟩; have HR1 := hide hr1; have HO1 := hide ho1; clear hr1 ho1)
      go_loopw [6, 27] (fun nv iv w2 => CatRel W t ns nv iv w2) (fun _ iv _ => 8 - (intOf iv).toNat)
      case atStart => exact ⟨0, by decide, rfl, HR1.out, HO1.out⟩
      case round =>
        clear HR1 HO1 HG
        obtain ⟨k, hk, rfl, hr, ho⟩ := hrel
        by_cases hlt : k < 8
        · have hsl : Slot (4 + k) := by unfold Slot; omega
          have hsk := catL_le ns HS.out k hk
          have hs1 := HS.out (4 + k) hsl
          have R2 := HR.out.only ho (by simp) (by simp)
          obtain ⟨A, c, hA, hAn, q1, q2⟩ := (R2.row (4 + k) hsl).form2
          obtain ⟨An, cn, rfl, -⟩ := hr.form
          have hck := R2.cell (4 + k) (by omega)
          have hrow := R2.row (4 + k) hsl
          rw [hA] at hck hrow
          have HNW := hide hrow.news
          have HAN := hide hAn
          have HRN := hide (show IRow wr _ _ from krow_rebase hr (fun _ _ => Nat.zero_le _))
          have HBIG := hide (show (catL ns k).length + (ns (4 + k)).length < 4000000000000 by omega)
          have HFIN := hide (fun (v5 : Value) (w5 : World) (h1 : IRow w5 v5 (catL ns k ++ ns (4 + k))) (h2 : Only (Value.slice An (catL ns k).length cn).ownBlock.toList wr w5) (h3 : ∀ q, v5.ownBlock = some q → (Value.slice An (catL ns k).length cn).ownBlock = some q ∨ wr.heap.size ≤ q) =>
            (show (∃ A5 c5, v5 = .slice A5 ((catL ns k).length + (ns (4 + k)).length) c5) ∧ KRow .i64 3 w5 W.heap.size v5 (catL ns (k + 1)) ∧ Only [] W w5 from by
              obtain ⟨A5, c5, e5, -⟩ := h1.form
              refine ⟨⟨A5, c5, by rw [e5, List.length_append]⟩, krow_rebase h1 (fun q hq => ?_), ho.trans' h2 (fun q hq hm => ?_)⟩
              · rcases h3 q hq with h | h
                · exact (hr.at_ h).1
                · exact Nat.le_trans ho.size h
              · have := (hr.at_ (mem_own.1 hm)).1
                omega))
          clear R2 hA hrow hr ho hAn q1 q2 HS
          go_wp2_with (at_builtin; refine wpList_append_any rfl _ _ rfl (.slice An (catL ns k).length cn) (catL ns k) rfl HRN.out A (ns (4 + k)).length c rfl HAN.out (ns (4 + k)) rfl HNW.out HBIG.out ?_; intro v5 w5 h1 h2 h3; obtain ⟨⟨A5, c5, rfl⟩, k1, k2⟩ := HFIN.out v5 w5 h1 h2 h3; have HK := hide (And.intro k1 k2); clear h1 h2 h3 k1 k2)
          go_roundw
          case rel => exact ⟨k + 1, by omega, by go_num, HK.out.1, HK.out.2⟩
          case measure => simp [intOf]; omega
        · obtain rfl : k = 8 := by omega
          obtain ⟨An, cn, rfl, -⟩ := hr.form
          have HN := hide (show NewRow W wr (.returned (.slice An (catL ns 8).length cn)) (catL ns 8) from ⟨_, rfl, hr, ho⟩)
          clear hr ho
          rw [show ((8 : Nat) : Int) = 8 from rfl]
          go_wp2
          go_ret
          exact HN.out
/-- All free frames. -/
def freeL (ns : Nat → List Int) : List Int := catL ns 8 ++ ns 12

set_option maxHeartbeats 2000000 in
theorem freeL_is (F : IsFr w t g d cap xs r first harts v ns) (hs : ∀ o, Slot o → (ns o).length ≤ 4096) : Calls Try.prog 38 #[.pointer (some ⟨t, 0, none⟩)] w fun e w' => NewRow w w' e (freeL ns) := by
  have h12 : Slot 12 := by unfold Slot; omega
  have hc := F.cell 12 (by decide)
  obtain ⟨A, c, hv, hA, q1, q2⟩ := (F.rows.row 12 h12).form2
  rw [hv] at hc
  have HC := hide (fun n => (concat_is (F.drewN n).rows hs).mono (R' := fun e w1 => ∃ A1 c1, e = .returned (.slice A1 (catL ns 8).length c1) ∧ w1.cell? ⟨t, 12, none⟩ = some (.slice A (ns 12).length c) ∧ Hid (IRow w1 (.slice A1 (catL ns 8).length c1) (catL ns 8)) ∧ Hid (∀ ad, A = some ad → ∀ j u, (i64l (ns 12))[j]? = some u → w1.cell? (ad.add j) = some u) ∧ Hid ((∀ q, (Value.slice A1 (catL ns 8).length c1).ownBlock = some q → w.heap.size ≤ q) ∧ Only [] w w1)) (by
    rintro e w1 ⟨v1, he, hr1, ho1⟩
    obtain ⟨A1, c1, rfl, -⟩ := hr1.form
    have ho : Only [] w w1 := ((Only.refl [] w).drewN n).trans ho1
    have R1 := F.rows.only ho (by simp) (by simp)
    have hr12 := R1.row 12 h12
    rw [hv] at hr12
    exact ⟨A1, c1, he, by rw [R1.cell 12 (by decide), hv], krow_rebase hr1 (fun _ _ => Nat.zero_le _), hr12.news, fun q hq => (hr1.at_ hq).1, ho⟩))
  have hb1 := catL_le ns hs 8 (by decide)
  have hb2 := hs 12 h12
  have HBIG := hide (show (catL ns 8).length + (ns 12).length < 4000000000000 by omega)
  have HA := hide hA
  clear F hv hA hs
  go_enter Try.func38, Try.ntmps38
  go_wp2
  go_region_law (first | (refine step_append_any rfl _ _ rfl (.slice A1 (catL ns 8).length c1) (catL ns 8) (by simp [Act.eval]) HRN.out A (ns 12).length c (by simp [Act.eval]) HA.out (ns 12) rfl HNW.out HBIG.out ?_; intro v5 w5 h1 h2 h3) | (go_simp; go_at_call 51; refine (HC.out _).mono ?_; rintro e w1 ⟨A1, c1, rfl, hc1, HRN, HNW, HO⟩))
  all_goals
    have HN := hide (show NewRow w w5 (.returned v5) (freeL ns) from ⟨_, rfl, krow_rebase h1 (fun q hq => (h3 q hq).elim (HO.out.1 q) (fun h => Nat.le_trans HO.out.2.size h)), HO.out.2.trans' h2 (fun q hq hm => by have := HO.out.1 q (mem_own.1 hm); omega)⟩)
    clear h1 h2 h3 HO HNW HRN
    go_wp2
    go_ret
    exact HN.out
end
end Go.Proofs.Ytfbegickdnjfcaa
