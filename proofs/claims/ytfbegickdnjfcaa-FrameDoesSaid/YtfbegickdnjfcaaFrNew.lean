/-
  Frames (parapet/frame): New.
-/
import Derived.Test.YtfbegickdnjfcaaFrOps
namespace Go.Proofs.Ytfbegickdnjfcaa
open Go.ChangeShapes Go.WideShapes Go.ChangeAt Go.RowKit
set_option linter.unusedVariables false

theorem fnew_nil (w : World) (a b c : Int) : Calls Try.prog 6 #[.pointer none, .int .i64 a, .int .i64 b, .int .i64 c] w fun e w' => e = .returned (.tuple #[.pointer none, .int .i64 1]) ∧ w = w' := by
  go_enter Try.func6, Try.ntmps6
  go_wp2
  go_ret2
  exact ⟨rfl, rfl⟩

theorem fnew_bad {w : World} {g d cap : Nat} {xs : List Int} {r : List Value} (hm : IsMem w g d cap xs r) (a b c : Int) (ha : a ≤ 9223372036854775807) (hbad : c < 1 ∨ 8 < c ∨ b < 1 ∨ a < 0 ∨ (xs.length : Int) / 256 < a ∨ (xs.length : Int) / 256 - a < b) :
    Calls Try.prog 6 #[.pointer (some ⟨g, 0, none⟩), .int .i64 a, .int .i64 b, .int .i64 c] w fun e w' => e = .returned (.tuple #[.pointer none, .int .i64 1]) ∧ w = w' := by
  have HF := hide (frames_is hm)
  have h3 := hm.big
  have hq0 : (0 : Int) ≤ (xs.length : Int) / 256 := by omega
  have hq1 : (xs.length : Int) / 256 ≤ 4096 := by omega
  clear hm h3
  generalize (xs.length : Int) / 256 = q at *
  have hn : ((some (⟨g, 0, none⟩ : Addr)) == none) = false := rfl
  by_cases c1 : c < 1
  · clear hbad
    go_enter Try.func6, Try.ntmps6
    go_wp2
    go_ret2
    exact ⟨rfl, rfl⟩
  · by_cases c8 : 8 < c
    · clear hbad
      go_enter Try.func6, Try.ntmps6
      go_wp2
      go_ret2
      exact ⟨rfl, rfl⟩
    · by_cases b1 : b < 1
      · clear hbad
        go_enter Try.func6, Try.ntmps6
        go_wp2
        go_ret2
        exact ⟨rfl, rfl⟩
      · by_cases a0 : a < 0
        · clear hbad
          go_enter Try.func6, Try.ntmps6
          go_wp2
          go_ret2
          exact ⟨rfl, rfl⟩
        · by_cases a1 : q < a
          · clear hbad
            go_enter Try.func6, Try.ntmps6
            go_wp2_with (go_at_call 17; refine HF.out.mono ?_; rintro e w' ⟨rfl, rfl⟩)
            go_ret2
            exact ⟨rfl, rfl⟩
          · have a2 : q - a < b := by omega
            clear hbad
            go_enter Try.func6, Try.ntmps6
            go_wp2_with (go_at_call 17; refine HF.out.mono ?_; rintro e w' ⟨rfl, rfl⟩)
            go_ret2
            exact ⟨rfl, rfl⟩

/-- The cells of a new one: counts in block a, common ones in block b. -/
def vNew (g first harts count a b : Nat) : Nat → Value := fun o =>
  if o = 0 then .pointer (some ⟨g, 0, none⟩) else if o = 1 then .int .i64 first else if o = 2 then .slice (some ⟨a, 0, none⟩) count count else if o = 3 then .int .i64 harts else if o = 12 then .slice (some ⟨b, 0, none⟩) count count else .slice none 0 0
/-- Its rows when k common ones are laid. -/
def nsNew (first count k : Nat) : Nat → List Int := fun o =>
  if o = 2 then List.replicate count 0 else if o = 12 then (List.range count).map fun i => if i < k then (first : Int) + i else 0 else []

theorem nsNew_set (first count k : Nat) (h : k < count) : upd (nsNew first count k) 12 ((nsNew first count k 12).set k ((first : Int) + k)) = nsNew first count (k + 1) := by
  funext o
  by_cases e : o = 12
  · subst e
    rw [upd_same]
    unfold nsNew
    rw [if_neg (by decide), if_pos rfl, if_neg (by decide), if_pos rfl]
    refine List.ext_getElem (by simp) fun j h1 h2 => ?_
    rw [List.getElem_set]
    by_cases e : k = j
    · subst e; simp
    · rw [if_neg e]
      have : (j < k) = (j < k + 1) := by simp; omega
      simp [this]
  · rw [upd_far _ _ e]
    unfold nsNew
    by_cases e2 : o = 2
    · rw [if_pos e2, if_pos e2]
    · rw [if_neg e2, if_neg e2, if_neg e, if_neg e]

theorem vNew_own {g first harts count a b o k : Nat} (h : (vNew g first harts count a b o).ownBlock = some k) : (o = 2 ∧ k = a) ∨ (o = 12 ∧ k = b) := by
  unfold vNew at h
  repeat' split at h
  all_goals first | (simp [Value.ownBlock] at h; done) | (simp [Value.ownBlock] at h; omega)

theorem start_fr {w : World} {g d cap t a b : Nat} {xs : List Int} {r : List Value} {first harts count : Nat} (hm : IsMem w g d cap xs r) (hu : U8 xs) (hh : 1 ≤ harts ∧ harts ≤ 8) (hc : 1 ≤ count) (hfit : 256 * (first + count) ≤ xs.length)
    (ht : Blk w t 57 (cells13 (vNew g first harts count a b))) (ha : Blk w a 3 (madeCells #[.int .i64 0] count)) (hb : Blk w b 3 (madeCells #[.int .i64 0] count)) (hab : a ≠ b) :
    IsFr w t g d cap xs r first harts (vNew g first harts count a b) (nsNew first count 0) := by
  have hbig : count ≤ 4096 := by have := hm.big; omega
  have hz : madeCells #[.int .i64 0] count = (i64l (List.replicate count 0) ++ []).toArray := by
    apply Array.ext'
    rw [toList_madeCells_one]
    simp [i64l]
  rw [hz] at ha hb
  have hcm : count ≤ maxLen := by unfold maxLen; omega
  have ra : IRow w (.slice (some ⟨a, 0, none⟩) count count) (List.replicate count 0) := by
    have := IRow.of_blk (cap := count) ha (by simp) hcm
    rwa [List.length_replicate] at this
  have rb : IRow w (.slice (some ⟨b, 0, none⟩) count count) (List.replicate count 0) := by
    have := IRow.of_blk (cap := count) hb (by simp) hcm
    rwa [List.length_replicate] at this
  have h12 : nsNew first count 0 12 = List.replicate count 0 := by
    unfold nsNew
    rw [if_neg (by decide), if_pos rfl]
    simp only [Nat.not_lt_zero, if_false]
    rw [List.map_const', List.length_range]
  refine ⟨⟨ht, fun o ho => ?_, fun o p k h1 h2 hne e1 e2 => ?_, fun o k h1 e => ?_⟩, rfl, rfl, rfl, hm, hu, hh, ?_⟩
  · by_cases e2 : o = 2
    · subst e2; exact ra
    · by_cases e12 : o = 12
      · subst e12; rw [h12]; exact rb
      · have e0 : o ≠ 0 ∧ o ≠ 1 ∧ o ≠ 3 := by unfold Slot at ho; omega
        have hv : vNew g first harts count a b o = .slice none 0 0 := by
          unfold vNew; rw [if_neg e0.1, if_neg e0.2.1, if_neg e2, if_neg e0.2.2, if_neg e12]
        have hn : nsNew first count 0 o = [] := by unfold nsNew; rw [if_neg e2, if_neg e12]
        rw [hv, hn]
        exact KRow.nil _ _ _ _
  · have k1 := vNew_own e1
    have k2 := vNew_own e2
    omega
  · have := vNew_own e
    unfold Slot; omega
  · show 256 * (first + (List.replicate count (0 : Int)).length) ≤ xs.length
    rw [List.length_replicate]; exact hfit

/-- What New leaves. -/
def FrNewed (w w' : World) (e : Ending) (g d cap len : Nat) (r : List Value) (first harts count : Nat) : Prop :=
  ∃ t v xs', e = .returned (.tuple #[.pointer (some ⟨t, 0, none⟩), .int .i64 0]) ∧ IsFr w' t g d cap xs' r first harts v (nsNew first count count) ∧ (∀ k, k ∈ footL t v → w.heap.size ≤ k) ∧ Only [d] w w' ∧ xs'.length = len ∧ ∀ k, k < count → ∀ j, j < 256 → gb xs' (256 * (first + k) + j) = 0

theorem gb_splice_zero (xs : List Int) (x j : Nat) (h : 256 * x + 256 ≤ xs.length) : gb (zeroF xs x) j = if 256 * x ≤ j ∧ j < 256 * x + 256 then 0 else gb xs j := by
  unfold zeroF Go.splice gb
  simp only [List.getD]
  by_cases h1 : j < 256 * x
  · rw [if_neg (by omega), List.getElem?_append_left (by rw [List.length_take]; omega), List.getElem?_take, if_pos h1]
  · rw [List.getElem?_append_right (by rw [List.length_take]; omega), List.length_take, Nat.min_eq_left (by omega)]
    by_cases h2 : j < 256 * x + 256
    · rw [if_pos (by omega), List.getElem?_append_left (by rw [List.length_replicate]; omega), List.getElem?_replicate, if_pos (by omega)]
      rfl
    · rw [if_neg (by omega), List.getElem?_append_right (by rw [List.length_replicate]; omega), List.length_replicate, List.getElem?_drop, show 256 * x + 256 + (j - 256 * x - 256) = j by omega]

/-- At New's loop. -/
def NewRel (w : World) (t g d cap len : Nat) (r : List Value) (first harts count : Nat) (v : Nat → Value) (iv : Value) (wr : World) : Prop :=
  ∃ (k : Nat) (ys : List Int), k ≤ count ∧ iv = .int .i64 k ∧ IsFr wr t g d cap ys r first harts v (nsNew first count k) ∧ Only [d] w wr ∧ ys.length = len ∧ ∀ q, q < k → ∀ j, j < 256 → gb ys (256 * (first + q) + j) = 0

set_option maxRecDepth 100000 in
set_option maxHeartbeats 2000000 in
theorem fnew_ok {w : World} {g d cap : Nat} {xs : List Int} {r : List Value} (hm : IsMem w g d cap xs r) (hu : U8 xs) (first harts count : Nat) (hh : 1 ≤ harts ∧ harts ≤ 8) (hc : 1 ≤ count) (hfit : 256 * (first + count) ≤ xs.length) (a b c : Int) (ea : a = first) (eb : b = count) (ec : c = harts) :
    Calls Try.prog 6 #[.pointer (some ⟨g, 0, none⟩), .int .i64 a, .int .i64 b, .int .i64 c] w fun e w' => FrNewed w w' e g d cap xs.length r first harts count := by
  have HF := hide (frames_is hm)
  have h3 := hm.big
  have hq0 : (first : Int) + count ≤ (xs.length : Int) / 256 := by omega
  have hq1 : (xs.length : Int) / 256 ≤ 4096 := by omega
  have hh1 := hh.1
  have hh2 := hh.2
  subst ea; subst eb; subst ec
  obtain ⟨i0, hi, hz0, hz1, hz2⟩ := info_parts info_int
  have hmk : ∀ u : World, (Instr.makeSlice 46 (.int .i64 (count : Int)) (.int .i64 (count : Int))).run Try.prog u =
      .ok (.slice (some ⟨u.heap.size, 0, none⟩) count count) (u.alloc (.cells (madeCells #[.int .i64 0] count) 3)) := fun u => by
    have h := run_make (P := Try.prog) u 46 3 i0 (.int .i64 0) Try.underlying46 hi hz0 .i64 .i64 (count : Int) (count : Int) (by omega) (Int.le_refl _) (by rw [hz2]; omega) (by omega)
    simpa [hz1, Value.cells] using h
  have HM := hide hm
  have HU := hide hu
  have HFIT := hide hfit
  have HH := hide hh
  clear hm hu hi hz0 hz1 hz2 h3 hfit hh
  generalize hq : (xs.length : Int) / 256 = q at *
  have HQ := hide hq
  clear hq
  have hd1 : decide ((harts : Int) < 1) = false := by simp; omega
  have hd2 : decide (8 < (harts : Int)) = false := by simp; omega
  have hd3 : decide ((count : Int) < 1) = false := by simp; omega
  have hd4 : decide ((first : Int) < 0) = false := by simp
  have hd5 : decide (q < (first : Int)) = false := by simp; omega
  have hd6 : decide (q - (first : Int) < (count : Int)) = false := by simp; omega
  have HS := hide (fun (w1 : World) (a b : Nat) (hab : (a = w.heap.size ∧ b = w.heap.size + 1) ∨ (a = w.heap.size + 1 ∧ b = w.heap.size))
      (e1 : w1 = (((w.alloc (.cells (madeCells #[.int .i64 0] count) 3)).alloc (.cells (madeCells #[.int .i64 0] count) 3)).alloc (.cells (cells13 (vNew g first harts count a b)) 57)).drew) =>
    (show ∃ v b, IsFr w1 (w.heap.size + 1 + 1) g d cap xs r first harts v (nsNew first count 0) ∧ v 12 = .slice (some ⟨b, 0, none⟩) count count ∧ (∀ k, k ∈ footL (w.heap.size + 1 + 1) v → w.heap.size ≤ k) ∧ Only [d] w w1 from by
      have h0 : Blk w1 w.heap.size 3 (madeCells #[.int .i64 0] count) := by
        rw [e1]; exact ((((Blk.new w 3 (madeCells #[.int .i64 0] count)).alloc _).alloc _).drew)
      have h1 : Blk w1 (w.heap.size + 1) 3 (madeCells #[.int .i64 0] count) := by
        rw [e1]
        have := ((Blk.new (w.alloc (.cells (madeCells #[.int .i64 0] count) 3)) 3 (madeCells #[.int .i64 0] count)).alloc (.cells (cells13 (vNew g first harts count a b)) 57)).drew
        simpa using this
      have h2 : Blk w1 (w.heap.size + 1 + 1) 57 (cells13 (vNew g first harts count a b)) := by
        rw [e1]
        have := (Blk.new ((w.alloc (.cells (madeCells #[.int .i64 0] count) 3)).alloc (.cells (madeCells #[.int .i64 0] count) 3)) 57 (cells13 (vNew g first harts count a b))).drew
        simpa using this
      have ho : Only [] w w1 := by rw [e1]; exact ((((Only.refl [] w).alloc _).alloc _).alloc _).drew
      have hma : IsMem w1 g d cap xs r := HM.out.only ho (by simp) (by simp)
      refine ⟨vNew g first harts count a b, b, start_fr hma HU.out HH.out hc HFIT.out h2 ?_ ?_ (by omega), rfl, fun k hk => ?_, ho.mono (by simp)⟩
      · rcases hab with ⟨rfl, _⟩ | ⟨rfl, _⟩
        · exact h0
        · exact h1
      · rcases hab with ⟨_, rfl⟩ | ⟨_, rfl⟩
        · exact h1
        · exact h0
      · rcases mem_footL.1 hk with rfl | ⟨o, _, e⟩
        · omega
        · have := vNew_own e; omega))
  go_enter Try.func6, Try.ntmps6
  go_wp2_with (go_at_call 17; refine HF.out.mono ?_; rintro e w' ⟨rfl, rfl⟩)
  go_region
  all_goals
    generalize hW : World.drew _ = w1
    obtain ⟨v, b, hF, hvb, hfo, hon⟩ := (show ∃ v b, IsFr w1 (w.heap.size + 1 + 1) g d cap xs r first harts v (nsNew first count 0) ∧ v 12 = .slice (some ⟨b, 0, none⟩) count count ∧ (∀ k, k ∈ footL (w.heap.size + 1 + 1) v → w.heap.size ≤ k) ∧ Only [d] w w1 from by
      first
        | exact HS.out w1 w.heap.size (w.heap.size + 1) (.inl ⟨rfl, rfl⟩) hW.symm
        | exact HS.out w1 (w.heap.size + 1) w.heap.size (.inr ⟨rfl, rfl⟩) hW.symm)
    have hc12 := hF.cell 12 (by decide)
    rw [hvb] at hc12
    have HF0 := hide hF
    have HVB := hide hvb
    have HFO := hide hfo
    have HON := hide hon
    clear hF hvb hfo hon hW HS HF HM HU HH hmk
    go_wp2
    go_loopw [56] (fun iv wr => NewRel w (w.heap.size + 1 + 1) g d cap xs.length r first harts count v iv wr) (fun iv _ => count - (intOf iv).toNat)
    case atStart => exact ⟨0, xs, Nat.zero_le _, rfl, HF0.out, HON.out, rfl, fun q hq => absurd hq (by omega)⟩
    case round =>
      clear HF0 HON hc12
      obtain ⟨k, ys, hk, rfl, hF, hon, hyl, hz⟩ := hrel
      have HF1 := hide hF
      have HON := hide hon
      have HYL := hide hyl
      have HZ0 := hide hz
      by_cases hlt : k < count
      · have hc12 := hF.cell 12 (by decide)
        rw [HVB.out] at hc12
        have hlk : k < (nsNew first count k 12).length := by simp [nsNew]; exact hlt
        obtain ⟨bb, cb, cur, hvb, hbb, _, _⟩ := (hF.rows.row 12 (by unfold Slot; omega)).blk (by omega)
        rw [HVB.out] at hvb
        injection hvb with e1 e2 e3
        injection e1 with e1
        injection e1 with e1
        subst e1
        clear e2 e3
        have hck : wr.cell? ⟨b, k, none⟩ = some (.int .i64 (gb (nsNew first count k 12) k)) := by rw [hbb.cell]; exact i64l_get _ _ _ hlk
        have hfz := hbb.frozen k
        obtain ⟨R3, T3⟩ := hF.rows.setAt (i := 12) (by unfold Slot; omega) HVB.out hlk ((first : Int) + k)
        rw [nsNew_set first count k hlt] at R3
        have hF5 := hF.moved R3 T3 (fun _ _ => rfl) (by simp [nsNew])
        have hfit5 : 256 * (first + k) + 256 ≤ ys.length := by rw [HYL.out]; have := HFIT.out; omega
        have HZ := hide (zero_ok hF5.mem ((first : Int) + k) (by omega) (by omega))
        rw [show ((first : Int) + k).toNat = first + k by omega] at HZ
        have HN := hide (fun (w6 : World) (ho6 : Only [d] (wr.setCell ⟨b, k, none⟩ (.int .i64 ((first : Int) + k))) w6) (hm6 : IsMem w6 g d cap (Go.splice ys (256 * (first + k)) (List.replicate 256 0)) r) =>
          (show NewRel w (w.heap.size + 1 + 1) g d cap xs.length r first harts count v (.int .i64 ((k + 1 : Nat) : Int)) w6 from by
            refine ⟨k + 1, zeroF ys (first + k), hlt, rfl, hF5.zeroed ho6 hm6 (zeroF_u8 hF5.u8 _) (zeroF_len hfit5), ?_, (zeroF_len hfit5).trans HYL.out, fun q hq j hj => ?_⟩
            · have hbw : w.heap.size ≤ b := HFO.out b (mem_footL.2 (.inr ⟨12, by decide, by rw [HVB.out]; rfl⟩))
              exact (HON.out.setCell (p := ⟨b, k, none⟩) _ (fun h => by simp at h; omega)).trans ho6
            · rw [gb_splice_zero _ _ _ hfit5]
              by_cases e : q = k
              · rw [if_pos (by omega)]
              · split
                · rfl
                · exact HZ0.out q (by omega) j hj))
        have hkc : (k : Int) < count := by omega
        generalize gb (nsNew first count k 12) k = yv at *
        clear hF hon hyl hz hbb R3 T3 hF5 HF1 HON HYL HZ0 hlk
        go_wp2_with (go_at_call 18; refine HZ.out.mono ?_; rintro e w6 ⟨rfl, ho6, hm6⟩; have HN6 := hide (HN.out w6 ho6 hm6); clear ho6 hm6)
        go_roundw
        case rel => exact HN6.out
        case measure => simp [intOf]; omega
      · obtain rfl : k = count := by omega
        have HE := hide (show FrNewed w wr (.returned (.tuple #[.pointer (some ⟨w.heap.size + 1 + 1, 0, none⟩), .int .i64 0])) g d cap xs.length r first harts k from ⟨_, v, ys, rfl, hF, HFO.out, hon, hyl, hz⟩)
        clear hF hon hyl hz
        go_wp2
        go_ret2
        exact HE.out
end Go.Proofs.Ytfbegickdnjfcaa
