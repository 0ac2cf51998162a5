/-
  The document's own run queues (parapetref11): Next.
-/
import Derived.Test.YtdinndpeoankdaaRq11WakeOf
import Derived.Deep.RegionHeld3
namespace Go.Proofs.Ytdinndpeoankdaa
open Go.ChangeShapes Go.WideShapes Go.ChangeAt Go.RowKit Go.Maps
set_option linter.unusedVariables false
section
variable {w w' w1 w5 : World} {gx hx : Nat} {s s' s2 : RQ} {xs : Nat → Value} {S : List Nat} {v5 : Value} {zs : List Int}
theorem DidX.of_run (h1 : IsX w1 gx hx s' xs) (hH : s'.H = s.H) (ho : Only [hx] w w1) (h : DidX w1 w' gx hx s'.H xs s2) : DidX w w' gx hx s.H xs s2 := by
  obtain ⟨xs2, X2, e2, T2⟩ := h
  rw [hH] at T2 e2
  exact ⟨xs2, X2, e2, (⟨ho.mono (fun q _ hq => mem_footX.2 (.inr (.inl (by simpa using hq)))), fun q hq => .inl hq⟩ : Turn w w1 (footX gx hx xs s.H) (footX gx hx xs s.H)).trans T2⟩
/-- A copy made before what a hart runs is set. -/
theorem Copied.set_ (hc : Copied w w5 v5 zs) (X : IsX w gx hx s xs) (o : Nat) (y : Value) : Copied (w.setCell ⟨hx, o, none⟩ y) (w5.setCell ⟨hx, o, none⟩ y) v5 zs := by
  have X5 := X.quiet hc.only
  have o5 : Only [hx] w5 (w5.setCell ⟨hx, o, none⟩ y) := (Only.refl _ _).setCell _ (by simp)
  have o1 : Only [hx] w (w.setCell ⟨hx, o, none⟩ y) := (Only.refl _ _).setCell _ (by simp)
  have hs1 : (w.setCell ⟨hx, o, none⟩ y).heap.size = w.heap.size := by simp
  have hs5 : (w5.setCell ⟨hx, o, none⟩ y).heap.size = w5.heap.size := by simp
  refine ⟨KRow.only hc.row o5 (fun q hq hm => hc.row.apart X5.blk (by decide) q hq (by simpa using hm)), ⟨o5.os.trans (hc.only.os.trans o1.os.symm), o5.tape.trans (hc.only.tape.trans o1.tape.symm), o5.output.trans (hc.only.output.trans o1.output.symm), by rw [hs1, hs5]; exact hc.only.size, fun k hk _ => ?_⟩, fun q hq => by rw [hs1]; exact hc.new q hq⟩
  rw [hs1] at hk
  by_cases e : k = hx
  · subst e
    exact (X5.blk.set_ o y).trans (X.blk.set_ o y).symm
  · rw [o5.block k (Nat.lt_of_lt_of_le hk hc.only.size) (by simpa using e), o1.block k hk (by simpa using e)]
    exact hc.only.block k hk (by simp)
theorem IsX.putRN (X : IsX w gx hx s xs) {h f : Nat} (hh : h < s.H) (hf : f < s.H) (x : Int) (hc : Copied w w5 v5 zs) (h1 : s'.H = s.H) (h2 : s'.r = upd s.r h x) (h3 : s'.n = upd s.n f zs) :
    DidX w ((w5.setCell ⟨hx, h * 2, none⟩ (.int .i64 x)).setCell ⟨hx, f * 2 + 1, none⟩ v5) gx hx s.H xs s' := by
  obtain ⟨X1, o1⟩ := X.putR (s' := { s with r := upd s.r h x }) hh x rfl rfl rfl
  exact DidX.of_run X1 rfl o1 (X1.putN (s' := s') hf (hc.set_ X (h * 2) (.int .i64 x)) h1 h2 h3)
theorem gb_zero {x : Int} {r : List Int} : gb (x :: r) 0 = x := rfl
set_option maxHeartbeats 4000000 in
set_option maxRecDepth 100000 in
theorem xNext_own (X : IsX w gx hx s xs) (o : OkQ s) (k : Nat) (hk : k < s.H) (hr : s.r k = 0) (hne : s.n k ≠ []) :
    Calls Try.prog 16 #[.pointer (some ⟨gx, 0, none⟩), .int .i64 k] w fun e w' => e = .returned (.tuple #[.int .i64 (gb (s.n k) 0), .bool true]) ∧ DidX w w' gx hx s.H xs (runS s k k 0) := by
  have HH := hide (xhart_is X k)
  rw [show hasQ s k = true by simp [hasQ, hk]] at HH
  have c0 := X.cT
  have cr := X.cR hk
  rw [hr] at cr
  obtain ⟨A, c, hv, cn, hA, hlc, hcm, hc⟩ := X.form hk
  have hf := o.small.few k (by have := o.h8; omega)
  have hpos : 0 < (s.n k).length := List.length_pos_iff.2 hne
  rcases A with _ | ad
  · have := (hA rfl).1; omega
  obtain ⟨b, rfl, hb, hcell⟩ := hc ad rfl
  have hbx : b ≠ hx := X.rh hk (by rw [hv]; rfl)
  have hbg : b ≠ gx := X.rg hk (by rw [hv]; rfl)
  have hhi : (k : Int) < s.H := by omega
  have cb : w.cell? ⟨b, 0, none⟩ = some (.int .i64 (gb (s.n k) 0)) := by
    refine hcell 0 _ ?_
    simp [i64l, gb, List.getD, hpos]
  have HNW := hide (fun (V : World) (hV : Only [] w V) (o' : Nat) (ho' : o' = 1 ∨ (s.n k).length = 1) => (show ∀ ad, (some ⟨b, o', none⟩ : Option Addr) = some ad → ∀ j u, (i64l ((s.n k).drop 1))[j]? = some u → V.cell? (ad.add j) = some u from fun ad e j u hu => by
    injection e with e
    subst e
    rw [add_at]
    rcases ho' with rfl | h1
    · refine (hV.cell hb (by simp)).trans (hcell (1 + j) u ?_)
      unfold i64l at hu ⊢
      rw [List.map_drop, List.getElem?_drop] at hu
      exact hu
    · have := (List.getElem?_eq_some_iff.1 hu).1
      simp [i64l] at this
      omega))
  have HB0 := hide (show ([] : List Int).length + ((s.n k).length - 1) < 4000000000000 by simp; omega)
  have HLT := hide (show ((s.n k).drop 1).length = (s.n k).length - 1 from List.length_drop ..)
  have HP := hide (fun (v5 : Value) (w5 : World) (hc5 : Copied w w5 v5 ((s.n k).drop 1)) =>
    (show (w5.cell? ⟨gx, 0, none⟩ = some (.slice (some ⟨hx, 0, none⟩) s.H s.H) ∧ w5.cell? ⟨b, 0, none⟩ = some (.int .i64 (gb (s.n k) 0))) ∧ (w5.cell? ⟨hx, k * 2, none⟩ = some (.int .i64 0) ∧ w5.frozen? ⟨hx, k * 2, none⟩ = false) ∧
      ((w5.setCell ⟨hx, k * 2, none⟩ (.int .i64 (gb (s.n k) 0))).cell? ⟨gx, 0, none⟩ = some (.slice (some ⟨hx, 0, none⟩) s.H s.H) ∧ (w5.setCell ⟨hx, k * 2, none⟩ (.int .i64 (gb (s.n k) 0))).cell? ⟨b, 0, none⟩ = some (.int .i64 (gb (s.n k) 0))) ∧
      ((w5.setCell ⟨hx, k * 2, none⟩ (.int .i64 (gb (s.n k) 0))).cell? ⟨hx, k * 2 + 1, none⟩ = some (.slice (some ⟨b, 0, none⟩) (s.n k).length c) ∧ (w5.setCell ⟨hx, k * 2, none⟩ (.int .i64 (gb (s.n k) 0))).frozen? ⟨hx, k * 2 + 1, none⟩ = false) ∧
      (((w5.setCell ⟨hx, k * 2, none⟩ (.int .i64 (gb (s.n k) 0))).setCell ⟨hx, k * 2 + 1, none⟩ v5).cell? ⟨gx, 0, none⟩ = some (.slice (some ⟨hx, 0, none⟩) s.H s.H) ∧ ((w5.setCell ⟨hx, k * 2, none⟩ (.int .i64 (gb (s.n k) 0))).setCell ⟨hx, k * 2 + 1, none⟩ v5).cell? ⟨b, 0, none⟩ = some (.int .i64 (gb (s.n k) 0))) ∧
      ((w5.setCell ⟨hx, k * 2, none⟩ (.int .i64 (gb (s.n k) 0))).setCell ⟨hx, k * 2 + 1, none⟩ v5).cell? ⟨hx, k * 2, none⟩ = some (.int .i64 (gb (s.n k) 0)) ∧
      DidX w ((w5.setCell ⟨hx, k * 2, none⟩ (.int .i64 (gb (s.n k) 0))).setCell ⟨hx, k * 2 + 1, none⟩ v5) gx hx s.H xs (runS s k k 0) from by
      have X5 := X.quiet hc5.only
      obtain ⟨X6, o6⟩ := X5.putR (s' := { s with r := upd s.r k (gb (s.n k) 0) }) hk (gb (s.n k) 0) rfl rfl rfl
      have hD := X.putRN (s' := runS s k k 0) hk hk (gb (s.n k) 0) hc5 rfl rfl (by show upd s.n k ((s.n k).eraseIdx 0) = _; rw [List.eraseIdx_zero, ← List.drop_one])
      have hb5 : b < w5.heap.size := Nat.lt_of_lt_of_le hb hc5.only.size
      have e5 : w5.cell? ⟨b, 0, none⟩ = some (.int .i64 (gb (s.n k) 0)) := (hc5.only.cell hb (by simp)).trans cb
      have e6 := (o6.cell (b := b) (o := 0) (s := none) hb5 (by simpa using hbx)).trans e5
      have o7 : Only [hx] (w5.setCell ⟨hx, k * 2, none⟩ (.int .i64 (gb (s.n k) 0))) ((w5.setCell ⟨hx, k * 2, none⟩ (.int .i64 (gb (s.n k) 0))).setCell ⟨hx, k * 2 + 1, none⟩ v5) := (Only.refl _ _).setCell _ (by simp)
      have e7 := (o7.cell (b := b) (o := 0) (s := none) (Nat.lt_of_lt_of_le hb5 o6.size) (by simpa using hbx)).trans e6
      obtain ⟨xs7, X7, _, T7⟩ := id hD
      have cr7 := X7.cR (h := k) hk
      rw [show (runS s k k 0).r k = gb (s.n k) 0 from upd_same ..] at cr7
      exact ⟨⟨X5.cT, e5⟩, ⟨by rw [X5.cR hk, hr], X5.fr _⟩, ⟨X6.cT, e6⟩, ⟨by rw [X6.cN hk, hv], X6.fr _⟩, ⟨X7.cT, e7⟩, cr7, hD⟩))
  have hnD : decide ((0 : Int) < ((s.n k).length : Nat)) = true := by simp; omega
  have hnI : (0 : Int) < ((s.n k).length : Nat) := by omega
  have hnN : 1 ≤ (s.n k).length := hpos
  have hn1I : (1 : Int) ≤ ((s.n k).length : Nat) := by omega
  have hlcI : (((s.n k).length : Nat) : Int) ≤ (c : Nat) := by omega
  have hc1I : (1 : Int) ≤ (c : Nat) := by omega
  generalize gb (s.n k) 0 = x at *
  generalize (s.n k).drop 1 = tl at *
  generalize (s.n k).length = nn at *
  clear X o hv hA hc hcell hr hne hf
  go_enter Try.func16, Try.ntmps16
  go_wp2_with (go_at_call 35; refine HH.out.mono ?_; rintro e w' ⟨rfl, rfl⟩)
  by_cases hc1 : c = 1
  · subst hc1
    obtain rfl : nn = 1 := by omega
    have HLT0 := hide (show tl.length = 0 from HLT.out)
    have HB00 := hide (show ([] : List Int).length + 0 < 4000000000000 from HB0.out)
    go_region_held3 (fun w' => w'.cell? ⟨gx, 0, none⟩ = some (.slice (some ⟨hx, 0, none⟩) s.H s.H) ∧ w'.cell? ⟨b, 0, none⟩ = some (.int .i64 x)) (first | go_keep | exact kk | exact kk2 | exact kk3) (first | (refine step_append_any rfl _ _ rfl (.slice (some ⟨w.heap.size, 0, none⟩) 0 0) [] (by simp [Act.eval]) (irow_empty (Blk.new w.drew 3 #[])) (some ⟨b, 0, none⟩) 0 0 (by simp [Act.eval]) (by intro e; cases e) tl HLT0.out (HNW.out _ ((Only.refl [] w).drew.alloc _) 0 (.inr rfl)) HB00.out ?_; intro v5 w5 h1 h2 h3; have hc5 := copied_of (w := w) ((Only.refl [] w).drew.alloc _) (Nat.le_refl _) h1 h2 h3; obtain ⟨kk, ⟨ka, kb⟩, kk2, ⟨kc, kd⟩, kk3, ke, kf⟩ := HP.out v5 w5 hc5; have HD := hide kf; obtain ⟨A5, c5, rfl, -⟩ := hc5.row.form; clear h1 h2 h3 hc5 kf))
    all_goals
      go_wp2
      go_ret2
      exact ⟨rfl, HD.out⟩
  · go_region_held3 (fun w' => w'.cell? ⟨gx, 0, none⟩ = some (.slice (some ⟨hx, 0, none⟩) s.H s.H) ∧ w'.cell? ⟨b, 0, none⟩ = some (.int .i64 x)) (first | go_keep | exact kk | exact kk2 | exact kk3) (first | (refine step_append_any rfl _ _ rfl (.slice (some ⟨w.heap.size, 0, none⟩) 0 0) [] (by simp [Act.eval]) (irow_empty (Blk.new w.drew 3 #[])) (some ⟨b, 1, none⟩) (nn - 1) (c - 1) (by simp [Act.eval]) (by intro e; cases e) tl HLT.out (HNW.out _ ((Only.refl [] w).drew.alloc _) 1 (.inl rfl)) HB0.out ?_; intro v5 w5 h1 h2 h3; have hc5 := copied_of (w := w) ((Only.refl [] w).drew.alloc _) (Nat.le_refl _) h1 h2 h3; obtain ⟨kk, ⟨ka, kb⟩, kk2, ⟨kc, kd⟩, kk3, ke, kf⟩ := HP.out v5 w5 hc5; have HD := hide kf; obtain ⟨A5, c5, rfl, -⟩ := hc5.row.form; clear h1 h2 h3 hc5 kf))
    all_goals
      go_wp2
      go_ret2
      exact ⟨rfl, HD.out⟩
end
end Go.Proofs.Ytdinndpeoankdaa
