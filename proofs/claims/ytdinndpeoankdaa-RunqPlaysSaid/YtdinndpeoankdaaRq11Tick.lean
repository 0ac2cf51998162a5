/-
  The document's own run queues (parapetref11): Tick.
-/
import Derived.Test.YtdinndpeoankdaaRq11Whole
import Derived.Test.YtdinndpeoankdaaLastOp
namespace Go.Proofs.Ytdinndpeoankdaa
open Go.ChangeShapes Go.WideShapes Go.ChangeAt Go.RowKit Go.Maps
set_option linter.unusedVariables false
set_option linter.unusedSimpArgs false
section
variable {w w' w1 w5 : World} {gx hx : Nat} {s s' s2 : RQ} {xs : Nat → Value} {S : List Nat} {v5 : Value} {zs : List Int}
set_option maxHeartbeats 4000000 in
set_option maxRecDepth 100000 in
theorem xTick_ok (X : IsX w gx hx s xs) (o : OkQ s) (k : Nat) (hk : k < s.H) (hr : s.r k ≠ 0) (hne : s.n k ≠ []) :
    Calls Try.prog 17 #[.pointer (some ⟨gx, 0, none⟩), .int .i64 k] w fun e w' => e = .returned (.bool true) ∧ DidX w w' gx hx s.H xs (tickS s k) := by
  have HH := hide (xhart_is X k)
  rw [show hasQ s k = true by simp [hasQ, hk]] at HH
  have c0 := X.cT
  have cr := X.cR hk
  obtain ⟨A, c, hv, cn, hA, hlc, hcm, hc⟩ := X.form hk
  have hhi : (k : Int) < s.H := by omega
  have hf := o.small.few k (by have := o.h8; omega)
  have hpos : 0 < (s.n k).length := List.length_pos_iff.2 hne
  have hx0 : (s.r k == 0) = false := by simp [hr]
  have hn0 : ((((s.n k).length : Nat) : Int) == 0) = false := by simp; omega
  have fn := X.fr (k * 2 + 1)
  have HA := hide hA
  have HNW := hide (fun (V : World) (hV : Only [] w V) => (show ∀ ad, A = some ad → ∀ j u, (i64l (s.n k))[j]? = some u → V.cell? (ad.add j) = some u from fun ad e j u hu => by
    obtain ⟨b, rfl, hb, hcell⟩ := hc ad e
    rw [add_at, Nat.zero_add]
    exact (hV.cell hb (by simp)).trans (hcell j u hu)))
  have HB0 := hide (show ([] : List Int).length + (s.n k).length < 4000000000000 by simp; omega)
  have HB1 := hide (show (s.n k).length + 1 < 4000000000000 by omega)
  have HS := hide (fun (W : World) (hW : Only [] w W) => (show (fun w' : World => w'.cell? ⟨gx, 0, none⟩ = some (.slice (some ⟨hx, 0, none⟩) s.H s.H) ∧ w'.cell? ⟨hx, k * 2, none⟩ = some (.int .i64 (s.r k)) ∧ w'.cell? ⟨hx, k * 2 + 1, none⟩ = some (.slice A (s.n k).length c)) W from ⟨(X.quiet hW).cT, (X.quiet hW).cR hk, by rw [(X.quiet hW).cN hk, hv]⟩))
  have HP := hide (fun (v7 : Value) (w7 : World) (hc7 : Copied w w7 v7 (s.n k ++ [s.r k])) =>
    (show w7.cell? ⟨hx, k * 2 + 1, none⟩ = some (.slice A (s.n k).length c) ∧ w7.frozen? ⟨hx, k * 2 + 1, none⟩ = false ∧ (w7.setCell ⟨hx, k * 2 + 1, none⟩ v7).cell? ⟨gx, 0, none⟩ = some (.slice (some ⟨hx, 0, none⟩) s.H s.H) ∧ (w7.setCell ⟨hx, k * 2 + 1, none⟩ v7).cell? ⟨hx, k * 2, none⟩ = some (.int .i64 (s.r k)) ∧ (w7.setCell ⟨hx, k * 2 + 1, none⟩ v7).frozen? ⟨hx, k * 2, none⟩ = false ∧ Hid (DidX w ((w7.setCell ⟨hx, k * 2 + 1, none⟩ v7).setCell ⟨hx, k * 2, none⟩ (.int .i64 0)) gx hx s.H xs (tickS s k)) from by
      have X7 := X.quiet hc7.only
      have hD := X.putN (s' := { s with n := upd s.n k (s.n k ++ [s.r k]) }) hk hc7 rfl rfl rfl
      obtain ⟨d1, d2, d3, d4⟩ := hD.run (s := { s with n := upd s.n k (s.n k ++ [s.r k]) }) hk 0 (s' := tickS s k) rfl rfl rfl
      exact ⟨by rw [X7.cN hk, hv], X7.fr _, d3, d1, d2, hide d4⟩))
  have HNN : Hid ((s.n k).length = (s.n k).length) := hide rfl
  generalize hxx : s.r k = x at *
  clear HNN
  generalize hnn : (s.n k).length = nn at *
  have HNN := hide hnn
  have HB1' := hide (show (s.n k).length + 1 < 4000000000000 from by rw [hnn]; exact HB1.out)
  clear hnn hxx hA hc hv hlc hcm hf hpos hr hne
  clear X o
  go_enter Try.func17, Try.ntmps17
  go_wp2_with (go_at_call 35; refine HH.out.mono ?_; rintro e w' ⟨rfl, rfl⟩)
  refine wp_region_last2 (ops' := ?ops2) (by kernel_rfl) 27 (by kernel_rfl) ?hp ?H
  case hp => (simp only [List.pop_toArray, List.dropLast]; rfl)
  refine wpAny_of_held (S := (fun w' : World => w'.cell? ⟨gx, 0, none⟩ = some (.slice (some ⟨hx, 0, none⟩) s.H s.H) ∧ w'.cell? ⟨hx, k * 2, none⟩ = some (.int .i64 x) ∧ w'.cell? ⟨hx, k * 2 + 1, none⟩ = some (.slice A nn c))) _ _ _ _ ?_
  have hHeld : (fun w' : World => w'.cell? ⟨gx, 0, none⟩ = some (.slice (some ⟨hx, 0, none⟩) s.H s.H) ∧ w'.cell? ⟨hx, k * 2, none⟩ = some (.int .i64 x) ∧ w'.cell? ⟨hx, k * 2 + 1, none⟩ = some (.slice A nn c)) w.drew := ⟨c0, cr, cn⟩
  refine wpAnyH_take (i := 0) (oi := _) (v := ?_) rfl (by kernel_rfl) (by kernel_rfl) (by kernel_rfl) (fun _ _ _ h => h) (Or.inl ⟨by rfl, ?hy⟩) hHeld ?_
  case hy => (intro w hSw; obtain ⟨s1, s2, s3⟩ := hSw; (try simp only [List.getElem_toArray, List.getElem_cons_zero, List.getElem_cons_succ]); go_simp; (try with_reducible rfl))
  try simp only [List.getElem_toArray, List.getElem_cons_zero, List.getElem_cons_succ, Act.put, List.setIfInBounds_toArray, List.set_cons_zero, List.set_cons_succ]
  refine wpAnyH_take (i := 1) (oi := _) (v := ?_) rfl (by kernel_rfl) (by kernel_rfl) (by kernel_rfl) (fun _ _ _ h => h) (Or.inl ⟨by rfl, ?hy⟩) hHeld ?_
  case hy => (intro w hSw; obtain ⟨s1, s2, s3⟩ := hSw; (try simp only [List.getElem_toArray, List.getElem_cons_zero, List.getElem_cons_succ]); go_simp; (try with_reducible rfl))
  try simp only [List.getElem_toArray, List.getElem_cons_zero, List.getElem_cons_succ, Act.put, List.setIfInBounds_toArray, List.set_cons_zero, List.set_cons_succ]
  refine wpAnyH_take (i := 2) (oi := _) (v := ?_) rfl (by kernel_rfl) (by kernel_rfl) (by kernel_rfl) (fun _ _ _ h => h) (Or.inl ⟨by rfl, ?hy⟩) hHeld ?_
  case hy => (intro w hSw; obtain ⟨s1, s2, s3⟩ := hSw; (try simp only [List.getElem_toArray, List.getElem_cons_zero, List.getElem_cons_succ]); go_simp; (try with_reducible rfl))
  try simp only [List.getElem_toArray, List.getElem_cons_zero, List.getElem_cons_succ, Act.put, List.setIfInBounds_toArray, List.set_cons_zero, List.set_cons_succ]
  refine wpAnyH_take (i := 3) (oi := _) (v := ?_) rfl (by kernel_rfl) (by kernel_rfl) (by kernel_rfl) (fun _ _ _ h => h) (Or.inl ⟨by rfl, ?hy⟩) hHeld ?_
  case hy => (intro w hSw; obtain ⟨s1, s2, s3⟩ := hSw; (try simp only [List.getElem_toArray, List.getElem_cons_zero, List.getElem_cons_succ]); go_simp; (try with_reducible rfl))
  try simp only [List.getElem_toArray, List.getElem_cons_zero, List.getElem_cons_succ, Act.put, List.setIfInBounds_toArray, List.set_cons_zero, List.set_cons_succ]
  refine wpAnyH_take (i := 4) (oi := _) (v := ?_) rfl (by kernel_rfl) (by kernel_rfl) (by kernel_rfl) (fun _ _ _ h => h) (Or.inl ⟨by rfl, ?hy⟩) hHeld ?_
  case hy => (intro w hSw; obtain ⟨s1, s2, s3⟩ := hSw; (try simp only [List.getElem_toArray, List.getElem_cons_zero, List.getElem_cons_succ]); go_simp; (try with_reducible rfl))
  try simp only [List.getElem_toArray, List.getElem_cons_zero, List.getElem_cons_succ, Act.put, List.setIfInBounds_toArray, List.set_cons_zero, List.set_cons_succ]
  refine wpAnyH_take (i := 6) (oi := _) (v := ?_) rfl (by kernel_rfl) (by kernel_rfl) (by kernel_rfl) (fun _ _ _ h => h) (Or.inl ⟨by rfl, ?hy⟩) hHeld ?_
  case hy => (intro w hSw; obtain ⟨s1, s2, s3⟩ := hSw; (try simp only [List.getElem_toArray, List.getElem_cons_zero, List.getElem_cons_succ]); go_simp; (try with_reducible rfl))
  try simp only [List.getElem_toArray, List.getElem_cons_zero, List.getElem_cons_succ, Act.put, List.setIfInBounds_toArray, List.set_cons_zero, List.set_cons_succ]
  refine wpAnyH_take (i := 7) (oi := _) (v := ?_) rfl (by kernel_rfl) (by kernel_rfl) (by kernel_rfl) (fun _ _ _ h => h) (Or.inl ⟨by rfl, ?hy⟩) hHeld ?_
  case hy => (intro w hSw; obtain ⟨s1, s2, s3⟩ := hSw; (try simp only [List.getElem_toArray, List.getElem_cons_zero, List.getElem_cons_succ]); go_simp; (try with_reducible rfl))
  try simp only [List.getElem_toArray, List.getElem_cons_zero, List.getElem_cons_succ, Act.put, List.setIfInBounds_toArray, List.set_cons_zero, List.set_cons_succ]
  refine wpAnyH_take (i := 8) (oi := _) (v := ?_) rfl (by kernel_rfl) (by kernel_rfl) (by kernel_rfl) (fun _ _ _ h => h) (Or.inl ⟨by rfl, ?hy⟩) hHeld ?_
  case hy => (intro w hSw; obtain ⟨s1, s2, s3⟩ := hSw; (try simp only [List.getElem_toArray, List.getElem_cons_zero, List.getElem_cons_succ]); go_simp; (try with_reducible rfl))
  try simp only [List.getElem_toArray, List.getElem_cons_zero, List.getElem_cons_succ, Act.put, List.setIfInBounds_toArray, List.set_cons_zero, List.set_cons_succ]
  refine wpAnyH_take (i := 9) (oi := _) (v := ?_) rfl (by kernel_rfl) (by kernel_rfl) (by kernel_rfl) (fun _ _ _ h => h) (Or.inl ⟨by rfl, ?hy⟩) hHeld ?_
  case hy => (intro w hSw; obtain ⟨s1, s2, s3⟩ := hSw; (try simp only [List.getElem_toArray, List.getElem_cons_zero, List.getElem_cons_succ]); go_simp; (try with_reducible rfl))
  try simp only [List.getElem_toArray, List.getElem_cons_zero, List.getElem_cons_succ, Act.put, List.setIfInBounds_toArray, List.set_cons_zero, List.set_cons_succ]
  refine wpAnyH_take (i := 10) (oi := _) (v := ?_) rfl (by kernel_rfl) (by kernel_rfl) (by kernel_rfl) (fun _ _ _ h => h) (Or.inl ⟨by rfl, ?hy⟩) hHeld ?_
  case hy => (intro w hSw; obtain ⟨s1, s2, s3⟩ := hSw; (try simp only [List.getElem_toArray, List.getElem_cons_zero, List.getElem_cons_succ]); go_simp; (try with_reducible rfl))
  try simp only [List.getElem_toArray, List.getElem_cons_zero, List.getElem_cons_succ, Act.put, List.setIfInBounds_toArray, List.set_cons_zero, List.set_cons_succ]
  refine wpAnyH_take (i := 11) (oi := _) (v := ?_) rfl (by kernel_rfl) (by kernel_rfl) (by kernel_rfl) (fun _ _ _ h => h) (Or.inl ⟨by rfl, ?hy⟩) hHeld ?_
  case hy => (intro w hSw; obtain ⟨s1, s2, s3⟩ := hSw; (try simp only [List.getElem_toArray, List.getElem_cons_zero, List.getElem_cons_succ]); go_simp; (try with_reducible rfl))
  try simp only [List.getElem_toArray, List.getElem_cons_zero, List.getElem_cons_succ, Act.put, List.setIfInBounds_toArray, List.set_cons_zero, List.set_cons_succ]
  refine wpAnyH_take (i := 12) (oi := _) (v := ?_) rfl (by kernel_rfl) (by kernel_rfl) (by kernel_rfl) (fun _ _ _ h => h) (Or.inl ⟨by rfl, ?hy⟩) hHeld ?_
  case hy => (intro w hSw; obtain ⟨s1, s2, s3⟩ := hSw; (try simp only [List.getElem_toArray, List.getElem_cons_zero, List.getElem_cons_succ]); go_simp; (try with_reducible rfl))
  try simp only [List.getElem_toArray, List.getElem_cons_zero, List.getElem_cons_succ, Act.put, List.setIfInBounds_toArray, List.set_cons_zero, List.set_cons_succ]
  refine wpAnyH_take (i := 13) (oi := _) (v := ?_) rfl (by kernel_rfl) (by kernel_rfl) (by kernel_rfl) (fun _ _ _ h => h) (Or.inl ⟨by rfl, ?hy⟩) hHeld ?_
  case hy => (intro w hSw; obtain ⟨s1, s2, s3⟩ := hSw; (try simp only [List.getElem_toArray, List.getElem_cons_zero, List.getElem_cons_succ]); go_simp; (try with_reducible rfl))
  try simp only [List.getElem_toArray, List.getElem_cons_zero, List.getElem_cons_succ, Act.put, List.setIfInBounds_toArray, List.set_cons_zero, List.set_cons_succ]
  refine wpAnyH_take (i := 15) (oi := _) (v := ?_) rfl (by kernel_rfl) (by kernel_rfl) (by kernel_rfl) (fun _ _ _ h => h) (Or.inl ⟨by rfl, ?hy⟩) hHeld ?_
  case hy => (intro w hSw; obtain ⟨s1, s2, s3⟩ := hSw; (try simp only [List.getElem_toArray, List.getElem_cons_zero, List.getElem_cons_succ]); go_simp; (try with_reducible rfl))
  try simp only [List.getElem_toArray, List.getElem_cons_zero, List.getElem_cons_succ, Act.put, List.setIfInBounds_toArray, List.set_cons_zero, List.set_cons_succ]
  refine wpAnyH_take (i := 16) (oi := _) (v := ?_) rfl (by kernel_rfl) (by kernel_rfl) (by kernel_rfl) (fun _ _ _ h => h) (Or.inl ⟨by rfl, ?hy⟩) hHeld ?_
  case hy => (intro w hSw; obtain ⟨s1, s2, s3⟩ := hSw; (try simp only [List.getElem_toArray, List.getElem_cons_zero, List.getElem_cons_succ]); go_simp; (try with_reducible rfl))
  try simp only [List.getElem_toArray, List.getElem_cons_zero, List.getElem_cons_succ, Act.put, List.setIfInBounds_toArray, List.set_cons_zero, List.set_cons_succ]
  refine wpAnyH_take (i := 17) (oi := _) (v := ?_) rfl (by kernel_rfl) (by kernel_rfl) (by kernel_rfl) (fun _ _ _ h => h) (Or.inl ⟨by rfl, ?hy⟩) hHeld ?_
  case hy => (intro w hSw; obtain ⟨s1, s2, s3⟩ := hSw; (try simp only [List.getElem_toArray, List.getElem_cons_zero, List.getElem_cons_succ]); go_simp; (try with_reducible rfl))
  try simp only [List.getElem_toArray, List.getElem_cons_zero, List.getElem_cons_succ, Act.put, List.setIfInBounds_toArray, List.set_cons_zero, List.set_cons_succ]
  refine wpAnyH_take (i := 18) (oi := _) (v := ?_) rfl (by kernel_rfl) (by kernel_rfl) (by kernel_rfl) (fun _ _ _ h => h) (Or.inl ⟨by rfl, ?hy⟩) hHeld ?_
  case hy => (intro w hSw; obtain ⟨s1, s2, s3⟩ := hSw; (try simp only [List.getElem_toArray, List.getElem_cons_zero, List.getElem_cons_succ]); go_simp; (try with_reducible rfl))
  try simp only [List.getElem_toArray, List.getElem_cons_zero, List.getElem_cons_succ, Act.put, List.setIfInBounds_toArray, List.set_cons_zero, List.set_cons_succ]
  refine wpAnyH_take (i := 19) (oi := _) (v := ?_) rfl (by kernel_rfl) (by kernel_rfl) (by kernel_rfl) (fun _ _ _ h => h) (Or.inl ⟨by rfl, ?hy⟩) hHeld ?_
  case hy => (intro w hSw; obtain ⟨s1, s2, s3⟩ := hSw; (try simp only [List.getElem_toArray, List.getElem_cons_zero, List.getElem_cons_succ]); go_simp; (try with_reducible rfl))
  try simp only [List.getElem_toArray, List.getElem_cons_zero, List.getElem_cons_succ, Act.put, List.setIfInBounds_toArray, List.set_cons_zero, List.set_cons_succ]
  refine wpAnyH_take (i := 20) (oi := _) (v := ?_) rfl (by kernel_rfl) (by kernel_rfl) (by kernel_rfl) (fun _ _ _ h => h) (Or.inl ⟨by rfl, ?hy⟩) hHeld ?_
  case hy => (intro w hSw; obtain ⟨s1, s2, s3⟩ := hSw; (try simp only [List.getElem_toArray, List.getElem_cons_zero, List.getElem_cons_succ]); go_simp; (try with_reducible rfl))
  try simp only [List.getElem_toArray, List.getElem_cons_zero, List.getElem_cons_succ, Act.put, List.setIfInBounds_toArray, List.set_cons_zero, List.set_cons_succ]
  refine wpAnyH_take (i := 21) (oi := _) (v := ?_) rfl (by kernel_rfl) (by kernel_rfl) (by kernel_rfl) (fun _ _ _ h => h) (Or.inl ⟨by rfl, ?hy⟩) hHeld ?_
  case hy => (intro w hSw; obtain ⟨s1, s2, s3⟩ := hSw; (try simp only [List.getElem_toArray, List.getElem_cons_zero, List.getElem_cons_succ]); go_simp; (try with_reducible rfl))
  try simp only [List.getElem_toArray, List.getElem_cons_zero, List.getElem_cons_succ, Act.put, List.setIfInBounds_toArray, List.set_cons_zero, List.set_cons_succ]
  refine wpAnyH_take (i := 22) (oi := _) (v := ?_) rfl (by kernel_rfl) (by kernel_rfl) (by kernel_rfl) (fun _ _ _ h => h) (Or.inl ⟨by rfl, ?hy⟩) hHeld ?_
  case hy => (intro w hSw; obtain ⟨s1, s2, s3⟩ := hSw; (try simp only [List.getElem_toArray, List.getElem_cons_zero, List.getElem_cons_succ]); go_simp; (try with_reducible rfl))
  try simp only [List.getElem_toArray, List.getElem_cons_zero, List.getElem_cons_succ, Act.put, List.setIfInBounds_toArray, List.set_cons_zero, List.set_cons_succ]
  refine wpAnyH_ready (rs := [5, 23]) (by kernel_rfl) (by simp) ?_
  refine (AllReadyH.cons rfl (fun K hK => ?_) (AllReadyH.cons rfl (fun K hK => ?_) AllReadyH.nil))
  · go_simp
    refine hK.out _ _ (HS.out _ ((Only.refl [] w).drew.alloc _)) (fun hHeld => ?_)
    clear hK K
    try simp only [List.getElem_toArray, List.getElem_cons_zero, List.getElem_cons_succ, Act.put, List.setIfInBounds_toArray, List.set_cons_zero, List.set_cons_succ]
    refine wpAnyH_ready (rs := [14, 23]) (by kernel_rfl) (by simp) ?_
    refine (AllReadyH.cons rfl (fun K hK => ?_) (AllReadyH.cons rfl (fun K hK => ?_) AllReadyH.nil))
    · refine step_append_any rfl _ _ rfl (.slice (some ⟨w.heap.size, 0, none⟩) 0 0) [] (by simp [Act.eval]) (irow_empty (Blk.new w.drew 3 #[])) A nn c (by simp [Act.eval]) HA.out (s.n k) HNN.out (HNW.out _ ((Only.refl [] w).drew.alloc _)) HB0.out ?_
      intro v5 w5 h1 h2 h3
      have hc5 := copied_of (w := w) ((Only.refl [] w).drew.alloc _) (Nat.le_refl _) h1 h2 h3
      obtain ⟨A5, c5, e5, -⟩ := hc5.row.form
      rw [HNN.out] at e5
      subst e5
      have HC5 := hide hc5
      clear h1 h2 h3 hc5
      refine hK.out _ _ (HS.out _ (HC5.out.only)) (fun hHeld => ?_)
      clear hK K
      try simp only [List.getElem_toArray, List.getElem_cons_zero, List.getElem_cons_succ, Act.put, List.setIfInBounds_toArray, List.set_cons_zero, List.set_cons_succ]
      refine wpAnyH_ready (rs := [23]) (by kernel_rfl) (by simp) ?_
      refine (AllReadyH.cons rfl (fun K hK => ?_) AllReadyH.nil)
      go_simp
      refine hK.out _ _ (HS.out _ (HC5.out.only.alloc _)) (fun hHeld => ?_)
      clear hK K
      try simp only [List.getElem_toArray, List.getElem_cons_zero, List.getElem_cons_succ, Act.put, List.setIfInBounds_toArray, List.set_cons_zero, List.set_cons_succ]
      refine wpAnyH_ready (rs := [24]) (by kernel_rfl) (by simp) ?_
      refine (AllReadyH.cons rfl (fun K hK => ?_) AllReadyH.nil)
      refine step_append_any rfl _ _ rfl (.slice A5 nn c5) (s.n k) (by simp [Act.eval]) (HC5.out.row.only ((Only.refl [] w5).alloc _) (by simp)) (some ⟨w5.heap.size, 0, none⟩) 1 1 (by simp [Act.eval]) (fun e => by cases e) [x] rfl (one_news (Blk.new w5 3 #[.int .i64 x])) HB1'.out ?_
      intro v7 w7 h1 h2 h3
      have hc7 := copied_app HC5.out ((Only.refl [] w5).alloc _) h1 h2 h3
      obtain ⟨A7, c7, e7, -⟩ := hc7.row.form
      rw [List.length_append, List.length_singleton] at e7
      subst e7
      obtain ⟨k1, k2, ct8, cr8, fr8, HK⟩ := HP.out _ w7 hc7
      have HC7 := hide hc7
      clear h1 h2 h3 hc7
      refine hK.out _ _ (HS.out _ (HC7.out.only)) (fun hHeld => ?_)
      clear hK K
      try simp only [List.getElem_toArray, List.getElem_cons_zero, List.getElem_cons_succ, Act.put, List.setIfInBounds_toArray, List.set_cons_zero, List.set_cons_succ]
      refine wpAnyH_take (i := 25) (oi := _) (v := ?_) rfl (by kernel_rfl) (by kernel_rfl) (by kernel_rfl) (fun _ _ _ h => h) (Or.inl ⟨by rfl, ?hy⟩) hHeld ?_
      case hy => (intro w hSw; obtain ⟨s1, s2, s3⟩ := hSw; (try simp only [List.getElem_toArray, List.getElem_cons_zero, List.getElem_cons_succ]); go_simp; (try with_reducible rfl))
      try simp only [List.getElem_toArray, List.getElem_cons_zero, List.getElem_cons_succ, Act.put, List.setIfInBounds_toArray, List.set_cons_zero, List.set_cons_succ]
      refine wpAnyH_take (i := 26) (oi := _) (v := ?_) rfl (by kernel_rfl) (by kernel_rfl) (by kernel_rfl) (fun _ _ _ h => h) (Or.inl ⟨by rfl, ?hy⟩) hHeld ?_
      case hy => (intro w hSw; obtain ⟨s1, s2, s3⟩ := hSw; (try simp only [List.getElem_toArray, List.getElem_cons_zero, List.getElem_cons_succ]); go_simp; (try with_reducible rfl))
      try simp only [List.getElem_toArray, List.getElem_cons_zero, List.getElem_cons_succ, Act.put, List.setIfInBounds_toArray, List.set_cons_zero, List.set_cons_succ]
      refine wpAnyH_done (by kernel_rfl) ?_ _
      refine ThenLast.run rfl ?_
      try simp only [List.getElem_toArray, List.getElem_cons_zero, List.getElem_cons_succ]
      go_simp
      go_wp2
      go_ret
      exact ⟨rfl, HK.out⟩
    · go_simp
      refine hK.out _ _ (HS.out _ (((Only.refl [] w).drew.alloc _).alloc _)) (fun hHeld => ?_)
      clear hK K
      try simp only [List.getElem_toArray, List.getElem_cons_zero, List.getElem_cons_succ, Act.put, List.setIfInBounds_toArray, List.set_cons_zero, List.set_cons_succ]
      refine wpAnyH_ready (rs := [14]) (by kernel_rfl) (by simp) ?_
      refine (AllReadyH.cons rfl (fun K hK => ?_) AllReadyH.nil)
      refine step_append_any rfl _ _ rfl (.slice (some ⟨w.heap.size, 0, none⟩) 0 0) [] (by simp [Act.eval]) (irow_empty ((Blk.new w.drew 3 #[]).alloc (.cells #[.int .i64 x] 3))) A nn c (by simp [Act.eval]) HA.out (s.n k) HNN.out (HNW.out _ (((Only.refl [] w).drew.alloc _).alloc _)) HB0.out ?_
      intro v5 w5 h1 h2 h3
      have hc5 := copied_of (w := w) (((Only.refl [] w).drew.alloc _).alloc _) (Nat.le_refl _) h1 h2 h3
      obtain ⟨A5, c5, e5, -⟩ := hc5.row.form
      rw [HNN.out] at e5
      subst e5
      have HK2 := hide ((blk_new2 w (.cells #[] 3) 3 #[.int .i64 x]).only h2 (by simp [Value.ownBlock]))
      have HC5 := hide hc5
      clear h1 h2 h3 hc5
      refine hK.out _ _ (HS.out _ (HC5.out.only)) (fun hHeld => ?_)
      clear hK K
      try simp only [List.getElem_toArray, List.getElem_cons_zero, List.getElem_cons_succ, Act.put, List.setIfInBounds_toArray, List.set_cons_zero, List.set_cons_succ]
      refine wpAnyH_ready (rs := [24]) (by kernel_rfl) (by simp) ?_
      refine (AllReadyH.cons rfl (fun K hK => ?_) AllReadyH.nil)
      refine step_append_any rfl _ _ rfl (.slice A5 nn c5) (s.n k) (by simp [Act.eval]) (HC5.out.row) (some ⟨w.heap.size + 1, 0, none⟩) 1 1 (by simp [Act.eval]) (fun e => by cases e) [x] rfl (one_news (HK2.out)) HB1'.out ?_
      intro v7 w7 h1 h2 h3
      have hc7 := copied_app HC5.out (Only.refl [] w5) h1 h2 h3
      obtain ⟨A7, c7, e7, -⟩ := hc7.row.form
      rw [List.length_append, List.length_singleton] at e7
      subst e7
      obtain ⟨k1, k2, ct8, cr8, fr8, HK⟩ := HP.out _ w7 hc7
      have HC7 := hide hc7
      clear h1 h2 h3 hc7
      refine hK.out _ _ (HS.out _ (HC7.out.only)) (fun hHeld => ?_)
      clear hK K
      try simp only [List.getElem_toArray, List.getElem_cons_zero, List.getElem_cons_succ, Act.put, List.setIfInBounds_toArray, List.set_cons_zero, List.set_cons_succ]
      refine wpAnyH_take (i := 25) (oi := _) (v := ?_) rfl (by kernel_rfl) (by kernel_rfl) (by kernel_rfl) (fun _ _ _ h => h) (Or.inl ⟨by rfl, ?hy⟩) hHeld ?_
      case hy => (intro w hSw; obtain ⟨s1, s2, s3⟩ := hSw; (try simp only [List.getElem_toArray, List.getElem_cons_zero, List.getElem_cons_succ]); go_simp; (try with_reducible rfl))
      try simp only [List.getElem_toArray, List.getElem_cons_zero, List.getElem_cons_succ, Act.put, List.setIfInBounds_toArray, List.set_cons_zero, List.set_cons_succ]
      refine wpAnyH_take (i := 26) (oi := _) (v := ?_) rfl (by kernel_rfl) (by kernel_rfl) (by kernel_rfl) (fun _ _ _ h => h) (Or.inl ⟨by rfl, ?hy⟩) hHeld ?_
      case hy => (intro w hSw; obtain ⟨s1, s2, s3⟩ := hSw; (try simp only [List.getElem_toArray, List.getElem_cons_zero, List.getElem_cons_succ]); go_simp; (try with_reducible rfl))
      try simp only [List.getElem_toArray, List.getElem_cons_zero, List.getElem_cons_succ, Act.put, List.setIfInBounds_toArray, List.set_cons_zero, List.set_cons_succ]
      refine wpAnyH_done (by kernel_rfl) ?_ _
      refine ThenLast.run rfl ?_
      try simp only [List.getElem_toArray, List.getElem_cons_zero, List.getElem_cons_succ]
      go_simp
      go_wp2
      go_ret
      exact ⟨rfl, HK.out⟩
  · go_simp
    refine hK.out _ _ (HS.out _ ((Only.refl [] w).drew.alloc _)) (fun hHeld => ?_)
    clear hK K
    try simp only [List.getElem_toArray, List.getElem_cons_zero, List.getElem_cons_succ, Act.put, List.setIfInBounds_toArray, List.set_cons_zero, List.set_cons_succ]
    refine wpAnyH_ready (rs := [5]) (by kernel_rfl) (by simp) ?_
    refine (AllReadyH.cons rfl (fun K hK => ?_) AllReadyH.nil)
    go_simp
    refine hK.out _ _ (HS.out _ (((Only.refl [] w).drew.alloc _).alloc _)) (fun hHeld => ?_)
    clear hK K
    try simp only [List.getElem_toArray, List.getElem_cons_zero, List.getElem_cons_succ, Act.put, List.setIfInBounds_toArray, List.set_cons_zero, List.set_cons_succ]
    refine wpAnyH_ready (rs := [14]) (by kernel_rfl) (by simp) ?_
    refine (AllReadyH.cons rfl (fun K hK => ?_) AllReadyH.nil)
    refine step_append_any rfl _ _ rfl (.slice (some ⟨w.heap.size + 1, 0, none⟩) 0 0) [] (by simp [Act.eval]) (irow_empty (blk_new2 w (.cells #[.int .i64 x] 3) 3 #[])) A nn c (by simp [Act.eval]) HA.out (s.n k) HNN.out (HNW.out _ (((Only.refl [] w).drew.alloc _).alloc _)) HB0.out ?_
    intro v5 w5 h1 h2 h3
    have hc5 := copied_of (w := w) (((Only.refl [] w).drew.alloc _).alloc _) (Nat.le_succ _) h1 h2 h3
    obtain ⟨A5, c5, e5, -⟩ := hc5.row.form
    rw [HNN.out] at e5
    subst e5
    have HK3 := hide (((Blk.new w.drew 3 #[.int .i64 x]).alloc (.cells #[] 3)).only h2 (by simp [Value.ownBlock]))
    have HC5 := hide hc5
    clear h1 h2 h3 hc5
    refine hK.out _ _ (HS.out _ (HC5.out.only)) (fun hHeld => ?_)
    clear hK K
    try simp only [List.getElem_toArray, List.getElem_cons_zero, List.getElem_cons_succ, Act.put, List.setIfInBounds_toArray, List.set_cons_zero, List.set_cons_succ]
    refine wpAnyH_ready (rs := [24]) (by kernel_rfl) (by simp) ?_
    refine (AllReadyH.cons rfl (fun K hK => ?_) AllReadyH.nil)
    refine step_append_any rfl _ _ rfl (.slice A5 nn c5) (s.n k) (by simp [Act.eval]) (HC5.out.row) (some ⟨w.heap.size, 0, none⟩) 1 1 (by simp [Act.eval]) (fun e => by cases e) [x] rfl (one_news (HK3.out)) HB1'.out ?_
    intro v7 w7 h1 h2 h3
    have hc7 := copied_app HC5.out (Only.refl [] w5) h1 h2 h3
    obtain ⟨A7, c7, e7, -⟩ := hc7.row.form
    rw [List.length_append, List.length_singleton] at e7
    subst e7
    obtain ⟨k1, k2, ct8, cr8, fr8, HK⟩ := HP.out _ w7 hc7
    have HC7 := hide hc7
    clear h1 h2 h3 hc7
    refine hK.out _ _ (HS.out _ (HC7.out.only)) (fun hHeld => ?_)
    clear hK K
    try simp only [List.getElem_toArray, List.getElem_cons_zero, List.getElem_cons_succ, Act.put, List.setIfInBounds_toArray, List.set_cons_zero, List.set_cons_succ]
    refine wpAnyH_take (i := 25) (oi := _) (v := ?_) rfl (by kernel_rfl) (by kernel_rfl) (by kernel_rfl) (fun _ _ _ h => h) (Or.inl ⟨by rfl, ?hy⟩) hHeld ?_
    case hy => (intro w hSw; obtain ⟨s1, s2, s3⟩ := hSw; (try simp only [List.getElem_toArray, List.getElem_cons_zero, List.getElem_cons_succ]); go_simp; (try with_reducible rfl))
    try simp only [List.getElem_toArray, List.getElem_cons_zero, List.getElem_cons_succ, Act.put, List.setIfInBounds_toArray, List.set_cons_zero, List.set_cons_succ]
    refine wpAnyH_take (i := 26) (oi := _) (v := ?_) rfl (by kernel_rfl) (by kernel_rfl) (by kernel_rfl) (fun _ _ _ h => h) (Or.inl ⟨by rfl, ?hy⟩) hHeld ?_
    case hy => (intro w hSw; obtain ⟨s1, s2, s3⟩ := hSw; (try simp only [List.getElem_toArray, List.getElem_cons_zero, List.getElem_cons_succ]); go_simp; (try with_reducible rfl))
    try simp only [List.getElem_toArray, List.getElem_cons_zero, List.getElem_cons_succ, Act.put, List.setIfInBounds_toArray, List.set_cons_zero, List.set_cons_succ]
    refine wpAnyH_done (by kernel_rfl) ?_ _
    refine ThenLast.run rfl ?_
    try simp only [List.getElem_toArray, List.getElem_cons_zero, List.getElem_cons_succ]
    go_simp
    go_wp2
    go_ret
    exact ⟨rfl, HK.out⟩
end
end Go.Proofs.Ytdinndpeoankdaa
