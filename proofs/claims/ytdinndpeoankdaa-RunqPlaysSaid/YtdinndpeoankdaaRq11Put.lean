/-
  The document's own run queues (parapetref11): Put.
-/
import Derived.Test.YtdinndpeoankdaaRq11Do
namespace Go.Proofs.Ytdinndpeoankdaa
open Go.ChangeShapes Go.WideShapes Go.ChangeAt Go.RowKit Go.Maps
set_option linter.unusedVariables false
section
variable {w w' w1 w5 : World} {gx hx : Nat} {s s' : RQ} {xs : Nat → Value} {S : List Nat} {v5 : Value} {zs : List Int}
set_option maxHeartbeats 8000000 in
theorem xPut_ok (X : IsX w gx hx s xs) (o : OkQ s) (h : Nat) (hh : h < s.H) (t : Int) (ht : 1 ≤ t) (hn : t ∉ keysQ s) (hl : s.O.length < 64) :
    Calls Try.prog 13 #[.pointer (some ⟨gx, 0, none⟩), .int .i64 h, .int .i64 t] w fun e w' => e = .returned (.int .i64 0) ∧ DidX w w' gx hx s.H xs (putS s h t) := by
  have HH := hide (xhart_is X h)
  have e1 : hasQ s h = true := by simp [hasQ, hh]
  rw [e1] at HH
  have HW := hide (xWhere_is X o t)
  rw [show whereF s t = (0, false) by unfold whereF; rw [if_neg hn]] at HW
  have HAL := hide (xall_is X o)
  have ht1 : ¬ t < 1 := by omega
  have hl64 : decide (64 ≤ ((s.O.length : Nat) : Int)) = false := by simp; omega
  have hlN : ¬ 64 ≤ s.O.length := by omega
  have c0 := X.cT
  obtain ⟨A, c, hv, cn, hA, hlc, hcm, hc⟩ := X.form hh
  have fn := X.fr (h * 2 + 1)
  have hhi : (h : Int) < s.H := by omega
  have HA := hide hA
  have HNW := hide (fun (V : World) (hV : Only [] w V) => (show ∀ ad, A = some ad → ∀ j u, (i64l (s.n h))[j]? = some u → V.cell? (ad.add j) = some u from fun ad e j u hu => by
    obtain ⟨b, rfl, hb, hcell⟩ := hc ad e
    rw [add_at, Nat.zero_add]
    exact (hV.cell hb (by simp)).trans (hcell j u hu)))
  have hf := o.small.few h (by have := o.h8; omega)
  have HB0 := hide (show ([] : List Int).length + (s.n h).length < 4000000000000 by simp; omega)
  have HB1 := hide (show (s.n h).length + 1 < 4000000000000 by omega)
  have HCT := hide (show ∀ V, Only [] w V → V.cell? ⟨gx, 0, none⟩ = some (.slice (some ⟨hx, 0, none⟩) s.H s.H) from fun V hV => (X.quiet hV).cT)
  have HP := hide (fun (v7 : Value) (w7 : World) (hc7 : Copied w w7 v7 (s.n h ++ [t])) =>
    (show w7.cell? ⟨hx, h * 2 + 1, none⟩ = some (.slice A (s.n h).length c) ∧ w7.frozen? ⟨hx, h * 2 + 1, none⟩ = false ∧ (∃ A7 c7, v7 = .slice A7 ((s.n h).length + 1) c7) ∧ (w7.setCell ⟨hx, h * 2 + 1, none⟩ v7).cell? ⟨gx, 0, none⟩ = some (.slice (some ⟨hx, 0, none⟩) s.H s.H) ∧ DidX w (w7.setCell ⟨hx, h * 2 + 1, none⟩ v7) gx hx s.H xs (putS s h t) from by
      have X7 := X.quiet hc7.only
      obtain ⟨A7, c7, e7, -⟩ := hc7.row.form
      have hD := X.putN (s' := putS s h t) hh hc7 rfl rfl rfl
      exact ⟨(X7.cN hh).trans (by rw [hv]), X7.fr _, ⟨A7, c7, by rw [e7, List.length_append]; rfl⟩, by obtain ⟨_, X8, _, _⟩ := hD; exact X8.cT, hD⟩))
  have cnA : ∀ o, (w.alloc o).cell? ⟨hx, h * 2 + 1, none⟩ = some (.slice A (s.n h).length c) := fun o => ((X.quiet ((Only.refl [] w).alloc o)).cN hh).trans (by rw [hv])
  have cnB : ∀ o o', ((w.alloc o).alloc o').cell? ⟨hx, h * 2 + 1, none⟩ = some (.slice A (s.n h).length c) := fun o o' => ((X.quiet (((Only.refl [] w).alloc o).alloc o')).cN hh).trans (by rw [hv])
  have ctA : ∀ o, (w.alloc o).cell? ⟨gx, 0, none⟩ = some (.slice (some ⟨hx, 0, none⟩) s.H s.H) := fun o => (X.quiet ((Only.refl [] w).alloc o)).cT
  have ctB : ∀ o o', ((w.alloc o).alloc o').cell? ⟨gx, 0, none⟩ = some (.slice (some ⟨hx, 0, none⟩) s.H s.H) := fun o o' => (X.quiet (((Only.refl [] w).alloc o).alloc o')).cT
  clear X o hv hA hc hn hlc hcm
  go_enter Try.func13, Try.ntmps13
  go_wp2_with (first | (go_at_call 35; refine HH.out.mono ?_; rintro e w' ⟨rfl, rfl⟩) | (go_at_call 23; refine HW.out.mono ?_; rintro e w' ⟨rfl, rfl⟩) | (go_at_call 36; refine HAL.out.mono ?_; rintro e w' ⟨rfl, rfl⟩))
  go_region_law (first | (have hg := HK1; refine step_append_any rfl _ _ rfl (.slice A5 (s.n h).length c5) (s.n h) (by simp [Act.eval]) (HC5.out.row.only ((Only.refl [] w5).alloc _) (by simp)) (some ⟨w5.heap.size, 0, none⟩) 1 1 (by simp [Act.eval]) (fun e => by cases e) [t] rfl (one_news (Blk.new w5 3 #[.int .i64 t])) HB1.out ?_; intro v7 w7 h1 h2 h3; have hc7 := copied_app HC5.out ((Only.refl [] w5).alloc _) h1 h2 h3; have ct7 := HCT.out _ hc7.only; obtain ⟨k1, k2, ⟨A7, c7, rfl⟩, ct8, k3⟩ := HP.out v7 w7 hc7; have HK := hide k3; clear h1 h2 h3 k3 hc7) | (have hg := HK2; refine step_append_any rfl _ _ rfl (.slice A5 (s.n h).length c5) (s.n h) (by simp [Act.eval]) HC5.out.row (some ⟨w.heap.size + 1, 0, none⟩) 1 1 (by simp [Act.eval]) (fun e => by cases e) [t] rfl (one_news HK2.out) HB1.out ?_; intro v7 w7 h1 h2 h3; have hc7 := copied_app HC5.out (Only.refl [] w5) h1 h2 h3; have ct7 := HCT.out _ hc7.only; obtain ⟨k1, k2, ⟨A7, c7, rfl⟩, ct8, k3⟩ := HP.out v7 w7 hc7; have HK := hide k3; clear h1 h2 h3 k3 hc7) | (have hg := HK3; refine step_append_any rfl _ _ rfl (.slice A5 (s.n h).length c5) (s.n h) (by simp [Act.eval]) HC5.out.row (some ⟨w.heap.size, 0, none⟩) 1 1 (by simp [Act.eval]) (fun e => by cases e) [t] rfl (one_news HK3.out) HB1.out ?_; intro v7 w7 h1 h2 h3; have hc7 := copied_app HC5.out (Only.refl [] w5) h1 h2 h3; have ct7 := HCT.out _ hc7.only; obtain ⟨k1, k2, ⟨A7, c7, rfl⟩, ct8, k3⟩ := HP.out v7 w7 hc7; have HK := hide k3; clear h1 h2 h3 k3 hc7) | (refine step_append_any rfl _ _ rfl (.slice (some ⟨w.heap.size, 0, none⟩) 0 0) [] (by simp [Act.eval]) (irow_empty (Blk.new w.drew 3 #[])) A (s.n h).length c (by simp [Act.eval]) HA.out (s.n h) rfl (HNW.out _ ((Only.refl [] w).drew.alloc _)) HB0.out ?_; intro v5 w5 h1 h2 h3; have hc5 := copied_of (w := w) ((Only.refl [] w).drew.alloc _) (Nat.le_refl _) h1 h2 h3; obtain ⟨A5, c5, rfl, -⟩ := hc5.row.form; have ct5 := HCT.out _ hc5.only; have ct5a := fun o => HCT.out _ (hc5.only.alloc o); have HK1 := hide True.intro; have HC5 := hide hc5; clear h1 h2 h3 hc5) | (refine step_append_any rfl _ _ rfl (.slice (some ⟨w.heap.size, 0, none⟩) 0 0) [] (by simp [Act.eval]) (irow_empty ((Blk.new w.drew 3 #[]).alloc (.cells #[.int .i64 t] 3))) A (s.n h).length c (by simp [Act.eval]) HA.out (s.n h) rfl (HNW.out _ (((Only.refl [] w).drew.alloc _).alloc _)) HB0.out ?_; intro v5 w5 h1 h2 h3; have hc5 := copied_of (w := w) (((Only.refl [] w).drew.alloc _).alloc _) (Nat.le_refl _) h1 h2 h3; obtain ⟨A5, c5, rfl, -⟩ := hc5.row.form; have ct5 := HCT.out _ hc5.only; have ct5a := fun o => HCT.out _ (hc5.only.alloc o); have HK2 := hide ((blk_new2 w (.cells #[] 3) 3 #[.int .i64 t]).only h2 (by simp [Value.ownBlock])); have HC5 := hide hc5; clear h1 h2 h3 hc5) | (refine step_append_any rfl _ _ rfl (.slice (some ⟨w.heap.size + 1, 0, none⟩) 0 0) [] (by simp [Act.eval]) (irow_empty (blk_new2 w (.cells #[.int .i64 t] 3) 3 #[])) A (s.n h).length c (by simp [Act.eval]) HA.out (s.n h) rfl (HNW.out _ (((Only.refl [] w).drew.alloc _).alloc _)) HB0.out ?_; intro v5 w5 h1 h2 h3; have hc5 := copied_of (w := w) (((Only.refl [] w).drew.alloc _).alloc _) (Nat.le_succ _) h1 h2 h3; obtain ⟨A5, c5, rfl, -⟩ := hc5.row.form; have ct5 := HCT.out _ hc5.only; have ct5a := fun o => HCT.out _ (hc5.only.alloc o); have HK3 := hide (((Blk.new w.drew 3 #[.int .i64 t]).alloc (.cells #[] 3)).only h2 (by simp [Value.ownBlock])); have HC5 := hide hc5; clear h1 h2 h3 hc5))
  all_goals
    go_wp2
    go_ret
    exact ⟨rfl, HK.out⟩
end
end Go.Proofs.Ytdinndpeoankdaa
