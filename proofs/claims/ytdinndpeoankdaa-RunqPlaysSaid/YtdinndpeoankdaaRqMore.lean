/-
  The run queues (parapet/runq): Next, Remove, as far as memory goes.
-/
import Derived.Test.YtdinndpeoankdaaRqPure
namespace Go.Proofs.Ytdinndpeoankdaa
open Go.ChangeShapes Go.WideShapes Go.ChangeAt Go.RowKit Go.Maps
set_option linter.unusedVariables false
section
variable {w w' : World} {g m : Nat} {s : RQ} {vs : Nat → Value} {S : List Nat}
theorem qNext_no (R : IsRq w g m s vs) (hs : SmallQ s) (h : Int) (hb : hasQ s h = false ∨ s.r h.toNat ≠ 0) : Calls Try.prog 10 #[.pointer (some ⟨g, 0, none⟩), .int .i64 h] w fun e w' => e = .returned (.tuple #[.int .i64 0, .bool false]) ∧ w = w' := by
  have HH := hide (qhas_is R hs h)
  by_cases hh : hasQ s h = true
  · have h2 := hh
    unfold hasQ at h2
    rw [decide_eq_true_eq] at h2
    have := hs.h8
    obtain ⟨k, rfl⟩ : ∃ k : Nat, h = k := ⟨h.toNat, by omega⟩
    have hk : k < 8 := by omega
    have cr := R.cR hk
    have hhi : (k : Int) < 8 := by omega
    rw [Int.toNat_natCast] at hb
    have hb2 := hb.resolve_left (by simp [hh])
    have hb3 : (s.r k != 0) = true := by simp [hb2]
    rw [hh] at HH
    clear R hs hb h2 this hh hb2
    go_enter Try.func10, Try.ntmps10
    go_wp2_with (go_at_call 30; refine HH.out.mono ?_; rintro e w' ⟨rfl, rfl⟩)
    go_ret2
    exact ⟨rfl, rfl⟩
  · have hh' : hasQ s h = false := by simpa using hh
    rw [hh'] at HH
    clear R hs hb hh hh'
    go_enter Try.func10, Try.ntmps10
    go_wp2_with (go_at_call 30; refine HH.out.mono ?_; rintro e w' ⟨rfl, rfl⟩)
    go_ret2
    exact ⟨rfl, rfl⟩
theorem qNext_nil (w : World) (h : Int) : Calls Try.prog 10 #[.pointer none, .int .i64 h] w fun e w' => e = .returned (.tuple #[.int .i64 0, .bool false]) ∧ w = w' := by
  have HH := hide (qhas_nil w h)
  go_enter Try.func10, Try.ntmps10
  go_wp2_with (go_at_call 30; refine HH.out.mono ?_; rintro e w' ⟨rfl, rfl⟩)
  go_ret2
  exact ⟨rfl, rfl⟩
theorem qNext_own (R : IsRq w g m s vs) (o : OkQ s) (h : Nat) (hh : h < s.H) (hr : s.r h = 0) (hn : s.n h ≠ []) :
    Calls Try.prog 10 #[.pointer (some ⟨g, 0, none⟩), .int .i64 h] w fun e w' => e = .returned (.tuple #[.int .i64 (gb (s.n h) 0), .bool true]) ∧ DidQ w w' g m vs (runS s h h 0) := by
  have hs := o.small
  have h8 : h < 8 := by have := hs.h8; omega
  have hhi : (h : Int) < 8 := by omega
  have HH := hide (qhas_is R hs h)
  have e1 : hasQ s h = true := by simp [hasQ, hh]
  rw [e1] at HH
  have cr := R.cR h8
  rw [hr] at cr
  obtain ⟨A, c, hv, cn⟩ := R.form h8
  have hl0 : 0 < (s.n h).length := List.length_pos_iff.2 hn
  have hl0' : (0 : Int) < (s.n h).length := by omega
  have hy := o.wn h _ (gb_mem hl0)
  have HR := hide (qrun_is R hs h h h8 h8 0 hl0 ((o.keys _ _).2 ⟨h, rfl, hy.1, .inr (gb_mem hl0)⟩) o.few)
  clear R o hs hv hr hn hy
  go_enter Try.func10, Try.ntmps10
  go_wp2_with (first | (go_at_call 30; refine HH.out.mono ?_; rintro e w' ⟨rfl, rfl⟩) | (go_at_call 32; refine HR.out.mono ?_; rintro e w' ⟨rfl, hd⟩; have HD := hide hd; clear hd))
  go_ret2
  exact ⟨rfl, HD.out⟩
theorem qNext_steal (R : IsRq w g m s vs) (o : OkQ s) (h : Nat) (hh : h < s.H) (hr : s.r h = 0) (hn : s.n h = []) (hb : s.n (busyQ s s.H) ≠ []) :
    Calls Try.prog 10 #[.pointer (some ⟨g, 0, none⟩), .int .i64 h] w fun e w' => e = .returned (.tuple #[.int .i64 (gb (s.n (busyQ s s.H)) ((s.n (busyQ s s.H)).length - 1)), .bool true]) ∧ DidQ w w' g m vs (runS s h (busyQ s s.H) ((s.n (busyQ s s.H)).length - 1)) := by
  have hs := o.small
  have h8 : h < 8 := by have := hs.h8; omega
  have hhi : (h : Int) < 8 := by omega
  have HH := hide (qhas_is R hs h)
  have e1 : hasQ s h = true := by simp [hasQ, hh]
  rw [e1] at HH
  have cr := R.cR h8
  rw [hr] at cr
  obtain ⟨A, c, hv, cn⟩ := R.form h8
  rw [hn] at cn
  have HB := hide (qbusiest_is R hs)
  have b8 : busyQ s s.H < 8 := by have := busyQ_lt s s.H; have := hs.h8; have := hs.h1; omega
  revert HB hb b8
  generalize busyQ s s.H = b
  intro hb HB b8
  have hbi : (b : Int) < 8 := by omega
  have hl0 : 0 < (s.n b).length := List.length_pos_iff.2 hb
  have hl64 := hs.few b b8
  have hli : (s.n b).length - 1 < (s.n b).length := by omega
  have hy := o.wn b _ (gb_mem hli)
  have e2 : IntKind.i64.wrap (((s.n b).length : Int) - 1) = ((s.n b).length - 1 : Nat) := by rw [IntKind.wrap_i64]; omega
  have HW := hide (fun (wA : World) (kA : Only [] w wA) =>
    (show (∃ A c, wA.cell? ⟨g, 9 + b, none⟩ = some (.slice A (s.n b).length c)) ∧ (Calls Try.prog 32 #[.pointer (some ⟨g, 0, none⟩), .int .i64 h, .int .i64 b, .int .i64 ((s.n b).length - 1 : Nat)] wA fun e w' => e = .returned (.int .i64 (gb (s.n b) ((s.n b).length - 1))) ∧ DidQ w w' g m vs (runS s h b ((s.n b).length - 1))) from by
      have R1 := R.quiet kA
      obtain ⟨A, c, _, cn⟩ := R1.form b8
      refine ⟨⟨A, c, cn⟩, (qrun_is R1 hs h b h8 b8 _ hli ((o.keys _ _).2 ⟨b, rfl, hy.1, .inr (gb_mem hli)⟩) o.few).mono ?_⟩
      rintro e w2 ⟨rfl, vs2, R2, T2⟩
      exact ⟨rfl, vs2, R2, (Turn.same _ kA).trans T2⟩))
  clear R o hs hv hr hn hy
  go_enter Try.func10, Try.ntmps10
  go_wp2_with (first | (go_at_call 30; refine HH.out.mono ?_; rintro e w' ⟨rfl, rfl⟩) | (go_at_call 33; refine HB.out.mono ?_; rintro e w1 ⟨rfl, ho⟩; obtain ⟨⟨A1, c1, cb⟩, hrn⟩ := HW.out _ ho; have HRN := hide hrn; clear hrn ho) | (go_at_call 32; refine HRN.out.mono ?_; rintro e w' ⟨rfl, hd⟩; have HD := hide hd; clear hd))
  go_ret2
  exact ⟨rfl, HD.out⟩
theorem qNext_none (R : IsRq w g m s vs) (o : OkQ s) (h : Nat) (hh : h < s.H) (hr : s.r h = 0) (hn : s.n h = []) (hb : s.n (busyQ s s.H) = []) :
    Calls Try.prog 10 #[.pointer (some ⟨g, 0, none⟩), .int .i64 h] w fun e w' => e = .returned (.tuple #[.int .i64 0, .bool false]) ∧ Only [] w w' := by
  have hs := o.small
  have h8 : h < 8 := by have := hs.h8; omega
  have hhi : (h : Int) < 8 := by omega
  have HH := hide (qhas_is R hs h)
  have e1 : hasQ s h = true := by simp [hasQ, hh]
  rw [e1] at HH
  have cr := R.cR h8
  rw [hr] at cr
  obtain ⟨A, c, hv, cn⟩ := R.form h8
  rw [hn] at cn
  have HB := hide (qbusiest_is R hs)
  have b8 : busyQ s s.H < 8 := by have := busyQ_lt s s.H; have := hs.h8; have := hs.h1; omega
  revert HB hb b8
  generalize busyQ s s.H = b
  intro hb HB b8
  have hbi : (b : Int) < 8 := by omega
  have HW := hide (fun (wA : World) (kA : Only [] w wA) =>
    (show (∃ A c, wA.cell? ⟨g, 9 + b, none⟩ = some (.slice A 0 c)) from by
      obtain ⟨A, c, _, cn⟩ := (R.quiet kA).form b8
      rw [hb] at cn
      exact ⟨A, c, cn⟩))
  clear R o hs hv hr hn
  go_enter Try.func10, Try.ntmps10
  go_wp2_with (first | (go_at_call 30; refine HH.out.mono ?_; rintro e w' ⟨rfl, rfl⟩) | (go_at_call 33; refine HB.out.mono ?_; rintro e w1 ⟨rfl, ho⟩; obtain ⟨A1, c1, cb⟩ := HW.out _ ho; have HO := hide ho; clear ho))
  go_ret2
  exact ⟨rfl, HO.out⟩

theorem qRemove_no (R : IsRq w g m s vs) (hs : SmallQ s) (t : Int) (hk : iW t) (hn : t ∉ keysQ s) : Calls Try.prog 20 #[.pointer (some ⟨g, 0, none⟩), .int .i64 t] w fun e w' => e = .returned (.bool false) ∧ w = w' := by
  have HO := hide (qholds_no R hs hk hn)
  clear R hs hn
  go_enter Try.func20, Try.ntmps20
  go_wp2_with (go_at_call 31; refine HO.out.mono ?_; rintro e w' ⟨rfl, rfl⟩)
  go_ret
  exact ⟨rfl, rfl⟩
theorem qRemove_nil (w : World) (t : Int) : Calls Try.prog 20 #[.pointer none, .int .i64 t] w fun e w' => e = .returned (.bool false) ∧ w = w' := by
  have HO := hide (qholds_nil w t)
  go_enter Try.func20, Try.ntmps20
  go_wp2_with (go_at_call 31; refine HO.out.mono ?_; rintro e w' ⟨rfl, rfl⟩)
  go_ret
  exact ⟨rfl, rfl⟩
/-- The thread goes out of the map. -/
theorem drop_map {s1 : RQ} {vs1 : Nat → Value} {w1 : World} (R : IsRq w1 g m s1 vs1) {t k : Int} (hp : (t, k) ∈ s1.O) (T1 : Turn w w1 (footQ g m vs) (footQ g m vs1)) :
    ∃ w2, (∀ ty, (Builtin.delete_ #[36, 3] ty #[.map (some m), .int .i64 t]).run Try.prog w1 = .ok (.tuple #[]) w2) ∧ DidQ w w2 g m vs { s1 with O := outV s1.O t } := by
  obtain ⟨D, d1, d2⟩ := R.own
  obtain ⟨w2, hr, hown, ho⟩ := dropI d2 d1 hp 0
  refine ⟨w2, fun ty => ?_, vs1, R.putM ho hown (d2.del hp), T1.trans ⟨ho.mono (fun q _ hq => mem_footQ.2 (.inr (.inl (by simpa using hq)))), fun q hq => .inl hq⟩⟩
  obtain ⟨w3, hr3, _, _⟩ := dropI d2 d1 hp ty
  rw [← hr]
  rfl
theorem qRemove_run (R : IsRq w g m s vs) (o : OkQ s) (h : Nat) (t : Int) (ha : atQ s t h) (hr : s.r h = t) :
    Calls Try.prog 20 #[.pointer (some ⟨g, 0, none⟩), .int .i64 t] w fun e w' => e = .returned (.bool true) ∧ DidQ w w' g m vs (dropS s h t) := by
  have hs := o.small
  have h8 : h < 8 := by have := hs.h8; have := o.lt ha; omega
  have hhi : (h : Int) < 8 := by omega
  have hp : (t, (h : Int)) ∈ s.O := (o.keys _ _).2 ⟨h, rfl, ha⟩
  have HO := hide (qholds_yes R hs hp)
  have c17 := R.cM
  obtain ⟨D, d1, d2⟩ := R.own
  have hlk := lookI d2 d1 hp false
  simp only [Bool.false_eq_true, if_false] at hlk
  have cr := R.cR h8
  rw [hr] at cr
  have fr := R.fr (1 + h)
  have hE : dropS s h t = { s with r := upd s.r h 0, O := outV s.O t } := by unfold dropS; rw [if_pos hr]
  obtain ⟨R2, o2⟩ := R.putR h8 0
  obtain ⟨w2, hdel, hd⟩ := drop_map (w := w) (vs := vs) R2 hp ⟨o2.mono (fun q _ hq => mem_footQ.2 (.inl (by simpa using hq))), fun q hq => .inl hq⟩
  have c17' := R2.cM
  rw [hE]
  have HD := hide hd
  have heq : (t == t) = true := by simp
  clear R R2 o o2 hd hs d1 d2 hr hE hp ha
  go_enter Try.func20, Try.ntmps20
  go_wp2_with (go_at_call 31; refine HO.out.mono ?_; rintro e w' ⟨rfl, rfl⟩)
  go_ret
  exact ⟨rfl, HD.out⟩
theorem qRemove_queue (R : IsRq w g m s vs) (o : OkQ s) (h : Nat) (t : Int) (ha : atQ s t h) (hr : s.r h ≠ t) :
    Calls Try.prog 20 #[.pointer (some ⟨g, 0, none⟩), .int .i64 t] w fun e w' => e = .returned (.bool true) ∧ DidQ w w' g m vs (dropS s h t) := by
  have hs := o.small
  have h8 : h < 8 := by have := hs.h8; have := o.lt ha; omega
  have hhi : (h : Int) < 8 := by omega
  have hp : (t, (h : Int)) ∈ s.O := (o.keys _ _).2 ⟨h, rfl, ha⟩
  have hm : t ∈ s.n h := ha.2.resolve_left hr
  have HO := hide (qholds_yes R hs hp)
  have c17 := R.cM
  obtain ⟨D, d1, d2⟩ := R.own
  have hlk := lookI d2 d1 hp false
  simp only [Bool.false_eq_true, if_false] at hlk
  have cr := R.cR h8
  obtain ⟨A, c, hv, cn⟩ := R.form h8
  have HX := hide (index_is (hv ▸ R.row h h8) (by have := hs.few h h8; omega) hm)
  have HC := hide (fun i hi => qcut_is R hs h h8 i hi)
  have hE : dropS s h t = { s with n := upd s.n h ((s.n h).erase t), O := outV s.O t } := by unfold dropS; rw [if_neg hr]
  rw [hE]
  have hne : (s.r h == t) = false := by simp [hr]
  have HM := hide (fun (w1 : World) (hd : DidQ w w1 g m vs { s with n := upd s.n h ((s.n h).erase t) }) =>
    (show w1.cell? ⟨g, 17, none⟩ = some (.map (some m)) ∧ ∃ w2, (∀ ty, (Builtin.delete_ #[36, 3] ty #[.map (some m), .int .i64 t]).run Try.prog w1 = .ok (.tuple #[]) w2) ∧ DidQ w w2 g m vs { s with n := upd s.n h ((s.n h).erase t), O := outV s.O t } from by
      obtain ⟨vs1, R1, T1⟩ := hd
      exact ⟨R1.cM, drop_map R1 hp T1⟩))
  clear R o hs d1 d2 hr hE hp ha hm hv
  go_enter Try.func20, Try.ntmps20
  go_wp2_with (first | (go_at_call 31; refine HO.out.mono ?_; rintro e w' ⟨rfl, rfl⟩) | (go_at_call 40; refine HX.out.mono ?_; rintro e w' ⟨i, rfl, hi, he, rfl⟩; have HCI := hide (HC.out i hi); rw [he] at HCI) | (go_at_call 39; refine HCI.out.mono ?_; rintro e w1 ⟨rfl, hd⟩; obtain ⟨k1, w2, k2, k3⟩ := HM.out w1 hd; have HF := hide k3; clear k3 hd))
  go_ret
  exact ⟨rfl, HF.out⟩
end
end Go.Proofs.Ytdinndpeoankdaa
