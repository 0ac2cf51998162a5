/-
  Translations (parapet/tlb): put, and Start of one target.
-/
import Derived.Test.YtdkbjnnflpopdaaTlbOpen
namespace Go.Proofs.Ytdkbjnnflpopdaa
open Go.ChangeShapes Go.WideShapes Go.ChangeAt Go.RowKit Go.Maps
set_option linter.unusedVariables false

theorem eql8_no (w : World) (b0 b1 b2 b3 b4 b5 b6 b7 : Bool) : (binOp .eql 70 (.agg #[.bool b0, .bool b1, .bool b2, .bool b3, .bool b4, .bool b5, .bool b6, .bool b7]) (.agg #[.bool false, .bool false, .bool false, .bool false, .bool false, .bool false, .bool false, .bool false])).run Try.prog w = .ok (.bool (!(b0 || b1 || b2 || b3 || b4 || b5 || b6 || b7))) w := by
  cases b0 <;> cases b1 <;> cases b2 <;> cases b3 <;> cases b4 <;> cases b5 <;> cases b6 <;> cases b7 <;> kernel_rfl

section
variable {w w' : World} {t hb ob n size : Nat} {begun : Int} {bs : Nat → Nat} {ls : Nat → List (K2 × K2)} {nx : Nat → Int} {O : List (Int × Sh)} {S : List Nat}
/-- The open ones have turned. -/
theorem IsTlb.opened (T : IsTlb w t hb ob n size begun bs ls nx O) {O' : List (Int × Sh)} {D : DataW Unit} (ho : Only [ob] w w') (h1 : w'.ownsMap Try.prog 3 elemS ob O'.length D) (h2 : MHolds encS D O') : IsTlb w' t hb ob n size begun bs ls nx O' := by
  obtain ⟨n1, n2, n3, n4⟩ := T.ne
  exact ⟨T.blk.only ho (by simp; exact Ne.symm n1), T.row.only ho (by simp; exact Ne.symm n2), fun j hj => (T.hart j hj).only ho (by simp; exact (n4 j hj).2.2), T.len, T.nx0, T.inj, T.obn, ⟨D, h1, h2⟩, T.n1, T.s1⟩

set_option maxRecDepth 100000 in
/-- put: somebody waits; it was not open. -/
theorem put_new (T : IsTlb w t hb ob n size begun bs ls nx O) (id sp : Int) (h3 : (Lit.int .i64 id).wf = true) (hn : id ∉ O.map (·.1)) (hl : O.length < 4611686018427387904) (b0 b1 b2 b3 b4 b5 b6 b7 : Bool) (hw : (b0 || b1 || b2 || b3 || b4 || b5 || b6 || b7) = true) :
    Calls Try.prog 34 #[.pointer (some ⟨t, 0, none⟩), .int .i64 id, .agg #[.int .i64 sp, .bool b0, .bool b1, .bool b2, .bool b3, .bool b4, .bool b5, .bool b6, .bool b7]] w fun e w' => e = .returned (.tuple #[]) ∧ IsTlb w' t hb ob n size begun bs ls nx (O ++ [(id, (sp, [b0, b1, b2, b3, b4, b5, b6, b7]))]) ∧ Only [ob] w w' := by
  have HT := hide T
  obtain ⟨D, ho1, ho2⟩ := T.opn
  have hq := fun w => eql8_no w b0 b1 b2 b3 b4 b5 b6 b7
  simp only [hw, Bool.not_true] at hq
  obtain ⟨w8, hw8⟩ : ∃ w8 : World, (w.alloc (.cells #[.int .i64 sp, .bool b0, .bool b1, .bool b2, .bool b3, .bool b4, .bool b5, .bool b6, .bool b7] 72)).drew = w8 := ⟨_, rfl⟩
  have ho8 : Only [] w w8 := by rw [← hw8]; exact ((Only.refl _ _).alloc _).drew
  obtain ⟨w9, hrun9, hown9, ho9⟩ := storeS_new (s := (sp, [b0, b1, b2, b3, b4, b5, b6, b7])) ho2 (own_onlyS ho1 ho8 (by simp)) (by unfold maxLen; omega) h3 hn rfl
  have HE := hide (And.intro ((T.new ho8).opened ho9 hown9 (ho2.new h3 hn)) ((ho8.mono (by simp)).trans ho9))
  rw [← hw8] at hrun9
  simp only [sV, List.map_cons, List.map_nil] at hrun9
  have hc3 : ∀ o1, (w.alloc o1).cell? ⟨t, 3, none⟩ = some (.map (some ob)) := fun o1 => (T.blk.alloc o1).cell 3
  clear T ho1 ho2 hown9 ho9 hw8 ho8 hw
  go_enter Try.func34, Try.ntmps34
  go_wp2_with fail
  go_region
  go_wp2
  exact bodyPost_end (results_none rfl _ _ _) rfl ⟨rfl, HE.out⟩

set_option maxRecDepth 100000 in
/-- put: nobody waits; it was open. -/
theorem put_over (T : IsTlb w t hb ob n size begun bs ls nx O) (id sp : Int) {s : Sh} (hp : (id, s) ∈ O) (hl : O.length < 4611686018427387904) :
    Calls Try.prog 34 #[.pointer (some ⟨t, 0, none⟩), .int .i64 id, .agg #[.int .i64 sp, .bool false, .bool false, .bool false, .bool false, .bool false, .bool false, .bool false, .bool false]] w fun e w' => e = .returned (.tuple #[]) ∧ IsTlb w' t hb ob n size begun bs ls nx (outV O id) ∧ Only [ob] w w' := by
  have HT := hide T
  obtain ⟨D, ho1, ho2⟩ := T.opn
  have hq := fun w => eql8_no w false false false false false false false false
  simp only [Bool.or_false, Bool.not_false] at hq
  obtain ⟨w8, hw8⟩ : ∃ w8 : World, w.alloc (.cells #[.int .i64 sp, .bool false, .bool false, .bool false, .bool false, .bool false, .bool false, .bool false, .bool false] 72) = w8 := ⟨_, rfl⟩
  have ho8 : Only [] w w8 := by rw [← hw8]; exact (Only.refl _ _).alloc _
  obtain ⟨w9, hrun9, hown9, ho9⟩ := dropS ho2 (own_onlyS ho1 ho8 (by simp)) hp 0
  have HE := hide (And.intro ((T.new ho8).opened ho9 hown9 (ho2.del hp)) ((ho8.mono (by simp)).trans ho9))
  rw [← hw8] at hrun9
  have hc3 : ∀ o1, (w.alloc o1).cell? ⟨t, 3, none⟩ = some (.map (some ob)) := fun o1 => (T.blk.alloc o1).cell 3
  clear T ho1 ho2 hown9 ho9 hw8 ho8
  go_enter Try.func34, Try.ntmps34
  go_wp2
  exact bodyPost_ret (results_none rfl _ _ _) rfl ⟨rfl, HE.out⟩

set_option maxRecDepth 100000 in
/-- Start: a shootdown of one target, the first hart. -/
theorem bStart_one (T : IsTlb w t hb ob n size begun bs ls nx O) (sp : Int) (hsp : (Lit.int .i64 sp).wf = true) (h0 : 0 ≤ begun) (h1 : begun < 2147483647) (hO : ∀ p ∈ O, p.1 ≤ begun) (hl : O.length < 4611686018427387904) (q o c : Nat) (hq : w.cell? ⟨q, o, none⟩ = some (.int .i64 0)) (hql : q < w.heap.size) (hqt : q ≠ t) :
    Calls Try.prog 14 #[.pointer (some ⟨t, 0, none⟩), .int .i64 sp, .slice (some ⟨q, o, none⟩) 1 c] w fun e w' => e = .returned (.tuple #[.int .i64 (begun + 1), .int .i64 0]) ∧ IsTlb w' t hb ob n size (begun + 1) bs ls nx (O ++ [(begun + 1, (sp, [true, false, false, false, false, false, false, false]))]) ∧ Only [t, ob] w w' := by
  have hn1 := T.n1
  have HT := hide (fun W (ho : Only [] w W) => T.new ho)
  have HC := hide (bclosed_is T)
  have HH := hide (fun o1 => show Calls Try.prog 32 #[.pointer (some ⟨t, 0, none⟩), .int .i64 0] (w.alloc o1) fun e w' => e = .returned (.bool true) ∧ w.alloc o1 = w' from by
    have := bhas_is (T.new ((Only.refl [] w).alloc o1)) 0
    rwa [decide_eq_true (by omega)] at this)
  have hc2 : ∀ o1, (w.alloc o1).cell? ⟨t, 2, none⟩ = some (.int .i64 begun) := fun o1 => (T.blk.alloc o1).cell 2
  have hz2 : ∀ o1, (w.alloc o1).frozen? ⟨t, 2, none⟩ = false := fun o1 => (T.blk.alloc o1).frozen 2
  have hqq : ∀ o1, (w.alloc o1).cell? ⟨q, o, none⟩ = some (.int .i64 0) := fun o1 => Lib.cell?_alloc_some _ hq
  have htl := T.blk.lt
  have hws : IntKind.i64.wrap (begun + 1) = begun + 1 := by rw [IntKind.wrap_i64]; omega
  have hbe : (begun == 2147483647) = false := by simp; omega
  clear T
  go_enter Try.func14, Try.ntmps14
  go_wp2_with (go_at_call 31; refine HC.out.mono ?_; rintro e w' ⟨rfl, rfl⟩)
  refine wp_loop_rounds 2 ?_
  rw [rounds_succ]
  go_wp2_with (go_at_call 32; refine (HH.out _).mono ?_; rintro e w' ⟨rfl, rfl⟩)
  rw [rounds_succ]
  go_wp2_with fail
  obtain ⟨w5, hw5⟩ : ∃ w5 : World, (w.setCell ⟨t, 2, none⟩ (.int .i64 (begun + 1))).alloc (.cells #[.int .i64 sp, .bool true, .bool false, .bool false, .bool false, .bool false, .bool false, .bool false, .bool false] 72) = w5 := ⟨_, rfl⟩
  have T5 : IsTlb w5 t hb ob n size (begun + 1) bs ls nx O := by
    have T0 := HT.out w (Only.refl _ _)
    obtain ⟨n1, n2, n3, n4⟩ := T0.ne
    obtain ⟨D, ho1, ho2⟩ := T0.opn
    have ho : Only [t] w (w.setCell ⟨t, 2, none⟩ (.int .i64 (begun + 1))) := (Only.refl _ _).setCell _ (by simp)
    rw [← hw5]
    refine IsTlb.new ?_ ((Only.refl [] _).alloc _)
    exact ⟨T0.blk.set_ 2 _, T0.row.only ho (by simp; exact Ne.symm n3), fun j hj => (T0.hart j hj).only ho (by simp; exact (n4 j hj).1), T0.len, T0.nx0, T0.inj, T0.obn, ⟨D, own_onlyS ho1 ho (by simp; exact n1), ho2⟩, T0.n1, T0.s1⟩
  have ho5 : Only [t] w w5 := by rw [← hw5]; exact ((Only.refl [t] w).setCell _ (by simp)).alloc _
  have HW5 := hide hw5
  have HT5 := hide (fun W (ho : Only [] w5 W) => T5.new ho)
  have HP := hide (fun W (ho : Only [] w5 W) => put_new (T5.new ho) (begun + 1) sp (by simp [Lit.wf, IntKind.min, IntKind.max, IntKind.signed, IntKind.bits]; omega) (fun hm => by obtain ⟨p, hp, e⟩ := List.mem_map.1 hm; have := hO p hp; omega) hl true false false false false false false false rfl)
  have HO5 := hide ho5
  have hs5 : w5.heap.size = w.heap.size + 1 := by rw [← hw5]; simp [World.setCell]
  have hbx : Blk w5 w.heap.size 72 #[.int .i64 sp, .bool true, .bool false, .bool false, .bool false, .bool false, .bool false, .bool false, .bool false] := by
    rw [← hw5]
    have := Blk.new (w.setCell ⟨t, 2, none⟩ (.int .i64 (begun + 1))) 72 #[.int .i64 sp, .bool true, .bool false, .bool false, .bool false, .bool false, .bool false, .bool false, .bool false]
    simpa [World.setCell] using this
  have hobl : ob < w.heap.size := by
    obtain ⟨D, h, _⟩ := (HT.out w (Only.refl _ _)).opn
    exact h.lt
  have hobt : ob ≠ t := (HT.out w (Only.refl _ _)).ne.1
  have HS := hide (fun W (ho : Only [ob] w5 W) => (show W.cell? ⟨t, 2, none⟩ = some (.int .i64 (begun + 1)) ∧ W.cell? ⟨w.heap.size, 0, none⟩ = some (.int .i64 sp) ∧ W.cell? ⟨w.heap.size, 1, none⟩ = some (.bool true) ∧ W.cell? ⟨w.heap.size, 2, none⟩ = some (.bool false) ∧ W.cell? ⟨w.heap.size, 3, none⟩ = some (.bool false) ∧ W.cell? ⟨w.heap.size, 4, none⟩ = some (.bool false) ∧ W.cell? ⟨w.heap.size, 5, none⟩ = some (.bool false) ∧ W.cell? ⟨w.heap.size, 6, none⟩ = some (.bool false) ∧ W.cell? ⟨w.heap.size, 7, none⟩ = some (.bool false) ∧ W.cell? ⟨w.heap.size, 8, none⟩ = some (.bool false) from by
    have h1 := (HT5.out w5 (Only.refl _ _)).blk.only ho (by simp; exact Ne.symm hobt)
    have h2 := hbx.only ho (by simp; omega)
    exact ⟨h1.cell 2, h2.cell 0, h2.cell 1, h2.cell 2, h2.cell 3, h2.cell 4, h2.cell 5, h2.cell 6, h2.cell 7, h2.cell 8⟩))
  rw [hw5]
  have hS0 := HS.out w5 (Only.refl _ _)
  clear hbx T5 ho5 hw5 HC HH hc2 hz2 hqq hq
  go_region_held3 (fun w' => w'.cell? ⟨t, 2, none⟩ = some (.int .i64 (begun + 1)) ∧ w'.cell? ⟨w.heap.size, 0, none⟩ = some (.int .i64 sp) ∧ w'.cell? ⟨w.heap.size, 1, none⟩ = some (.bool true) ∧ w'.cell? ⟨w.heap.size, 2, none⟩ = some (.bool false) ∧ w'.cell? ⟨w.heap.size, 3, none⟩ = some (.bool false) ∧ w'.cell? ⟨w.heap.size, 4, none⟩ = some (.bool false) ∧ w'.cell? ⟨w.heap.size, 5, none⟩ = some (.bool false) ∧ w'.cell? ⟨w.heap.size, 6, none⟩ = some (.bool false) ∧ w'.cell? ⟨w.heap.size, 7, none⟩ = some (.bool false) ∧ w'.cell? ⟨w.heap.size, 8, none⟩ = some (.bool false)) (first | assumption | exact HS.out _ (by repeat (first | exact Only.refl _ _ | apply Only.drew)) | exact HK2.out | go_keep) (first | (go_at_call 34; refine (HP.out _ (by repeat (first | exact Only.refl _ _ | apply Only.drew | apply Only.alloc))).mono ?_; rintro e' w1 ⟨rfl, hA1, ho1⟩; have HOB := hide (show Only [ob] w5 w1 from Only.trans (by repeat (first | exact Only.refl _ _ | apply Only.drew)) ho1); have HK2 := hide (HS.out w1 HOB.out); have HE := hide hA1; clear hA1 ho1))
  have hc2' := HK2.out.1
  have HO := hide (show Only [t, ob] w w1 from (HO5.out.mono (fun q _ hq => by simp at hq; simp [hq])).trans (HOB.out.mono (fun q _ hq => by simp at hq; simp [hq])))
  clear HK2 HOB HO5 HS HP HT5 HT hS0
  go_wp2
  go_ret2
  exact ⟨rfl, HE.out, HO.out⟩
end
end Go.Proofs.Ytdkbjnnflpopdaa
