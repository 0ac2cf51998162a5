/-
  Translations (parapet/tlb): Handle of one shootdown of one target.
-/
import Derived.Test.YtdkbjnnflpopdaaTlbPend
import Derived.Deep.RegionHeld3
namespace Go.Proofs.Ytdkbjnnflpopdaa
open Go.ChangeShapes Go.WideShapes Go.ChangeAt Go.RowKit Go.Maps
set_option linter.unusedVariables false

theorem sortK_one (x : Int) : sortK [x] = [x] := List.perm_singleton.1 (sortK_perm [x])
theorem outV_one (id : Int) (s : Sh) : outV [(id, s)] id = [] := by simp [outV]
section
variable {w w' : World} {t hb ob n size : Nat} {begun : Int} {bs : Nat → Nat} {ls : Nat → List (K2 × K2)} {nx : Nat → Int} {O : List (Int × Sh)} {S : List Nat}
set_option maxRecDepth 100000 in
theorem bHandle_one (id sp : Int) (T : IsTlb w t hb ob n size begun bs ls nx [(id, (sp, [true, false, false, false, false, false, false, false]))]) :
    Calls Try.prog 17 #[.pointer (some ⟨t, 0, none⟩), .int .i64 0] w fun e w' => e = .returned (.int .i64 1) ∧ IsTlb w' t hb ob n size begun bs (updF ls 0 (notSp sp (ls 0))) nx [] ∧ Only [bs 0, ob] w w' := by
  have hn := T.n1
  have HT := hide (fun W (ho : Only [] w W) => T.new ho)
  have HP := hide (show Calls Try.prog 15 #[.pointer (some ⟨t, 0, none⟩), .int .i64 0] w fun e w' => ∃ b c, e = .returned (.slice (some ⟨b, 0, none⟩) 1 c) ∧ w'.cell? ⟨b, 0, none⟩ = some (.int .i64 id) ∧ w.heap.size + 1 ≤ b ∧ b < w'.heap.size ∧ Only [] w w' from (bPending_is T 0 (by omega) (by simp)).mono (by
    rintro e w' ⟨v', rfl, hr, ho⟩
    rw [show pend [(id, ((sp, [true, false, false, false, false, false, false, false]) : Sh))] 0 = [id] from rfl, sortK_one] at hr
    obtain ⟨A, c, e, hA⟩ := hr.form
    obtain ⟨b, e2, hB, hbl, hc⟩ := hA (by simp)
    subst e2
    exact ⟨b, c, by rw [e]; rfl, hc 0 (by simp), hB, hbl, ho⟩))
  clear T
  go_enter Try.func17, Try.ntmps17
  go_wp2_with fail
  refine HP.out.mono ?_
  rintro e w1 ⟨b, c, rfl, hbc, hb1, hbl, ho1⟩
  have T1 := HT.out w1 ho1
  have HO1 := hide ho1
  obtain ⟨D, hown1, hM1⟩ := T1.opn
  have hlk : (Instr.lookup 56 (.map (some ob)) (.int .i64 id) false).run Try.prog w1 = .ok (.agg #[.int .i64 sp, .bool true, .bool false, .bool false, .bool false, .bool false, .bool false, .bool false, .bool false]) w1 := by
    have := lookS hM1 hown1 (k := id) (s := (sp, [true, false, false, false, false, false, false, false])) (by simp) false
    exact this
  have hc3 : w1.cell? ⟨t, 3, none⟩ = some (.map (some ob)) := T1.blk.cell 3
  have HT1 := hide T1
  clear T1 hown1 hM1 ho1 HP
  go_wp2_with fail
  refine wp_loop_rounds 2 ?_
  rw [rounds_succ]
  go_wp2_with fail
  have h0n : 0 < n := by omega
  obtain ⟨w5, hw5⟩ : ∃ w5 : World, w1.alloc (.cells #[.int .i64 sp, .bool true, .bool false, .bool false, .bool false, .bool false, .bool false, .bool false, .bool false] 72) = w5 := ⟨_, rfl⟩
  have ho5 : Only [] w1 w5 := by rw [← hw5]; exact (Only.refl _ _).alloc _
  have T5 := HT1.out.new ho5
  have hbx : Blk w5 w1.heap.size 72 #[.int .i64 sp, .bool true, .bool false, .bool false, .bool false, .bool false, .bool false, .bool false, .bool false] := by rw [← hw5]; exact Blk.new w1 _ _
  have hne := T5.ne
  have hb5l : bs 0 < w1.heap.size := by
    obtain ⟨⟨D, h, _⟩, _⟩ := HT1.out.hart 0 h0n
    exact h.lt
  have hob5l : ob < w1.heap.size := by
    obtain ⟨D, h, _⟩ := HT1.out.opn
    exact h.lt
  have HF := hide (fun W (ho : Only [] w5 W) => forget_is (o := 0) (T5.new ho).row (by simpa using hRow_map (bs := bs) (nx := nx) h0n) ((T5.new ho).hart 0 h0n) (by have := T5.len 0 h0n; have := T5.s1; omega) sp)
  have HS := hide (fun W (ho : Only [bs 0] w5 W) => (show W.cell? ⟨t, 0, none⟩ = some (.slice (some ⟨hb, 0, none⟩) n n) ∧ W.cell? ⟨w1.heap.size, 0, none⟩ = some (.int .i64 sp) from
    ⟨(T5.blk.only ho (by simp; exact fun e => (hne.2.2.2 0 h0n).1 e.symm)).cell 0, (hbx.only ho (by simp; omega)).cell 0⟩))
  have HT5 := hide T5
  have HBX := hide hbx
  have HO5 := hide ho5
  have hS0 := HS.out w5 (Only.refl _ _)
  rw [hw5]
  clear T5 hbx ho5 hne hw5 hlk hc3
  have hn0 : (0 : Int) < n := by omega
  go_region_held3 (fun w' => w'.cell? ⟨t, 0, none⟩ = some (.slice (some ⟨hb, 0, none⟩) n n) ∧ w'.cell? ⟨w1.heap.size, 0, none⟩ = some (.int .i64 sp)) (first | assumption | exact HS.out _ (by repeat (first | exact Only.refl _ _ | apply Only.drew)) | exact HK2.out | go_keep) (first | (go_at_call 36; refine (HF.out _ (by repeat (first | exact Only.refl _ _ | apply Only.drew | apply Only.alloc))).mono ?_; rintro e' w2 ⟨rfl, hA2, ho2⟩; have HO2 := hide (show Only [bs 0] w5 w2 from Only.trans (by repeat (first | exact Only.refl _ _ | apply Only.drew)) ho2); have HK2 := hide (HS.out w2 HO2.out); have HA2 := hide hA2; clear hA2 ho2))
  obtain ⟨n1, n2, n3, n4⟩ := HT5.out.ne
  have hbx2 := HBX.out.only HO2.out (by simp; omega)
  have T2 : IsTlb w2 t hb ob n size begun bs (updF ls 0 (notSp sp (ls 0))) nx [(id, (sp, [true, false, false, false, false, false, false, false]))] := by
    have hr : Blk w2 hb 61 ((hRow n bs nx).setIfInBounds (0 * 2 + 1) (.int .i64 (nx 0))) := by
      rw [hRow_set h0n, hRow_same]
      exact HT5.out.row.only HO2.out (by simp; exact fun e => (n4 0 h0n).2.1 e.symm)
    have h1 := HT5.out.turn h0n HA2.out hr (HO2.out.mono (fun q _ hq => by simp at hq; simp [hq])) (Nat.le_trans (List.length_filter_le _ _) (HT5.out.len 0 h0n)) (HT5.out.nx0 0 h0n)
    have hx : updF nx 0 (nx 0) = nx := by funext i; by_cases e : i = 0 <;> simp [updF, e]
    rwa [hx] at h1
  obtain ⟨w3, hw3⟩ : ∃ w3 : World, w2.setCell ⟨w1.heap.size, 1, none⟩ (.bool false) = w3 := ⟨_, rfl⟩
  have ho3 : Only [w1.heap.size] w2 w3 := by rw [← hw3]; exact (Only.refl _ _).setCell _ (by simp)
  have hbx3 : Blk w3 w1.heap.size 72 #[.int .i64 sp, .bool false, .bool false, .bool false, .bool false, .bool false, .bool false, .bool false, .bool false] := by
    rw [← hw3]
    have := hbx2.set_ 1 (.bool false)
    exact this
  have T3 : IsTlb w3 t hb ob n size begun bs (updF ls 0 (notSp sp (ls 0))) nx [(id, (sp, [true, false, false, false, false, false, false, false]))] :=
    T2.only ho3 (by have := HT1.out.blk.lt; simp; omega) (by have := HT1.out.row.lt; simp; omega) (by simp; omega) (fun j hj => by
      obtain ⟨⟨D, h, _⟩, _⟩ := HT1.out.hart j hj
      have := h.lt
      simp; omega)
  have HPT := hide (put_over T3 id sp (s := (sp, [true, false, false, false, false, false, false, false])) (by simp) (by simp))
  have k0 := hbx2.cell 1
  have k1 := hbx2.frozen 1
  have m0 := hbx3.cell 0
  have m1 := hbx3.cell 1
  have m2 := hbx3.cell 2
  have m3 := hbx3.cell 3
  have m4 := hbx3.cell 4
  have m5 := hbx3.cell 5
  have m6 := hbx3.cell 6
  have m7 := hbx3.cell 7
  have m8 := hbx3.cell 8
  have HO3 := hide ho3
  have HB5 := hide (And.intro hb5l hob5l)
  clear T2 T3 hbx2 hbx3 n1 n2 n3 n4 ho3 hS0 hb5l hob5l
  go_wp2_with fail
  refine HPT.out.mono ?_
  rintro e w4 ⟨rfl, hT4, ho4⟩
  rw [outV_one] at hT4
  have HE := hide hT4
  have HO := hide (show Only [bs 0, ob] w w4 from by
    have h1 : Only [bs 0, ob] w w5 := (HO1.out.trans HO5.out).mono (by simp)
    have h2 := h1.trans (HO2.out.mono (fun q _ hq => by simp at hq; simp [hq]))
    have h3 : Only [bs 0, ob] w w3 := h2.trans' HO3.out (fun q h3 h4 => by
      simp at h4
      have := HO1.out.size
      omega)
    exact h3.trans (ho4.mono (fun q _ hq => by simp at hq; simp [hq])))
  clear hT4 ho4 HPT m0 m1 m2 m3 m4 m5 m6 m7 m8 k0 k1
  go_wp2_with fail
  rw [rounds_succ]
  go_wp2
  go_ret
  exact ⟨rfl, HE.out, HO.out⟩
end
end Go.Proofs.Ytdkbjnnflpopdaa
