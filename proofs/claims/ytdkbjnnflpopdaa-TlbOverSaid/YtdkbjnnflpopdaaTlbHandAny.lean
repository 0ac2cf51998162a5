/-
  Translations (parapet/tlb): Handle of any hart.
-/
import Derived.Test.YtdkbjnnflpopdaaTlbHand
import Derived.Deep.RegionHeld3
namespace Go.Proofs.Ytdkbjnnflpopdaa
open Go.ChangeShapes Go.WideShapes Go.ChangeAt Go.RowKit Go.Maps
set_option linter.unusedVariables false

theorem updF_twice {α : Type} (f : Nat → α) (h : Nat) (x y : α) : updF (updF f h x) h y = updF f h y := by
  funext i; by_cases e : i = h <;> simp [updF, e]
theorem updF_self {α : Type} (f : Nat → α) (h : Nat) : updF f h (f h) = f := by
  funext i; by_cases e : i = h <;> simp [updF, e]
theorem handL_cons {D : DataW Unit} {O : List (Int × Sh)} {id : Int} {s : Sh} (H : MHolds encS D O) (hp : (id, s) ∈ O) (h : Nat) (r : List Int) (l : List (K2 × K2)) : handL h (id :: r) l O = handL h r (notSp s.1 l) (clr O id (s.1, s.2.set h false)) := by
  rw [handL, find_is H hp]
theorem bC_get {s : Sh} {j : Nat} (h : j < s.2.length) : (bC s)[1 + j]? = some (.bool s.2[j]) := by
  unfold bC
  rw [Nat.add_comm]
  simp [h]
def HdR (w1 : World) (t hb ob n size : Nat) (begun : Int) (bs : Nat → Nat) (ls : Nat → List (K2 × K2)) (nx : Nat → Int) (O : List (Int × Sh)) (h : Nat) (ids : List Int) (kv : Value) (wr : World) : Prop :=
  ∃ (k : Nat) (lk : List (K2 × K2)) (Ok : List (Int × Sh)), k ≤ ids.length ∧ kv = .int .i64 k ∧ IsTlb wr t hb ob n size begun bs (updF ls h lk) nx Ok ∧ (∀ id ∈ ids.drop k, ∃ s, (id, s) ∈ Ok) ∧ handL h ids (ls h) O = handL h (ids.drop k) lk Ok ∧ Ok.length ≤ O.length ∧ Only [bs h, ob] w1 wr

section
variable {w w' : World} {t hb ob n size : Nat} {begun : Int} {bs : Nat → Nat} {ls : Nat → List (K2 × K2)} {nx : Nat → Int} {O : List (Int × Sh)} {S : List Nat}
set_option maxRecDepth 100000 in
set_option maxHeartbeats 1500000 in
theorem bHandle_is (T : IsTlb w t hb ob n size begun bs ls nx O) (h : Nat) (hh : h < n) (hl : O.length < 4000000000) :
    Calls Try.prog 17 #[.pointer (some ⟨t, 0, none⟩), .int .i64 h] w fun e w' => e = .returned (.int .i64 (sortK (pend O h)).length) ∧ IsTlb w' t hb ob n size begun bs (updF ls h (handL h (sortK (pend O h)) (ls h) O).1) nx (handL h (sortK (pend O h)) (ls h) O).2 ∧ Only [bs h, ob] w w' := by
  have hn1 := T.n1
  have HT := hide (fun W (ho : Only [] w W) => T.new ho)
  have HP := hide (bPending_is T h hh hl)
  have hnd : (sortK (pend O h)).Nodup := by
    obtain ⟨D, _, hM⟩ := T.opn
    refine (sortK_perm _).nodup_iff.2 ?_
    exact List.Sublist.nodup (List.Sublist.map _ List.filter_sublist) hM.nd
  have hmem : ∀ id ∈ sortK (pend O h), ∃ s, (id, s) ∈ O := fun id hid => by
    have := (sortK_perm _).mem_iff.1 hid
    obtain ⟨p, hp, rfl⟩ := List.mem_map.1 this
    exact ⟨p.2, (List.mem_filter.1 hp).1⟩
  have hlen : (sortK (pend O h)).length ≤ O.length := by
    rw [(sortK_perm _).length_eq]
    unfold pend
    rw [List.length_map]
    exact List.length_filter_le _ _
  obtain ⟨ids, hids⟩ : ∃ ids, sortK (pend O h) = ids := ⟨_, rfl⟩
  rw [hids] at hnd hmem hlen HP ⊢
  have hbl : bs h < w.heap.size := by
    obtain ⟨⟨D, h, _⟩, _⟩ := T.hart h hh
    exact h.lt
  have hobl : ob < w.heap.size := by
    obtain ⟨D, h, _⟩ := T.opn
    exact h.lt
  have HND := hide hnd
  have HBL := hide (And.intro hbl hobl)
  have HM0 := hide hmem
  clear T hnd hmem hids hbl hobl
  go_enter Try.func17, Try.ntmps17
  go_wp2_with fail
  refine HP.out.mono ?_
  rintro e w1 ⟨v, rfl, hr, ho1⟩
  obtain ⟨A, c, rfl, hA⟩ := hr.form
  have HA := hide hA
  have HO1 := hide ho1
  have HT1 := hide (HT.out w1 ho1)
  clear hr hA ho1 HP HT
  go_wp2_with fail
  go_loopw [14] (fun kv wr => HdR w1 t hb ob n size begun bs ls nx O h ids kv wr) (fun kv _ => ids.length - (intOf kv).toNat)
  case atStart => exact ⟨0, ls h, O, Nat.zero_le _, rfl, by rw [updF_self]; exact HT1.out, HM0.out, rfl, Nat.le_refl _, Only.refl _ _⟩
  case round =>
    clear HT1 HM0
    obtain ⟨k, lk, Ok, hk, rfl, hT, hmem, hhand, hOl, ho⟩ := hrel
    by_cases hkl : k < ids.length
    · obtain ⟨b, rfl, hb0, hb1, hcells⟩ := HA.out (by omega)
      have c0 := (ho.cell hb1 (by have := HBL.out; simp; omega)).trans (hcells k hkl)
      obtain ⟨id, hid⟩ : ∃ id, gb ids k = id := ⟨_, rfl⟩
      have hdr : ids.drop k = id :: ids.drop (k + 1) := by
        rw [List.drop_eq_getElem_cons hkl, ← hid]
        congr 1
        simp [gb, List.getD, List.getElem?_eq_getElem hkl]
      rw [hid] at c0
      obtain ⟨s, hs⟩ := hmem id (by rw [hdr]; simp)
      obtain ⟨D, hown, hM⟩ := hT.opn
      obtain ⟨b0, b1, b2, b3, b4, b5, b6, b7, e8⟩ := eight (shLen hM hown hs)
      obtain ⟨sp, ws⟩ := s
      simp only at e8
      subst e8
      have hlk : (Instr.lookup 56 (.map (some ob)) (.int .i64 id) false).run Try.prog wr = .ok (.agg #[.int .i64 sp, .bool b0, .bool b1, .bool b2, .bool b3, .bool b4, .bool b5, .bool b6, .bool b7]) wr := lookS hM hown hs false
      have hc3 : wr.cell? ⟨t, 3, none⟩ = some (.map (some ob)) := hT.blk.cell 3
      have hhd := handL_cons hM hs h (ids.drop (k + 1)) lk
      rw [hdr, hhd] at hhand
      have hnx : ∀ id' ∈ ids.drop (k + 1), id' ≠ id ∧ ∃ s, (id', s) ∈ Ok := fun id' hi => by
        refine ⟨fun e => ?_, hmem id' (by rw [hdr]; simp [hi])⟩
        have hn := HND.out.sublist (List.drop_sublist k ids)
        rw [hdr, List.nodup_cons] at hn
        exact hn.1 (e ▸ hi)
      obtain ⟨w5, hw5⟩ : ∃ w5 : World, wr.alloc (.cells #[.int .i64 sp, .bool b0, .bool b1, .bool b2, .bool b3, .bool b4, .bool b5, .bool b6, .bool b7] 72) = w5 := ⟨_, rfl⟩
      have ho5 : Only [] wr w5 := by rw [← hw5]; exact (Only.refl _ _).alloc _
      have T5 := hT.new ho5
      have hbx : Blk w5 wr.heap.size 72 (bC (sp, [b0, b1, b2, b3, b4, b5, b6, b7])) := by rw [← hw5]; exact Blk.new wr _ _
      have hne := T5.ne
      have hgl := ho.size
      have hgl1 := HO1.out.size
      have HF := hide (fun W (ho : Only [] w5 W) => forget_is (T5.new ho).row (hRow_map hh) (by have := (T5.new ho).hart h hh; rwa [updF_same] at this) (by have := T5.len h hh; rw [updF_same] at this; have := T5.s1; omega) sp)
      have HS := hide (fun W (ho : Only [bs h] w5 W) => (show W.cell? ⟨t, 0, none⟩ = some (.slice (some ⟨hb, 0, none⟩) n n) ∧ W.cell? ⟨wr.heap.size, 0, none⟩ = some (.int .i64 sp) from
        ⟨(T5.blk.only ho (by simp; exact fun e => (hne.2.2.2 h hh).1 e.symm)).cell 0, (hbx.only ho (by have := HBL.out; simp; omega)).cell 0⟩))
      have HT5 := hide T5
      have HTK := hide hT
      have HBX := hide hbx
      have HO5 := hide ho5
      have HOK := hide ho
      have HHD := hide hhand
      have HNX := hide hnx
      have HSM := hide hs
      have HGL := hide (And.intro hgl hgl1)
      have HW5 := hide hw5
      have hS0 := HS.out w5 (Only.refl _ _)
      have hki : (k : Int) < ids.length := by omega
      clear hT hmem hhand ho hs hown hM hhd hnx ho5 T5 hbx hne hgl hgl1 hcells hid hdr hw5 hb0 hb1
      go_wp2_with fail
      rw [HW5.out]
      have hhn : (h : Int) < n := by omega
      go_region_held3 (fun w' => w'.cell? ⟨t, 0, none⟩ = some (.slice (some ⟨hb, 0, none⟩) n n) ∧ w'.cell? ⟨wr.heap.size, 0, none⟩ = some (.int .i64 sp)) (first | assumption | exact HS.out _ (by repeat (first | exact Only.refl _ _ | apply Only.drew)) | exact HK2.out | go_keep) (first | (go_at_call 36; refine (HF.out _ (by repeat (first | exact Only.refl _ _ | apply Only.drew | apply Only.alloc))).mono ?_; rintro e' w2 ⟨rfl, hA2, ho2⟩; have HO2 := hide (show Only [bs h] w5 w2 from Only.trans (by repeat (first | exact Only.refl _ _ | apply Only.drew)) ho2); have HK2 := hide (HS.out w2 HO2.out); have HA2 := hide hA2; clear hA2 ho2))
      obtain ⟨n1, n2, n3, n4⟩ := HT5.out.ne
      have hbx2 := HBX.out.only HO2.out (by have := HBL.out; have := HGL.out; simp; omega)
      have T2 : IsTlb w2 t hb ob n size begun bs (updF ls h (notSp sp lk)) nx Ok := by
        have hr : Blk w2 hb 61 ((hRow n bs nx).setIfInBounds (h * 2 + 1) (.int .i64 (nx h))) := by
          rw [hRow_set hh, hRow_same]
          exact HT5.out.row.only HO2.out (by simp; exact fun e => (n4 h hh).2.1 e.symm)
        have hln := HT5.out.len h hh
        rw [updF_same] at hln
        have h1 := HT5.out.turn hh HA2.out hr (HO2.out.mono (fun q _ hq => by simp at hq; simp [hq])) (Nat.le_trans (List.length_filter_le _ _) hln) (HT5.out.nx0 h hh)
        rwa [updF_self, updF_twice] at h1
      have hh8 : h < 8 := by omega
      obtain ⟨w3, hw3⟩ : ∃ w3 : World, w2.setCell ⟨wr.heap.size, 1 + h, none⟩ (.bool false) = w3 := ⟨_, rfl⟩
      have ho3 : Only [wr.heap.size] w2 w3 := by rw [← hw3]; exact (Only.refl _ _).setCell _ (by simp)
      have hs8 : (([b0, b1, b2, b3, b4, b5, b6, b7] : List Bool).set h false).length = 8 := by rw [List.length_set]; rfl
      obtain ⟨d0, d1, d2, d3, d4, d5, d6, d7, ec⟩ := eight hs8
      have hbx3 : Blk w3 wr.heap.size 72 #[.int .i64 sp, .bool d0, .bool d1, .bool d2, .bool d3, .bool d4, .bool d5, .bool d6, .bool d7] := by
        rw [← hw3]
        have := hbx2.set_ (1 + h) (.bool false)
        rw [bC_set, ec] at this
        exact this
      have T3 : IsTlb w3 t hb ob n size begun bs (updF ls h (notSp sp lk)) nx Ok :=
        T2.only ho3 (by have := HTK.out.blk.lt; simp; omega) (by have := HTK.out.row.lt; simp; omega) (by have := HBL.out; have := HGL.out; simp; omega) (fun j hj => by
          obtain ⟨⟨D, h, _⟩, _⟩ := HTK.out.hart j hj
          have := h.lt
          simp; omega)
      have HPT := hide (put_any T3 id sp HSM.out (by omega) d0 d1 d2 d3 d4 d5 d6 d7)
      have k0 := (hbx2.cell (1 + h)).trans (bC_get (s := (sp, [b0, b1, b2, b3, b4, b5, b6, b7])) hh8)
      generalize ([b0, b1, b2, b3, b4, b5, b6, b7] : List Bool)[h]'(by simpa using hh8) = bb at k0
      have k1 := hbx2.frozen (1 + h)
      have m0 := hbx3.cell 0
      have m1 := hbx3.cell 1
      have m2 := hbx3.cell 2
      have m3 := hbx3.cell 3
      have m4 := hbx3.cell 4
      have m5 := hbx3.cell 5
      have m6 := hbx3.cell 6
      have m7 := hbx3.cell 7
      have m8 := hbx3.cell 8
      have HO3 := hide ho3
      have HEC := hide ec
      have hh8i : (h : Int) < 8 := by omega
      clear T2 T3 hbx2 hbx3 n1 n2 n3 n4 ho3 hS0 hs8 ec c0 hlk hc3 HK2
      go_wp2_with fail
      refine HPT.out.mono ?_
      rintro e w4 ⟨rfl, hT4, ho4⟩
      have HD := hide (show HdR w1 t hb ob n size begun bs ls nx O h ids (.int .i64 ((k : Int) + 1)) w4 from by
        refine ⟨k + 1, notSp sp lk, clr Ok id (sp, [d0, d1, d2, d3, d4, d5, d6, d7]), hkl, rfl, hT4, fun id' hi => ?_, ?_, Nat.le_trans (clr_len _ _ _) hOl, ?_⟩
        · obtain ⟨hne, s', hs'⟩ := HNX.out id' hi
          exact ⟨s', clr_mem hs' hne⟩
        · have := HHD.out
          rw [show (((sp, [b0, b1, b2, b3, b4, b5, b6, b7]) : Sh).1, (((sp, [b0, b1, b2, b3, b4, b5, b6, b7]) : Sh).2.set h false)) = (sp, [d0, d1, d2, d3, d4, d5, d6, d7]) by rw [← HEC.out]] at this
          exact this
        · have g1 := HOK.out.trans ((HO5.out.mono (S' := [bs h, ob]) (by simp)).trans (HO2.out.mono (fun q _ hq => by simp at hq; simp [hq])))
          have g2 : Only [bs h, ob] w1 w3 := g1.trans' HO3.out (fun q h3 h4 => by
            simp at h4
            have := HGL.out
            omega)
          exact g2.trans (ho4.mono (fun q _ hq => by simp at hq; simp [hq])))
      clear hT4 ho4 HPT m0 m1 m2 m3 m4 m5 m6 m7 m8 k0 k1
      go_wp2
      go_roundw
      case rel => exact HD.out
      case measure =>
        show ids.length - ((k : Int) + 1).toNat < ids.length - (k : Int).toNat
        omega
    · have hkk : k = ids.length := by omega
      subst hkk
      rw [List.drop_length, handL] at hhand
      have HE := hide (show IsTlb wr t hb ob n size begun bs (updF ls h (handL h ids (ls h) O).1) nx (handL h ids (ls h) O).2 ∧ Only [bs h, ob] w wr from by
        rw [hhand]
        exact ⟨hT, (HO1.out.mono (by simp)).trans ho⟩)
      have hkn : ¬ (ids.length : Int) < ids.length := by omega
      clear hT hmem hhand ho
      go_wp2
      go_ret
      exact ⟨rfl, HE.out⟩
end
end Go.Proofs.Ytdkbjnnflpopdaa
