/-
  Translations (parapet/tlb): Start of any targets: a shootdown begins.
-/
import Derived.Test.YtdkbjnnflpopdaaTlbStart
import Derived.Deep.RegionHeld3
namespace Go.Proofs.Ytdkbjnnflpopdaa
open Go.ChangeShapes Go.WideShapes Go.ChangeAt Go.RowKit Go.Maps
set_option linter.unusedVariables false

theorem marks_eight (ts : List Int) : marks ts = [decide ((0 : Int) ∈ ts), decide ((1 : Int) ∈ ts), decide ((2 : Int) ∈ ts), decide ((3 : Int) ∈ ts), decide ((4 : Int) ∈ ts), decide ((5 : Int) ∈ ts), decide ((6 : Int) ∈ ts), decide ((7 : Int) ∈ ts)] := rfl
/-- The open ones, when one more begins. -/
def beginO (O : List (Int × Sh)) (id sp : Int) (ts : List Int) : List (Int × Sh) := if ts = [] then O else O ++ [(id, (sp, marks ts))]
section
variable {w w' : World} {t hb ob n size : Nat} {begun : Int} {bs : Nat → Nat} {ls : Nat → List (K2 × K2)} {nx : Nat → Int} {O : List (Int × Sh)} {S : List Nat}
set_option maxRecDepth 100000 in
/-- put: nobody waits, and it was not open. -/
theorem put_none (T : IsTlb w t hb ob n size begun bs ls nx O) (id sp : Int) (h3 : (Lit.int .i64 id).wf = true) (hn : id ∉ O.map (·.1)) :
    Calls Try.prog 34 #[.pointer (some ⟨t, 0, none⟩), .int .i64 id, .agg #[.int .i64 sp, .bool false, .bool false, .bool false, .bool false, .bool false, .bool false, .bool false, .bool false]] w fun e w' => e = .returned (.tuple #[]) ∧ IsTlb w' t hb ob n size begun bs ls nx O ∧ Only [ob] w w' := by
  have HT := hide T
  obtain ⟨D, ho1, ho2⟩ := T.opn
  have hq := fun w => eql8_no w false false false false false false false false
  simp only [Bool.or_false, Bool.not_false] at hq
  obtain ⟨w8, hw8⟩ : ∃ w8 : World, w.alloc (.cells #[.int .i64 sp, .bool false, .bool false, .bool false, .bool false, .bool false, .bool false, .bool false, .bool false] 72) = w8 := ⟨_, rfl⟩
  have ho8 : Only [] w w8 := by rw [← hw8]; exact (Only.refl _ _).alloc _
  obtain ⟨w9, hrun9, hown9, ho9⟩ := dropS_no ho2 (own_onlyS ho1 ho8 (by simp)) h3 hn 0
  have HE := hide (And.intro ((T.new ho8).opened ho9 hown9 ho2) ((ho8.mono (by simp)).trans ho9))
  rw [← hw8] at hrun9
  have hc3 : ∀ o1, (w.alloc o1).cell? ⟨t, 3, none⟩ = some (.map (some ob)) := fun o1 => (T.blk.alloc o1).cell 3
  clear T ho1 ho2 hown9 ho9 hw8 ho8
  go_enter Try.func34, Try.ntmps34
  go_wp2
  exact bodyPost_ret (results_none rfl _ _ _) rfl ⟨rfl, HE.out⟩

theorem put_begin (T : IsTlb w t hb ob n size begun bs ls nx O) (id sp : Int) (h3 : (Lit.int .i64 id).wf = true) (hn : id ∉ O.map (·.1)) (hl : O.length < 4611686018427387904) {ts : List Int} (hok : okT n ts) :
    Calls Try.prog 34 #[.pointer (some ⟨t, 0, none⟩), .int .i64 id, .agg #[.int .i64 sp, .bool (decide ((0 : Int) ∈ ts)), .bool (decide ((1 : Int) ∈ ts)), .bool (decide ((2 : Int) ∈ ts)), .bool (decide ((3 : Int) ∈ ts)), .bool (decide ((4 : Int) ∈ ts)), .bool (decide ((5 : Int) ∈ ts)), .bool (decide ((6 : Int) ∈ ts)), .bool (decide ((7 : Int) ∈ ts))]] w fun e w' => e = .returned (.tuple #[]) ∧ IsTlb w' t hb ob n size begun bs ls nx (beginO O id sp ts) ∧ Only [ob] w w' := by
  by_cases h : ts = []
  · subst h
    unfold beginO
    rw [if_pos rfl]
    have := put_none T id sp h3 hn
    simpa using this
  · unfold beginO
    rw [if_neg h, marks_eight]
    refine put_new T id sp h3 hn hl _ _ _ _ _ _ _ _ ?_
    obtain ⟨x, hx⟩ := List.exists_mem_of_ne_nil ts h
    have h1 := hok.2 x hx
    have h2 := T.n1
    simp only [Bool.or_eq_true, decide_eq_true_eq]
    have : x = 0 ∨ x = 1 ∨ x = 2 ∨ x = 3 ∨ x = 4 ∨ x = 5 ∨ x = 6 ∨ x = 7 := by omega
    rcases this with rfl | rfl | rfl | rfl | rfl | rfl | rfl | rfl <;> simp [hx]

set_option maxRecDepth 100000 in
set_option maxHeartbeats 1500000 in
theorem bStart_ok (T : IsTlb w t hb ob n size begun bs ls nx O) (sp : Int) (h0 : 0 ≤ begun) (h1 : begun < 2147483647) (hO : ∀ p ∈ O, p.1 ≤ begun) (hlO : O.length < 4611686018427387904) {A : Option Addr} {c : Nat} {ts : List Int} (hts : TsAt w A ts) (hl : ts.length < 4611686018427387904) (hgood : okT n ts) :
    Calls Try.prog 14 #[.pointer (some ⟨t, 0, none⟩), .int .i64 sp, .slice A ts.length c] w fun e w' => e = .returned (.tuple #[.int .i64 (begun + 1), .int .i64 0]) ∧ IsTlb w' t hb ob n size (begun + 1) bs ls nx (beginO O (begun + 1) sp ts) ∧ Only [t, ob] w w' := by
  have hn1 := T.n1
  have HC := hide (bclosed_is T)
  have HT := hide (fun W (hW : Only [] w W) => T.new hW)
  have HH := hide (fun W (hW : Only [] w W) (x : Int) => bhas_is (T.new hW) x)
  have HTS := hide hts
  have HG := hide hgood
  have HOO := hide hO
  have htl := T.blk.lt
  clear T hts hgood hO
  go_enter Try.func14, Try.ntmps14
  go_wp2_with (go_at_call 31; refine HC.out.mono ?_; rintro e w' ⟨rfl, rfl⟩)
  go_loopw [17] (fun kv wr => TgR w n sp ts kv wr) (fun kv _ => ts.length - (intOf kv).toNat)
  case atStart => exact ⟨0, Nat.zero_le _, rfl, ⟨by simp, by simp⟩, by rw [List.take_zero, sC, marks_nil]; exact Blk.new _ _ _, (Only.refl [] w).alloc _⟩
  case round =>
    obtain ⟨k, hk, rfl, hok, hbx, ho⟩ := hrel
    by_cases hkl : k < ts.length
    · obtain ⟨q, o, rfl, hq, hc⟩ := HTS.out (by omega)
      obtain ⟨x, hx⟩ : ∃ x, ts[k]? = some x := ⟨_, List.getElem?_eq_getElem hkl⟩
      have c0 := (ho.cell hq (by simp)).trans (hc k x hx)
      have htk : ts.take (k + 1) = ts.take k ++ [x] := by
        obtain ⟨h1, h2⟩ := List.getElem?_eq_some_iff.1 hx
        rw [List.take_succ_eq_append_getElem hkl, h2]
      have HO := hide ho
      have HBX := hide hbx
      have HOK := hide hok
      have HTK := hide htk
      have hki : (k : Int) < ts.length := by omega
      have HHX := hide (HH.out wr ho x)
      have hxn := HG.out.2 x (List.mem_of_getElem? hx)
      have hin : x ∉ ts.take k := fun hm => by
        have h := (okT_take HG.out (k + 1)).1
        rw [htk, List.nodup_append] at h
        exact h.2.2 x hm x (by simp) rfl
      clear ho hbx hok htk hx hc
      obtain ⟨j, rfl⟩ := Int.eq_ofNat_of_zero_le hxn.1
      have hj8 : j < 8 := by omega
      have hh := HHX.out
      rw [decide_eq_true hxn] at hh
      have HHY := hide hh
      have m0 := (HBX.out.cell (1 + j)).trans (sC_get sp (ts.take k) hj8)
      have m1 := HBX.out.frozen (1 + j)
      have hj8i : (j : Int) < 8 := by omega
      clear hh HHX
      rw [decide_eq_false hin] at m0
      have HD := hide (show TgR w n sp ts (.int .i64 ((k : Int) + 1)) (wr.setCell ⟨w.heap.size, 1 + j, none⟩ (.bool true)) from by
        refine ⟨k + 1, hkl, rfl, by rw [HTK.out]; exact okT_snoc HOK.out hxn hin, ?_, HO.out.trans' ((Only.refl [w.heap.size] wr).setCell _ (by simp)) (by intro q hq hq'; simp at hq'; omega)⟩
        rw [HTK.out, ← sC_set sp _ hj8]
        exact HBX.out.set_ _ _)
      clear hin
      go_wp2_with (go_at_call 32; refine HHY.out.mono ?_; rintro e w' ⟨rfl, rfl⟩)
      go_roundw
      case rel => exact HD.out
      case measure =>
        show ts.length - ((k : Int) + 1).toNat < ts.length - (k : Int).toNat
        omega
    · have hkk : k = ts.length := by omega
      subst hkk
      rw [List.take_length] at hok hbx
      have hkn : ¬ (ts.length : Int) < ts.length := by omega
      obtain ⟨w5, hw5⟩ : ∃ w5 : World, wr.setCell ⟨t, 2, none⟩ (.int .i64 (begun + 1)) = w5 := ⟨_, rfl⟩
      have T0 := HT.out wr ho
      obtain ⟨n1, n2, n3, n4⟩ := T0.ne
      have hot : Only [t] wr w5 := by rw [← hw5]; exact (Only.refl _ _).setCell _ (by simp)
      have T5 : IsTlb w5 t hb ob n size (begun + 1) bs ls nx O := by
        obtain ⟨D, ho1, ho2⟩ := T0.opn
        refine ⟨?_, T0.row.only hot (by simp; exact Ne.symm n3), fun j hj => (T0.hart j hj).only hot (by simp; exact (n4 j hj).1), T0.len, T0.nx0, T0.inj, T0.obn, ⟨D, own_onlyS ho1 hot (by simp; exact n1), ho2⟩, T0.n1, T0.s1⟩
        rw [← hw5]
        exact T0.blk.set_ 2 _
      have hb5 := hbx.only hot (by simp; omega)
      have hobl : ob < w.heap.size := by
        obtain ⟨D, h, _⟩ := (HT.out w (Only.refl _ _)).opn
        exact h.lt
      have HP := hide (fun W (hW : Only [] w5 W) => put_begin (T5.new hW) (begun + 1) sp (by simp [Lit.wf, IntKind.min, IntKind.max, IntKind.signed, IntKind.bits]; omega) (fun hm => by obtain ⟨p, hp, e⟩ := List.mem_map.1 hm; have := HOO.out p hp; omega) hlO HG.out)
      have HS := hide (fun W (hW : Only [ob] w5 W) => (show W.cell? ⟨t, 2, none⟩ = some (.int .i64 (begun + 1)) ∧ W.cell? ⟨w.heap.size, 0, none⟩ = some (.int .i64 sp) ∧ W.cell? ⟨w.heap.size, 1, none⟩ = some (.bool (decide ((0 : Int) ∈ ts))) ∧ W.cell? ⟨w.heap.size, 2, none⟩ = some (.bool (decide ((1 : Int) ∈ ts))) ∧ W.cell? ⟨w.heap.size, 3, none⟩ = some (.bool (decide ((2 : Int) ∈ ts))) ∧ W.cell? ⟨w.heap.size, 4, none⟩ = some (.bool (decide ((3 : Int) ∈ ts))) ∧ W.cell? ⟨w.heap.size, 5, none⟩ = some (.bool (decide ((4 : Int) ∈ ts))) ∧ W.cell? ⟨w.heap.size, 6, none⟩ = some (.bool (decide ((5 : Int) ∈ ts))) ∧ W.cell? ⟨w.heap.size, 7, none⟩ = some (.bool (decide ((6 : Int) ∈ ts))) ∧ W.cell? ⟨w.heap.size, 8, none⟩ = some (.bool (decide ((7 : Int) ∈ ts))) from by
        have h1 := T5.blk.only hW (by simp; exact Ne.symm n1)
        have h2 := hb5.only hW (by simp; omega)
        exact ⟨h1.cell 2, h2.cell 0, (h2.cell (1 + 0)).trans (sC_get sp ts (j := 0) (by decide)), (h2.cell (1 + 1)).trans (sC_get sp ts (j := 1) (by decide)), (h2.cell (1 + 2)).trans (sC_get sp ts (j := 2) (by decide)), (h2.cell (1 + 3)).trans (sC_get sp ts (j := 3) (by decide)), (h2.cell (1 + 4)).trans (sC_get sp ts (j := 4) (by decide)), (h2.cell (1 + 5)).trans (sC_get sp ts (j := 5) (by decide)), (h2.cell (1 + 6)).trans (sC_get sp ts (j := 6) (by decide)), (h2.cell (1 + 7)).trans (sC_get sp ts (j := 7) (by decide))⟩))
      have hS0 := HS.out w5 (Only.refl _ _)
      have hc2 := T0.blk.cell 2
      have hz2 := T0.blk.frozen 2
      have hws : IntKind.i64.wrap (begun + 1) = begun + 1 := by rw [IntKind.wrap_i64]; omega
      have hbe : (begun == 2147483647) = false := by simp; omega
      have hbd : ¬ begun = 2147483647 := by omega
      have HO5 := hide (show Only [t] w w5 from (ho.mono (by simp)).trans hot)
      have HTW := hide hw5
      clear T0 T5 hb5 hbx ho hok hot hobl n1 n2 n3 n4 hw5 HH HT HTS
      go_wp2_with fail
      rw [HTW.out]
      go_region_held3 (fun w' => w'.cell? ⟨t, 2, none⟩ = some (.int .i64 (begun + 1)) ∧ w'.cell? ⟨w.heap.size, 0, none⟩ = some (.int .i64 sp) ∧ w'.cell? ⟨w.heap.size, 1, none⟩ = some (.bool (decide ((0 : Int) ∈ ts))) ∧ w'.cell? ⟨w.heap.size, 2, none⟩ = some (.bool (decide ((1 : Int) ∈ ts))) ∧ w'.cell? ⟨w.heap.size, 3, none⟩ = some (.bool (decide ((2 : Int) ∈ ts))) ∧ w'.cell? ⟨w.heap.size, 4, none⟩ = some (.bool (decide ((3 : Int) ∈ ts))) ∧ w'.cell? ⟨w.heap.size, 5, none⟩ = some (.bool (decide ((4 : Int) ∈ ts))) ∧ w'.cell? ⟨w.heap.size, 6, none⟩ = some (.bool (decide ((5 : Int) ∈ ts))) ∧ w'.cell? ⟨w.heap.size, 7, none⟩ = some (.bool (decide ((6 : Int) ∈ ts))) ∧ w'.cell? ⟨w.heap.size, 8, none⟩ = some (.bool (decide ((7 : Int) ∈ ts)))) (first | assumption | exact HS.out _ (by repeat (first | exact Only.refl _ _ | apply Only.drew)) | exact HK2.out | go_keep) (first | (go_at_call 34; refine (HP.out _ (by repeat (first | exact Only.refl _ _ | apply Only.drew | apply Only.alloc))).mono ?_; rintro e' w1 ⟨rfl, hA1, ho1⟩; have HOB := hide (show Only [ob] w5 w1 from Only.trans (by repeat (first | exact Only.refl _ _ | apply Only.drew)) ho1); have HK2 := hide (HS.out w1 HOB.out); have HE := hide hA1; clear hA1 ho1))
      have hc2' := HK2.out.1
      have HOE := hide (show Only [t, ob] w w1 from (HO5.out.mono (fun q _ hq => by simp at hq; simp [hq])).trans (HOB.out.mono (fun q _ hq => by simp at hq; simp [hq])))
      clear HK2 HOB HO5 HS HP hS0 hc2 hz2
      go_wp2
      go_ret2
      exact ⟨rfl, HE.out, HOE.out⟩
end
end Go.Proofs.Ytdkbjnnflpopdaa
