/-
  'FrameDoes': looks: do both stand as they should?
-/
import Derived.Test.YtfbegickdnjfcaaRef06m
import Derived.Deep.RegionHeld3
namespace Go.Proofs.Ytfbegickdnjfcaa
open Go.ChangeShapes Go.WideShapes Go.ChangeAt Go.RowKit Go.Shelf
set_option linter.unusedVariables false
set_option linter.unusedSimpArgs false
attribute [local go_sem] Oper.semAt_some

/-- What stands in looks behind its first loop: the boxes, and all that was there ahead of the call. -/
structure LkI (w W : World) (a H : Nat) (l n : Int) : Prop where
  box : Blk W w.heap.size 33 #[.pointer (some ⟨a, 0, none⟩)]
  res : Blk W (w.heap.size + 1) 4 #[.bool false]
  last : Blk W H 3 #[.int .i64 l]
  num : Blk W (H + 1) 3 #[.int .i64 n]
  below : Below w.heap.size w W
  le : w.heap.size + 2 ≤ H ∧ H + 2 ≤ W.heap.size
theorem LkI.only {w W W' : World} {a H : Nat} {l n : Int} (h : LkI w W a H l n) (ho : Only [] W W') : LkI w W' a H l n :=
  ⟨h.box.only ho (by simp), h.res.only ho (by simp), h.last.only ho (by simp), h.num.only ho (by simp), h.below.trans (ho.below (by have := h.le; omega) (by simp)), ⟨h.le.1, Nat.le_trans h.le.2 ho.size⟩⟩
theorem LkI.kept {w W W' : World} {a H : Nat} {l n : Int} {row : Option Nat} (h : LkI w W a H l n) (hg : W.grownBy W' row) (hr : ∀ r, row = some r → w.heap.size ≤ r ∧ ∃ o : Obj, W.heap[r]? = some o ∧ o.isCells = false) : LkI w W' a H l n := by
  have hk : KeepsCells [] W W' := keepsCells_grown hg (fun r e => (hr r e).2) _
  exact ⟨hk.2 _ _ _ (by simp) h.box, hk.2 _ _ _ (by simp) h.res, hk.2 _ _ _ (by simp) h.last, hk.2 _ _ _ (by simp) h.num, h.below.grown hg h.below.size (fun k e => (hr k e).1), ⟨h.le.1, Nat.le_trans h.le.2 hg.size⟩⟩
theorem LkI.setLast {w W : World} {a H : Nat} {l n : Int} (h : LkI w W a H l n) (x : Int) : LkI w (W.setCell ⟨H, 0, none⟩ (.int .i64 x)) a H x n := by
  have ho : Only [H] W (W.setCell ⟨H, 0, none⟩ (.int .i64 x)) := (Only.refl _ _).setCell _ (by simp)
  have hl := h.le
  exact ⟨h.box.only ho (by simp; omega), h.res.only ho (by simp; omega), h.last.set_ 0 _, h.num.only ho (by simp), h.below.trans (ho.below (by omega) (by simp; omega)), ⟨hl.1, Nat.le_trans hl.2 ho.size⟩⟩
theorem LkI.setNum {w W : World} {a H : Nat} {l n : Int} (h : LkI w W a H l n) (x : Int) : LkI w (W.setCell ⟨H + 1, 0, none⟩ (.int .i64 x)) a H l x := by
  have ho : Only [H + 1] W (W.setCell ⟨H + 1, 0, none⟩ (.int .i64 x)) := (Only.refl _ _).setCell _ (by simp)
  have hl := h.le
  exact ⟨h.box.only ho (by simp; omega), h.res.only ho (by simp; omega), h.last.only ho (by simp), h.num.set_ 0 _, h.below.trans (ho.below (by omega) (by simp; omega)), ⟨hl.1, Nat.le_trans hl.2 ho.size⟩⟩

section
variable {w : World} {n0 t g d cap : Nat} {xs : List Int} {r : List Value} {first harts : Nat} {v : Nat → Value} {ns : Nat → List Int} {a cC bL : Nat} {vs : Nat → Value} {Z : List Nat}
set_option maxRecDepth 100000 in
set_option maxHeartbeats 4000000 in
theorem looks_is (B : B6 w n0 t g d cap xs r first harts v ns a cC bL vs Z ns) (P : P6 xs first ns) (hpos : 0 < (ns 2).length) :
    Calls Try.prog 10 #[.pointer (some ⟨t, 0, none⟩), .pointer (some ⟨a, 0, none⟩)] w fun e w' => e = .returned (.bool true) ∧ Below w.heap.size w w' := by
  have HB := hide (fun W (hb : Below w.heap.size w W) => (B.only (Only.of_below hb)).1)
  have hh8 := B.fr.hh
  have hsm := B.fr.small
  have hc2 : ∀ o1 o2, ((w.alloc o1).alloc o2).cell? ⟨a, 2, none⟩ = some (.slice (some ⟨bL, 0, none⟩) harts harts) := fun o1 o2 => Lib.cell?_alloc_some _ (Lib.cell?_alloc_some _ B.rf.c2)
  have HP := hide P
  have hltt : t < w.heap.size := B.fr.lts.2.2 t (mem_footL.2 (.inl rfl))
  have hlta : a < w.heap.size := B.rf.alt a (by simp)
  clear B P
  (refine (callsIn_wide (n := 9)).1 ?_; refine callsIn_of_wp_marks Try.func10 rfl trivial ?_ rfl; simp only [Try.ntmps10, List.size_toArray, List.length_cons, List.length_nil, Nat.reduceAdd, Nat.reduceSub, Array.replicate_succ, Array.replicate_zero, List.push_toArray, List.append_toArray, List.nil_append, List.cons_append]; refine wpIn_wide.2 ?_)
  go_wp2
  go_loopw [15] (fun iv wr => ∃ k : Nat, k ≤ harts ∧ iv = .int .i64 k ∧ Below w.heap.size w wr ∧ Blk wr w.heap.size 33 #[.pointer (some ⟨a, 0, none⟩)] ∧ Blk wr (w.heap.size + 1) 4 #[.bool false]) (fun iv _ => harts - (intOf iv).toNat)
  case atStart => exact ⟨0, Nat.zero_le _, rfl, ((Below.refl _ w).alloc (Nat.le_refl _) _).alloc (by simp) _, (Blk.new w 33 _).alloc _, by have := Blk.new (w.alloc (.cells #[.pointer (some ⟨a, 0, none⟩)] 33)) 4 #[.bool false]; simpa using this⟩
  case round =>
    obtain ⟨k, hk, rfl, hb, hbx, hbr⟩ := hrel
    have HBE := hide hb
    have HBX := hide hbx
    have HBR := hide hbr
    by_cases hlt : k < harts
    · have B1 := HB.out wr hb
      have hlk : (k : Int) < harts := by omega
      have hsl : ∀ o, Slot o → (ns o).length ≤ 4096 := HP.out.good.few
      have hs4 : Slot (4 + k) := by unfold Slot; omega
      obtain ⟨A, c, hv, -⟩ := B1.rf.see (4 + k) (by unfold RSlot; omega)
      have hcl := B1.rf.cl k hlt
      rw [hv] at hcl
      have HS := hide (fun W (ho : Only [] wr W) => (show W.cell? ⟨w.heap.size, 0, none⟩ = some (.pointer (some ⟨a, 0, none⟩)) ∧ W.cell? ⟨a, 2, none⟩ = some (.slice (some ⟨bL, 0, none⟩) harts harts) ∧ W.cell? ⟨bL, k, none⟩ = some (.slice A (ns (4 + k)).length c) from
        ⟨(hbx.only ho (by simp)).cell 0, (B1.rf.only ho (by simp)).c2, (ho.cell (B1.rf.alt bL (by simp)) (by simp)).trans hcl⟩))
      have HL := hide (fun W (ho : Only [] wr W) => list_ok (B1.only ho).1.fr k hlt (hsl _ hs4))
      have HS6 := hide (fun W (ho : Only [] wr W) => (show SeesI W (.slice A (ns (4 + k)).length c) (ns (4 + k)) from by
        have h1 := (B1.rf.see (4 + k) (by unfold RSlot; omega)).sees.only ho
        rwa [hv] at h1))
      have HLEN := hide (hsl _ hs4)
      have hS0 := HS.out wr (Only.refl _ _)
      obtain ⟨k1, k2, k3⟩ := hS0
      have hS0' := HS.out wr (Only.refl _ _)
      clear B1 hsl hs4 hv hcl hb hbx hbr hc2 k1 k2 k3
      go_wp2_with fail
      go_region_held3 (fun w' => w'.cell? ⟨w.heap.size, 0, none⟩ = some (.pointer (some ⟨a, 0, none⟩)) ∧ w'.cell? ⟨a, 2, none⟩ = some (.slice (some ⟨bL, 0, none⟩) harts harts) ∧ w'.cell? ⟨bL, k, none⟩ = some (.slice A (ns (4 + k)).length c)) (first | assumption | exact HK1.out | exact HK2.out | exact HK3.out _ | exact HK4.out _ | go_keep) (first | (go_at_call 13; refine (HL.out _ (by repeat (first | exact Only.refl _ _ | apply Only.drew | apply Only.alloc | apply Only.drewN))).mono ?_; rintro e w1 ⟨v1, rfl, hr1, ho1⟩; have HO1 := hide (show Only [] wr w1 from Only.trans (by repeat (first | exact Only.refl _ _ | apply Only.drew | apply Only.alloc | apply Only.drewN)) ho1); have HR1 := hide hr1; have HK1 := hide (HS.out w1 HO1.out); have HK3 := hide (fun n => HS.out (w1.drewN n) (HO1.out.drewN n)); clear hr1 ho1) | (go_at_call 15; have hg := HO1; refine (same6_yes (SeesI.only (KRow.sees HR1.out) (by repeat (first | exact Only.refl _ _ | apply Only.drew | apply Only.alloc | apply Only.drewN))) (HS6.out _ (by repeat (first | exact HO1.out | apply Only.drew | apply Only.alloc | apply Only.drewN))) (by have := HLEN.out; omega)).mono ?_; rintro e w2 ⟨rfl, ho2⟩; have HO2 := hide (show Only [] w1 w2 from Only.trans (by repeat (first | exact Only.refl _ _ | apply Only.drew | apply Only.alloc | apply Only.drewN)) ho2); have HK2 := hide (HS.out w2 (HO1.out.trans HO2.out)); have HK4 := hide (fun n => HS.out (w2.drewN n) ((HO1.out.trans HO2.out).drewN n)); clear ho2))
      have hb2 : Below w.heap.size w w2 := HBE.out.trans ((HO1.out.trans HO2.out).below HBE.out.size (by simp))
      have hx2 := HBX.out.only (HO1.out.trans HO2.out) (by simp)
      have hr2 := HBR.out.only (HO1.out.trans HO2.out) (by simp)
      have HE := hide (And.intro hb2 (And.intro hx2 hr2))
      clear hb2 hx2 hr2 HK1 HK2 HK3 HK4 HS HL HS6 HO1 HO2 HR1 HBX HBR HBE hS0'
      go_wp2
      go_roundw
      case rel => exact ⟨k + 1, hlt, by go_num, HE.out⟩
      case measure => simp [intOf]; omega
    · obtain rfl : harts = k := by omega
      clear hlt hk hc2
      obtain ⟨H, hH⟩ : ∃ H, wr.heap.size = H := ⟨_, rfl⟩
      have hHw : w.heap.size + 2 ≤ H := by have := hbr.lt; omega
      have HRL := hide (And.intro hb (And.intro hbx hbr))
      clear hb hbx hbr HBX HBR HBE
      go_wp2_with (go_at_call 11; refine (fall_new _ _).mono ?_; rintro e w1 ⟨rfl, hw1⟩; have HW1 := hide hw1; clear hw1)
      have hE : LkI w w1 a H (lastOf first ([] : List (UseI ns))) (([] : List (UseI ns)).length : Nat) := by
        obtain ⟨hb, hbx, hbr⟩ := HRL.out
        rw [HW1.out]
        refine ⟨((hbx.alloc _).alloc _).alloc _, ((hbr.alloc _).alloc _).alloc _, ?_, ?_, ((hb.alloc hb.size _).alloc (by simp; omega) _).alloc (by simp; omega) _, ⟨hHw, by simp; omega⟩⟩
        · rw [← hH]; exact ((Blk.new wr 3 _).alloc _).alloc _
        · rw [← hH]
          have := (Blk.new (wr.alloc (.cells #[.int .i64 (-1)] 3)) 3 #[.int .i64 0]).alloc (.cells #[.pointer (some ⟨t, 0, none⟩)] 28)
          simpa using this
      have hCB : Blk w1 (H + 1 + 1) 28 #[.pointer (some ⟨t, 0, none⟩)] := by
        rw [HW1.out, ← hH]
        have := Blk.new ((wr.alloc (.cells #[.int .i64 (-1)] 3)).alloc (.cells #[.int .i64 0] 3)) 28 #[.pointer (some ⟨t, 0, none⟩)]
        simpa using this
      have hsz : w1.heap.size = H + 3 := by rw [HW1.out, ← hH]; simp
      clear HW1 HRL
      refine (wpIn_wide (n := 9)).1 ?_
      refine wpIn_rangeFunc_ownF rfl (by decide) (gf := 32) (lb := #[.pointer (some ⟨H + 1 + 1, 0, none⟩)]) rfl trivial (enters_of Try.func32 (by kernel_rfl) rfl)
        (all1_is (HB.out _ hE.below).fr _ (H + 1 + 1) (by decide) hCB [H, H + 1] (by simp; omega) (by simp; omega) (by simp; omega) HP.out.good.cnt) keepsCells_t (fun W l o o' _ h hc _ => keepsCells_b W l o o' h hc) (Below.refl _ _) (fun x => rfl)
        (fun pre W => LkI w W a H (lastOf first pre) pre.length) (fun _ pre _ => ¬ ∃ k, k ≤ (ns 2).length ∧ pre = usedTo ns k)
        (fun s W W' row hs hg hr => hs.kept hg (fun r e => by have := hr r e; exact ⟨by omega, this.2⟩))
        (fun _ _ _ _ _ hs _ _ => hs)
        hE
        (fun x => { tmps := #[.pointer (some ⟨t, 0, none⟩), .pointer (some ⟨a, 0, none⟩), undef, .pointer (some ⟨w.heap.size, 0, none⟩), .pointer (some ⟨w.heap.size + 1, 0, none⟩), u5, .pointer (some ⟨H, 0, none⟩), .pointer (some ⟨H + 1, 0, none⟩), .int .i64 (first + x.1), .int .i64 (gb (ns 2) x.1), .pointer (some ⟨a, 0, none⟩), .pointer (some ⟨a, 0, none⟩), .pointer (some ⟨a, 2, none⟩), .slice (some ⟨bL, 0, none⟩) harts harts, .int .i64 harts, .int .i64 harts, .bool false, u17, u18, u19, u20, u21, u22, u23, u24, u25, u26, u27, u28, u29, u30, .pointer (some ⟨t, 0, none⟩), .func (.func 32) #[] #[.pointer (some ⟨H + 1 + 1, 0, none⟩)], .int .i64 (first + x.1), .int .i64 (gb (ns 2) x.1), undef, undef, undef, undef, undef, undef, undef, undef, undef, undef, undef, undef, undef, undef, undef, undef, undef, undef, undef, undef, undef, undef, undef, undef, undef, undef, undef, undef, undef, undef, undef, undef, undef, undef, undef, undef, undef, undef, undef, undef, undef, undef, undef, undef, undef, undef, undef, undef, undef, undef, undef, undef, undef, undef, undef, undef, undef, undef, undef, undef, undef, undef, undef, undef, undef, undef, undef, undef, undef, undef, undef, undef, undef], defers := [] }) ?assign ?body ?done ?stop
      case assign =>
        intro l x W K hK
        gi_wp2
        exact hK
      case body =>
        rintro l pre ⟨q, hq⟩ W hI hlen
        clear hE hCB hsz
        have hc0 : W.cell? ⟨w.heap.size, 0, none⟩ = some (.pointer (some ⟨a, 0, none⟩)) := hI.box.cell 0
        have hc1 : W.cell? ⟨H, 0, none⟩ = some (.int .i64 (lastOf first pre)) := hI.last.cell 0
        have hc2 : W.cell? ⟨H + 1, 0, none⟩ = some (.int .i64 (pre.length : Nat)) := hI.num.cell 0
        have hc3 : W.cell? ⟨w.heap.size + 1, 0, none⟩ = some (.bool false) := hI.res.cell 0
        have hf1 := hI.last.frozen 0
        have hf2 := hI.num.frozen 0
        have hf3 := hI.res.frozen 0
        have HC := hide (show Calls Try.prog 27 #[.pointer (some ⟨a, 0, none⟩), .int .i64 ((first : Int) + q)] W fun e w' => e = .returned (.int .i64 (gb (ns 2) q)) ∧ ∃ n, w' = W.drewN n from by
          have := rcount_is (HB.out W hI.below).rf ((first : Int) + q) (by have := hq.1; omega)
          rwa [cntF_at rfl hq.1] at this)
        have HI := hide hI
        have HLT := hide (fun k (h : pre ++ [⟨q, hq⟩] = usedTo ns k) => lastOf_lt first k pre ⟨q, hq⟩ h)
        have HSN := hide (lastOf_snoc first pre ⟨q, hq⟩)
        have hq1 := hq.2
        have HQ := hide hq
        have hpl : (pre.length : Int) ≤ 4096 := by omega
        obtain ⟨L, hL⟩ : ∃ L, lastOf first pre = L := ⟨_, rfl⟩
        obtain ⟨m, hm⟩ : ∃ m : Int, gb (ns 2) q = m := ⟨_, rfl⟩
        rw [hL] at hc1 HI HLT
        rw [hm] at HC hq1
        dsimp only
        rw [hm]
        clear hI
        have hqb : (q : Int) < (ns 2).length := by omega
        clear hL hm
        by_cases hle : (first : Int) + q ≤ L
        · gi_wp2
          refine ⟨trivial, ?_⟩
          gi_wp2
          refine ⟨KeepsOthers.setCell W _ _, ?_⟩
          rintro ⟨k, hk, e⟩
          have := HLT.out k e
          omega
        · gi_wp2_with (refine ⟨trivial, ?_⟩; gi_at_call 27; refine (CallsIn.inRound l (callsIn_wide.2 HC.out)).mono ?_; rintro e w2 ⟨rfl, nq, rfl⟩)
          have h1 := ((HI.out.only ((Only.refl [] W).drewN nq)).setLast ((first : Int) + q)).setNum ((pre.length : Int) + 1)
          refine ⟨(show KeepsOthers W (W.drewN nq) from ⟨Nat.le_refl _, fun _ _ h _ => h⟩).trans ((KeepsOthers.setCell _ _ _).trans (KeepsOthers.setCell _ _ _)), KeepsCells.of_only (((((Only.refl [H, H + 1] W).drewN nq)).setCell _ (by simp)).setCell _ (by simp)), ?_⟩
          dsimp only
          rw [HSN.out, List.length_append, List.length_singleton, show ((pre.length + 1 : Nat) : Int) = (pre.length : Int) + 1 by omega]
          exact h1
      case stop =>
        rintro D c pre W hD h1 h2 _
        exact absurd h1 h2
      case done =>
      rintro D ys W hD rfl hI hK
      have hDw : w.heap.size ≤ D := by omega
      clear hE hCB hsz
      rw [usedTo_all] at hI
      obtain ⟨U, hU⟩ : ∃ U : Nat, usedL (ns 2) = U := ⟨_, rfl⟩
      have HUE := hide hU
      rw [hU] at hI
      obtain ⟨L, hL⟩ : ∃ L : Int, lastOf first (usedTo ns (ns 2).length) = L := ⟨_, rfl⟩
      rw [hL] at hI
      have HI := hide hI
      have HK := hide hK
      clear hI hK hL hU
      go_wp2_with (go_at_call 11; refine (fall_new _ _).mono ?_; rintro e w2 ⟨rfl, hw2⟩; have HW2 := hide hw2; clear hw2)
      have hDl : D < W.heap.size := (Array.getElem?_eq_some_iff.1 HK.out).1
      have hO2 : Only [] W w2 := by rw [HW2.out]; exact (Only.refl [] W).alloc _
      have hE : LkI w w2 a H L U ∧ w2.heap[D]? = some (.deferred (some [])) := ⟨HI.out.only hO2, (hO2.block D hDl (by simp)).trans HK.out⟩
      have hCB : Blk w2 W.heap.size 28 #[.pointer (some ⟨t, 0, none⟩)] := by rw [HW2.out]; exact Blk.new W _ _
      have hsz : w2.heap.size = W.heap.size + 1 := by rw [HW2.out]; simp
      have hHW := HI.out.le
      clear HW2 HI HK hO2
      refine (wpIn_wide (n := 9)).1 ?_
      refine wpIn_rangeFunc_ownF rfl (by decide) (gf := 32) (lb := #[.pointer (some ⟨W.heap.size, 0, none⟩)]) rfl trivial (enters_of Try.func32 (by kernel_rfl) rfl)
        (all1_is (HB.out _ hE.1.below).fr _ W.heap.size (by decide) hCB [] (by simp) (by simp) (by simp) HP.out.good.cnt) keepsCells_t (fun W l o o' _ h hc _ => keepsCells_b W l o o' h hc) (Below.refl _ _) (fun x => rfl)
        (fun pre W => LkI w W a H L U ∧ W.heap[D]? = some (.deferred (some []))) (fun c pre W => c = .exit 4 ∧ LkI w W a H L U ∧ W.heap[D]? = some (.deferred (some [])))
        (fun s W' W'' row hs hg hr => ⟨hs.1.kept hg (fun r e => by have := hr r e; exact ⟨by omega, this.2⟩), (hg.block D (Array.getElem?_eq_some_iff.1 hs.2).1 (fun e => by have := (hr D e.symm).1; omega)).trans hs.2⟩)
        (fun c s W' W'' row hs hg hr => ⟨hs.1, hs.2.1.kept hg (fun r e => by have := hr r e; exact ⟨by omega, this.2⟩), (hg.block D (Array.getElem?_eq_some_iff.1 hs.2.2).1 (fun e => by have := (hr D e.symm).1; omega)).trans hs.2.2⟩)
        hE
        (fun x => { tmps := #[.pointer (some ⟨t, 0, none⟩), .pointer (some ⟨a, 0, none⟩), undef, .pointer (some ⟨w.heap.size, 0, none⟩), .pointer (some ⟨w.heap.size + 1, 0, none⟩), u5, .pointer (some ⟨H, 0, none⟩), .pointer (some ⟨H + 1, 0, none⟩), undef, undef, .pointer (some ⟨a, 0, none⟩), .pointer (some ⟨a, 0, none⟩), .pointer (some ⟨a, 2, none⟩), .slice (some ⟨bL, 0, none⟩) harts harts, .int .i64 harts, .int .i64 harts, .bool false, u17, u18, u19, u20, u21, u22, u23, u24, u25, u26, u27, u28, u29, u30, .pointer (some ⟨t, 0, none⟩), .func (.func 32) #[] #[.pointer (some ⟨H + 1 + 1, 0, none⟩)], undef, undef, undef, undef, undef, undef, undef, undef, undef, undef, undef, undef, undef, undef, undef, undef, undef, undef, undef, .pointer (some ⟨t, 0, none⟩), .func (.func 32) #[] #[.pointer (some ⟨W.heap.size, 0, none⟩)], .int .i64 (first + x.1), .int .i64 (gb (ns 2) x.1), undef, undef, undef, undef, undef, undef, undef, undef, undef, undef, undef, undef, undef, undef, undef, undef, undef, undef, undef, undef, undef, undef, undef, undef, undef, undef, undef, undef, undef, undef, undef, undef, undef, undef, undef, undef, undef, undef, undef, undef, undef, undef, undef, undef, undef, undef, undef, undef, undef, undef, undef, undef], defers := [] }) ?assign2 ?body2 ?done2 ?stop2
      case assign2 =>
        intro l x W K hK
        gi_wp2
        exact hK
      case body2 =>
        rintro l pre ⟨q, hq⟩ W3 hI hlen
        gi_wp2
        exact ⟨KeepsOthers.refl _, rfl, hI⟩
      case' stop2 =>
        rintro D1 c pre W3 hD1 - ⟨rfl, hI, hK⟩ hK1
        refine (wpIn_wide (n := 9)).2 ?_
      case' done2 =>
        rintro D1 ys W3 hD1 - ⟨hI, hK⟩ hK1
      all_goals
        have B3 := HB.out W3 hI.below
        have hle := hI.le
        have htot := HP.out.tot
        have hsum := sumL_all ns
        have hfew : ∀ o, Slot o → (ns o).length ≤ 4096 := HP.out.good.few
        have hUE := HUE.out
        obtain ⟨A12, c12, hv12, -⟩ := B3.rf.see 12 (.inl rfl)
        have HBW := hide (fun W' (ho : Only [] W3 W') => (B3.only ho).1)
        have HS := hide (fun W' (ho : Only [w.heap.size + 1] W3 W') => (show W'.cell? ⟨H + 1, 0, none⟩ = some (.int .i64 (U : Nat)) ∧ W'.cell? ⟨w.heap.size, 0, none⟩ = some (.pointer (some ⟨a, 0, none⟩)) ∧ W'.cell? ⟨a, 1, none⟩ = some (.slice (some ⟨cC, 0, none⟩) (ns 2).length (ns 2).length) ∧ W'.cell? ⟨a, 2, none⟩ = some (.slice (some ⟨bL, 0, none⟩) harts harts) ∧ W'.cell? ⟨a, 3, none⟩ = some (.slice A12 (ns 12).length c12) from by
          have hane : a ∉ [w.heap.size + 1] := by simp; omega
          have hblk := B3.rf.blk.only ho hane
          have h3 := hblk.cell 3
          rw [hv12] at h3
          exact ⟨(hI.num.only ho (by simp; omega)).cell 0, (hI.box.only ho (by simp)).cell 0, hblk.cell 1, hblk.cell 2, h3⟩))
        have HR := hide (fun W' (ho : Only [] W3 W') => And.intro ((hI.res.only ho (by simp)).cell 0) ((hI.res.only ho (by simp)).frozen 0))
        have HU6 := hide (fun W' (ho : Only [] W3 W') => (show Calls Try.prog 28 #[.pointer (some ⟨a, 0, none⟩)] W' fun e w' => e = .returned (.int .i64 (U : Nat)) ∧ W' = w' from by
          have := rused_is (HBW.out W' ho).rf
          rwa [hUE] at this))
        have HUS := hide (fun W' (ho : Only [] W3 W') => (show Calls Try.prog 29 #[.pointer (some ⟨t, 0, none⟩)] W' fun e w' => e = .returned (.int .i64 (U : Nat)) ∧ ∃ n, w' = W'.drewN n from by
          have := used_is (HBW.out W' ho).fr hfew
          rwa [show (((ns 2).length : Int) - (sumL ns 8 : Int)) = (U : Int) by omega] at this))
        have HFR := hide (fun W' (ho : Only [] W3 W') => (show Calls Try.prog 30 #[.pointer (some ⟨t, 0, none⟩)] W' fun e w' => e = .returned (.int .i64 (((ns 2).length : Int) - (U : Nat))) ∧ W' = w' from by
          have := free_is (HBW.out W' ho).fr hfew
          rwa [show ((sumL ns 8 : Nat) : Int) = ((ns 2).length : Int) - (U : Int) by omega] at this))
        have HCM := hide (fun W' (ho : Only [] W3 W') => common_ok (HBW.out W' ho).fr (hfew 12 (by unfold Slot; omega)))
        have HS6 := hide (fun W' (ho : Only [] W3 W') => (show SeesI W' (.slice A12 (ns 12).length c12) (ns 12) from by
          have h1 := (B3.rf.see 12 (.inl rfl)).sees.only ho
          rwa [hv12] at h1))
        have HRI := hide (fun W' (ho : Only [] W3 W') => right_is (HBW.out W' ho).fr HP.out.good hpos)
        have HLI := hide (fun W' (ho : Only [] W3 W') (h : Int) (hh : ¬ (0 ≤ h ∧ h < harts)) => list_no (HBW.out W' ho).fr h hh)
        have HL12 := hide (hfew 12 (by unfold Slot; omega))
        have HN := hide (And.intro hI (And.intro hK hK1))
        have hwr : IntKind.i64.wrap (((ns 2).length : Int) - (U : Int)) = ((ns 2).length : Int) - U := by rw [IntKind.wrap_i64]; omega
        have hS0 := HS.out W3 (Only.refl _ _)
        have hne : D1 ≠ D := by omega
        have hD1w : w.heap.size ≤ D1 := by omega
        clear B3 htot hsum hfew hUE hv12 hI hK hK1 hE hCB hsz hHW
        go_wp2_with fail
        go_region_held3 (fun w' => w'.cell? ⟨H + 1, 0, none⟩ = some (.int .i64 (U : Nat)) ∧ w'.cell? ⟨w.heap.size, 0, none⟩ = some (.pointer (some ⟨a, 0, none⟩)) ∧ w'.cell? ⟨a, 1, none⟩ = some (.slice (some ⟨cC, 0, none⟩) (ns 2).length (ns 2).length) ∧ w'.cell? ⟨a, 2, none⟩ = some (.slice (some ⟨bL, 0, none⟩) harts harts) ∧ w'.cell? ⟨a, 3, none⟩ = some (.slice A12 (ns 12).length c12)) (first | assumption | (exact HS.out _ (Only.setCell (HO7.out.mono (by simp)) _ (fun _ => List.mem_singleton.2 rfl))) | (refine HS.out _ ?_; repeat (first | exact Only.refl _ _ | exact HO7.out.mono (by simp) | exact HO6.out.mono (by simp) | exact HO5.out.mono (by simp) | apply Only.drewN | apply Only.drew | apply Only.alloc); done) | go_keep) (first | (go_at_call 28; refine (HU6.out _ (by repeat (first | exact Only.refl _ _ | exact HO5.out | exact HO6.out | exact HO7.out | apply Only.drew | apply Only.alloc | apply Only.drewN))).mono ?_; rintro e w' ⟨rfl, rfl⟩) | (go_at_call 29; refine (HUS.out _ (by repeat (first | exact Only.refl _ _ | exact HO5.out | exact HO6.out | exact HO7.out | apply Only.drew | apply Only.alloc | apply Only.drewN))).mono ?_; rintro e w' ⟨rfl, m1, rfl⟩) | (go_at_call 30; refine (HFR.out _ (by repeat (first | exact Only.refl _ _ | exact HO5.out | exact HO6.out | exact HO7.out | apply Only.drew | apply Only.alloc | apply Only.drewN))).mono ?_; rintro e w' ⟨rfl, rfl⟩) | (go_at_call 31; refine (HCM.out _ (by repeat (first | exact Only.refl _ _ | exact HO5.out | exact HO6.out | exact HO7.out | apply Only.drew | apply Only.alloc | apply Only.drewN))).mono ?_; rintro e w5 ⟨v5, rfl, hr5, ho5⟩; have HO5 := hide (show Only [] W3 w5 from Only.trans (by repeat (first | exact Only.refl _ _ | exact HO5.out | exact HO6.out | exact HO7.out | apply Only.drew | apply Only.alloc | apply Only.drewN)) ho5); have HR5 := hide hr5; clear hr5 ho5) | (go_at_call 15; have hg := HO5; refine (same6_yes (SeesI.only (KRow.sees HR5.out) (by repeat (first | exact Only.refl _ _ | apply Only.drew | apply Only.alloc | apply Only.drewN))) (HS6.out _ (by repeat (first | exact Only.refl _ _ | exact HO5.out | exact HO6.out | exact HO7.out | apply Only.drew | apply Only.alloc | apply Only.drewN))) (by have := HL12.out; omega)).mono ?_; rintro e w6 ⟨rfl, ho6⟩; have HO6 := hide (show Only [] W3 w6 from Only.trans (by repeat (first | exact Only.refl _ _ | exact HO5.out | exact HO6.out | exact HO7.out | apply Only.drew | apply Only.alloc | apply Only.drewN)) ho6); clear ho6) | (go_at_call 16; refine (HRI.out _ (by repeat (first | exact Only.refl _ _ | exact HO5.out | exact HO6.out | exact HO7.out | apply Only.drew | apply Only.alloc | apply Only.drewN))).mono ?_; rintro e w7 ⟨rfl, hb7⟩; have HO7 := hide (show Only [] W3 w7 from Only.trans (by repeat (first | exact Only.refl _ _ | exact HO5.out | exact HO6.out | exact HO7.out | apply Only.drew | apply Only.alloc | apply Only.drewN)) (Only.of_below hb7)); have kr := HR.out w7 HO7.out; have kr1 := kr.1; have kr2 := kr.2; clear hb7 kr) | (go_at_call 13; refine (HLI.out _ (by repeat (first | exact Only.refl _ _ | exact HO5.out | exact HO6.out | exact HO7.out | apply Only.drew | apply Only.alloc | apply Only.drewN)) _ (by omega)).mono ?_; rintro e w' ⟨rfl, rfl⟩))
        all_goals
          obtain ⟨hI, hK, hK1⟩ := HN.out
          have hb7 : Blk w7 (w.heap.size + 1) 4 #[.bool false] := hI.res.only HO7.out (by simp)
          have e1 : w7.heap[D1]? = some (.deferred (some [])) := (HO7.out.block D1 (Array.getElem?_eq_some_iff.1 hK1).1 (by simp)).trans hK1
          have e0 : w7.heap[D]? = some (.deferred (some [])) := (HO7.out.block D (Array.getElem?_eq_some_iff.1 hK).1 (by simp)).trans hK
          have g1 : D1 ≠ w.heap.size + 1 := fun e => by
            have h1 := hb7
            unfold Blk at h1
            rw [← e, e1] at h1
            cases h1
          have g0 : D ≠ w.heap.size + 1 := fun e => by
            have h1 := hb7
            unfold Blk at h1
            rw [← e, e0] at h1
            cases h1
          have f1 : (w7.setCell ⟨w.heap.size + 1, 0, none⟩ (.bool true)).heap[D1]? = some (.deferred (some [])) := (Below.heap_setCell w7 ⟨w.heap.size + 1, 0, none⟩ (.bool true) D1 g1).trans e1
          have f0 : (w7.setCell ⟨w.heap.size + 1, 0, none⟩ (.bool true)).heap[D]? = some (.deferred (some [])) := (Below.heap_setCell w7 ⟨w.heap.size + 1, 0, none⟩ (.bool true) D g0).trans e0
          have f0' : ((w7.setCell ⟨w.heap.size + 1, 0, none⟩ (.bool true)).putObj D1 (.deferred none)).heap[D]? = some (.deferred (some [])) :=
            ((grownBy_putObj' _ D1 _).block D (Array.getElem?_eq_some_iff.1 f0).1 (fun e => hne (by injection e with e; exact e.symm))).trans f0
          have hbr : Blk (w7.setCell ⟨w.heap.size + 1, 0, none⟩ (.bool true)) (w.heap.size + 1) 4 #[.bool true] := hb7.set_ 0 (.bool true)
          have hbr1 : Blk ((w7.setCell ⟨w.heap.size + 1, 0, none⟩ (.bool true)).putObj D1 (.deferred none)) (w.heap.size + 1) 4 #[.bool true] := (keepsCells_b (S := []) _ D1 _ (.deferred none) f1 rfl).2 _ _ _ (by simp) hbr
          have hbr2 : Blk (((w7.setCell ⟨w.heap.size + 1, 0, none⟩ (.bool true)).putObj D1 (.deferred none)).putObj D (.deferred none)) (w.heap.size + 1) 4 #[.bool true] := (keepsCells_b (S := []) _ D _ (.deferred none) f0' rfl).2 _ _ _ (by simp) hbr1
          have hc5 : (((w7.setCell ⟨w.heap.size + 1, 0, none⟩ (.bool true)).putObj D1 (.deferred none)).putObj D (.deferred none)).cell? ⟨w.heap.size + 1, 0, none⟩ = some (.bool true) := hbr2.cell 0
          have hW4 : Below w.heap.size w (w7.setCell ⟨w.heap.size + 1, 0, none⟩ (.bool true)) := (hI.below.trans (HO7.out.below hI.below.size (by simp))).setCell (p := ⟨w.heap.size + 1, 0, none⟩) (Nat.le_succ _) _
          have hW6 : Below w.heap.size w (((w7.setCell ⟨w.heap.size + 1, 0, none⟩ (.bool true)).putObj D1 (.deferred none)).putObj D (.deferred none)) := (hW4.trans (belowK_b (w := w) (Nat.le_refl _) _ D1 _ _ hD1w f1 rfl rfl)).trans (belowK_b (w := w) (Nat.le_refl _) _ D _ _ hDw f0' rfl rfl)
          have HF := hide (And.intro f1 (And.intro f0' (And.intro hc5 hW6)))
          clear hI hK hK1 hb7 e1 e0 g1 g0 f1 f0 f0' hbr hbr1 hbr2 hc5 hW4 hW6 hS0 kr1 kr2
          go_wp2
          refine ⟨by simp, .inl ⟨_, _, rfl, run_takeDeferred HF.out.1, ?_⟩⟩
          refine ⟨by simp, .inl ⟨_, _, rfl, run_takeDeferred HF.out.2.1, ?_⟩⟩
          have hc5 := HF.out.2.2.1
          exact ⟨.bool true, by simp [results, Try.f10, go_sem, hc5], rfl, HF.out.2.2.2⟩
end
end Go.Proofs.Ytfbegickdnjfcaa
