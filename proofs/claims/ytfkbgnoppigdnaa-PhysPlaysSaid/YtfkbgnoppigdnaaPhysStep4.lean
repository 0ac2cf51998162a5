/-
  One call on both memories: Write; and 'step' whole: whatever the call is, it answers true, and both hold the same bytes again.
-/
import Derived.Test.YtfkbgnoppigdnaaPhysStep3
namespace Go.Proofs.Ytfkbgnoppigdnaa
open Go.ChangeShapes Go.WideShapes Go.ChangeAt Go.RowKit
set_option linter.unusedVariables false

theorem Pair.only2 {w w1 : World} {g d c g' d' c' : Nat} {r r' : List Value} {xs : List Int} {S : List Nat} (p : Pair w g d c r g' d' c' r' xs) (ho : Only S w w1) (h1 : g ∉ S) (h2 : d ∉ S) (h3 : g' ∉ S) (h4 : d' ∉ S) : Pair w1 g d c r g' d' c' r' xs :=
  ⟨p.mem.only ho h1 h2, p.ref.only ho h3 h4, p.u8, p.ne⟩

section
variable {w : World} {g d c g' d' c' : Nat} {r r' : List Value} {xs : List Int} (p : Pair w g d c r g' d' c' r' xs)
include p

set_option maxRecDepth 100000 in
set_option maxHeartbeats 1000000 in
theorem step7 (a b x y : Int) (B : Option Addr) (bn bc : Nat) (zs : List Int) (hz : Sees w B bn zs) (hu : U8 zs) (hB0 : B = none → bn = 0 ∧ bc = 0) (hbn : bn ≤ 140737488351232) (hBd : 0 < bn → ∀ q, B = some q → q.block ≠ d ∧ q.block ≠ d' ∧ q.block < w.heap.size) :
    Calls Try.prog 19 #[.pointer (some ⟨g, 0, none⟩), .pointer (some ⟨g', 0, none⟩), .agg #[.int .i64 7, .int .i64 a, .int .i64 b, .int .u32 x, .int .u32 y, .slice B bn bc]] w fun e w' => e = .returned (.bool true) ∧ ∃ ys, ys.length = xs.length ∧ Pair w' g d c r g' d' c' r' ys ∧ Only [d, d'] w w' := by
  obtain rfl := hz.1
  have H1 := hide fun w1 A n c (ho : Only [] w w1) (hs : Sees w1 A n zs) => mem_write (p.mem.only ho (by simp) (by simp)) a A n c zs hs
  have H2 := hide fun w1 A n c (ho : Only [d] w w1) (hs : Sees w1 A n zs) (hA : 0 < n → ∀ b, A = some b → b.block ≠ d') => ref_write (p.ref.only ho (by simpa using p.gd) (by simpa using p.ne.symm)) a A n c zs hs hA
  have HU := hide (p.u8.wr a hu)
  have HL := hide (show (wr xs a zs).length = xs.length by unfold wr; split; exact length_splice _ _ _ (by omega); rfl)
  have HP := hide p
  have hd := p.mem.lt.2
  have hd' := p.ref.lt.2
  have HZ := hide hz
  have HB0 := hide hB0
  have HBD := hide hBd
  have HBN := hide hbn
  clear p hz hB0 hBd hu hbn
  generalize err (0 ≤ a ∧ a + zs.length ≤ xs.length) = q at H1 H2
  generalize wr xs a zs = ys at H1 H2 HU HL
  have hqq : (q != q) = false := by simp
  go_enter Try.func19, Try.ntmps19
  have HOP := hide (Blk.new w 34 #[.int .i64 7, .int .i64 a, .int .i64 b, .int .u32 x, .int .u32 y, .slice B zs.length bc])
  go_wp2_with (at_builtin; refine wpList_append_new rfl _ _ rfl _ w.heap.size (w.heap.size + 1) rfl (Nat.le_succ _) ?hblk B zs.length bc rfl HB0.out zs ?hsees ?hbig ?_)
  case hblk => have := Blk.new (w.alloc (.cells #[.int .i64 7, .int .i64 a, .int .i64 b, .int .u32 x, .int .u32 y, .slice B zs.length bc] 34)) 5 #[]; simpa using this
  case hsees => exact HZ.out.only (((Only.refl [] w).alloc _).alloc _) (by simp)
  case hbig => have := HBN.out; omega
  intro v w1 hf ho1
  have HO1 := hide (show Only [] w w1 from (((Only.refl [] w).alloc _).alloc _).trans' ho1 (by intro k hk hk'; simp at hk'; omega))
  have hop := (HOP.out.alloc (.cells #[] 5)).only ho1 (by simp)
  have hc1 := hop.cell 1
  have hc5 := hop.cell 5
  have hlo : w.heap.size < w1.heap.size := hop.lt
  have HCL := hide (fun (w2 : World) (k : Only [d, d'] w1 w2) => (show w2.cell? ⟨w.heap.size, 1, none⟩ = some (.int .i64 a) ∧ w2.cell? ⟨w.heap.size, 5, none⟩ = some (.slice B zs.length bc) from
    ⟨(k.cell hlo (by simp; omega)).trans hc1, (k.cell hlo (by simp; omega)).trans hc5⟩))
  obtain ⟨da, ca, ra, rfl, hda, hblk, hla⟩ := hf
  have HS1 := hide (fun (w2 : World) (k : Only [d, d'] w1 w2) => (show Sees w2 (some ⟨da, 0, none⟩) zs.length zs ∧ Sees w2 B zs.length zs from by
    have hb2 := hblk.only k (by simp; omega)
    exact ⟨⟨rfl, fun _ => ⟨da, 0, rfl, hb2.lt, fun i hi => by rw [Nat.zero_add, hb2.cell]; exact u8l_get zs ra i hi⟩⟩,
      (HZ.out.only HO1.out (by simp)).only k (fun hn b hb _ => by have := HBD.out hn b hb; simp; omega)⟩))
  have HBK := hide (fun (w2 : World) (k : Only [d, d'] w1 w2) => hblk.only k (by simp; omega))
  clear ho1 hop hblk
  go_wp2_with fail
  go_region_held3 (fun w' => w'.cell? ⟨w.heap.size, 1, none⟩ = some (.int .i64 a) ∧ w'.cell? ⟨w.heap.size, 5, none⟩ = some (.slice B zs.length bc)) (first | go_keep | exact HCL.out _ kC | exact HCL.out _ kB | exact HCL.out _ kA) (first | (go_at_call 28; refine (H1.out _ _ _ _ (HO1.out.trans (by repeat (first | exact Only.refl _ _ | apply Only.drew))) (HS1.out _ (by repeat (first | exact Only.refl _ _ | apply Only.drew))).1).mono ?_; rintro e wA ⟨rfl, hoA, hmA⟩; have kA : Only [d, d'] w1 wA := Only.trans (by repeat (first | exact Only.refl _ _ | apply Only.drew)) (hoA.mono (by simp +contextual)); have iA : Only [d] w wA := (HO1.out.mono (by simp)).trans (Only.trans (by repeat (first | exact Only.refl _ _ | apply Only.drew)) hoA)) | (go_at_call 58; refine (H2.out _ _ _ _ iA (HS1.out _ kA).2 (fun hn b hb => (HBD.out hn b hb).2.1)).mono ?_; rintro e wB ⟨rfl, hoB, hmB⟩; have kB : Only [d, d'] w1 wB := kA.trans (hoB.mono (by simp +contextual))) | (go_at_call 21; refine (same_yes _ _ _ _ _ _ zs (HS1.out _ kB).1 (HS1.out _ kB).2 (by have := HBN.out; omega)).mono ?_; rintro e wC ⟨rfl, hoC⟩; have kC : Only [d, d'] w1 wC := kB.trans (hoC.mono (by simp))))
  have HH := hide (HP.out.both iA hmA hoB hmB HU.out)
  have HBC := hide (HBK.out _ kC)
  have HOC := hide hoC
  have HD := hide hda
  have HLT := hide (And.intro HP.out.mem.lt HP.out.ref.lt)
  have hn : zs.length ≤ 9223372036854775807 := by have := HBN.out; omega
  clear hmA hmB iA kA kB kC hoA hoB hoC hd hd' hlo hc1 hc5 hda hqq
  generalize hzn : zs.length = n at hn
  have HZN := hide hzn
  clear hzn hla
  go_wp2
  go_loopw [14] (fun i wr => Bumps n da ra wC i wr) (fun i _ => n - (intOf i).toNat)
  case atStart => exact ⟨0, zs, Nat.zero_le _, rfl, HZN.out, HBC.out, Only.refl _ _⟩
  case round =>
    clear HBC
    obtain ⟨k, qs, hk, rfl, hq, hbl, hoB⟩ := hrel
    have HQ := hide hq
    have HOB := hide hoB
    have HBL := hide hbl
    by_cases hlt : k < n
    · have hcl := hbl.cell k
      rw [u8l_get _ _ _ (by rw [hq]; exact hlt)] at hcl
      have hfr := hbl.frozen k
      clear hbl hq hoB
      generalize gb qs k = vk at hcl
      go_wp2
      go_roundw
      case rel => exact ⟨k + 1, _, hlt, by go_num, by rw [List.length_set]; exact HQ.out, HBL.out.setu (by rw [HQ.out]; exact hlt) _, HOB.out.setCell _ (by simp)⟩
      case measure => simp [intOf]; omega
    · have HOO := hide (show Only [da] wB _ from (HOC.out.mono (by simp)).trans HOB.out)
      clear hbl hq hoB
      go_wp2
      go_ret
      have h1 := HLT.out
      have h2 := HD.out
      exact ⟨rfl, ys, HL.out, HH.out.1.only2 HOO.out (by simp; omega) (by simp; omega) (by simp; omega) (by simp; omega), HH.out.2.trans' HOO.out (by intro k hk hk'; simp at hk'; omega)⟩

set_option maxRecDepth 100000 in
theorem step1 (a b x y : Int) (B : Option Addr) (bn bc : Nat) :
    Calls Try.prog 19 #[.pointer (some ⟨g, 0, none⟩), .pointer (some ⟨g', 0, none⟩), .agg #[.int .i64 1, .int .i64 a, .int .i64 b, .int .u32 x, .int .u32 y, .slice B bn bc]] w fun e w' => e = .returned (.bool true) ∧ ∃ ys, ys.length = xs.length ∧ Pair w' g d c r g' d' c' r' ys ∧ Only [d, d'] w w' := by
  have H1 := hide fun o => word1 (⟨p.mem.alloc o, p.ref.alloc o, p.u8, p.ne⟩ : Pair (w.alloc o) g d c r g' d' c' r' xs) a b x y B bn bc
  clear p
  go_enter Try.func19, Try.ntmps19
  go_wp2_with (go_at_call 56; refine (H1.out _).mono ?_; rintro e w1 ⟨rfl, ys, hl, hp, ho⟩; have HQ := hide (And.intro hl (And.intro hp ho)); clear hl hp ho)
  go_ret
  exact ⟨rfl, ys, HQ.out.1, HQ.out.2.1, ((Only.refl _ w).alloc _).trans HQ.out.2.2⟩

set_option maxRecDepth 100000 in
theorem step2 (a b x y : Int) (B : Option Addr) (bn bc : Nat) (x0 : 0 ≤ x) (x1 : x ≤ 4294967295) :
    Calls Try.prog 19 #[.pointer (some ⟨g, 0, none⟩), .pointer (some ⟨g', 0, none⟩), .agg #[.int .i64 2, .int .i64 a, .int .i64 b, .int .u32 x, .int .u32 y, .slice B bn bc]] w fun e w' => e = .returned (.bool true) ∧ ∃ ys, ys.length = xs.length ∧ Pair w' g d c r g' d' c' r' ys ∧ Only [d, d'] w w' := by
  have H1 := hide fun o => word2 (⟨p.mem.alloc o, p.ref.alloc o, p.u8, p.ne⟩ : Pair (w.alloc o) g d c r g' d' c' r' xs) a b x y B bn bc x0 x1
  clear p
  go_enter Try.func19, Try.ntmps19
  go_wp2_with (go_at_call 56; refine (H1.out _).mono ?_; rintro e w1 ⟨rfl, ys, hl, hp, ho⟩; have HQ := hide (And.intro hl (And.intro hp ho)); clear hl hp ho)
  go_ret
  exact ⟨rfl, ys, HQ.out.1, HQ.out.2.1, ((Only.refl _ w).alloc _).trans HQ.out.2.2⟩

set_option maxRecDepth 100000 in
theorem step3 (a b x y : Int) (B : Option Addr) (bn bc : Nat) :
    Calls Try.prog 19 #[.pointer (some ⟨g, 0, none⟩), .pointer (some ⟨g', 0, none⟩), .agg #[.int .i64 3, .int .i64 a, .int .i64 b, .int .u32 x, .int .u32 y, .slice B bn bc]] w fun e w' => e = .returned (.bool true) ∧ ∃ ys, ys.length = xs.length ∧ Pair w' g d c r g' d' c' r' ys ∧ Only [d, d'] w w' := by
  have H1 := hide fun o => word3 (⟨p.mem.alloc o, p.ref.alloc o, p.u8, p.ne⟩ : Pair (w.alloc o) g d c r g' d' c' r' xs) a b x y B bn bc
  clear p
  go_enter Try.func19, Try.ntmps19
  go_wp2_with (go_at_call 56; refine (H1.out _).mono ?_; rintro e w1 ⟨rfl, ys, hl, hp, ho⟩; have HQ := hide (And.intro hl (And.intro hp ho)); clear hl hp ho)
  go_ret
  exact ⟨rfl, ys, HQ.out.1, HQ.out.2.1, ((Only.refl _ w).alloc _).trans HQ.out.2.2⟩

set_option maxRecDepth 100000 in
theorem step4 (a b x y : Int) (B : Option Addr) (bn bc : Nat) (x0 : 0 ≤ x) (x1 : x ≤ 4294967295) :
    Calls Try.prog 19 #[.pointer (some ⟨g, 0, none⟩), .pointer (some ⟨g', 0, none⟩), .agg #[.int .i64 4, .int .i64 a, .int .i64 b, .int .u32 x, .int .u32 y, .slice B bn bc]] w fun e w' => e = .returned (.bool true) ∧ ∃ ys, ys.length = xs.length ∧ Pair w' g d c r g' d' c' r' ys ∧ Only [d, d'] w w' := by
  have H1 := hide fun o => word4 (⟨p.mem.alloc o, p.ref.alloc o, p.u8, p.ne⟩ : Pair (w.alloc o) g d c r g' d' c' r' xs) a b x y B bn bc x0 x1
  clear p
  go_enter Try.func19, Try.ntmps19
  go_wp2_with (go_at_call 56; refine (H1.out _).mono ?_; rintro e w1 ⟨rfl, ys, hl, hp, ho⟩; have HQ := hide (And.intro hl (And.intro hp ho)); clear hl hp ho)
  go_ret
  exact ⟨rfl, ys, HQ.out.1, HQ.out.2.1, ((Only.refl _ w).alloc _).trans HQ.out.2.2⟩

set_option maxRecDepth 100000 in
theorem step5 (a b x y : Int) (B : Option Addr) (bn bc : Nat) (y0 : 0 ≤ y) (y1 : y ≤ 4294967295) :
    Calls Try.prog 19 #[.pointer (some ⟨g, 0, none⟩), .pointer (some ⟨g', 0, none⟩), .agg #[.int .i64 5, .int .i64 a, .int .i64 b, .int .u32 x, .int .u32 y, .slice B bn bc]] w fun e w' => e = .returned (.bool true) ∧ ∃ ys, ys.length = xs.length ∧ Pair w' g d c r g' d' c' r' ys ∧ Only [d, d'] w w' := by
  have H1 := hide fun o => word5 (⟨p.mem.alloc o, p.ref.alloc o, p.u8, p.ne⟩ : Pair (w.alloc o) g d c r g' d' c' r' xs) a b x y B bn bc y0 y1
  clear p
  go_enter Try.func19, Try.ntmps19
  go_wp2_with (go_at_call 56; refine (H1.out _).mono ?_; rintro e w1 ⟨rfl, ys, hl, hp, ho⟩; have HQ := hide (And.intro hl (And.intro hp ho)); clear hl hp ho)
  go_ret
  exact ⟨rfl, ys, HQ.out.1, HQ.out.2.1, ((Only.refl _ w).alloc _).trans HQ.out.2.2⟩

set_option maxRecDepth 100000 in
theorem step_else (k a b x y : Int) (B : Option Addr) (bn bc : Nat) (hk : k ≤ 0 ∨ 10 < k) :
    Calls Try.prog 19 #[.pointer (some ⟨g, 0, none⟩), .pointer (some ⟨g', 0, none⟩), .agg #[.int .i64 k, .int .i64 a, .int .i64 b, .int .u32 x, .int .u32 y, .slice B bn bc]] w fun e w' => e = .returned (.bool true) ∧ ∃ ys, ys.length = xs.length ∧ Pair w' g d c r g' d' c' r' ys ∧ Only [d, d'] w w' := by
  have k1 : (k == 1) = false := beq_eq_false_iff_ne.2 (by omega)
  have k2 : (k == 2) = false := beq_eq_false_iff_ne.2 (by omega)
  have k3 : (k == 3) = false := beq_eq_false_iff_ne.2 (by omega)
  have k4 : (k == 4) = false := beq_eq_false_iff_ne.2 (by omega)
  have k5 : (k == 5) = false := beq_eq_false_iff_ne.2 (by omega)
  have k6 : (k == 6) = false := beq_eq_false_iff_ne.2 (by omega)
  have k7 : (k == 7) = false := beq_eq_false_iff_ne.2 (by omega)
  have k8 : (k == 8) = false := beq_eq_false_iff_ne.2 (by omega)
  have k9 : (k == 9) = false := beq_eq_false_iff_ne.2 (by omega)
  have k10 : (k == 10) = false := beq_eq_false_iff_ne.2 (by omega)
  have HP := hide p
  clear p hk
  go_enter Try.func19, Try.ntmps19
  go_wp2
  go_ret
  have ho : Only [] w (w.alloc (.cells #[.int .i64 k, .int .i64 a, .int .i64 b, .int .u32 x, .int .u32 y, .slice B bn bc] 34)) := (Only.refl [] w).alloc _
  exact ⟨rfl, xs, rfl, HP.out.only ho (by simp), ho.mono (by simp)⟩

theorem step_any (k a b x y : Int) (B : Option Addr) (bn bc : Nat) (zs : List Int) (x0 : 0 ≤ x) (x1 : x ≤ 4294967295) (y0 : 0 ≤ y) (y1 : y ≤ 4294967295) (hz : Sees w B bn zs) (hu : U8 zs) (hB0 : B = none → bn = 0 ∧ bc = 0) (hbn : bn ≤ 140737488351232) (hBd : 0 < bn → ∀ q, B = some q → q.block ≠ d ∧ q.block ≠ d' ∧ q.block < w.heap.size) :
    Calls Try.prog 19 #[.pointer (some ⟨g, 0, none⟩), .pointer (some ⟨g', 0, none⟩), .agg #[.int .i64 k, .int .i64 a, .int .i64 b, .int .u32 x, .int .u32 y, .slice B bn bc]] w fun e w' => e = .returned (.bool true) ∧ ∃ ys, ys.length = xs.length ∧ Pair w' g d c r g' d' c' r' ys ∧ Only [d, d'] w w' := by
  by_cases hk : k ≤ 0 ∨ 10 < k
  · exact step_else p k a b x y B bn bc hk
  · have hk' : k = 1 ∨ k = 2 ∨ k = 3 ∨ k = 4 ∨ k = 5 ∨ k = 6 ∨ k = 7 ∨ k = 8 ∨ k = 9 ∨ k = 10 := by omega
    rcases hk' with rfl | rfl | rfl | rfl | rfl | rfl | rfl | rfl | rfl | rfl
    · exact step1 p a b x y B bn bc
    · exact step2 p a b x y B bn bc x0 x1
    · exact step3 p a b x y B bn bc
    · exact step4 p a b x y B bn bc x0 x1
    · exact step5 p a b x y B bn bc y0 y1
    · by_cases h : 0 ≤ a ∧ 0 ≤ b ∧ a + b ≤ xs.length
      · exact step6_ok p a b x y B bn bc h.1 h.2.1 h.2.2
      · exact step6_bad p a b x y B bn bc (by omega)
    · exact step7 p a b x y B bn bc zs hz hu hB0 hbn hBd
    · exact step8 p a b x y B bn bc
    · exact step9 p a b x y B bn bc
    · by_cases h : IsF xs a
      · exact step10_ok p a b x y B bn bc h
      · exact step10_bad p a b x y B bn bc (not_frame h)
end
end Go.Proofs.Ytfkbgnoppigdnaa
