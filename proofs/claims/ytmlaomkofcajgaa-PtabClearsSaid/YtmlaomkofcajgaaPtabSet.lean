/-
  Page tables (parapet/ptab), the rest: New, grow, Set, Needs, Translate; what All makes.
-/
import Derived.Test.YtmlaomkofcajgaaPtab
namespace Go.Proofs.Ytmlaomkofcajgaa
open Go.ChangeShapes Go.WideShapes Go.ChangeAt Go.RowKit
set_option linter.unusedVariables false

/-- A frame's bytes are cleared. -/
def clr (xs : List Int) (n : Int) : List Int := Go.splice xs (256 * n.toNat) (List.replicate 256 0)
/-- The word at place i of a frame is set. -/
def setW (xs : List Int) (f i x : Int) : List Int := putw xs (f * 256 + i * 4).toNat x
theorem length_clr {xs : List Int} {n : Int} (h : hasB xs n = true) : (clr xs n).length = xs.length := by
  simp only [hasB, decide_eq_true_eq] at h
  unfold clr; exact length_splice _ _ _ (by rw [List.length_replicate]; omega)
theorem length_setW (xs : List Int) (f i x : Int) : (setW xs f i x).length = xs.length := length_putw _ _ _
theorem U8.clr {xs : List Int} (h : U8 xs) (n : Int) : U8 (clr xs n) := h.splice (U8.replicate _) _
theorem U8.setW {xs : List Int} (h : U8 xs) (f i : Int) {x : Int} (h0 : 0 ≤ x) (h1 : x ≤ 4294967295) : U8 (setW xs f i x) := h.putw _ h0 h1
theorem hasB_len {xs ys : List Int} (h : ys.length = xs.length) (n : Int) : hasB ys n = hasB xs n := by unfold hasB; rw [h]

section
variable {w : World} {g d cap : Nat} {xs : List Int} {r : List Value} (hm : IsMem w g d cap xs r)
include hm

/-- Store32 at a frame's word. -/
theorem setw_ok (f i x : Int) (hf : hasB xs f = true) (i0 : 0 ≤ i) (i1 : i ≤ 63) (h0 : 0 ≤ x) (h1 : x ≤ 4294967295) :
    Calls Try.prog 25 #[.pointer (some ⟨g, 0, none⟩), .int .i64 (f * 256 + i * 4), .int .u32 x] w fun e w' => e = .returned (.int .i64 0) ∧ Only [d] w w' ∧ IsMem w' g d cap (setW xs f i x) r := by
  simp only [hasB, decide_eq_true_eq] at hf
  exact store32_ok hm _ x (by omega) (by omega) (by omega) h0 h1

theorem tnew_bad (root : Int) (h : hasB xs root = false) :
    Calls Try.prog 21 #[.pointer (some ⟨g, 0, none⟩), .int .i64 root] w fun e w' => e = .returned (.tuple #[.pointer none, .int .i64 10]) ∧ w = w' := by
  have HZ := hide (zero_bad hm root (by simp only [hasB, decide_eq_false_iff_not] at h; omega))
  clear hm h
  go_enter Try.func21, Try.ntmps21
  go_wp2_with (go_at_call 42; refine HZ.out.mono ?_; rintro e w' ⟨rfl, rfl⟩)
  go_ret2
  exact ⟨rfl, rfl⟩

theorem tnew_ok (hu : U8 xs) (root : Int) (h : hasB xs root = true) :
    Calls Try.prog 21 #[.pointer (some ⟨g, 0, none⟩), .int .i64 root] w fun e w' => ∃ t, e = .returned (.tuple #[.pointer (some ⟨t, 0, none⟩), .int .i64 0]) ∧ w.heap.size ≤ t ∧ IsTab w' t g d cap (clr xs root) r root ∧ Only [d] w w' := by
  have HH := hide h
  have HL := hide (length_clr h)
  simp only [hasB, decide_eq_true_eq] at h
  have HZ := hide (zero_ok hm root h.1 h.2)
  have HU := hide (hu.clr root)
  clear hm h hu
  go_enter Try.func21, Try.ntmps21
  go_wp2_with (go_at_call 42; refine HZ.out.mono ?_; rintro e w1 ⟨rfl, ho, hm⟩)
  go_ret2
  exact ⟨w1.heap.size, rfl, ho.size, ⟨Blk.new _ _ _, hm.alloc _, HU.out, by rw [hasB_len HL.out]; exact HH.out⟩, ho.alloc _⟩
end

theorem tnew_nil (w : World) (root : Int) :
    Calls Try.prog 21 #[.pointer none, .int .i64 root] w fun e w' => e = .returned (.tuple #[.pointer none, .int .i64 1]) ∧ w = w' := by
  go_enter Try.func21, Try.ntmps21
  go_wp2
  go_ret2
  exact ⟨rfl, rfl⟩

theorem tall_new (w : World) (p : Option Addr) :
    Calls Try.prog 31 #[.pointer p] w fun e w' => e = .returned (.func (.func 58) #[] #[.pointer (some ⟨w.heap.size, 0, none⟩)]) ∧ w' = w.alloc (.cells #[.pointer p] 42) := by
  go_enter Try.func31, Try.ntmps31
  go_wp2
  go_ret
  exact ⟨rfl, rfl⟩

section
variable {w : World} {t g d cap : Nat} {xs : List Int} {r : List Value} {root : Int} (hT : IsTab w t g d cap xs r root)
include hT

omit hT in
theorem grow_full (i sp : Int) (h : sp < 0) :
    Calls Try.prog 47 #[.pointer (some ⟨t, 0, none⟩), .int .i64 i, .int .i64 sp] w fun e w' => e = .returned (.int .i64 2) ∧ w = w' := by
  go_enter Try.func47, Try.ntmps47
  go_wp2
  go_ret
  exact ⟨rfl, rfl⟩

theorem grow_addr (i sp : Int) (h : 0 ≤ sp) (hs : hasB xs sp = false) :
    Calls Try.prog 47 #[.pointer (some ⟨t, 0, none⟩), .int .i64 i, .int .i64 sp] w fun e w' => e = .returned (.int .i64 10) ∧ w = w' := by
  have HZ := hide (zero_bad hT.mem sp (by simp only [hasB, decide_eq_false_iff_not] at hs; omega))
  have hc := hT.cell0
  clear hT hs
  go_enter Try.func47, Try.ntmps47
  go_wp2_with (go_at_call 42; refine HZ.out.mono ?_; rintro e w' ⟨rfl, rfl⟩)
  go_ret
  exact ⟨rfl, rfl⟩

theorem grow_ok (i sp : Int) (hs : hasB xs sp = true) (i0 : 0 ≤ i) (i1 : i ≤ 63) :
    Calls Try.prog 47 #[.pointer (some ⟨t, 0, none⟩), .int .i64 i, .int .i64 sp] w fun e w' => e = .returned (.int .i64 0) ∧ Only [d] w w' ∧ IsTab w' t g d cap (setW (clr xs sp) root i (sp * 256 + 1)) r root := by
  have hr := hT.root
  have h2 := hT.mem.big
  have HL := hide (length_clr hs)
  have HR := hide ((hasB_len HL.out root).trans hr)
  have hlr := hasB_len HL.out
  simp only [hasB, decide_eq_true_eq] at hs hr
  have HZ := hide (zero_ok hT.mem sp hs.1 hs.2)
  have HS := hide fun w1 (hm1 : IsMem w1 g d cap (clr xs sp) r) => setw_ok hm1 root i (sp * 256 + 1) HR.out i0 i1 (by omega) (by omega)
  have HP := hide fun w1 => tplace_is w1 root i (by omega) (by omega) i0 i1
  have HK := hide fun w1 => pack_is w1 sp 1 (by omega) (by omega) (by decide) (by decide)
  have HT := hide hT
  have hc := hT.cell0
  have hc1 := hT.cell1
  have hne := hT.ne
  have hlt := hT.lt
  have h0 : ¬ sp < 0 := by omega
  have HU := hide (U8.setW (hT.u8.clr sp) root i (x := sp * 256 + 1) (by omega) (by omega))
  clear hT hlr hs hr h2
  go_enter Try.func47, Try.ntmps47
  go_wp2_with (go_at_call 42; refine HZ.out.mono ?_; rintro e w1 ⟨rfl, ho1, hm1⟩)
  have hd1 : w1.cell? ⟨t, 0, none⟩ = some (.pointer (some ⟨g, 0, none⟩)) := (ho1.cell hlt.1 (by simpa using hne.2.1)).trans hc
  have hd2 : w1.cell? ⟨t, 1, none⟩ = some (.int .i64 root) := (ho1.cell hlt.1 (by simpa using hne.2.1)).trans hc1
  have HM := hide hm1
  have hlt1 : t < w1.heap.size := Nat.lt_of_lt_of_le hlt.1 ho1.size
  have htd : t ∉ [d] := by simpa using hne.2.1
  clear hm1 hc hc1
  go_region_held3 (fun w' => w'.cell? ⟨t, 0, none⟩ = some (.pointer (some ⟨g, 0, none⟩)) ∧ w'.cell? ⟨t, 1, none⟩ = some (.int .i64 root)) (first | go_keep | exact ⟨(ho2.cell hlt1 htd).trans hd1, (ho2.cell hlt1 htd).trans hd2⟩) (first | (go_at_call 48; refine (HP.out _).mono ?_; rintro e w' ⟨rfl, rfl⟩) | (go_at_call 12; refine (HK.out _).mono ?_; rintro e w' ⟨rfl, rfl⟩) | (go_at_call 25; refine (HS.out _ (IsBuf.drewN HM.out _)).mono ?_; rintro e w2 ⟨rfl, ho2, hm2⟩))
  have hO : Only [d] w w2 := (ho1.drewN _).trans ho2
  have HI := hide (HT.out.wrote hO hm2 HU.out ((length_setW _ _ _ _).trans HL.out))
  clear hm2 HM HS HP HK
  go_wp2
  go_ret
  exact ⟨rfl, hO, HI.out⟩
end
end Go.Proofs.Ytmlaomkofcajgaa
