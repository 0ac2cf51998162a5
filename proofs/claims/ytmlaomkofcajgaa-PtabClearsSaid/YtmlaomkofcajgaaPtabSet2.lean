/-
  Set, Needs, Translate of a page table (parapet/ptab).
-/
import Derived.Test.YtmlaomkofcajgaaPtabSet
namespace Go.Proofs.Ytmlaomkofcajgaa
open Go.ChangeShapes Go.WideShapes Go.ChangeAt Go.RowKit
set_option linter.unusedVariables false

theorem dr_trans {w w1 w2 : World} (h : ∃ n, w1 = w.drewN n) (h2 : ∃ n, w2 = w1.drewN n) : ∃ n, w2 = w.drewN n := by
  obtain ⟨n, rfl⟩ := h
  obtain ⟨m, rfl⟩ := h2
  exact ⟨n + m, World.drewN_drewN _ _ _⟩
theorem dr_only {w w1 : World} (h : ∃ n, w1 = w.drewN n) (S : List Nat) : Only S w w1 := by
  obtain ⟨n, rfl⟩ := h
  exact (Only.refl _ _).drewN n
theorem IsTab.dr {w w1 : World} {t g d cap : Nat} {xs : List Int} {r : List Value} {root : Int} (h : IsTab w t g d cap xs r root) (hq : ∃ n, w1 = w.drewN n) : IsTab w1 t g d cap xs r root := by
  obtain ⟨n, rfl⟩ := hq
  exact h.drewN n

section
variable {w : World} {t g d cap : Nat} {xs : List Int} {r : List Value} {root : Int} (hT : IsTab w t g d cap xs r root)
include hT

theorem set_page (p x sp : Int) (h : ¬ (0 ≤ p ∧ p < 256)) :
    Calls Try.prog 22 #[.pointer (some ⟨t, 0, none⟩), .int .i64 p, .int .u32 x, .int .i64 sp] w fun e w' => e = .returned (.tuple #[.bool false, .int .i64 1]) ∧ w = w' := by
  have HC := hide (tclosed_is hT)
  have HP := hide (tpage_is w p)
  rw [decide_eq_false h] at HP
  clear hT h
  go_enter Try.func22, Try.ntmps22
  go_wp2_with (first | (go_at_call 43; refine HC.out.mono ?_; rintro e w' ⟨rfl, rfl⟩) | (go_at_call 44; refine HP.out.mono ?_; rintro e w' ⟨rfl, rfl⟩))
  go_ret2
  exact ⟨rfl, rfl⟩

theorem set_entry (p x sp : Int) (h : 0 ≤ p ∧ p < 256) (h0 : 0 ≤ x) (h1 : x ≤ 4294967295) (hb : mayB xs x = false) :
    Calls Try.prog 22 #[.pointer (some ⟨t, 0, none⟩), .int .i64 p, .int .u32 x, .int .i64 sp] w fun e w' => e = .returned (.tuple #[.bool false, .int .i64 50]) ∧ ∃ n, w' = w.drewN n := by
  have HC := hide (tclosed_is hT)
  have HP := hide (tpage_is w p)
  rw [decide_eq_true h] at HP
  have HM := hide (mayBe_is hT x h0 h1)
  rw [hb] at HM
  clear hT h hb
  go_enter Try.func22, Try.ntmps22
  go_wp2_with (first | (go_at_call 43; refine HC.out.mono ?_; rintro e w' ⟨rfl, rfl⟩) | (go_at_call 44; refine HP.out.mono ?_; rintro e w' ⟨rfl, rfl⟩) | (go_at_call 45; refine HM.out.mono ?_; rintro e w' ⟨rfl, n, rfl⟩))
  go_ret2
  exact ⟨rfl, n, rfl⟩

theorem set_none (p x sp : Int) (h : 0 ≤ p ∧ p < 256) (h0 : 0 ≤ x) (h1 : x ≤ 4294967295) (hb : mayB xs x = true) (hl : leafB xs root (p / 64) = false) (hx : x = 0) :
    Calls Try.prog 22 #[.pointer (some ⟨t, 0, none⟩), .int .i64 p, .int .u32 x, .int .i64 sp] w fun e w' => e = .returned (.tuple #[.bool false, .int .i64 0]) ∧ ∃ n, w' = w.drewN n := by
  subst hx
  have HC := hide (tclosed_is hT)
  have HP := hide (tpage_is w p)
  rw [decide_eq_true h] at HP
  have HM := hide (mayBe_is hT 0 h0 h1)
  rw [hb] at HM
  have HL := hide fun w1 (hT1 : IsTab w1 t g d cap xs r root) m => leafAt_is (hT1.mem.drewN m) hT1.u8 root (p / 64) hT1.root (by omega) (by omega)
  have HQ := hide fun w1 => IsTab.dr (w1 := w1) hT
  rw [hl] at HL
  obtain ⟨p0, p1⟩ := h
  clear hT hb hl
  go_enter Try.func22, Try.ntmps22
  go_wp2_with (first | (go_at_call 43; refine HC.out.mono ?_; rintro e w' ⟨rfl, rfl⟩) | (go_at_call 44; refine HP.out.mono ?_; rintro e w' ⟨rfl, rfl⟩) | (go_at_call 45; refine HM.out.mono ?_; rintro e v1 ⟨rfl, hq⟩; have hV := HQ.out _ hq; have k0 := hV.cell0; have k1 := hV.cell1))
  go_quiet (first | (go_at_call 46; exact Calls.quiet_of (HL.out _ hV _)))
  go_wp2
  go_ret2
  exact ⟨rfl, dr_trans hq ⟨_, rfl⟩⟩

theorem set_full (p x sp : Int) (h : 0 ≤ p ∧ p < 256) (h0 : 0 ≤ x) (h1 : x ≤ 4294967295) (hb : mayB xs x = true) (hl : leafB xs root (p / 64) = false) (hx : x ≠ 0) (hs : sp < 0) :
    Calls Try.prog 22 #[.pointer (some ⟨t, 0, none⟩), .int .i64 p, .int .u32 x, .int .i64 sp] w fun e w' => e = .returned (.tuple #[.bool false, .int .i64 2]) ∧ ∃ n, w' = w.drewN n := by
  have HC := hide (tclosed_is hT)
  have HP := hide (tpage_is w p)
  rw [decide_eq_true h] at HP
  have HM := hide (mayBe_is hT x h0 h1)
  rw [hb] at HM
  have HL := hide fun w1 (hT1 : IsTab w1 t g d cap xs r root) m => leafAt_is (hT1.mem.drewN m) hT1.u8 root (p / 64) hT1.root (by omega) (by omega)
  have HQ := hide fun w1 => IsTab.dr (w1 := w1) hT
  rw [hl] at HL
  obtain ⟨p0, p1⟩ := h
  have hx0 : (x == 0) = false := beq_eq_false_iff_ne.2 hx
  have HG := hide fun w1 => grow_full (w := w1) (t := t) (p / 64) sp hs
  clear hT hb hl
  go_enter Try.func22, Try.ntmps22
  go_wp2_with (first | (go_at_call 43; refine HC.out.mono ?_; rintro e w' ⟨rfl, rfl⟩) | (go_at_call 44; refine HP.out.mono ?_; rintro e w' ⟨rfl, rfl⟩) | (go_at_call 45; refine HM.out.mono ?_; rintro e v1 ⟨rfl, hq⟩; have hV := HQ.out _ hq; have k0 := hV.cell0; have k1 := hV.cell1))
  go_quiet (first | (go_at_call 46; exact Calls.quiet_of (HL.out _ hV _)))
  go_wp2_with (first | (go_at_call 47; refine (HG.out _).mono ?_; rintro e w' ⟨rfl, rfl⟩))
  go_ret2
  exact ⟨rfl, dr_trans hq ⟨_, rfl⟩⟩

theorem set_addr (p x sp : Int) (h : 0 ≤ p ∧ p < 256) (h0 : 0 ≤ x) (h1 : x ≤ 4294967295) (hb : mayB xs x = true) (hl : leafB xs root (p / 64) = false) (hx : x ≠ 0) (hs : 0 ≤ sp) (hs1 : hasB xs sp = false) :
    Calls Try.prog 22 #[.pointer (some ⟨t, 0, none⟩), .int .i64 p, .int .u32 x, .int .i64 sp] w fun e w' => e = .returned (.tuple #[.bool false, .int .i64 10]) ∧ ∃ n, w' = w.drewN n := by
  have HC := hide (tclosed_is hT)
  have HP := hide (tpage_is w p)
  rw [decide_eq_true h] at HP
  have HM := hide (mayBe_is hT x h0 h1)
  rw [hb] at HM
  have HL := hide fun w1 (hT1 : IsTab w1 t g d cap xs r root) m => leafAt_is (hT1.mem.drewN m) hT1.u8 root (p / 64) hT1.root (by omega) (by omega)
  have HQ := hide fun w1 => IsTab.dr (w1 := w1) hT
  rw [hl] at HL
  obtain ⟨p0, p1⟩ := h
  have hx0 : (x == 0) = false := beq_eq_false_iff_ne.2 hx
  have HG := hide fun w1 (hT1 : IsTab w1 t g d cap xs r root) n => grow_addr (hT1.drewN n) (p / 64) sp hs hs1
  clear hT hb hl
  go_enter Try.func22, Try.ntmps22
  go_wp2_with (first | (go_at_call 43; refine HC.out.mono ?_; rintro e w' ⟨rfl, rfl⟩) | (go_at_call 44; refine HP.out.mono ?_; rintro e w' ⟨rfl, rfl⟩) | (go_at_call 45; refine HM.out.mono ?_; rintro e v1 ⟨rfl, hq⟩; have hV := HQ.out _ hq; have k0 := hV.cell0; have k1 := hV.cell1))
  go_quiet (first | (go_at_call 46; exact Calls.quiet_of (HL.out _ hV _)))
  go_wp2_with (first | (go_at_call 47; refine (HG.out _ hV _).mono ?_; rintro e w' ⟨rfl, rfl⟩))
  go_ret2
  exact ⟨rfl, dr_trans hq ⟨_, rfl⟩⟩

theorem set_new (p x sp : Int) (h : 0 ≤ p ∧ p < 256) (h0 : 0 ≤ x) (h1 : x ≤ 4294967295) (hb : mayB xs x = true) (hl : leafB xs root (p / 64) = false) (hx : x ≠ 0) (hs1 : hasB xs sp = true) :
    Calls Try.prog 22 #[.pointer (some ⟨t, 0, none⟩), .int .i64 p, .int .u32 x, .int .i64 sp] w fun e w' => e = .returned (.tuple #[.bool true, .int .i64 0]) ∧ Only [d] w w' ∧ IsTab w' t g d cap (setW (setW (clr xs sp) root (p / 64) (sp * 256 + 1)) sp (p % 64) x) r root := by
  have HC := hide (tclosed_is hT)
  have HP := hide (tpage_is w p)
  rw [decide_eq_true h] at HP
  have HM := hide (mayBe_is hT x h0 h1)
  rw [hb] at HM
  have HL := hide fun w1 (hT1 : IsTab w1 t g d cap xs r root) m => leafAt_is (hT1.mem.drewN m) hT1.u8 root (p / 64) hT1.root (by omega) (by omega)
  have HQ := hide fun w1 => IsTab.dr (w1 := w1) hT
  rw [hl] at HL
  obtain ⟨p0, p1⟩ := h
  have hx0 : (x == 0) = false := beq_eq_false_iff_ne.2 hx
  have HG := hide fun w1 (hT1 : IsTab w1 t g d cap xs r root) n => grow_ok (hT1.drewN n) (p / 64) sp hs1 (by omega) (by omega)
  have hl1 := (length_setW (clr xs sp) root (p / 64) (sp * 256 + 1)).trans (length_clr hs1)
  have h2 := hT.mem.big
  have hs2 := hs1
  simp only [hasB, decide_eq_true_eq] at hs2
  have hs3 : hasB (setW (clr xs sp) root (p / 64) (sp * 256 + 1)) sp = true := (hasB_len hl1 sp).trans hs1
  have HS := hide fun w1 (hm1 : IsMem w1 g d cap (setW (clr xs sp) root (p / 64) (sp * 256 + 1)) r) => setw_ok hm1 sp (p % 64) x hs3 (by omega) (by omega) h0 h1
  have htm : p.tmod 64 = p % 64 := Int.tmod_eq_emod_of_nonneg p0
  have HPl := hide fun w1 => (show Calls Try.prog 48 #[.int .i64 sp, .int .i64 (p.tmod 64)] w1 fun e w' => e = .returned (.int .i64 (sp * 256 + p % 64 * 4)) ∧ w1 = w' by rw [htm]; exact tplace_is w1 sp (p % 64) (by omega) (by omega) (by omega) (by omega))
  clear htm
  have hne := hT.ne
  have hlt := hT.lt
  clear hT hb hl hs1 hs2 hs3 hl1 h2
  go_enter Try.func22, Try.ntmps22
  go_wp2_with (first | (go_at_call 43; refine HC.out.mono ?_; rintro e w' ⟨rfl, rfl⟩) | (go_at_call 44; refine HP.out.mono ?_; rintro e w' ⟨rfl, rfl⟩) | (go_at_call 45; refine HM.out.mono ?_; rintro e v1 ⟨rfl, hq⟩; have hV := HQ.out _ hq; have k0 := hV.cell0; have k1 := hV.cell1))
  go_quiet (first | (go_at_call 46; exact Calls.quiet_of (HL.out _ hV _)))
  go_wp2_with (first | (go_at_call 47; refine (HG.out _ hV _).mono ?_; rintro e w1 ⟨rfl, ho1, hT1⟩))
  have hd1 := hT1.cell0
  have hlt1 := hT1.lt.1
  have htd : t ∉ [d] := by simpa using hne.2.1
  have HT1 := hide hT1
  clear hT1
  go_region_held3 (fun w' => w'.cell? ⟨t, 0, none⟩ = some (.pointer (some ⟨g, 0, none⟩))) (first | go_keep | exact (ho2.cell hlt1 htd).trans hd1) (first | (go_at_call 48; refine (HPl.out _).mono ?_; rintro e w' ⟨rfl, rfl⟩) | (go_at_call 25; refine (HS.out _ (IsBuf.drewN HT1.out.mem _)).mono ?_; rintro e w2 ⟨rfl, ho2, hm2⟩))
  have hO : Only [d] w1 w2 := ((Only.refl _ _).drewN _).trans ho2
  have HI := hide (HT1.out.wrote hO hm2 (HT1.out.u8.setW _ _ h0 h1) (length_setW _ _ _ _))
  have HO := hide ((((dr_only hq [d]).drewN _).trans ho1).trans hO)
  clear hm2 ho1 ho2 hO HS
  go_wp2
  go_ret2
  exact ⟨rfl, HO.out, HI.out⟩

theorem set_old (p x sp : Int) (h : 0 ≤ p ∧ p < 256) (h0 : 0 ≤ x) (h1 : x ≤ 4294967295) (hb : mayB xs x = true) (hl : leafB xs root (p / 64) = true) :
    Calls Try.prog 22 #[.pointer (some ⟨t, 0, none⟩), .int .i64 p, .int .u32 x, .int .i64 sp] w fun e w' => e = .returned (.tuple #[.bool false, .int .i64 0]) ∧ Only [d] w w' ∧ IsTab w' t g d cap (setW xs (wordB xs root (p / 64) / 256) (p % 64) x) r root := by
  have HC := hide (tclosed_is hT)
  have HP := hide (tpage_is w p)
  rw [decide_eq_true h] at HP
  have HM := hide (mayBe_is hT x h0 h1)
  rw [hb] at HM
  have HL := hide fun w1 (hT1 : IsTab w1 t g d cap xs r root) m => leafAt_is (hT1.mem.drewN m) hT1.u8 root (p / 64) hT1.root (by omega) (by omega)
  have HQ := hide fun w1 => IsTab.dr (w1 := w1) hT
  rw [hl] at HL
  obtain ⟨p0, p1⟩ := h
  have h2 := hT.mem.big
  have hlf : hasB xs (wordB xs root (p / 64) / 256) = true := by simp only [leafB, Bool.and_eq_true] at hl; exact hl.2
  have hs2 := hlf
  simp only [hasB, decide_eq_true_eq] at hs2
  have HS := hide fun w1 (hm1 : IsMem w1 g d cap xs r) => setw_ok hm1 (wordB xs root (p / 64) / 256) (p % 64) x hlf (by omega) (by omega) h0 h1
  have htm : p.tmod 64 = p % 64 := Int.tmod_eq_emod_of_nonneg p0
  have HPl := hide fun w1 => (show Calls Try.prog 48 #[.int .i64 (wordB xs root (p / 64) / 256), .int .i64 (p.tmod 64)] w1 fun e w' => e = .returned (.int .i64 ((wordB xs root (p / 64) / 256) * 256 + p % 64 * 4)) ∧ w1 = w' by rw [htm]; exact tplace_is w1 (wordB xs root (p / 64) / 256) (p % 64) (by omega) (by omega) (by omega) (by omega))
  clear htm
  have hne := hT.ne
  have hlt := hT.lt.1
  have htd : t ∉ [d] := by simpa using hne.2.1
  have HT1 := hide hT
  generalize wordB xs root (p / 64) / 256 = lf at *
  clear hT hb hl hlf hs2 h2
  go_enter Try.func22, Try.ntmps22
  go_wp2_with (first | (go_at_call 43; refine HC.out.mono ?_; rintro e w' ⟨rfl, rfl⟩) | (go_at_call 44; refine HP.out.mono ?_; rintro e w' ⟨rfl, rfl⟩) | (go_at_call 45; refine HM.out.mono ?_; rintro e v1 ⟨rfl, hq⟩; have hV := HQ.out _ hq; have k0 := hV.cell0; have k1 := hV.cell1))
  go_quiet (first | (go_at_call 46; exact Calls.quiet_of (HL.out _ hV _)))
  go_wp2
  go_region_held3 (fun w' => w'.cell? ⟨t, 0, none⟩ = some (.pointer (some ⟨g, 0, none⟩))) (first | go_keep | exact (ho2.cell hV.lt.1 htd).trans k0) (first | (go_at_call 48; refine (HPl.out _).mono ?_; rintro e w' ⟨rfl, rfl⟩) | (go_at_call 25; refine (HS.out _ (IsBuf.drewN hV.mem _)).mono ?_; rintro e w2 ⟨rfl, ho2, hm2⟩))
  have hO : Only [d] w w2 := ((dr_only hq [d]).drewN _).trans ho2
  have HI := hide (HT1.out.wrote hO hm2 (HT1.out.u8.setW _ _ h0 h1) (length_setW _ _ _ _))
  have HO := hide hO
  clear hm2 ho2 hO HS
  go_wp2
  go_ret2
  exact ⟨rfl, HO.out, HI.out⟩
end
end Go.Proofs.Ytmlaomkofcajgaa
