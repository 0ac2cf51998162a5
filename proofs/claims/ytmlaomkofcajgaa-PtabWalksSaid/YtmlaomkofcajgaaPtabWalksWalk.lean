/-
  The walk of 'PtabWalks'.
-/
import Derived.Test.YtmlaomkofcajgaaRef05
namespace Go.Proofs.Ytmlaomkofcajgaa
open Go.ChangeShapes Go.WideShapes Go.ChangeAt Go.RowKit Go.Deep
set_option linter.unusedVariables false

theorem cells_word5 : Try.prog.cellsOf 57 = 2 := by kernel_rfl
theorem u8_s32 {xs : List Int} (h : U8 xs) (a : Int) {x : Int} (h0 : 0 ≤ x) (h1 : x ≤ 4294967295) : U8 (s32 xs a x) := by
  unfold s32; split
  · exact h.putw _ h0 h1
  · exact h
theorem length_s32 (xs : List Int) (a x : Int) : (s32 xs a x).length = xs.length := by
  unfold s32; split
  · exact length_putw _ _ _
  · rfl

/-- What is known of word i of the list. -/
def WordAt (w : World) (A : Option Addr) (i : Nat) : Prop :=
  ∃ (q o : Nat) (a x : Int), A = some ⟨q, o, none⟩ ∧ q < w.heap.size ∧ w.cell? ⟨q, o + i * 2, none⟩ = some (.int .i64 a) ∧ w.cell? ⟨q, o + i * 2 + 1, none⟩ = some (.int .u32 x) ∧ 0 ≤ x ∧ x ≤ 4294967295

theorem Rd.words5 {H : Type} {enc : TypeId × Value → H} {w : World} {A : Option Addr} {n c : Nat} {d : DataW H} (h : Rd enc Try.prog w 51 [.slice A n c] d) : n ≤ 9223372036854775807 ∧ ∀ i, i < n → WordAt w A i := by
  obtain ⟨A', n', c', hv, hl, hm, _, _, hf⟩ := h.structs Try.underlying51 Try.underlying57
  injection hv with hv _
  injection hv with e1 e2 e3
  subst e1 e2 e3
  refine ⟨by unfold maxLen at hm; omega, fun i hi => ?_⟩
  rw [cells_word5] at hf
  obtain ⟨q, o, v0, y0, hA, hq, c0, r0⟩ := hf i hi 0 _ rfl (by kernel_rfl) (by decide)
  obtain ⟨q1, o1, v1, y1, hA1, _, c1, r1⟩ := hf i hi 1 _ rfl (by kernel_rfl) (by decide)
  have a1 : q1 = q ∧ o1 = o := by rw [hA] at hA1; injection hA1 with h; injection h with h1 h2; exact ⟨h1.symm, h2.symm⟩
  obtain ⟨rfl, rfl⟩ := a1
  obtain ⟨k, e0, _⟩ := r0.int (k := .i64) Try.underlying3
  obtain ⟨x, e3, wx⟩ := r1.int (k := .u32) Try.underlying27
  injection e0 with e0 _; injection e3 with e3 _
  subst e0 e3
  have bx : 0 ≤ x ∧ x ≤ 4294967295 := by simpa [Lit.wf, IntKind.min, IntKind.max, IntKind.signed, IntKind.bits] using wx
  exact ⟨_, _, k, x, hA, hq, c0, c1, bx.1, bx.2⟩

/-- The loop: both memories hold the same bytes. -/
def WalksRel (w : World) (n g d gx dx : Nat) (i : Value) (wr : World) : Prop :=
  ∃ (k : Nat) (xs : List Int), k ≤ n ∧ i = .int .i64 k ∧ Pair wr g d 1280 [] gx dx 1280 [] xs ∧ xs.length = 1280 ∧ w.heap.size ≤ d ∧ w.heap.size ≤ dx ∧ Only [] w wr

set_option maxRecDepth 100000 in
set_option maxHeartbeats 4000000 in
theorem ptabWalks_walk {H : Type} {enc : TypeId × Value → H} {D : DataW H} (A : Option Addr) (n c : Nat) (root pg : Int) (w : World) (h : Rd enc Try.prog w 51 [.slice A n c] D) :
    Calls Try.prog 6 #[.slice A n c, .int .i64 root, .int .i64 pg] w fun e w' => e = .returned (.bool true) ∧ Below w.heap.size w w' := by
  obtain ⟨hn, hops⟩ := Rd.words5 h
  have HOPS := hide hops
  have HLv := hide lives5
  clear hops h
  go_enter Try.func6, Try.ntmps6
  go_wp2_with fail
  refine (new_ok 5 _ (by decide) (by decide)).mono ?_
  rintro e w2 ⟨g, d, rfl, hg, hd, hm, ho2⟩
  have HL := hide (show (List.replicate (256 * Int.toNat 5) (0 : Int)).length = 1280 from List.length_replicate)
  have hu := U8.replicate (256 * Int.toNat 5)
  go_wp2_with fail
  refine (rnew_ok 5 _ (by decide) (by decide)).mono ?_
  rintro e w3 ⟨gx, dx, rfl, hgx, hdx, hx, ho3⟩
  have HX := hide hx
  have HM := hide (hm.only ho3 (by simp) (by simp))
  have HO := hide (ho2.trans ho3)
  have HD := hide (show w.heap.size ≤ d ∧ w.heap.size ≤ dx ∧ d ≠ dx from by have := hm.lt.2; have := ho2.size; omega)
  have HU := hide hu
  clear hm hx hu ho2 ho3 hg hd hgx hdx
  go_wp2_with (first | (go_at_call 13; refine (HLv.out _).mono ?_; rintro e w4 ⟨rfl, ho4⟩))
  have HP := hide (⟨HM.out.only ho4 (by simp) (by simp), HX.out.only ho4 (by simp) (by simp), HU.out, HD.out.2.2⟩ : Pair w4 g d 1280 [] gx dx 1280 [] (List.replicate (256 * Int.toNat 5) 0))
  have HO4 := hide (HO.out.trans ho4)
  clear HM HX ho4 HO
  go_loopw [11] (fun i wr => WalksRel w n g d gx dx i wr) (fun i _ => n - (intOf i).toNat)
  case atStart => exact ⟨0, _, Nat.zero_le _, rfl, HP.out, HL.out, HD.out.1, HD.out.2.1, HO4.out⟩
  case round =>
    clear HP HO4 HL HU
    obtain ⟨k, xs, hk, rfl, p, hl, hd, hdx, ho⟩ := hrel
    have HL := hide hl
    have HO := hide ho
    by_cases hlt : k < n
    · obtain ⟨q, o, a, x, rfl, hq, c0, c1, x0, x1⟩ := HOPS.out k hlt
      have e0 := (ho.cell hq (by simp)).trans c0
      have e1 := (ho.cell hq (by simp)).trans c1
      have HU := hide (u8_s32 p.u8 a x0 x1)
      have HLs := hide ((length_s32 xs a x).trans hl)
      have HC0 := hide fun w5 (kk : Only [d] wr w5) => (show w5.cell? ⟨q, o + k * 2, none⟩ = some (.int .i64 a) ∧ w5.cell? ⟨q, o + k * 2 + 1, none⟩ = some (.int .u32 x) from
        ⟨(kk.cell (Nat.lt_of_lt_of_le hq ho.size) (by simp; omega)).trans e0, (kk.cell (Nat.lt_of_lt_of_le hq ho.size) (by simp; omega)).trans e1⟩)
      have hpl := p.mem.lt
      have hpl2 := p.ref.lt
      have HC1 := hide fun w5 w6 (kk : Only [d] wr w5) (k6 : Only [dx] w5 w6) => (show w6.cell? ⟨q, o + k * 2, none⟩ = some (.int .i64 a) ∧ w6.cell? ⟨q, o + k * 2 + 1, none⟩ = some (.int .u32 x) from
        ⟨(k6.cell (Nat.lt_of_lt_of_le hq (Nat.le_trans ho.size kk.size)) (by simp; omega)).trans (HC0.out _ kk).1, (k6.cell (Nat.lt_of_lt_of_le hq (Nat.le_trans ho.size kk.size)) (by simp; omega)).trans (HC0.out _ kk).2⟩)
      have H1 := hide fun w5 (k : Only [] wr w5) => mem_s32 (p.mem.only k (by simp) (by simp)) a x x0 x1
      have H2 := hide fun w5 (k : Only [d] wr w5) => ref_s32 (p.ref.only k (by simpa using p.gd) (by simpa using p.ne.symm)) a x x0 x1
      have HPA := hide p
      clear p hl hd hdx ho hq c0 c1 x0 x1 hpl hpl2
      go_wp2_with fail
      go_region_held3 (fun w' => w'.cell? ⟨q, o + k * 2, none⟩ = some (.int .i64 a) ∧ w'.cell? ⟨q, o + k * 2 + 1, none⟩ = some (.int .u32 x)) (first | go_keep | exact HC0.out _ kA) (first | (go_at_call 25; refine (H1.out _ (by repeat (first | exact Only.refl _ _ | apply Only.drew))).mono ?_; rintro e wA ⟨rfl, hoA, hmA⟩; have kA : Only [d] wr wA := (Only.trans (by repeat (first | exact Only.refl _ _ | apply Only.drew)) hoA)))
      have f0 := (HC0.out _ kA).1
      have f1 := (HC0.out _ kA).2
      have HMA := hide hmA
      clear hmA hoA e0 e1
      go_wp2_with fail
      go_region_held3 (fun w' => w'.cell? ⟨q, o + k * 2, none⟩ = some (.int .i64 a) ∧ w'.cell? ⟨q, o + k * 2 + 1, none⟩ = some (.int .u32 x)) (first | go_keep | exact HC1.out _ _ kA kB) (first | (go_at_call 26; refine (H2.out _ (kA.trans (by repeat (first | exact Only.refl _ _ | apply Only.drew)))).mono ?_; rintro e wB ⟨rfl, hoB, hmB⟩; have kB : Only [dx] wA wB := (Only.trans (by repeat (first | exact Only.refl _ _ | apply Only.drew)) hoB)))
      have HN := hide (⟨HMA.out.only kB (by simp; have := HPA.out.mem.mem.ne_ HPA.out.ref.row (by decide); omega) (by simpa using HPA.out.ne), hmB, HU.out, HPA.out.ne⟩ : Pair wB g d 1280 [] gx dx 1280 [] (s32 xs a x))
      have HOB := hide ((HO.out.trans' (S' := [d]) kA (by intro k hk hk'; simp at hk'; have := HD.out; omega)).trans' (S' := [dx]) kB (by intro k hk hk'; simp at hk'; have := HD.out; omega))
      clear hmB hoB kA kB f0 f1
      go_wp2_with fail
      go_roundw
      case rel => exact ⟨k + 1, _, hlt, by go_num, HN.out, HLs.out, HD.out.1, HD.out.2.1, HOB.out⟩
      case measure => simp [intOf]; omega
    · have H1 := hide (walk_is p.mem p.u8 root pg)
      have H2 := hide fun w5 (k : Only [] wr w5) => rwalk_is (p.ref.only k (by simp) (by simp)) p.u8 root pg
      clear p hl hd hdx ho
      generalize walkB xs root pg = v at H1 H2
      have hv : (v == v) = true := beq_self_eq_true v
      go_wp2_with fail
      refine H1.out.mono ?_
      rintro e w5 ⟨rfl, hq⟩
      have kA : Only [] wr w5 := dr_only hq []
      have HA := hide kA
      clear hq
      go_wp2_with fail
      refine (H2.out _ kA).mono ?_
      rintro e w6 ⟨rfl, kB⟩
      have HB := hide (HO.out.trans (HA.out.trans kB))
      clear kA kB
      go_wp2_with (first | (go_at_call 27; refine (walk_nil _ _ _).mono ?_; rintro e w' ⟨rfl, rfl⟩))
      go_ret
      exact ⟨by simp, HB.out.below (Nat.le_refl _) (by simp)⟩
end Go.Proofs.Ytmlaomkofcajgaa
