/-
  The first look of layer 5's statements ('lives') comes out true; the reference's packing; the walk of 'PtabEntries'.
-/
import Derived.Test.YtmlaomkofcajgaaPtabLives
namespace Go.Proofs.Ytmlaomkofcajgaa
open Go.ChangeShapes Go.WideShapes Go.ChangeAt Go.RowKit
set_option linter.unusedVariables false

/-- A new memory of n frames, all zeros: nothing is known of its bytes but that each is 0. -/
theorem new_zeros (n : Int) (w : World) (h1 : 1 ≤ n) (h2 : n ≤ 4096) : Calls Try.prog 19 #[.int .i64 n] w fun e w' => ∃ g d xs, e = .returned (.tuple #[.pointer (some ⟨g, 0, none⟩), .int .i64 0]) ∧ w.heap.size ≤ g ∧ w.heap.size ≤ d ∧
    IsMem w' g d (256 * n.toNat) xs [] ∧ Only [] w w' ∧ xs.length = 256 * n.toNat ∧ U8 xs ∧ ∀ i, gb xs i = 0 :=
  (new_ok n w h1 h2).mono fun e w' ⟨g, d, he, hg, hd, hm, ho⟩ => ⟨g, d, _, he, hg, hd, hm, ho, List.length_replicate, U8.replicate _, gb_zeros _⟩

theorem seq5_nil (w : World) (q : Option Addr) : (binOp BinOp.eql 66 (.func (.func 58) #[] #[.pointer q]) .nilFunc).run Try.prog w = .ok (.bool false) w := by kernel_rfl

theorem wordB_zero {xs : List Int} (h : ∀ i, gb xs i = 0) (f i : Int) : wordB xs f i = 0 := by
  unfold wordB word; simp only [h]; rfl

/-- What the words say behind Set with a spare frame, at an empty root. -/
theorem set_walk {xs : List Int} {root sp p x : Int} (hr : hasB xs root = true) (hs : hasB xs sp = true) (hne : sp ≠ root) (hb : xs.length ≤ 1048576) (hp : 0 ≤ p ∧ p < 256) (h0 : 0 ≤ x) (h1 : x ≤ 4294967295) :
    walkB (setW (setW (clr xs sp) root (p / 64) (sp * 256 + 1)) sp (p % 64) x) root p = x := by
  have l1 := length_clr hs
  have l2 := (length_setW (clr xs sp) root (p / 64) (sp * 256 + 1)).trans l1
  have l3 := (length_setW (setW (clr xs sp) root (p / 64) (sp * 256 + 1)) sp (p % 64) x).trans l2
  have hs' := hs
  simp only [hasB, decide_eq_true_eq] at hs'
  have e1 : wordB (setW (setW (clr xs sp) root (p / 64) (sp * 256 + 1)) sp (p % 64) x) root (p / 64) = sp * 256 + 1 := by
    rw [wordB_setW ((hasB_len l2 _).trans hs) ((hasB_len l2 _).trans hr) (by omega) (by omega) (by omega) (by omega) h0 h1, if_neg (by omega),
      wordB_setW ((hasB_len l1 _).trans hr) ((hasB_len l1 _).trans hr) (by omega) (by omega) (by omega) (by omega) (by omega) (by omega), if_pos ⟨rfl, rfl⟩]
  have e2 : (sp * 256 + 1) / 256 = sp := by omega
  have e3 : leafB (setW (setW (clr xs sp) root (p / 64) (sp * 256 + 1)) sp (p % 64) x) root (p / 64) = true := by
    unfold leafB
    rw [e1, e2, hasB_len l3, hs, decide_eq_true (p := (sp * 256 + 1) % 256 = 1) (by omega)]; rfl
  unfold walkB
  rw [hasB_len l3, hr, decide_eq_true hp, e3, e1, e2, wordB_setW ((hasB_len l2 _).trans hs) ((hasB_len l2 _).trans hs) (by omega) (by omega) (by omega) (by omega) h0 h1]
  simp

/-- Behind the first Set of 'lives'. -/
def Lived (w w1 : World) (t g d : Nat) : Prop := ∃ ys, IsTab w1 t g d 5120 ys [] 2 ∧ Only [] w w1 ∧ walkB ys 2 65 = 2307

set_option maxRecDepth 100000 in
set_option maxHeartbeats 1000000 in
theorem lives5 (w : World) : Calls Try.prog 13 #[] w fun e w' => e = .returned (.bool true) ∧ Only [] w w' := by
  have hnil := seq5_nil
  go_enter Try.func13, Try.ntmps13
  go_wp2_with fail
  refine (new_zeros 20 _ (by decide) (by decide)).mono ?_
  rintro e w1 ⟨g, d, xs, rfl, hg, hd, hm, ho, hl, hu, hz⟩
  have HL := hide (show xs.length = 5120 from hl)
  have h2 : hasB xs 2 = true := by unfold hasB; rw [HL.out]; rfl
  have HN := hide (tnew_ok hm hu 2 h2)
  have HZ := hide (And.intro hz h2)
  have HO := hide (And.intro ho (And.intro hg hd))
  clear hl hu hz h2 hm ho hg hd
  go_wp2_with fail
  refine HN.out.mono ?_
  rintro e w2 ⟨t, rfl, ht, hT, ho2⟩
  have HT := hide hT
  have HO2 := hide (HO.out.1.trans' ho2 (S := []) (by intro k hk hk'; simp at hk'; have := HO.out.2.2; omega))
  clear hT ho2 HN
  go_wp2_with (first | (go_at_call 31; refine (tall_new _ _).mono ?_; rintro e w3 ⟨rfl, hw3⟩; have HW3 := hide hw3; clear hw3))
  have hT3 : IsTab w3 t g d 5120 (clr xs 2) [] 2 := by rw [HW3.out]; exact HT.out.alloc _
  have ho3 : Only [] w w3 := by rw [HW3.out]; exact HO2.out.alloc _
  have HK := hide (show Calls Try.prog 12 #[.int .i64 9, .int .i64 3] w3 fun e w' => e = .returned (.int .u32 2307) ∧ w3 = w' from pack_is w3 9 3 (by decide) (by decide) (by decide) (by decide))
  have hl2 : (clr xs 2).length = 5120 := (length_clr HZ.out.2).trans HL.out
  have k2 : hasB (clr xs 2) 2 = true := by unfold hasB; rw [hl2]; rfl
  have k4 : hasB (clr xs 2) 4 = true := by unfold hasB; rw [hl2]; rfl
  have k9 : hasB (clr xs 2) 9 = true := by unfold hasB; rw [hl2]; rfl
  have kl : leafB (clr xs 2) 2 (65 / 64) = false := by
    unfold leafB
    rw [wordB_clr HZ.out.2 HZ.out.2 (by decide) (by decide)]
    rfl
  have km : mayB (clr xs 2) 2307 = true := by
    unfold mayB
    rw [show (2307 : Int) / 256 = 9 from rfl, k9]
    rfl
  have HS := hide ((set_new hT3 65 2307 4 (by decide) (by decide) (by decide) km kl (by decide) k4).mono (R' := fun e w4 => e = .returned (.tuple #[.bool true, .int .i64 0]) ∧ Lived w w4 t g d) fun e w4 ⟨he, ho, hT⟩ =>
    ⟨he, _, hT, ho3.trans' ho (by intro k hk hk'; simp at hk'; have := HO.out.2.2; omega), set_walk k2 k4 (by decide) (by omega) (by decide) (by decide) (by decide)⟩)
  clear hT3 ho3 hl2 k2 k4 k9 kl km HT HO2 HO HZ HL HW3
  go_wp2_with (first | (go_at_call 12; refine HK.out.mono ?_; rintro e w' ⟨rfl, rfl⟩) | (go_at_call 22; refine HS.out.mono ?_; rintro e w4 ⟨rfl, hv⟩))
  obtain ⟨ys, hT4, ho4, hw⟩ := hv
  have HT' := hide ((trans_ok hT4 16643 true (by decide) (by decide) (by rw [show (16643 : Int) / 256 = 65 from rfl, hw]; decide) (fun _ => by rw [show (16643 : Int) / 256 = 65 from rfl, hw]; rfl)).mono (R' := fun e w5 => e = .returned (.tuple #[.int .i64 2307, .int .i64 0]) ∧ ∃ n, w5 = w4.drewN n)
    fun e w5 ⟨he, h⟩ => ⟨by rw [he, show (16643 : Int) / 256 = 65 from rfl, hw]; rfl, h⟩)
  have HQ := hide fun n => walk_is (hT4.mem.drewN n) hT4.u8 2 65
  rw [hw] at HQ
  have HO4 := hide ho4
  clear hT4 ho4 hw HS HK
  go_wp2_with (first | (go_at_call 30; refine HT'.out.mono ?_; rintro e w' ⟨rfl, n, rfl⟩) | (go_at_call 27; refine (HQ.out _).mono ?_; rintro e w' ⟨rfl, m, rfl⟩))
  go_ret
  exact ⟨rfl, HO4.out.drewN _⟩

theorem rpack_is (w : World) (f g : Int) (h0 : 0 ≤ f) (h1 : f ≤ 16777215) (g0 : 0 ≤ g) (g1 : g ≤ 255) :
    Calls Try.prog 14 #[.int .i64 f, .int .i64 g] w fun e w' => e = .returned (.int .u32 (f * 256 + g)) ∧ w = w' := by
  have HE := hide (show bits .or .u32 (f * 256) g = f * 256 + g by
    obtain ⟨a, rfl⟩ := Int.eq_ofNat_of_zero_le h0
    obtain ⟨b, rfl⟩ := Int.eq_ofNat_of_zero_le g0
    have := u32_or_nat (a * 256) b (by omega) (by omega)
    have e : (a * 256 ||| b) = a * 256 + b := by
      rw [Nat.mul_comm]
      exact (Nat.two_pow_add_eq_or_of_lt (i := 8) (by omega) a).symm
    rw [e] at this
    rw [show ((a : Int) * 256) = ((a * 256 : Nat) : Int) by omega, this]
    omega)
  go_enter Try.func14, Try.ntmps14
  go_wp2
  go_ret
  exact ⟨by rw [HE.out]; rfl, rfl⟩

theorem rframe_is (w : World) (x : Int) (h0 : 0 ≤ x) (h1 : x ≤ 4294967295) :
    Calls Try.prog 17 #[.int .u32 x] w fun e w' => e = .returned (.int .i64 (x / 256)) ∧ w = w' := by
  go_enter Try.func17, Try.ntmps17
  go_wp2
  go_ret
  exact ⟨rfl, rfl⟩

theorem rflags_is (w : World) (x : Int) (h0 : 0 ≤ x) (h1 : x ≤ 4294967295) :
    Calls Try.prog 18 #[.int .u32 x] w fun e w' => e = .returned (.int .i64 (x % 256)) ∧ w = w' := by
  go_enter Try.func18, Try.ntmps18
  go_wp2
  go_ret
  exact ⟨rfl, rfl⟩

/-- The law's way, the two numbers being brought into range. -/
theorem entries_go (f g x : Int) (w : World) (h0 : 0 ≤ x) (h1 : x ≤ 4294967295) (f0 : 0 ≤ f) (f1 : f ≤ 16777215) (g0 : 0 ≤ g) (g1 : g ≤ 255) :
    (∀ w1, Calls Try.prog 12 #[.int .i64 f, .int .i64 g] w1 fun e w' => e = .returned (.int .u32 (f * 256 + g)) ∧ w1 = w') ∧
    (∀ w1, Calls Try.prog 14 #[.int .i64 f, .int .i64 g] w1 fun e w' => e = .returned (.int .u32 (f * 256 + g)) ∧ w1 = w') ∧
    (∀ w1, Calls Try.prog 15 #[.int .u32 (f * 256 + g)] w1 fun e w' => e = .returned (.int .i64 f) ∧ w1 = w') ∧
    (∀ w1, Calls Try.prog 16 #[.int .u32 (f * 256 + g)] w1 fun e w' => e = .returned (.int .i64 g) ∧ w1 = w') := by
  refine ⟨fun w1 => pack_is w1 f g f0 f1 g0 g1, fun w1 => rpack_is w1 f g f0 f1 g0 g1, fun w1 => ?_, fun w1 => ?_⟩
  · have := tframe_is w1 (f * 256 + g) (by omega) (by omega)
    rwa [show (f * 256 + g) / 256 = f by omega] at this
  · have := tflags_is w1 (f * 256 + g) (by omega) (by omega)
    rwa [show (f * 256 + g) % 256 = g by omega] at this

set_option maxRecDepth 100000 in
set_option maxHeartbeats 1000000 in
theorem ptabEntries_walk (a b x : Int) (w : World) (w0 : (Lit.int .u32 x).wf = true) :
    Calls Try.prog 4 #[.int .i64 a, .int .i64 b, .int .u32 x] w fun e w' => e = .returned (.bool true) ∧ Below w.heap.size w w' := by
  have hx0 : 0 ≤ x ∧ x ≤ 4294967295 := by simpa [Lit.wf, IntKind.min, IntKind.max, IntKind.signed, IntKind.bits] using w0
  obtain ⟨h0, h1⟩ := hx0
  obtain ⟨F, hF⟩ : ∃ F, a.tmod 16777216 = F := ⟨_, rfl⟩
  obtain ⟨G, hG⟩ : ∃ G, b.tmod 256 = G := ⟨_, rfl⟩
  have F0 : -16777216 < F ∧ F < 16777216 := by subst hF; have := Int.lt_tmod_of_pos a (b := 16777216) (by decide); have := Int.tmod_lt_of_pos a (b := 16777216) (by decide); omega
  have G0 : -256 < G ∧ G < 256 := by subst hG; have := Int.lt_tmod_of_pos b (b := 256) (by decide); have := Int.tmod_lt_of_pos b (b := 256) (by decide); omega
  obtain ⟨F1, F2⟩ := F0
  obtain ⟨G1, G2⟩ := G0
  have HX1 := hide fun w1 => tframe_is w1 x h0 h1
  have HX2 := hide fun w1 => tflags_is w1 x h0 h1
  have HX3 := hide fun w1 => rframe_is w1 x h0 h1
  have HX4 := hide fun w1 => rflags_is w1 x h0 h1
  have HX5 := hide fun w1 => (show Calls Try.prog 12 #[.int .i64 (x / 256), .int .i64 (x % 256)] w1 fun e w' => e = .returned (.int .u32 x) ∧ w1 = w' by
    have := pack_is w1 (x / 256) (x % 256) (by omega) (by omega) (by omega) (by omega)
    rwa [show x / 256 * 256 + x % 256 = x by omega] at this)
  have HLv := hide lives5
  by_cases hf : F < 0
  · by_cases hg : G < 0
    · obtain ⟨H1, H2, H3, H4⟩ := entries_go (F + 16777216) (G + 256) x w h0 h1 (by omega) (by omega) (by omega) (by omega)
      have K1 := hide H1
      have K2 := hide H2
      have K3 := hide H3
      have K4 := hide H4
      clear H1 H2 H3 H4
      go_enter Try.func4, Try.ntmps4
      go_wp2_with (first | (go_at_call 13; refine (HLv.out _).mono ?_; rintro e w1 ⟨rfl, ho⟩) | (go_at_call 12; (with_reducible refine (K1.out _).mono ?_); rintro e w' ⟨rfl, rfl⟩) | (go_at_call 14; (with_reducible refine (K2.out _).mono ?_); rintro e w' ⟨rfl, rfl⟩) | (go_at_call 15; (with_reducible refine (K3.out _).mono ?_); rintro e w' ⟨rfl, rfl⟩) | (go_at_call 16; (with_reducible refine (K4.out _).mono ?_); rintro e w' ⟨rfl, rfl⟩) | (go_at_call 15; (with_reducible refine (HX1.out _).mono ?_); rintro e w' ⟨rfl, rfl⟩) | (go_at_call 16; (with_reducible refine (HX2.out _).mono ?_); rintro e w' ⟨rfl, rfl⟩) | (go_at_call 17; (with_reducible refine (HX3.out _).mono ?_); rintro e w' ⟨rfl, rfl⟩) | (go_at_call 18; (with_reducible refine (HX4.out _).mono ?_); rintro e w' ⟨rfl, rfl⟩) | (go_at_call 12; (with_reducible refine (HX5.out _).mono ?_); rintro e w' ⟨rfl, rfl⟩))
      go_ret
      exact ⟨rfl, ho.below (Nat.le_refl _) (by simp)⟩
    · obtain ⟨H1, H2, H3, H4⟩ := entries_go (F + 16777216) (G) x w h0 h1 (by omega) (by omega) (by omega) (by omega)
      have K1 := hide H1
      have K2 := hide H2
      have K3 := hide H3
      have K4 := hide H4
      clear H1 H2 H3 H4
      go_enter Try.func4, Try.ntmps4
      go_wp2_with (first | (go_at_call 13; refine (HLv.out _).mono ?_; rintro e w1 ⟨rfl, ho⟩) | (go_at_call 12; (with_reducible refine (K1.out _).mono ?_); rintro e w' ⟨rfl, rfl⟩) | (go_at_call 14; (with_reducible refine (K2.out _).mono ?_); rintro e w' ⟨rfl, rfl⟩) | (go_at_call 15; (with_reducible refine (K3.out _).mono ?_); rintro e w' ⟨rfl, rfl⟩) | (go_at_call 16; (with_reducible refine (K4.out _).mono ?_); rintro e w' ⟨rfl, rfl⟩) | (go_at_call 15; (with_reducible refine (HX1.out _).mono ?_); rintro e w' ⟨rfl, rfl⟩) | (go_at_call 16; (with_reducible refine (HX2.out _).mono ?_); rintro e w' ⟨rfl, rfl⟩) | (go_at_call 17; (with_reducible refine (HX3.out _).mono ?_); rintro e w' ⟨rfl, rfl⟩) | (go_at_call 18; (with_reducible refine (HX4.out _).mono ?_); rintro e w' ⟨rfl, rfl⟩) | (go_at_call 12; (with_reducible refine (HX5.out _).mono ?_); rintro e w' ⟨rfl, rfl⟩))
      go_ret
      exact ⟨rfl, ho.below (Nat.le_refl _) (by simp)⟩
  · by_cases hg : G < 0
    · obtain ⟨H1, H2, H3, H4⟩ := entries_go (F) (G + 256) x w h0 h1 (by omega) (by omega) (by omega) (by omega)
      have K1 := hide H1
      have K2 := hide H2
      have K3 := hide H3
      have K4 := hide H4
      clear H1 H2 H3 H4
      go_enter Try.func4, Try.ntmps4
      go_wp2_with (first | (go_at_call 13; refine (HLv.out _).mono ?_; rintro e w1 ⟨rfl, ho⟩) | (go_at_call 12; (with_reducible refine (K1.out _).mono ?_); rintro e w' ⟨rfl, rfl⟩) | (go_at_call 14; (with_reducible refine (K2.out _).mono ?_); rintro e w' ⟨rfl, rfl⟩) | (go_at_call 15; (with_reducible refine (K3.out _).mono ?_); rintro e w' ⟨rfl, rfl⟩) | (go_at_call 16; (with_reducible refine (K4.out _).mono ?_); rintro e w' ⟨rfl, rfl⟩) | (go_at_call 15; (with_reducible refine (HX1.out _).mono ?_); rintro e w' ⟨rfl, rfl⟩) | (go_at_call 16; (with_reducible refine (HX2.out _).mono ?_); rintro e w' ⟨rfl, rfl⟩) | (go_at_call 17; (with_reducible refine (HX3.out _).mono ?_); rintro e w' ⟨rfl, rfl⟩) | (go_at_call 18; (with_reducible refine (HX4.out _).mono ?_); rintro e w' ⟨rfl, rfl⟩) | (go_at_call 12; (with_reducible refine (HX5.out _).mono ?_); rintro e w' ⟨rfl, rfl⟩))
      go_ret
      exact ⟨rfl, ho.below (Nat.le_refl _) (by simp)⟩
    · obtain ⟨H1, H2, H3, H4⟩ := entries_go (F) (G) x w h0 h1 (by omega) (by omega) (by omega) (by omega)
      have K1 := hide H1
      have K2 := hide H2
      have K3 := hide H3
      have K4 := hide H4
      clear H1 H2 H3 H4
      go_enter Try.func4, Try.ntmps4
      go_wp2_with (first | (go_at_call 13; refine (HLv.out _).mono ?_; rintro e w1 ⟨rfl, ho⟩) | (go_at_call 12; (with_reducible refine (K1.out _).mono ?_); rintro e w' ⟨rfl, rfl⟩) | (go_at_call 14; (with_reducible refine (K2.out _).mono ?_); rintro e w' ⟨rfl, rfl⟩) | (go_at_call 15; (with_reducible refine (K3.out _).mono ?_); rintro e w' ⟨rfl, rfl⟩) | (go_at_call 16; (with_reducible refine (K4.out _).mono ?_); rintro e w' ⟨rfl, rfl⟩) | (go_at_call 15; (with_reducible refine (HX1.out _).mono ?_); rintro e w' ⟨rfl, rfl⟩) | (go_at_call 16; (with_reducible refine (HX2.out _).mono ?_); rintro e w' ⟨rfl, rfl⟩) | (go_at_call 17; (with_reducible refine (HX3.out _).mono ?_); rintro e w' ⟨rfl, rfl⟩) | (go_at_call 18; (with_reducible refine (HX4.out _).mono ?_); rintro e w' ⟨rfl, rfl⟩) | (go_at_call 12; (with_reducible refine (HX5.out _).mono ?_); rintro e w' ⟨rfl, rfl⟩))
      go_ret
      exact ⟨rfl, ho.below (Nat.le_refl _) (by simp)⟩
end Go.Proofs.Ytmlaomkofcajgaa
