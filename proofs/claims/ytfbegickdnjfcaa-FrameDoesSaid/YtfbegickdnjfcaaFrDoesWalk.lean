/-
  The walk of 'FrameDoes'.
-/
import Derived.Test.YtfbegickdnjfcaaRef06o
import Derived.Test.YtfbegickdnjfcaaFrSharesWalk
namespace Go.Proofs.Ytfbegickdnjfcaa
open Go.ChangeShapes Go.WideShapes Go.ChangeAt Go.RowKit Go.Deep
set_option linter.unusedVariables false
set_option linter.unusedSimpArgs false

theorem nsNew_2 (first n : Nat) : nsNew first n n 2 = List.replicate n 0 := by unfold nsNew; rw [if_pos rfl]
theorem nsNew_else (first n : Nat) {o : Nat} (h1 : o ≠ 2) (h2 : o ≠ 12) : nsNew first n n o = [] := by unfold nsNew; rw [if_neg h1, if_neg h2]
theorem nsNew_free (first n : Nat) : freeL (nsNew first n n) = upL first n := by
  rw [freeL_nine, nsNew_12]
  rw [nsNew_else first n (o := 4) (by decide) (by decide), nsNew_else first n (o := 5) (by decide) (by decide), nsNew_else first n (o := 6) (by decide) (by decide), nsNew_else first n (o := 7) (by decide) (by decide), nsNew_else first n (o := 8) (by decide) (by decide), nsNew_else first n (o := 9) (by decide) (by decide), nsNew_else first n (o := 10) (by decide) (by decide), nsNew_else first n (o := 11) (by decide) (by decide)]
  simp
theorem gb_zeros (n k : Nat) : gb (List.replicate n 0) k = 0 := by
  simp [gb, List.getD, List.getElem?_replicate]
  split <;> rfl
theorem upL_count (first k : Nat) : ∀ m, k < m → (upL first m).count ((first : Int) + k) = 1
  | 0, h => by omega
  | m + 1, h => by
    rw [upL_succ, List.count_append]
    by_cases e : k = m
    · subst e
      rw [List.count_eq_zero.2 (fun hm => by
        unfold upL at hm
        obtain ⟨i, hi, he⟩ := List.mem_map.1 hm
        have := List.mem_range.1 hi
        omega)]
      simp
    · rw [upL_count first k m (by omega), List.count_eq_zero.2 (fun hm => by
        rw [List.mem_singleton] at hm
        omega)]
/-- Frames that New gave. -/
theorem P6.new {xs : List Int} {first n : Nat} (hn : 1 ≤ n) (hs : first + n ≤ 4096) (hz : ∀ k, k < n → ∀ j, j < 256 → gb xs (256 * (first + k) + j) = 0) : P6 xs first (nsNew first n n) := by
  have h2l : (nsNew first n n 2).length = n := by rw [nsNew_2, List.length_replicate]
  have hg : ∀ k, gb (nsNew first n n 2) k = 0 := fun k => by rw [nsNew_2]; exact gb_zeros n k
  have hu : usedL (nsNew first n n 2) = 0 := usedL_zero fun k _ => hg k
  refine ⟨⟨fun k hk => by rw [hg]; decide, fun x hx => ?_, fun k hk _ => ?_, fun k hk _ => hz k (by rw [← h2l]; exact hk), Good.few' (by rw [nsNew_free, upL_length]; omega) (by rw [h2l]; omega)⟩, ?_, ?_, by rw [h2l]; omega⟩
  · rw [nsNew_free] at hx
    unfold upL at hx
    obtain ⟨k, hk, rfl⟩ := List.mem_map.1 hx
    exact ⟨k, by rw [h2l]; exact List.mem_range.1 hk, rfl, hg k⟩
  · rw [h2l] at hk
    rw [nsNew_free]
    exact upL_count first k n hk
  · rw [nsNew_free, upL_length, hu, h2l, Nat.add_zero]
  · rw [nsNew_12]; exact upL_rises first n

/-- What holds at a round of the law's loop. -/
def DoesRel (w : World) (t g d cap L first harts n a cC bL len : Nat) (iv : Value) (wr : World) : Prop :=
  ∃ k : Nat, k ≤ len ∧ iv = .int .i64 k ∧ Did6 w wr w.heap.size t g d cap L [] first harts n a cC bL

set_option maxRecDepth 100000 in
set_option maxHeartbeats 4000000 in
theorem frameDoes_is (f a b c : Int) (A : Option Addr) (len cp : Nat) (w : World) (hf : I64p f) (ha : I64p a) (hb : I64p b) (hc : I64p c) (hlen : len < 5900000000000) (hops : ∀ i, i < len → OpAt6 w A i) :
    Calls Try.prog 3 #[.int .i64 f, .int .i64 a, .int .i64 b, .int .i64 c, .slice A len cp] w fun e w' => e = .returned (.bool true) ∧ Below w.heap.size w w' := by
  have HOPS := hide hops
  have HA := hide ha
  clear hops hf ha hb hc
  go_enter Try.func3, Try.ntmps3
  go_wp2_with fail
  refine (awake6 _).mono ?_
  rintro e w1 ⟨rfl, ho1⟩
  have HO1 := hide ho1
  clear ho1
  by_cases hfr : f < 1 ∨ 4096 < f
  · have HN := hide (new_bad f w1 hfr)
    clear hfr
    go_wp2_with (first | (go_at_call 5; refine HN.out.mono ?_; rintro e w' ⟨rfl, rfl⟩) | (go_at_call 6; refine (fnew_nil _ _ _ _).mono ?_; rintro e w' ⟨rfl, rfl⟩))
    go_ret
    exact ⟨rfl, HO1.out.below (Nat.le_refl _) (by simp)⟩
  · have hf1 : 1 ≤ f := by omega
    have hf2 : f ≤ 4096 := by omega
    clear hfr
    go_wp2_with fail
    refine (new_ok f _ hf1 hf2).mono ?_
    rintro e w2 ⟨g, d, rfl, hg, hd, hm, ho2⟩
    obtain ⟨xs0, hxs0⟩ : ∃ xs0 : List Int, List.replicate (256 * f.toNat) 0 = xs0 := ⟨_, rfl⟩
    have hu0 : U8 xs0 := by rw [← hxs0]; exact U8.replicate _
    have hl0 : xs0.length = 256 * f.toNat := by rw [← hxs0, List.length_replicate]
    rw [hxs0] at hm
    clear hxs0
    have HO2 := hide (HO1.out.trans ho2)
    have hgd : w.heap.size ≤ g ∧ w.heap.size ≤ d := And.intro (Nat.le_trans HO1.out.size hg) (Nat.le_trans HO1.out.size hd)
    have HD := hide hgd
    clear ho2 hg hd HO1 hgd
    by_cases hin : 0 ≤ a ∧ a < f
    · obtain ⟨h0, h1⟩ := hin
      have hw : wrap64 (256 * a) = 256 * a := wrap64_own _ (by omega)
      have HST := hide (store32_ok hm (256 * a) 9 (by omega) (by omega) (by omega) (by decide) (by decide))
      have hd0 : decide (0 ≤ a) = true := by simp; omega
      have hd1 : decide (a < f) = true := by simp; omega
      go_wp2_with fail
      refine HST.out.mono ?_
      rintro e w3 ⟨rfl, ho3, hm3⟩
      obtain ⟨xs1, hxs1⟩ : ∃ xs1 : List Int, putw xs0 (256 * a).toNat 9 = xs1 := ⟨_, rfl⟩
      have hu1 : U8 xs1 := by rw [← hxs1]; exact U8.putw hu0 _ (by decide) (by decide)
      have hl1 : xs1.length = 256 * f.toNat := by rw [← hxs1, length_putw, hl0]
      rw [hxs1] at hm3
      clear hxs1
      have HO3 := hide (HO2.out.trans' ho3 (fun k h1 h2 => by simp at h2; have := HD.out.2; omega))
      clear ho3 hm HST HO2 hu0 hl0 hw
      by_cases hbad : c < 1 ∨ 8 < c ∨ b < 1 ∨ f - a < b
      · have HF := hide (fnew_bad hm3 a b c (by omega) (by rw [hl1]; omega))
        have HR := hide (rnew_bad w3 f a b c (by omega) hf2 (by omega))
        clear hbad hm3 hu1 hl1
        go_wp2_with (first | (go_at_call 6; refine HF.out.mono ?_; rintro e w' ⟨rfl, rfl⟩) | (go_at_call 8; refine HR.out.mono ?_; rintro e w' ⟨rfl, rfl⟩))
        go_ret
        exact ⟨rfl, HO3.out.below (Nat.le_refl _) (by simp)⟩
      · obtain ⟨first, hfi⟩ := Int.eq_ofNat_of_zero_le h0
        obtain ⟨count, hco⟩ := Int.eq_ofNat_of_zero_le (show 0 ≤ b by omega)
        obtain ⟨harts, hha⟩ := Int.eq_ofNat_of_zero_le (show 0 ≤ c by omega)
        subst hfi
        subst hco
        subst hha
        have hh : 1 ≤ harts ∧ harts ≤ 8 := by omega
        have hc1 : 1 ≤ count := by omega
        have hsm : first + count ≤ 4096 := by omega
        have HF := hide (fnew_ok hm3 hu1 first harts count hh hc1 (by rw [hl1]; omega) first count harts rfl rfl rfl)
        have HR := hide (fun W => rnew_ok W f first count harts first harts count hh hc1 (by omega) hf2 rfl rfl rfl)
        have hgl := hm3.lt
        clear hbad hm3 hu1
        go_wp2_with fail
        refine HF.out.mono ?_
        rintro e w4 ⟨t, v, xs, rfl, hF, hfo, ho4, hxl, hz⟩
        have HP := hide (P6.new hc1 hsm hz)
        have HF4 := hide hF
        have HO4 := hide (HO3.out.trans' ho4 (fun k h1 h2 => by simp at h2; have := HD.out.2; omega))
        have HFO := hide (fun k (hk : k ∈ footL t v) => Nat.le_trans HO3.out.size (hfo k hk))
        clear hF hfo ho4 hz HF
        go_wp2_with fail
        refine (HR.out w4).mono ?_
        rintro e w5 ⟨ra, cC, bL, vs, Z, rfl, hR, hro, ho5⟩
        have HI := hide (show DoesRel w t g d (256 * f.toNat) xs.length first harts count ra cC bL len (.int .i64 (0 : Nat)) w5 from by
          have hlt := HF4.out.lts
          refine ⟨0, Nat.zero_le _, rfl, ⟨xs, v, _, vs, Z, ⟨HF4.out.only ho5 (by simp) (by simp) (by simp), hR, fun k hk => ?_, HD.out.1, HD.out.2, HFO.out, fun k hk => Nat.le_trans HO4.out.size (hro k hk)⟩, HP.out, by rw [nsNew_2, List.length_replicate], rfl⟩, (HO4.out.trans ho5).below (Nat.le_refl _) (by simp)⟩
          have := hro k hk
          exact ⟨by omega, by omega, fun hm => by have := hlt.2.2 k hm; omega⟩)
        clear hR hro ho5 HP HF4 HO4 HFO HR HO3 HD hl1 hxl
        obtain ⟨cap, hcap⟩ : ∃ cap : Nat, 256 * f.toNat = cap := ⟨_, rfl⟩
        rw [hcap] at HI
        clear hcap
        go_wp2
        go_loopw [91] (fun iv wr => DoesRel w t g d cap xs.length first harts count ra cC bL len iv wr) (fun iv _ => len - (intOf iv).toNat)
        case atStart => exact HI.out
        case round =>
          clear HI
          obtain ⟨k, hk, rfl, ⟨ys, v1, ns1, vs1, Z1, B1, P1, hn1, hl1⟩, hb1⟩ := hrel
          have hpos : 0 < (ns1 2).length := by omega
          by_cases hlt : k < len
          · obtain ⟨qq, oo, kk, bb, cc, rfl, hqq, c0, c1, c2, -, hcc⟩ := HOPS.out k hlt
            have d0 := (hb1.block qq hqq)
            have ho1 : Only [] w wr := Only.of_below hb1
            have e0 : wr.cell? ⟨qq, oo + k * 3, none⟩ = some (.int .i64 kk) := (ho1.cell hqq (by simp)).trans c0
            have e1 : wr.cell? ⟨qq, oo + k * 3 + 1, none⟩ = some (.int .i64 bb) := (ho1.cell hqq (by simp)).trans c1
            have e2 : wr.cell? ⟨qq, oo + k * 3 + 2, none⟩ = some (.int .i64 cc) := (ho1.cell hqq (by simp)).trans c2
            obtain ⟨B2, hb2⟩ := B1.only ((Only.refl [] wr).alloc (.cells #[.int .i64 kk, .int .i64 bb, .int .i64 cc] 37))
            have HD := hide (does_is B2 P1 hpos kk bb cc hcc.2)
            rw [hn1, hl1] at HD
            have HB := hide (hb1.trans hb2)
            have hkl : (k : Int) < len := by omega
            clear B1 P1 hn1 hl1 hb1 ho1 d0 c0 c1 c2 B2 hb2 hpos
            go_wp2_with (go_at_call 9; refine HD.out.mono ?_; rintro e w6 ⟨rfl, hd6⟩; have HD6 := hide hd6; clear hd6)
            go_roundw
            case rel =>
              obtain ⟨h6, hb6⟩ := HD6.out
              exact ⟨k + 1, hlt, by go_num, h6, HB.out.trans hb6⟩
            case measure => simp [intOf]; omega
          · have HL := hide (looks_is B1 P1 hpos)
            have HB := hide hb1
            have hkl : k = len := by omega
            subst hkl
            clear B1 P1 hn1 hl1 hb1 hpos hlt hk
            go_wp2_with (go_at_call 10; refine HL.out.mono ?_; rintro e w6 ⟨rfl, hb6⟩; have HB6 := hide hb6; clear hb6)
            go_ret
            exact ⟨rfl, HB.out.trans (HB6.out.mono HB.out.size)⟩
    · have HF := hide (fnew_bad hm a b c (by have := HA.out.2; omega) (by rw [hl0]; omega))
      have HR := hide (rnew_bad w2 f a b c (by omega) hf2 (by omega))
      clear hm hu0 hl0
      by_cases hd0 : 0 ≤ a
      · have hd0' : decide (0 ≤ a) = true := by simp; omega
        have hd1 : decide (a < f) = false := by simp; omega
        clear hin
        go_wp2_with (first | (go_at_call 6; refine HF.out.mono ?_; rintro e w' ⟨rfl, rfl⟩) | (go_at_call 8; refine HR.out.mono ?_; rintro e w' ⟨rfl, rfl⟩))
        go_ret
        exact ⟨rfl, HO2.out.below (Nat.le_refl _) (by simp)⟩
      · have hd0' : decide (0 ≤ a) = false := by simp; omega
        clear hin
        go_wp2_with (first | (go_at_call 6; refine HF.out.mono ?_; rintro e w' ⟨rfl, rfl⟩) | (go_at_call 8; refine HR.out.mono ?_; rintro e w' ⟨rfl, rfl⟩))
        go_ret
        exact ⟨rfl, HO2.out.below (Nat.le_refl _) (by simp)⟩

theorem frameDoes_walk {H : Type} {enc : TypeId × Value → H} (f a b c : Int) (A : Option Addr) (len cp : Nat) (w : World) {d : DataW H} (wf : (Lit.int .i64 f).wf = true) (wa : (Lit.int .i64 a).wf = true) (wb : (Lit.int .i64 b).wf = true) (wc : (Lit.int .i64 c).wf = true) (r : Rd enc Try.prog w 22 [.slice A len cp] d) :
    Calls Try.prog 3 #[.int .i64 f, .int .i64 a, .int .i64 b, .int .i64 c, .slice A len cp] w fun e w' => e = .returned (.bool true) ∧ Below w.heap.size w w' := by
  have h := r.ops6
  exact frameDoes_is f a b c A len cp w (wf_i64p wf) (wf_i64p wa) (wf_i64p wb) (wf_i64p wc) h.1 h.2
end Go.Proofs.Ytfbegickdnjfcaa
