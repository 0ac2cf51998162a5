/-
  The walk of 'FrameShares'.
-/
import Derived.Test.YtffhcfpcjkccdaaFrGive
import Derived.Test.YtffhcfpcjkccdaaFrZero
import Derived.Test.YtffhcfpcjkccdaaPhysLives
import Derived.Test.YtffhcfpcjkccdaaFrAwake
import Derived.Test.YtffhcfpcjkccdaaRead
namespace Go.Proofs.Ytffhcfpcjkccdaa
open Go.ChangeShapes Go.WideShapes Go.ChangeAt Go.RowKit Go.Deep
set_option linter.unusedVariables false

theorem cells_op6 : Try.prog.cellsOf 37 = 3 := by kernel_rfl
def I64p (x : Int) : Prop := -9223372036854775808 ≤ x ∧ x ≤ 9223372036854775807

/-- What is known of call i of the list. -/
def OpAt6 (w : World) (A : Option Addr) (i : Nat) : Prop :=
  ∃ (q o : Nat) (k b c : Int), A = some ⟨q, o, none⟩ ∧ q < w.heap.size ∧ w.cell? ⟨q, o + i * 3, none⟩ = some (.int .i64 k) ∧ w.cell? ⟨q, o + i * 3 + 1, none⟩ = some (.int .i64 b) ∧ w.cell? ⟨q, o + i * 3 + 2, none⟩ = some (.int .i64 c) ∧ I64p b ∧ I64p c

theorem wf_i64p {x : Int} (h : (Lit.int .i64 x).wf = true) : I64p x := by
  have : -9223372036854775808 ≤ x ∧ x ≤ 9223372036854775807 := by simpa [Lit.wf, IntKind.min, IntKind.max, IntKind.signed, IntKind.bits] using h
  exact this

set_option maxRecDepth 100000 in
theorem Rd.ops6 {H : Type} {enc : TypeId × Value → H} {w : World} {A : Option Addr} {n c : Nat} {d : DataW H} (h : Rd enc Try.prog w 22 [.slice A n c] d) : n < 5900000000000 ∧ ∀ i, i < n → OpAt6 w A i := by
  obtain ⟨A', n', c', hv, hl, hm, hb, _, hf⟩ := h.structs Try.underlying22 Try.underlying37
  injection hv with hv _
  injection hv with e1 e2 e3
  subst e1 e2 e3
  have hby : Try.prog.bytesOf 37 = 24 := by kernel_rfl
  rw [hby] at hb
  refine ⟨by unfold reachBytes at hb; omega, fun i hi => ?_⟩
  rw [cells_op6] at hf
  obtain ⟨q, o, v0, y0, hA, hq, c0, r0⟩ := hf i hi 0 _ rfl (by kernel_rfl) (by decide)
  obtain ⟨q1, o1, v1, y1, hA1, _, c1, r1⟩ := hf i hi 1 _ rfl (by kernel_rfl) (by decide)
  obtain ⟨q2, o2, v2, y2, hA2, _, c2, r2⟩ := hf i hi 2 _ rfl (by kernel_rfl) (by decide)
  have a1 : q1 = q ∧ o1 = o := by rw [hA] at hA1; injection hA1 with h; injection h with h1 h2; exact ⟨h1.symm, h2.symm⟩
  have a2 : q2 = q ∧ o2 = o := by rw [hA] at hA2; injection hA2 with h; injection h with h1 h2; exact ⟨h1.symm, h2.symm⟩
  obtain ⟨rfl, rfl⟩ := a1
  obtain ⟨rfl, rfl⟩ := a2
  obtain ⟨k, e0, _⟩ := r0.int (k := .i64) Try.underlying3
  obtain ⟨b, e1, wb⟩ := r1.int (k := .i64) Try.underlying3
  obtain ⟨c, e2, wc⟩ := r2.int (k := .i64) Try.underlying3
  injection e0 with e0 _; injection e1 with e1 _; injection e2 with e2 _
  subst e0 e1 e2
  exact ⟨_, _, k, b, c, hA, hq, c0, c1, c2, wf_i64p wb, wf_i64p wc⟩

/-- Frames, and who holds some, in blocks of one's own from w on. -/
def ShI (w wr : World) (t g d cap n h : Nat) (hv : Value) (held : List Int) : Prop :=
  ∃ xs ns v, IsFr wr t g d cap xs [] 2 h v ns ∧ (∀ k, k ∈ d :: footL t v → w.heap.size ≤ k) ∧ Only [] w wr ∧ IRow wr hv held ∧ (∀ q, hv.ownBlock = some q → w.heap.size ≤ q ∧ q ∉ d :: footL t v) ∧ ShP xs ns n held
theorem wrap64_own (n : Int) (h : -9223372036854775808 ≤ n ∧ n ≤ 9223372036854775807) : wrap64 n = n := by unfold wrap64; omega
theorem wrapped {x m : Int} (hm : 0 < m) (hm2 : m ≤ 4096) : ∃ j : Nat, (j : Int) < m ∧ (wrap64 (x.tmod m + m)).tmod m = (j : Int) := by
  have h1 : -m < x.tmod m ∧ x.tmod m < m := by
    have h := Int.natAbs_tmod x m
    have h2 : x.natAbs % m.natAbs < m.natAbs := Nat.mod_lt _ (by omega)
    omega
  have hw : wrap64 (x.tmod m + m) = x.tmod m + m := wrap64_own _ (by omega)
  rw [hw, Int.tmod_eq_emod_of_nonneg (by omega)]
  have h3 := Int.emod_nonneg (x.tmod m + m) (show m ≠ 0 by omega)
  have h4 := Int.emod_lt_of_pos (x.tmod m + m) hm
  exact ⟨((x.tmod m + m) % m).toNat, by omega, by omega⟩

section
variable {w wr W : World} {t g d cap n h : Nat} {xs : List Int} {v : Nat → Value} {ns : Nat → List Int} {hv : Value} {held : List Int}
theorem sumL_free (ns : Nat → List Int) : ∀ k, sumL ns k = (ns 12).length + (catL ns k).length
  | 0 => by simp [sumL, catL]
  | k + 1 => by rw [sumL, catL, List.length_append, sumL_free ns k]; omega
theorem sumL_tot (ns : Nat → List Int) : sumL ns 8 = (freeL ns).length := by
  rw [sumL_free, freeL, List.length_append]; omega
theorem used6 (F : IsFr W t g d cap xs [] 2 h v ns) (P : ShP xs ns n held) (L : Nat) (hL : held.length = L) : Calls Try.prog 16 #[.pointer (some ⟨t, 0, none⟩)] W fun e w' => e = .returned (.int .i64 (L : Int)) ∧ ∃ m, w' = W.drewN m := by
  have h1 := P.tot
  have h2 := P.len
  have h := used_is F P.good.few
  rw [show (((ns 2).length : Int) - (sumL ns 8 : Int)) = (L : Int) by rw [sumL_tot]; omega] at h
  exact h
theorem free6 (F : IsFr W t g d cap xs [] 2 h v ns) (P : ShP xs ns n held) (L : Nat) (hL : held.length = L) : Calls Try.prog 17 #[.pointer (some ⟨t, 0, none⟩)] W fun e w' => e = .returned (.int .i64 ((n : Int) - L)) ∧ W = w' := by
  have h1 := P.tot
  have h := free_is F P.good.few
  rw [show ((sumL ns 8 : Nat) : Int) = (n : Int) - L by rw [sumL_tot]; omega] at h
  exact h
theorem ShI.only (h' : ShI w wr t g d cap n h hv held) (ho : Only [] wr W) : ShI w W t g d cap n h hv held := by
  obtain ⟨xs, ns, v, F, hf, o, hr, hw, P⟩ := h'
  exact ⟨xs, ns, v, F.only ho (by simp) (by simp) (by simp), hf, o.trans ho, KRow.only hr ho (by simp), hw, P⟩
theorem fillN_full (ns : Nat → List Int) {h : Nat} (hh : h < 8) (he : (fillN ns h (4 + h)).length = 0) : fillN ns h = ns := by
  unfold fillN at he ⊢
  split
  · rename_i h0
    rw [if_pos h0] at he
    unfold refillN at he ⊢
    split
    · rename_i h1
      rw [if_pos h1] at he
      unfold moveN at he
      rw [upd_far _ _ (by omega), upd_same, List.length_append, List.length_take] at he
      omega
    · rename_i h1
      rw [if_neg h1] at he
      split
      · rfl
      · rename_i h2
        rw [if_neg h2] at he
        have hne : 4 + h ≠ 4 + richN ns 8 := fun e => h2 (by rw [← e]; exact h0)
        unfold moveN at he
        rw [upd_far _ _ hne, upd_same, List.length_append, List.length_take] at he
        omega
  · rfl
/-- The frames turned: the holder's list stands. -/
theorem ShI.turned {xs' : List Int} {v' : Nat → Value} {ns' : Nat → List Int} (hf : ∀ k, k ∈ d :: footL t v → w.heap.size ≤ k) (ho : Only [] w wr) (hr : IRow wr hv held) (hw : ∀ q, hv.ownBlock = some q → w.heap.size ≤ q ∧ q ∉ d :: footL t v)
    (F' : IsFr W t g d cap xs' [] 2 h v' ns') (T : Turn wr W (d :: footL t v) (d :: footL t v')) :
    (∀ k, k ∈ d :: footL t v' → w.heap.size ≤ k) ∧ Only [] w W ∧ IRow W hv held ∧ (∀ q, hv.ownBlock = some q → w.heap.size ≤ q ∧ q ∉ d :: footL t v') :=
  ⟨fun k hk => (T.foot k hk).elim (hf k) (fun h => Nat.le_trans ho.size h), ho.trans' T.only (fun k h1 h2 => by have := hf k h2; omega), KRow.only hr T.only (fun q hq => (hw q hq).2),
    fun q hq => ⟨(hw q hq).1, fun hm => (T.foot q hm).elim (hw q hq).2 (fun h => by have := (KRow.at_ hr hq).2.1; omega)⟩⟩
end

/-- At the statement's loop. -/
def ShRel (w : World) (t g d cap n h len : Nat) (iv hv : Value) (wr : World) : Prop :=
  ∃ (k : Nat) (held : List Int), k ≤ len ∧ iv = .int .i64 k ∧ ShI w wr t g d cap n h hv held

set_option maxRecDepth 100000 in
set_option maxHeartbeats 4000000 in
theorem frameShares_is (a b : Int) (A : Option Addr) (len cp : Nat) (w : World) (ha : I64p a) (hb : I64p b) (hlen : len < 5900000000000) (hops : ∀ i, i < len → OpAt6 w A i) :
    Calls Try.prog 4 #[.int .i64 a, .int .i64 b, .slice A len cp] w fun e w' => e = .returned (.bool true) ∧ Below w.heap.size w w' := by
  have HOPS := hide hops
  obtain ⟨p, hp, hpe⟩ := wrapped (x := a) (m := 64) (by decide) (by decide)
  obtain ⟨q, hq, hqe⟩ := wrapped (x := b) (m := 8) (by decide) (by decide)
  have HPE := hide hpe
  have HQE := hide hqe
  clear hops hpe hqe ha hb
  obtain ⟨n, hn⟩ : ∃ n, p + 1 = n := ⟨_, rfl⟩
  obtain ⟨h, hh⟩ : ∃ h, q + 1 = h := ⟨_, rfl⟩
  have hn1 : 1 ≤ n := by omega
  have hn2 : n ≤ 64 := by omega
  have hh1 : 1 ≤ h := by omega
  have hh2 : h ≤ 8 := by omega
  have HP1 := hide (show wrap64 ((p : Int) + 1) = (n : Int) by rw [wrap64_own _ (by omega)]; omega)
  have HQ1 := hide (show wrap64 ((q : Int) + 1) = (h : Int) by rw [wrap64_own _ (by omega)]; omega)
  have HN2 := hide (show wrap64 ((n : Int) + 2) = (n : Int) + 2 from wrap64_own _ (by omega))
  clear hp hq hn hh
  go_enter Try.func4, Try.ntmps4
  go_wp2_with fail
  refine (awake6 _).mono ?_
  rintro e w1 ⟨rfl, ho1⟩
  have HO1 := hide ho1
  clear ho1
  go_wp2_with fail
  rw [HPE.out, HQE.out, HP1.out, HQ1.out, HN2.out]
  generalize wrap64 (a.tmod 64 + 64) = z1
  generalize wrap64 (b.tmod 8 + 8) = z2
  generalize a.tmod 64 = z3
  generalize b.tmod 8 = z4
  clear HPE HQE HP1 HQ1 HN2
  refine (new_ok ((n : Int) + 2) _ (by omega) (by omega)).mono ?_
  rintro e w2 ⟨g, d, rfl, hg, hd, hm, ho2⟩
  have HN := hide (fnew_ok hm (U8.replicate _) 2 h n ⟨hh1, hh2⟩ hn1 (by rw [List.length_replicate]; omega) 2 n h rfl rfl rfl)
  have HO2 := hide (HO1.out.trans ho2)
  have HD := hide (And.intro (Nat.le_trans HO1.out.size hg) (Nat.le_trans HO1.out.size hd))
  clear hm ho2 hg hd HO1
  go_wp2_with fail
  refine HN.out.mono ?_
  rintro e w3 ⟨t, v, xs, rfl, hF, hfo, ho3, hxl, hz⟩
  have HI := hide (show ShI w w3 t g d (256 * ((n : Int) + 2).toNat) n h (.slice none 0 0) [] from by
    have h2l : (nsNew 2 n n 2).length = n := by unfold nsNew; rw [if_pos rfl, List.length_replicate]
    have hfl : freeL (nsNew 2 n n) = (List.range n).map fun (i : Nat) => ((2 : Nat) : Int) + i := by
      rw [freeL_nine]
      unfold nsNew
      simp only [show ¬ ((4 : Nat) = 2) by decide, show ¬ ((5 : Nat) = 2) by decide, show ¬ ((6 : Nat) = 2) by decide, show ¬ ((7 : Nat) = 2) by decide, show ¬ ((8 : Nat) = 2) by decide, show ¬ ((9 : Nat) = 2) by decide, show ¬ ((10 : Nat) = 2) by decide, show ¬ ((11 : Nat) = 2) by decide, show ¬ ((12 : Nat) = 2) by decide, show ¬ ((4 : Nat) = 12) by decide, show ¬ ((5 : Nat) = 12) by decide, show ¬ ((6 : Nat) = 12) by decide, show ¬ ((7 : Nat) = 12) by decide, show ¬ ((8 : Nat) = 12) by decide, show ¬ ((9 : Nat) = 12) by decide, show ¬ ((10 : Nat) = 12) by decide, show ¬ ((11 : Nat) = 12) by decide, if_false, if_true, List.nil_append]
      refine List.map_congr_left fun i hi => ?_
      rw [if_pos (List.mem_range.1 hi)]
    have hgz : ∀ k, gb (nsNew 2 n n 2) k = 0 := fun k => by
      unfold nsNew
      rw [if_pos rfl]
      simp [gb, List.getD, List.getElem?_replicate]
      split <;> rfl
    refine ⟨xs, _, v, hF, fun k hk => ?_, HO2.out.trans' ho3 (fun k h1 h2 => by simp at h2; have := HD.out.2; omega), KRow.nil _ _ _ _, fun q hq => by simp [Value.ownBlock] at hq, ⟨⟨fun k hk => by rw [hgz]; decide, fun x hx => ?_, fun k hk _ => ?_, fun k hk _ => hz k (by rw [← h2l]; exact hk), Good.few' (by rw [hfl]; simp; omega) (by rw [h2l]; omega)⟩, h2l, hn2, fun k hk => by rw [hgz]; simp, fun x hx => by simp at hx, by simp, by rw [hfl]; simp⟩⟩
    · rcases List.mem_cons.1 hk with rfl | hk
      · exact HD.out.2
      · exact Nat.le_trans HO2.out.size (hfo k hk)
    · rw [hfl] at hx
      obtain ⟨k, hk, rfl⟩ := List.mem_map.1 hx
      exact ⟨k, by rw [h2l]; exact List.mem_range.1 hk, rfl, hgz k⟩
    · rw [h2l] at hk
      rw [hfl]
      have hinj : ∀ (m : Nat), k < m → ((List.range m).map fun (i : Nat) => ((2 : Nat) : Int) + i).count (((2 : Nat) : Int) + k) = 1 := by
        intro m
        induction m with
        | zero => intro h; omega
        | succ m ih =>
          intro h
          rw [List.range_succ, List.map_append, List.count_append]
          by_cases e : k = m
          · subst e
            rw [List.count_eq_zero.2 (fun hm => by
              obtain ⟨i, hi, he⟩ := List.mem_map.1 hm
              have := List.mem_range.1 hi
              omega)]
            simp
          · rw [ih (by omega)]
            have : ¬ (((2 : Nat) : Int) + m = ((2 : Nat) : Int) + k) := by omega
            rw [List.count_eq_zero.2 (fun hm => by
              obtain ⟨i, hi, he⟩ := List.mem_map.1 hm
              rw [List.mem_singleton] at hi
              omega)]
      exact hinj n hk)
  clear hF hfo ho3 hz hxl HN HD HO2
  generalize 256 * ((n : Int) + 2).toNat = cap at *
  go_wp2
  go_loopw [12, 62] (fun hv iv wr => ShRel w t g d cap n h len iv hv wr) (fun _ iv _ => len - (intOf iv).toNat)
  case atStart => exact ⟨0, [], Nat.zero_le _, rfl, HI.out⟩
  case round =>
    clear HI
    obtain ⟨k, held, hk, rfl, hI⟩ := hrel
    by_cases hlt : k < len
    · obtain ⟨qq, oo, kk, bb, cc, rfl, hqq, c0, c1, c2, -, -⟩ := HOPS.out k hlt
      obtain ⟨xs, ns, v, hF, hfo, ho, hrow, hown, hP⟩ := hI
      obtain ⟨j, hj, hje⟩ := wrapped (x := bb) (m := (h : Int)) (by omega) (by omega)
      have c0' := (ho.cell hqq (by simp)).trans c0
      have c1' := (ho.cell hqq (by simp)).trans c1
      have c2' := (ho.cell hqq (by simp)).trans c2
      have hh0 : ((h : Int) == 0) = false := beq_eq_false_iff_ne.2 (by omega)
      have hj8 : j < 8 := by omega
      have hjh : j < h := by omega
      obtain ⟨Ah, ch, hhv, hAh⟩ := hrow.form
      have hhl : held.length ≤ 64 := by have := hP.tot; have := hP.small; omega
      have hkl : (k : Int) < len := by omega
      have oA := hide ((Only.refl [] wr).alloc (.cells #[.int .i64 kk, .int .i64 bb, .int .i64 cc] 37))
      have hFA := hF.only oA.out (by simp) (by simp) (by simp)
      have hrA := KRow.only hrow oA.out (by simp)
      have hoA := ho.trans oA.out
      clear c0 c1 c2 hqq
      subst hhv
      by_cases hk0 : kk = 0
      · subst hk0
        by_cases he : (fillN ns j (4 + j)).length = 0
        · have hfull := hP.full hj8 he
          have HAL := hide ((alloc_full hFA j hjh hP.good.few he).mono (R' := fun e w' => e = .returned (.tuple #[.int .i64 0, .int .i64 2]) ∧ ShI w w' t g d cap n h (.slice Ah held.length ch) held) (by
            rintro e w4 ⟨h1, v4, R4, T4, k4⟩
            rw [fillN_full ns hj8 he] at R4
            have F4 := hFA.moved R4 T4 k4 rfl
            obtain ⟨q1, q2, q3, q4⟩ := ShI.turned hfo hoA hrA hown F4 (T4.more d)
            exact ⟨h1, _, _, _, F4, q1, q2, q3, q4, hP⟩))
          have hd1 : decide (held.length < n) = false := by rw [hfull]; simp
          have hd2 : decide ((held.length : Int) < (n : Int)) = false := by rw [hfull]; simp
          clear hF hfo ho hrow hown hP hFA hrA hoA oA hAh he hfull
          go_wp2_with (go_at_call 13; refine HAL.out.mono ?_; rintro e w4 ⟨rfl, hI4⟩; have HI4 := hide hI4; clear hI4)
          go_roundw
          case rel => exact ⟨k + 1, held, hlt, by go_num, HI4.out⟩
          case measure => simp [intOf]; omega
        · obtain ⟨kq, hkq, hx, hnot, hltn, hz0, hS⟩ := hP.alloc hj8 (by omega)
          have hfew' : (fillN ns j (4 + j)).length ≤ 4096 := by
            have h1 := freeL_has (fillN ns j) (fslot4 hj8)
            have h2 := (fillN_same ns hj8).2
            have h3 := hP.tot
            omega
          have hfit : 256 * (2 + kq) + 256 ≤ xs.length := by
            have := hF.fit
            rw [hP.len] at this
            omega
          have HAL := hide ((alloc_ok hFA j kq hjh hP.good.few (by omega) hfew' (by rw [hP.len]; exact hkq) (2 + (kq : Int)) (by rw [hx]; rfl) rfl).mono (R' := fun e w' => e = .returned (.tuple #[.int .i64 (2 + (kq : Int)), .int .i64 0]) ∧
              ∃ v4, IsFr w' t g d cap (zeroF xs (2 + kq)) [] 2 h v4 (allocN ns j kq) ∧ (∀ k, k ∈ d :: footL t v4 → w.heap.size ≤ k) ∧ Only [] w w' ∧ IRow w' (.slice Ah held.length ch) held ∧ (∀ q, (Value.slice Ah held.length ch).ownBlock = some q → w.heap.size ≤ q ∧ q ∉ d :: footL t v4)) (by
            rintro e w4 ⟨h1, v4, F4, T4⟩
            obtain ⟨q1, q2, q3, q4⟩ := ShI.turned hfo hoA hrA hown F4 T4
            exact ⟨h1, v4, F4, q1, q2, q3, q4⟩))
          have hd1 : decide (held.length < n) = true := by simpa using hltn
          have hd2 : decide ((held.length : Int) < (n : Int)) = true := by simp; exact hltn
          have HS := hide hS
          have HNOT := hide hnot
          have HFIT := hide hfit
          have hkq2 : (kq : Int) < n := by omega
          clear hF hfo ho hrow hown hP hFA hrA hoA oA hAh he hnot hltn hz0 hS hx hfew' hfit
          go_wp2_with (go_at_call 13; refine HAL.out.mono ?_; rintro e w4 ⟨rfl, v4, F4, f4, o4, r4, n4⟩; have HF4 := hide F4; have Hf4 := hide f4; have HO4 := hide o4; have HR4 := hide r4; have HN4 := hide n4; clear F4 f4 o4 r4 n4)
          go_loopw [103] (fun iv w5 => ∃ i : Nat, i ≤ held.length ∧ iv = .int .i64 i ∧ w5 = w4) (fun iv _ => held.length - (intOf iv).toNat)
          case atStart => exact ⟨0, Nat.zero_le _, rfl, rfl⟩
          case round =>
            obtain ⟨i, hi, rfl, rfl⟩ := hrel
            by_cases hil : i < held.length
            · obtain ⟨A4, cp4, e4, hA4⟩ := HR4.out.form
              injection e4 with e41 e42 e43
              obtain ⟨b4, eb4, -, -, hc4⟩ := hA4 (by omega)
              have hci := hc4 i hil
              have hAb : Ah = some ⟨b4, 0, none⟩ := e41.trans eb4
              have hne : ((2 : Int) + (kq : Int) == gb held i) = false := beq_eq_false_iff_ne.2 (fun e => HNOT.out (by
                have hm : held[i] ∈ held := List.getElem_mem hil
                have hg : gb held i = held[i] := by simp [gb, List.getD, List.getElem?_eq_getElem hil]
                rw [← hg, ← e] at hm
                exact hm))
              have hil2 : (i : Int) < held.length := by omega
              subst hAb
              generalize gb held i = y at *
              clear hA4 hc4 e41 e42 e43 eb4
              go_wp2
              go_roundw
              case rel => exact ⟨i + 1, hil, by go_num, trivial⟩
              case measure => simp [intOf]; omega
            · obtain rfl : i = held.length := by omega
              clear hil hi
              have HZ := hide (zero6_yes HF4.out.mem (2 + (kq : Int)) (2 + kq) (by omega) (by rw [zeroF_len HFIT.out]; exact HFIT.out) (fun j hj => by
                rw [gb_splice_zero _ _ _ HFIT.out, if_pos (by omega)]))
              have hd3 : decide ((2 : Int) + (kq : Int) < 2) = false := by simp; omega
              have hd4 : decide ((n : Int) + 2 ≤ 2 + (kq : Int)) = false := by simp; omega
              go_wp2_with fail
              refine HZ.out.mono ?_
              rintro e w6 ⟨rfl, ho6⟩
              have HO6 := hide ho6
              clear ho6 HZ
              -- the list grows
              have HRA := hide (show IRow (w6.alloc (.cells #[.int .i64 (2 + (kq : Int))] 3)) (.slice Ah held.length ch) held from KRow.only HR4.out ((HO6.out).alloc _) (by simp))
              have HNW := hide (show ∀ ad, some (⟨w6.heap.size, 0, none⟩ : Addr) = some ad → ∀ j u, (i64l [2 + (kq : Int)])[j]? = some u → (w6.alloc (.cells #[.int .i64 (2 + (kq : Int))] 3)).cell? (ad.add j) = some u from by
                rintro ad e j u hu
                injection e with e
                subst e
                have h0 : j = 0 := by
                  have := (List.getElem?_eq_some_iff.1 hu).1
                  simp [i64l] at this
                  exact this
                subst h0
                rw [add_at, (Blk.new w6 3 #[.int .i64 (2 + (kq : Int))]).cell]
                exact hu)
              have HBIG := hide (show held.length + 1 < 4000000000000 by omega)
              have HP7 := hide (fun (v7 : Value) (w7 : World) (h1 : IRow w7 v7 (held ++ [2 + (kq : Int)])) (h2 : Only (Value.slice Ah held.length ch).ownBlock.toList (w6.alloc (.cells #[.int .i64 (2 + (kq : Int))] 3)) w7)
                  (h3 : ∀ k, v7.ownBlock = some k → (Value.slice Ah held.length ch).ownBlock = some k ∨ (w6.alloc (.cells #[.int .i64 (2 + (kq : Int))] 3)).heap.size ≤ k) =>
                (show (∃ A7 c7, v7 = .slice A7 (held.length + 1) c7) ∧ IsFr w7 t g d cap (zeroF xs (2 + kq)) [] 2 h v4 (allocN ns j kq) ∧ Only [] w w7 ∧ IRow w7 v7 (held ++ [2 + (kq : Int)]) ∧ (∀ q, v7.ownBlock = some q → w.heap.size ≤ q ∧ q ∉ d :: footL t v4) from by
                  have hoo : Only (Value.slice Ah held.length ch).ownBlock.toList wr w7 := ((HO6.out.alloc _).mono (by simp)).trans h2
                  have hlt4 := HF4.out.lts
                  obtain ⟨A7, c7, e7, -⟩ := h1.form
                  refine ⟨⟨A7, c7, by rw [e7, List.length_append]; rfl⟩, HF4.out.only hoo (fun k hk hm => (HN4.out k (mem_own.1 hm)).2 (List.mem_cons_of_mem _ hk)) (fun hm => ?_) (fun hm => (HN4.out d (mem_own.1 hm)).2 (by simp)), HO4.out.trans' hoo (fun k h1 hm => by have := (HN4.out k (mem_own.1 hm)).1; omega), h1, fun q hq => ?_⟩
                  · exact (HR4.out.apart HF4.out.mem.mem (by decide) g (mem_own.1 hm)) rfl
                  · rcases h3 q hq with hq | hq
                    · exact HN4.out q hq
                    · have hs6 : w6.heap.size + 1 ≤ q := by simpa using hq
                      have hs4 := HO6.out.size
                      have hs0 := HO4.out.size
                      refine ⟨by omega, fun hm => ?_⟩
                      rcases List.mem_cons.1 hm with rfl | hm
                      · have := hlt4.2.1; omega
                      · have := hlt4.2.2 q hm; omega))
              have hkq3 : (kq : Int) ≤ 64 := by omega
              have hkq4 : (0 : Int) ≤ (kq : Int) := by omega
              clear hd1 hd2 HNOT
              go_wp2_with (first | (at_builtin; refine wpList_append_any rfl _ _ rfl (.slice Ah held.length ch) held rfl HRA.out (some ⟨w6.heap.size, 0, none⟩) 1 1 rfl (fun e => by cases e) [2 + (kq : Int)] rfl HNW.out HBIG.out ?_; intro v7 w7 h1 h2 h3; obtain ⟨⟨A7, c7, rfl⟩, F7, o7, r7, n7⟩ := HP7.out v7 w7 h1 h2 h3; have HF7 := hide F7; have HO7 := hide o7; have HR7 := hide r7; have HN7 := hide n7; clear h1 h2 h3 F7 o7 r7 n7))
              have HST := hide (store32_ok HF7.out.mem (256 * (2 + (kq : Int)) + 8) 1 (by omega) (by rw [zeroF_len HFIT.out]; have := HFIT.out; omega) (by omega) (by decide) (by decide))
              refine HST.out.mono ?_
              rintro e w8 ⟨rfl, ho8, hm8⟩
              obtain ⟨L5, hL5⟩ : ∃ L5, held.length + 1 = L5 := ⟨_, rfl⟩
              have HL5 := hide (show (held ++ [2 + (kq : Int)]).length = L5 from by rw [List.length_append]; exact hL5)
              have HI9 := hide (show ShI w w8 t g d cap n h (.slice A7 L5 c7) (held ++ [2 + (kq : Int)]) from by
                rw [← hL5]
                have e8 : (256 * (2 + (kq : Int)) + 8).toNat = 256 * (2 + kq) + 8 := by omega
                rw [e8] at hm8
                have hl8 : 256 * (2 + kq) + 8 + 4 ≤ (zeroF xs (2 + kq)).length := by rw [zeroF_len HFIT.out]; have := HFIT.out; omega
                refine ⟨putw (zeroF xs (2 + kq)) (256 * (2 + kq) + 8) 1, allocN ns j kq, v4, HF7.out.zeroed ho8 hm8 (U8.putw HF7.out.u8 _ (by decide) (by decide)) (length_putw _ _ _), Hf4.out, HO7.out.trans' ho8 (fun k h1 h2 => by simp at h2; have := Hf4.out d (by simp); omega), KRow.only HR7.out ho8 (fun q hq hm => by simp at hm; exact (HN7.out q hq).2 (by simp [hm])), HN7.out, HS.out _ (fun q hq hne hz i hi => ?_)⟩
                rw [gb_putw _ _ _ _ hl8, if_neg (by omega), if_neg (by omega), if_neg (by omega), if_neg (by omega), gb_splice_zero _ _ _ HFIT.out, if_neg (by omega)]
                exact hz i hi)
              rw [hL5]
              clear HST ho8 hm8 HF7 HO7 HR7 HN7 HP7 HRA HNW HBIG HF4 Hf4 HO4 HR4 HN4 HO6 HS HFIT hL5
              obtain ⟨xs9, ns9, v9, F9, f9, o9, r9, w9, P9⟩ := HI9.out
              have HUS := hide (used6 F9 P9 L5 HL5.out)
              have HFS := hide (fun m => free6 (F9.drewN m) P9 L5 HL5.out)
              have HI10 := hide (fun m => HI9.out.only ((Only.refl [] _).drewN m))
              have hln := P9.tot
              have hlb : ((L5 : Int)) ≤ 64 := by have h1 := P9.small; have h2 := P9.tot; have h3 := (show _ = L5 from HL5.out); omega
              clear F9 f9 o9 r9 w9 P9 HI9 hln
              go_wp2_with (first | (go_at_call 16; refine HUS.out.mono ?_; rintro e w' ⟨rfl, m9, rfl⟩) | (go_at_call 17; refine (HFS.out _).mono ?_; rintro e w' ⟨rfl, rfl⟩))
              go_roundw
              case rel => exact ⟨k + 1, _, hlt, by go_num, HI10.out _⟩
              case measure => simp [intOf]; omega
      · by_cases hk1 : kk = 1 ∧ 0 < held.length
        · obtain ⟨hk11, hpos⟩ := hk1
          subst hk11
          obtain ⟨ii, hii, hie⟩ := wrapped (x := cc) (m := (held.length : Int)) (by omega) (by omega)
          have hii' : ii < held.length := by omega
          have hfit0 : 256 * (2 + n) ≤ xs.length := by
            have := hF.fit
            rw [hP.len] at this
            exact this
          obtain ⟨kq, hkq, hxe, h1, hS⟩ := hP.decr hfit0 hj8 hii'
          obtain ⟨bh, eAh, -, hbh, hch⟩ := hAh hpos
          subst eAh
          have hgx : gb held ii = 2 + (kq : Int) := by
            rw [show gb held ii = held[ii] by simp [gb, List.getD, List.getElem?_eq_getElem hii'], hxe]
            rfl
          have hcx : (wr.alloc (.cells #[.int .i64 1, .int .i64 bb, .int .i64 cc] 37)).cell? ⟨bh, ii, none⟩ = some (.int .i64 (2 + (kq : Int))) := by
            rw [← hgx]
            exact (oA.out.cell hbh (by simp)).trans (hch ii hii')
          obtain ⟨n2, hn2⟩ : ∃ n2, giveN (upd ns 2 ((ns 2).set kq 0)) j (((2 : Nat) : Int) + kq) = n2 := ⟨_, rfl⟩
          rw [hn2] at hS
          have HDE := hide ((decr_free hFA j hjh (2 + (kq : Int)) kq rfl (by rw [hP.len]; exact hkq) h1 (n2 := n2) (fun w1 v1 F1 => by
              rw [← hn2]
              exact give_is w1 t g d cap _ [] 2 h v1 _ j _ F1 hj8 (fun o ho => by
                by_cases e : o = 2
                · subst e; rw [upd_same, List.length_set]; exact hP.good.few 2 (.inl rfl)
                · rw [upd_far _ _ e]; exact hP.good.few o ho)) (by rw [hS.len, hP.len])).mono (R' := fun e w' => e = .returned (.tuple #[.bool true, .int .i64 0]) ∧
              ∃ v4, IsFr w' t g d cap (zeroF xs (2 + kq)) [] 2 h v4 n2 ∧ (∀ k, k ∈ d :: footL t v4 → w.heap.size ≤ k) ∧ Only [] w w' ∧ IRow w' (.slice (some ⟨bh, 0, none⟩) held.length ch) held ∧ (∀ q, (Value.slice (some ⟨bh, 0, none⟩) held.length ch).ownBlock = some q → w.heap.size ≤ q ∧ q ∉ d :: footL t v4)) (by
            rintro e w4 ⟨h1, v4, F4, T4⟩
            obtain ⟨q1, q2, q3, q4⟩ := ShI.turned hfo hoA hrA hown F4 T4
            exact ⟨h1, v4, F4, q1, q2, q3, q4⟩))
          have HS := hide hS
          have hi0 : (0 : Int) ≤ (ii : Int) := by omega
          have hd0 : decide (0 < held.length) = true := by simpa using hpos
          have hd1 : decide (0 < (held.length : Int)) = true := by simp; omega
          have hl0 : ((held.length : Int) == 0) = false := beq_eq_false_iff_ne.2 (by omega)
          have HLE := hide (show held.length ≤ ch ∧ ch ≤ maxLen from by
            obtain ⟨A0, c0, e0, -, q1, q2⟩ := hrow.form2
            injection e0 with e01 e02 e03
            subst e03
            exact ⟨q1, q2⟩)
          clear hF hfo ho hrow hown hP hFA hrA hoA oA hAh hS hbh hch hgx hxe h1 hn2 hfit0 hk0
          go_wp2_with fail
          refine HDE.out.mono ?_
          rintro e w4 ⟨rfl, v4, F4, f4, o4, r4, n4⟩
          have hlow : ∀ q, q < w4.heap.size → q ∉ ([] : List Nat) := by simp
          have hbw4 : bh < w4.heap.size := (KRow.at_ r4 (q := bh) rfl).2.1
          have HNW1 := hide (show ∀ ad, some (⟨bh, 0, none⟩ : Addr) = some ad → ∀ j u, (i64l (held.take ii))[j]? = some u → (w4.drew.alloc (.cells #[] 3)).cell? (ad.add j) = some u from by
            rintro ad e j u hu
            injection e with e
            subst e
            have hj : j < ii := by
              have := (List.getElem?_eq_some_iff.1 hu).1
              rw [i64l_length, List.length_take] at this
              omega
            refine Lib.cell?_alloc_some _ ?_
            have h0 := IRow.news r4 ⟨bh, 0, none⟩ rfl j u (by
              rw [← hu]
              simp [i64l, hj])
            exact h0)
          obtain ⟨A', hA', hnw2⟩ : ∃ A' : Addr, (if ch = ii + 1 then (some ⟨bh, 0, none⟩ : Option Addr) else some ⟨bh, ii + 1, none⟩) = some A' ∧ Hid (∀ W, Only [] w4 W → ∀ ad, some A' = some ad → ∀ j u, (i64l (held.drop (ii + 1)))[j]? = some u → W.cell? (ad.add j) = some u) := by
            have hle := HLE.out
            by_cases hcn : ch = ii + 1
            · refine ⟨⟨bh, 0, none⟩, by rw [if_pos hcn], fun W _ ad _ j u hu => ?_⟩
              have h0 : held.drop (ii + 1) = [] := by apply List.eq_nil_of_length_eq_zero; rw [List.length_drop]; omega
              rw [h0] at hu
              simp [i64l] at hu
            · refine ⟨⟨bh, ii + 1, none⟩, by rw [if_neg hcn], fun W ho ad e j u hu => ?_⟩
              injection e with e
              subst e
              rw [add_at]
              have h0 := IRow.news (KRow.only r4 ho (by simp)) ⟨bh, 0, none⟩ rfl (ii + 1 + j) u (by
                rw [← hu]
                simp [i64l])
              rw [add_at, Nat.zero_add] at h0
              exact h0
          have HR0 := hide (show IRow (w4.drew.alloc (.cells #[] 3)) (.slice (some ⟨w4.heap.size, 0, none⟩) 0 0) [] from World.ownsRow_made w4.drew #[] 0 (Nat.zero_le _) (Nat.zero_le _) rfl)
          have HT1 := hide (show (held.take ii).length = ii by rw [List.length_take]; omega)
          have HT2 := hide (show (held.drop (ii + 1)).length = held.length - (ii + 1) by rw [List.length_drop])
          have HB1 := hide (show ([] : List Int).length + ii < 4000000000000 by simp; omega)
          have HB2 := hide (show ([] ++ held.take ii : List Int).length + (held.length - (ii + 1)) < 4000000000000 by simp; omega)
          have HN5 := hide (fun (v5 : Value) (w5 : World) (h1 : IRow w5 v5 ([] ++ held.take ii)) (h2 : Only (Value.slice (some ⟨w4.heap.size, 0, none⟩) 0 0).ownBlock.toList (w4.drew.alloc (.cells #[] 3)) w5)
              (h3 : ∀ k, v5.ownBlock = some k → (Value.slice (some ⟨w4.heap.size, 0, none⟩) 0 0).ownBlock = some k ∨ (w4.drew.alloc (.cells #[] 3)).heap.size ≤ k) => (show Only [] w4 w5 ∧ (∀ q, v5.ownBlock = some q → w4.heap.size ≤ q) from by
            refine ⟨(((Only.refl [] w4).drew).alloc _).trans' h2 (fun k h1 h2 => ?_), fun q hq => ?_⟩
            · simp [Value.ownBlock] at h2; omega
            · rcases h3 q hq with h | h
              · simp [Value.ownBlock] at h; omega
              · simp at h; omega))
          have HF4 := hide F4
          have Hf4 := hide f4
          have HO4 := hide o4
          have HR4 := hide r4
          have HN4 := hide n4
          have hil : (ii : Int) + 1 ≤ held.length := by omega
          have hilc : (ii : Int) ≤ held.length := by omega
          have hlc : (held.length : Int) ≤ ch := by have := HLE.out.1; omega
          have hcm : (ch : Int) ≤ 9223372036854775807 := by have := HLE.out.2; unfold maxLen at this; omega
          have hnc1 : ii ≤ ch := by have := HLE.out.1; omega
          have hnc2 : ii + 1 ≤ held.length := by omega
          have hnc3 : held.length ≤ ch := HLE.out.1
          have hnc5 : ii + 1 ≤ ch := by omega
          have hw10 : (0 : Int) ≤ (ii : Int) + 1 := by omega
          have hw11 : ((ii : Int) + 1).toNat = ii + 1 := by omega
          have hw9 : IntKind.i64.wrap ((ii : Int) + 1) = (ii : Int) + 1 := by rw [IntKind.wrap_i64]; omega
          clear F4 f4 o4 r4 n4 HDE hlow
          go_wp2
          go_region_law (first | (refine step_append_any rfl _ _ rfl (.slice (some ⟨w4.heap.size, 0, none⟩) 0 0) [] (by simp [Act.eval]) HR0.out (some ⟨bh, 0, none⟩) ii ch (by simp [Act.eval]) (fun e => by cases e) (held.take ii) HT1.out HNW1.out HB1.out ?_; intro v5 w5 h1 h2 h3; obtain ⟨g1, g2⟩ := HN5.out v5 w5 h1 h2 h3; have HI5 := hide h1; have HG5 := hide (And.intro g1 g2); clear h1 h2 h3 g1 g2) | (have hg := HI5; refine step_append_any rfl _ _ rfl v5 ([] ++ held.take ii) (by simp [Act.eval]) HI5.out (some A') (held.length - (ii + 1)) (ch - (ii + 1)) (by simp [Act.eval]) (fun e => by cases e) (held.drop (ii + 1)) HT2.out (hnw2.out _ HG5.out.1) HB2.out ?_; intro v6 w6 h1 h2 h3))
          all_goals
            obtain ⟨L6, hL6⟩ : ∃ L6, ([] ++ held.take ii ++ held.drop (ii + 1) : List Int).length = L6 := ⟨_, rfl⟩
            obtain ⟨A6, c6, rfl, -⟩ := h1.form
            rw [hL6] at h1 h3 ⊢
            have ho6 : Only [] w4 w6 := HG5.out.1.trans' h2 (fun k hk hm => by have := HG5.out.2 k (mem_own.1 hm); omega)
            have HL6 := hide (show (held.take ii ++ held.drop (ii + 1)).length = L6 from by rw [← hL6]; rfl)
            have HI9 := hide (show ShI w w6 t g d cap n h (.slice A6 L6 c6) (held.take ii ++ held.drop (ii + 1)) from by
              refine ⟨_, n2, v4, HF4.out.only ho6 (by simp) (by simp) (by simp), Hf4.out, HO4.out.trans ho6, h1, fun q hq => ?_, HS.out⟩
              have hq4 : w4.heap.size ≤ q := by
                rcases h3 q hq with hq | hq
                · exact HG5.out.2 q hq
                · exact Nat.le_trans HG5.out.1.size hq
              have hs0 := HO4.out.size
              have hlt4 := HF4.out.lts
              refine ⟨by omega, fun hm => ?_⟩
              rcases List.mem_cons.1 hm with rfl | hm
              · have := hlt4.2.1; omega
              · have := hlt4.2.2 q hm; omega)
            clear h1 h2 h3 ho6 hL6 HG5 HI5 HN5 HR0 HNW1 hnw2 HF4 Hf4 HO4 HR4 HN4 HS hw9 hw10 hw11 hA'
            obtain ⟨xs9, ns9, v9, F9, f9, o9, r9, w9, P9⟩ := HI9.out
            have HUS := hide (used6 F9 P9 L6 HL6.out)
            have HFS := hide (fun m => free6 (F9.drewN m) P9 L6 HL6.out)
            have HI10 := hide (fun m => HI9.out.only ((Only.refl [] _).drewN m))
            have hln := P9.tot
            have hlb : ((L6 : Int)) ≤ 64 := by have h1 := P9.small; have h2 := P9.tot; have h3 := (show _ = L6 from HL6.out); omega
            clear F9 f9 o9 r9 w9 P9 HI9 hln
            go_wp2_with (first | (go_at_call 16; refine HUS.out.mono ?_; rintro e w' ⟨rfl, m9, rfl⟩) | (go_at_call 17; refine (HFS.out _).mono ?_; rintro e w' ⟨rfl, rfl⟩))
            go_roundw
            case rel => exact ⟨k + 1, _, hlt, by go_num, HI10.out _⟩
            case measure => simp [intOf]; omega
        · have HI9 := hide (show ShI w (wr.alloc (.cells #[.int .i64 kk, .int .i64 bb, .int .i64 cc] 37)) t g d cap n h (.slice Ah held.length ch) held from ⟨_, _, _, hFA, hfo, hoA, hrA, hown, hP⟩)
          have hk0' : (kk == 0) = false := beq_eq_false_iff_ne.2 hk0
          clear hF hfo ho hrow hown hP hFA hrA hoA oA hAh
          by_cases hk11 : kk = 1
          · subst hk11
            have hL0 : held.length = 0 := by
              rcases Nat.eq_zero_or_pos held.length with h0 | h0
              · exact h0
              · exact absurd ⟨rfl, h0⟩ hk1
            have hL1 : decide (0 < held.length) = false := by rw [hL0]; rfl
            have hL2 : decide (0 < (held.length : Int)) = false := by rw [hL0]; rfl
            clear hL0
            clear hk0' hk0 hk1
            obtain ⟨xs9, ns9, v9, F9, f9, o9, r9, w9, P9⟩ := HI9.out
            have HUS := hide (used6 F9 P9 held.length rfl)
            have HFS := hide (fun m => free6 (F9.drewN m) P9 held.length rfl)
            have HI10 := hide (fun m => HI9.out.only ((Only.refl [] _).drewN m))
            have hln := P9.tot
            have hlb : ((held.length : Int)) ≤ 64 := by have h1 := P9.small; have h2 := P9.tot; have h3 := True.intro; omega
            clear F9 f9 o9 r9 w9 P9 HI9 hln
            go_wp2_with (first | (go_at_call 16; refine HUS.out.mono ?_; rintro e w' ⟨rfl, m9, rfl⟩) | (go_at_call 17; refine (HFS.out _).mono ?_; rintro e w' ⟨rfl, rfl⟩))
            go_roundw
            case rel => exact ⟨k + 1, _, hlt, by go_num, HI10.out _⟩
            case measure => simp [intOf]; omega
          · have hk11' : (kk == 1) = false := beq_eq_false_iff_ne.2 hk11
            clear hk0 hk1 hk11
            obtain ⟨xs9, ns9, v9, F9, f9, o9, r9, w9, P9⟩ := HI9.out
            have HUS := hide (used6 F9 P9 held.length rfl)
            have HFS := hide (fun m => free6 (F9.drewN m) P9 held.length rfl)
            have HI10 := hide (fun m => HI9.out.only ((Only.refl [] _).drewN m))
            have hln := P9.tot
            have hlb : ((held.length : Int)) ≤ 64 := by have h1 := P9.small; have h2 := P9.tot; have h3 := True.intro; omega
            clear F9 f9 o9 r9 w9 P9 HI9 hln
            go_wp2_with (first | (go_at_call 16; refine HUS.out.mono ?_; rintro e w' ⟨rfl, m9, rfl⟩) | (go_at_call 17; refine (HFS.out _).mono ?_; rintro e w' ⟨rfl, rfl⟩))
            go_roundw
            case rel => exact ⟨k + 1, _, hlt, by go_num, HI10.out _⟩
            case measure => simp [intOf]; omega
    · obtain rfl : k = len := by omega
      obtain ⟨xs, ns, v, hF, hfo, ho, hrow, hown, hP⟩ := hI
      have HRI := hide (right_is hF hP.good (by rw [hP.len]; omega))
      have HO := hide ho
      obtain ⟨Ah, ch, rfl, -⟩ := hrow.form
      clear hF hfo ho hrow hown hP
      go_wp2_with (go_at_call 18; refine HRI.out.mono ?_; rintro e w4 ⟨rfl, hb4⟩)
      go_ret
      exact ⟨rfl, (HO.out.below (Nat.le_refl _) (by simp)).trans (hb4.mono HO.out.size)⟩

theorem frameShares_walk {H : Type} {enc : TypeId × Value → H} (a b : Int) (A : Option Addr) (len cp : Nat) (w : World) {d : DataW H} (wa : (Lit.int .i64 a).wf = true) (wb : (Lit.int .i64 b).wf = true) (r : Rd enc Try.prog w 22 [.slice A len cp] d) :
    Calls Try.prog 4 #[.int .i64 a, .int .i64 b, .slice A len cp] w fun e w' => e = .returned (.bool true) ∧ Below w.heap.size w w' := by
  have h := r.ops6
  exact frameShares_is a b A len cp w (wf_i64p wa) (wf_i64p wb) h.1 h.2
end Go.Proofs.Ytffhcfpcjkccdaa
