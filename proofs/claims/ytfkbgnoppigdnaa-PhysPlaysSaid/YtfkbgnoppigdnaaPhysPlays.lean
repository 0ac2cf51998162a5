/-
  The walk of 'PhysPlays': it answers true, and turns nothing that was there.
-/
import Derived.Test.YtfkbgnoppigdnaaPhysPlaysWalk
namespace Go.Proofs.Ytfkbgnoppigdnaa
open Go.ChangeShapes Go.WideShapes Go.ChangeAt Go.RowKit
set_option linter.unusedVariables false

set_option maxRecDepth 100000 in
set_option maxHeartbeats 1000000 in
theorem physPlays_bad (f : Int) (A : Option Addr) (n c : Nat) (w : World) (hf : f < 1 ∨ 4096 < f) :
    Calls Try.prog 3 #[.int .i64 f, .slice A n c] w fun e w' => e = .returned (.bool true) ∧ Below w.heap.size w w' := by
  have HF := hide hf
  clear hf
  go_enter Try.func3, Try.ntmps3
  go_wp2_with fail
  refine (lives_ok _).mono ?_
  rintro e w1 ⟨rfl, ho1⟩
  go_wp2_with (first | (go_at_call 14; refine (new_bad _ _ HF.out).mono ?_; rintro e w' ⟨rfl, rfl⟩) | (go_at_call 15; refine (rnew_bad _ _ HF.out).mono ?_; rintro e w' ⟨rfl, rfl⟩))
  go_ret
  exact ⟨rfl, ho1.below (Nat.le_refl _) (by simp)⟩

/-- Behind a fork the copy is the one that goes on; stores to the first one don't reach it. -/
theorem fork_pair {wr w5 wB : World} {g d c g2 d2 c2 gx dx cx : Nat} {r r2 rx : List Value} {xs : List Int} (p : Pair wr g d c r gx dx cx rx xs) (hm : IsMem w5 g2 d2 c2 xs r2) (hg : wr.heap.size ≤ g2) (hd : wr.heap.size ≤ d2) (ho : Only [] wr w5) (hk : Only [d] w5 wB) :
    Pair wB g2 d2 c2 r2 gx dx cx rx xs := by
  have h1 := p.mem.lt
  have h2 := p.ref.lt
  exact ⟨hm.only hk (by simp; omega) (by simp; omega), (p.ref.only ho (by simp) (by simp)).only hk (by simpa using p.gd) (by simpa using p.ne.symm), p.u8, by omega⟩

/-- The loop: both memories hold the same bytes; what was there at the beginning is as it was. -/
def PlaysRel (w : World) (n N gx dx cx : Nat) (rx : List Value) (m i : Value) (wr : World) : Prop :=
  ∃ (k g d c : Nat) (r : List Value) (xs : List Int), k ≤ n ∧ i = .int .i64 k ∧ m = .pointer (some ⟨g, 0, none⟩) ∧ Pair wr g d c r gx dx cx rx xs ∧ xs.length = 256 * N ∧ w.heap.size ≤ d ∧ w.heap.size ≤ dx ∧ Only [] w wr

set_option maxRecDepth 100000 in
set_option maxHeartbeats 4000000 in
theorem physPlays_good (f : Int) (A : Option Addr) (n c : Nat) (w : World) (hn : n ≤ 9223372036854775807) (hops : ∀ i, i < n → OpAt w A i) (hf1 : 1 ≤ f) (hf2 : f ≤ 4096) :
    Calls Try.prog 3 #[.int .i64 f, .slice A n c] w fun e w' => e = .returned (.bool true) ∧ Below w.heap.size w w' := by
  have HOPS := hide hops
  clear hops
  go_enter Try.func3, Try.ntmps3
  go_wp2_with fail
  refine (lives_ok _).mono ?_
  rintro e w1 ⟨rfl, ho1⟩
  go_wp2_with fail
  refine (new_ok f _ hf1 hf2).mono ?_
  rintro e w2 ⟨g, d, rfl, hg, hd, hm, ho2⟩
  go_wp2_with fail
  refine (rnew_ok f _ hf1 hf2).mono ?_
  rintro e w3 ⟨gx, dx, rfl, hgx, hdx, hx, ho3⟩
  have HP := hide (⟨hm.only ho3 (by simp) (by simp), hx, U8.replicate _, by have := hm.lt.2; omega⟩ : Pair w3 g d (256 * f.toNat) [] gx dx (256 * f.toNat) [] (List.replicate (256 * f.toNat) 0))
  have HO := hide ((ho1.trans ho2).trans ho3)
  have HD := hide (show w.heap.size ≤ d ∧ w.heap.size ≤ dx from by have := ho1.size; have := ho2.size; omega)
  have HL := hide (List.length_replicate (n := 256 * f.toNat) (a := (0 : Int)))
  clear hm hx ho1 ho2 ho3 hg hd hgx hdx
  go_wp2
  go_loopw [5, 9] (fun m i wr => PlaysRel w n f.toNat gx dx (256 * f.toNat) [] m i wr) (fun _ i _ => n - (intOf i).toNat)
  case atStart => exact ⟨0, g, d, _, _, _, Nat.zero_le _, rfl, rfl, HP.out, HL.out, HD.out.1, HD.out.2, HO.out⟩
  case round =>
    clear HP HO HD HL
    obtain ⟨k, g, d, cm, rm, xs, hk, rfl, rfl, p, hl, hd, hdx, ho⟩ := hrel
    have HL := hide hl
    have HDD := hide (And.intro hd hdx)
    have HO := hide ho
    by_cases hlt : k < n
    · obtain ⟨q, o, kk, a, b, x, y, B, bn, bc, zs, rfl, hq, c0, c1, c2, c3, c4, c5, x0, x1, y0, y1, hs, hu, hB0, hbn, hbl⟩ := HOPS.out k hlt
      have e0 := (ho.cell hq (by simp)).trans c0
      have e1 := (ho.cell hq (by simp)).trans c1
      have e2 := (ho.cell hq (by simp)).trans c2
      have e3 := (ho.cell hq (by simp)).trans c3
      have e4 := (ho.cell hq (by simp)).trans c4
      have e5 := (ho.cell hq (by simp)).trans c5
      clear c0 c1 c2 c3 c4 c5
      by_cases hkk : kk = 11
      · subst hkk
        have HFK := hide (fork_ok p.mem)
        have H1 := hide fun w5 (k : Only [] wr w5) => mem_s32 (p.mem.only k (by simp) (by simp)) a x x0 x1
        have HP := hide p
        have hdl := p.mem.lt
        have hql : q < wr.heap.size := Nat.lt_of_lt_of_le hq ho.size
        have hqd : q ≠ d := by omega
        clear p hl hd hdx ho hs hu hB0 hbn hbl x0 x1 y0 y1 hq e2 e4 e5
        go_wp2_with fail
        refine HFK.out.mono ?_
        rintro e w5 ⟨g2, d2, c2, r2, rfl, hg2, hd2, hm2, ho5⟩
        have HM2 := hide hm2
        have HG2 := hide (And.intro hg2 hd2)
        have HO5 := hide ho5
        have f1 := (ho5.cell hql (by simp)).trans e1
        have f3 := (ho5.cell hql (by simp)).trans e3
        have HC := hide (fun (w6 : World) (kk : Only [d] w5 w6) => (show w6.cell? ⟨q, o + k * 6 + 1, none⟩ = some (.int .i64 a) ∧ w6.cell? ⟨q, o + k * 6 + 3, none⟩ = some (.int .u32 x) from
          ⟨(kk.cell (Nat.lt_of_lt_of_le hql ho5.size) (by simpa using hqd)).trans f1, (kk.cell (Nat.lt_of_lt_of_le hql ho5.size) (by simpa using hqd)).trans f3⟩))
        clear e0 e1 e3 hm2 hg2 hd2 ho5
        go_wp2_with fail
        go_region_held3 (fun w' => w'.cell? ⟨q, o + k * 6 + 1, none⟩ = some (.int .i64 a) ∧ w'.cell? ⟨q, o + k * 6 + 3, none⟩ = some (.int .u32 x)) (first | go_keep | exact HC.out _ kA) (first | (go_at_call 17; refine (H1.out _ (HO5.out.trans (by repeat (first | exact Only.refl _ _ | apply Only.drew)))).mono ?_; rintro e wA ⟨rfl, hoA, hmA⟩; have kA : Only [d] w5 wA := (Only.trans (by repeat (first | exact Only.refl _ _ | apply Only.drew)) hoA)))
        have HZ := hide (mem_zero hmA 0)
        have HKA := hide kA
        clear hmA hoA kA f1 f3 hdl hql hqd
        go_wp2_with (go_at_call 18; refine HZ.out.mono ?_; rintro e wB ⟨rfl, hoB, hmB⟩; have HKB := hide hoB; clear hoB hmB)
        go_roundw
        case rel => exact ⟨k + 1, g2, d2, c2, r2, xs, hlt, by go_num, rfl, fork_pair HP.out HM2.out HG2.out.1 HG2.out.2 HO5.out (HKA.out.trans HKB.out), HL.out, Nat.le_trans HO.out.size HG2.out.2, HDD.out.2, (HO.out.trans HO5.out).trans' (HKA.out.trans HKB.out) (by intro k hk hk'; have := HDD.out; simp at hk'; omega)⟩
        case measure => simp [intOf]; omega
      · have h11 : (kk == 11) = false := beq_eq_false_iff_ne.2 hkk
        have HS := hide (step_any p kk a b x y B bn bc zs x0 x1 y0 y1 (hs.only ho (by simp)) hu hB0 hbn (fun hp q hq => by have := hbl hp q hq; have := HDD.out; have := ho.size; omega))
        clear p hl hd hdx ho hs hu hB0 hbn hbl x0 x1 y0 y1 hkk
        go_wp2_with (go_at_call 19; refine HS.out.mono ?_; rintro e w5 ⟨rfl, ys, hl, hp, ho5⟩; have HQ := hide (And.intro hl (And.intro hp ho5)); clear hl hp ho5)
        go_roundw
        case rel => exact ⟨k + 1, g, d, cm, rm, ys, hlt, by go_num, rfl, HQ.out.2.1, HQ.out.1.trans HL.out, HDD.out.1, HDD.out.2, HO.out.trans' HQ.out.2.2 (by intro k hk hk'; have := HDD.out; simp at hk'; omega)⟩
        case measure => simp [intOf]; omega
    · have hbig := p.mem.big
      have HR := read_ok p.mem 0 (256 * f) (by decide) (by omega) (by rw [HL.out]; omega)
      have hxs : (xs.drop (Int.toNat 0)).take (256 * f).toNat = xs := by
        rw [show Int.toNat 0 = 0 from rfl, List.drop_zero]
        exact List.take_of_length_le (by rw [HL.out]; omega)
      rw [hxs] at HR
      replace HR := hide HR
      have HP := hide p
      have HFR := hide fun w5 (k : Only [] wr w5) => frames_is (p.mem.only k (by simp) (by simp))
      have HX := hide fun w5 (k : Only [] wr w5) => (p.ref.only k (by simp) (by simp)).cell0
      have HSX := hide fun w5 (k : Only [] wr w5) => (show Sees w5 (some ⟨dx, 0, none⟩) xs.length xs from ⟨rfl, fun _ => ⟨dx, 0, rfl, (p.ref.only k (by simp) (by simp)).lt.2, fun i hi => by rw [Nat.zero_add]; exact (p.ref.only k (by simp) (by simp)).byte hi⟩⟩)
      have HFF := hide (show (xs.length : Int) / 256 = f by rw [HL.out]; omega)
      clear p hl hd hdx ho hxs
      go_wp2_with fail
      refine HR.out.mono ?_
      rintro e w5 ⟨v, rfl, hf, ho5⟩
      obtain ⟨db, cb, rfl, hdb, hs⟩ := hf.sees
      have hcx := HX.out _ ho5
      have HSM := hide (same_yes w5 _ _ xs.length cb (256 * f.toNat) xs hs (HSX.out _ ho5) (by omega))
      have HO5 := hide ho5
      clear hf hs ho5 hdb
      go_wp2_with fail
      refine HSM.out.mono ?_
      rintro e w6 ⟨rfl, ho6⟩
      have HF6 := hide (HFR.out _ (HO5.out.trans ho6))
      rw [HFF.out] at HF6
      have HO6 := hide (HO.out.trans (HO5.out.trans ho6))
      clear ho6 hcx
      go_wp2_with fail
      refine HF6.out.mono ?_
      rintro e w7 ⟨rfl, rfl⟩
      go_wp2
      go_ret
      exact ⟨by simp, HO6.out.below (Nat.le_refl _) (by simp)⟩
theorem physPlays_walk {H : Type} {enc : TypeId × Value → H} {d : DataW H} (f : Int) (A : Option Addr) (n c : Nat) (w : World) (h : Rd enc Try.prog w 22 [.slice A n c] d) :
    Calls Try.prog 3 #[.int .i64 f, .slice A n c] w fun e w' => e = .returned (.bool true) ∧ Below w.heap.size w w' := by
  obtain ⟨hn, hops⟩ := Rd.ops1 h
  by_cases hf : f < 1 ∨ 4096 < f
  · exact physPlays_bad f A n c w hf
  · exact physPlays_good f A n c w hn hops (by omega) (by omega)
end Go.Proofs.Ytfkbgnoppigdnaa
