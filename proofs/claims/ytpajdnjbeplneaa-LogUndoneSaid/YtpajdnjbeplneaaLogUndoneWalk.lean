/-
  The walk of 'LogUndone'.
-/
import Derived.Test.YtpajdnjbeplneaaLgStart
import Derived.Test.YtpajdnjbeplneaaLgOpsRd
namespace Go.Proofs.Ytpajdnjbeplneaa
open Go.ChangeShapes Go.WideShapes Go.ChangeAt Go.RowKit Go.Maps
set_option linter.unusedVariables false
/-- A log made behind w0, in the law's own struct; xs are other blocks. -/
def UL (w0 w : World) (gw gd g gr gx N a sz : Nat) (S : Option PG) (p : LP) (k : Nat) (xs : List Nat) : Prop :=
  ∃ F, LgP w g gd N a sz S p k F ∧ (∀ q ∈ F, w0.heap.size ≤ q) ∧ Blk w gw 37 #[.pointer (some ⟨gd, 0, none⟩), .pointer (some ⟨g, 0, none⟩), .pointer (some ⟨gr, 0, none⟩), .pointer (some ⟨gx, 0, none⟩)] ∧ gw ∉ F ∧ w0.heap.size ≤ gw ∧ Only [] w0 w ∧ ∀ q ∈ xs, q ∉ F ∧ q < w.heap.size
/-- What a call left alone. -/
def LeftU (w0 w W w' : World) (gw : Nat) (xs : List Nat) : Prop := ∃ T, Only T W w' ∧ gw ∉ T ∧ (∀ q ∈ xs, q ∉ T) ∧ ∀ q ∈ T, w0.heap.size ≤ q ∧ q < w.heap.size
section
variable {w0 w w' : World} {gw gd g gr gx N a sz : Nat} {S S' : Option PG} {p p' : LP} {k k' : Nat} {T xs : List Nat}
theorem UL.quiet (h : UL w0 w gw gd g gr gx N a sz S p k xs) (ho : Only [] w w') : UL w0 w' gw gd g gr gx N a sz S p k xs := by
  obtain ⟨F, h1, h2, h3, h4, h5, h6, h7⟩ := h
  exact ⟨F, h1.quiet ho, h2, h3.only ho (by simp), h4, h5, h6.trans ho, fun q hq => ⟨(h7 q hq).1, Nat.lt_of_lt_of_le (h7 q hq).2 ho.size⟩⟩
theorem UL.add (h : UL w0 w gw gd g gr gx N a sz S p k xs) (ho : Only [] w w') {ys : List Nat} (hy : ∀ q ∈ ys, w.heap.size ≤ q ∧ q < w'.heap.size) : UL w0 w' gw gd g gr gx N a sz S p k (ys ++ xs) := by
  obtain ⟨F, h1, h2, h3, h4, h5, h6, h7⟩ := h
  refine ⟨F, h1.quiet ho, h2, h3.only ho (by simp), h4, h5, h6.trans ho, fun q hq => ?_⟩
  rcases List.mem_append.1 hq with e | e
  · exact ⟨fun hm => by have := h1.lt q hm; have := hy q e; omega, (hy q e).2⟩
  · exact ⟨(h7 q e).1, Nat.lt_of_lt_of_le (h7 q e).2 ho.size⟩
theorem UL.c1 (h : UL w0 w gw gd g gr gx N a sz S p k xs) : w.cell? ⟨gw, 1, none⟩ = some (.pointer (some ⟨g, 0, none⟩)) := by
  obtain ⟨F, h1, h2, h3, h4, h5, h6⟩ := h
  exact h3.cell 1
theorem UL.only (h : UL w0 w gw gd g gr gx N a sz S p k xs) : Only [] w0 w := by
  obtain ⟨F, h1, h2, h3, h4, h5, h6, h7⟩ := h
  exact h6
theorem UL.lgp (h : UL w0 w gw gd g gr gx N a sz S p k xs) : ∃ F, LgP w g gd N a sz S p k F := by
  obtain ⟨F, h1, _⟩ := h
  exact ⟨F, h1⟩
theorem UL.calls {f : Nat} {args : Array Value} {R : Ending → Prop} {W : World} (h : UL w0 w gw gd g gr gx N a sz S p k xs) (ho : Only [] w W) (hc : ∀ F, LgP W g gd N a sz S p k F → Calls Try.prog f args W fun e w' => R e ∧ DidP W w' g gd N a sz S' p' k' F) :
    Calls Try.prog f args W fun e w' => R e ∧ UL w0 w' gw gd g gr gx N a sz S' p' k' xs ∧ LeftU w0 w W w' gw xs := by
  obtain ⟨F, h1, h2, h3, h4, h5, h6, h7⟩ := h
  refine (hc F (h1.quiet ho)).mono ?_
  rintro e w' ⟨hr, F', hT, hL⟩
  refine ⟨hr, ⟨F', hL, fun q hq => ?_, (h3.only ho (by simp)).only hT.1 h4, fun hm => ?_, h5, (h6.trans ho).trans' hT.1 (fun q hq hm => by have := h2 q hm; omega), fun q hq => ⟨fun hm => ?_, ?_⟩⟩, F, hT.1, h4, fun q hq => (h7 q hq).1, fun q hq => ⟨h2 q hq, h1.lt q hq⟩⟩
  · rcases hT.2 q hq with e | e
    · exact h2 q e
    · exact Nat.le_trans h6.size (Nat.le_trans ho.size e)
  · rcases hT.2 gw hm with e | e
    · exact h4 e
    · have := h3.lt; have := ho.size; omega
  · rcases hT.2 q hm with e | e
    · exact (h7 q hq).1 e
    · have := (h7 q hq).2; have := ho.size; omega
  · have := (h7 q hq).2; have := ho.size; have := hT.1.size; omega
theorem UL.write (h : UL w0 w gw gd g gr gx N a sz S p k xs) (hst : p.st = 0) {W : World} (ho : Only [] w W) (n : Int) (d : Nat) (zs : List Int) (hz : zs.length = 512) (hu : U8 zs) (hb : Blk W d 5 (u8l zs).toArray) :
    Calls Try.prog 9 #[.pointer (some ⟨g, 0, none⟩), .int .i64 n, .slice (some ⟨d, 0, none⟩) 512 512] W fun e w' => (∃ x : Int, e = .returned (.int .i64 x)) ∧ UL w0 w' gw gd g gr gx N a sz S (writeP N a sz p n zs) k xs ∧ LeftU w0 w W w' gw xs :=
  h.calls ho fun F hL => lg_write_any hL hst n d 0 512 zs hz hu (fun i hi => by rw [Nat.zero_add, hb.cell]; have := u8l_get zs [] i (by omega); rwa [List.append_nil] at this) hb.lt
end
theorem wrap64_id (x : Int) (h0 : -9223372036854775808 ≤ x) (h1 : x ≤ 9223372036854775807) : wrap64 x = x := by
  unfold wrap64
  omega
theorem size20 (size : Int) : ∃ sn : Nat, 2 ≤ sn ∧ sn ≤ 21 ∧ wrap64 ((wrap64 (size.tmod 20 + 20)).tmod 20 + 2) = sn := by
  have h1 : size.tmod 20 < 20 := Int.tmod_lt_of_pos size (by decide)
  have h2 : -20 < size.tmod 20 := Int.lt_tmod_of_pos size (by decide)
  rw [wrap64_id (size.tmod 20 + 20) (by omega) (by omega), Int.tmod_eq_emod_of_nonneg (by omega), wrap64_id _ (by omega) (by omega)]
  exact ⟨((size.tmod 20 + 20) % 20 + 2).toNat, by omega, by omega, by omega⟩
set_option maxRecDepth 100000 in
set_option maxHeartbeats 3000000 in
theorem logUndone_walk (size : Int) (A : Option Addr) (n c : Nat) (A2 : Option Addr) (n2 c2 : Nat) (w : World) (hn : n ≤ 4398046511104) (hops : ∀ i, i < n → OpAt16 w A i) (hn2 : n2 ≤ 4398046511104) (hops2 : ∀ i, i < n2 → OpAt16 w A2 i) :
    Calls Try.prog 4 #[.int .i64 size, .slice A n c, .slice A2 n2 c2] w fun e w' => e = .returned (.bool true) ∧ Below w.heap.size w w' := by
  have HOP := hide hops
  have HOP2 := hide hops2
  clear hops hops2
  go_enter Try.func4, Try.ntmps4
  go_wp2_with fail
  obtain ⟨sn, hs1, hs2, hE⟩ := size20 size
  rw [hE]
  clear hE
  have hw8 : wrap64 ((sn : Int) + 8) = ((sn + 8 : Nat) : Int) := by rw [wrap64_id _ (by omega) (by omega)]; omega
  rw [hw8]
  have HW8 := hide hw8
  clear hw8
  refine (start_is ((sn + 8 : Nat) : Int) 0 (sn : Int) w).mono ?_
  rintro e w1 hst
  unfold Started at hst
  rw [if_pos (⟨by omega, by omega, decide_eq_true (by rw [Int.toNat_natCast]; omega)⟩ : 1 ≤ ((sn + 8 : Nat) : Int) ∧ ((sn + 8 : Nat) : Int) ≤ 4096 ∧ mayL ((sn + 8 : Nat) : Int).toNat 0 (sn : Int) = true)] at hst
  obtain ⟨gw, gd, g, gr, gx, F, G, rfl, hB⟩ := hst
  rw [Int.toNat_natCast, Int.toNat_natCast, show (0 : Int).toNat = 0 from rfl] at hB
  generalize hN : sn + 8 = N at hB HW8
  have HP0 := hide (show ∃ p : LP, p.st = 0 ∧ p.nx = 0 ∧ UL w w1 gw gd g gr gx N 0 sn none p 2 [] from ⟨_, rfl, rfl, F, hB.lg, hB.newF, hB.wd, hB.gwF.1, hB.neww, hB.only, by simp⟩)
  clear hB
  have HN := hide hN
  clear hN
  go_wp2_with fail
  have hnb : (n : Int) ≤ 4398046511104 := by omega
  go_loopw [36, 11] (fun iv _ wr => ∃ i : Nat, i ≤ n ∧ iv = .int .i64 i ∧ ∃ p : LP, p.st = 0 ∧ p.nx = 0 ∧ UL w wr gw gd g gr gx N 0 sn none p 2 []) (fun iv _ _ => n - (intOf iv).toNat)
  case atStart => exact ⟨0, Nat.zero_le _, rfl, HP0.out⟩
  case round =>
    clear HP0
    obtain ⟨i, hi, rfl, p, hp1, hp2, hU⟩ := hrel
    have HU := hide hU
    have HP := hide (And.intro hp1 hp2)
    by_cases hlt : i < n
    · have hltI : (i : Int) < n := by omega
      obtain ⟨q, o, kd, x, b, mo, rfl, hq, k0, k1, k2, k3, hb, hx, hm⟩ := HOP.out i hlt
      have ho := hU.only
      have c0 := (ho.cell hq (by simp)).trans k0
      have c1 := (ho.cell hq (by simp)).trans k1
      have c2 := (ho.cell hq (by simp)).trans k2
      have c3 := (ho.cell hq (by simp)).trans k3
      have oA : Only [] wr (wr.alloc (.cells #[.int .i64 kd, .int .i64 x, .int .u8 b, .int .i64 mo] 27)) := (Only.refl [] wr).alloc _
      have hbA := Blk.new wr 27 #[.int .i64 kd, .int .i64 x, .int .u8 b, .int .i64 mo]
      have HX := hide (fun (W : World) (h1 : W.cell? ⟨gw, 1, none⟩ = some (.pointer (some ⟨g, 0, none⟩))) (h2 : Blk W wr.heap.size 27 #[.int .i64 kd, .int .i64 x, .int .u8 b, .int .i64 mo]) => (show W.cell? ⟨gw, 1, none⟩ = some (.pointer (some ⟨g, 0, none⟩)) ∧ W.cell? ⟨wr.heap.size, 1, none⟩ = some (.int .i64 x) ∧ W.cell? ⟨wr.heap.size, 2, none⟩ = some (.int .u8 b) from ⟨h1, h2.cell 1, h2.cell 2⟩))
      have HXQ := hide (fun (W : World) (ho : Only [] (wr.alloc (.cells #[.int .i64 kd, .int .i64 x, .int .u8 b, .int .i64 mo] 27)) W) => HX.out W ((hU.quiet (oA.trans ho)).c1) (hbA.only ho (by simp)))
      have HF := hide (fun (W : World) => filled512 b W hb.1 hb.2)
      have HWR := hide (fun (W : World) (ho : Only [] (wr.alloc (.cells #[.int .i64 kd, .int .i64 x, .int .u8 b, .int .i64 mo] 27)) W) (d : Nat) (hd : Blk W d 5 (u8l (fill3 512 b)).toArray) => (hU.write hp1 (oA.trans ho) x d (fill3 512 b) (fill3_length _ _) (u8_fill3 _ _) hd).mono (R' := fun e w' => (∃ y : Int, e = .returned (.int .i64 y)) ∧ (w'.cell? ⟨gw, 1, none⟩ = some (.pointer (some ⟨g, 0, none⟩)) ∧ w'.cell? ⟨wr.heap.size, 1, none⟩ = some (.int .i64 x) ∧ w'.cell? ⟨wr.heap.size, 2, none⟩ = some (.int .u8 b)) ∧ ∃ p' : LP, p'.st = 0 ∧ p'.nx = 0 ∧ UL w w' gw gd g gr gx N 0 sn none p' 2 []) (fun e w' ⟨e1, e2, T, e3, e4, _, e5⟩ => ⟨e1, HX.out w' e2.c1 ((hbA.only ho (by simp)).only e3 (fun hm => by have := (e5 _ hm).2; omega)), _, by rw [(writeP_st N 0 sn p x _).1]; exact hp1, by rw [(writeP_st N 0 sn p x _).2.1]; exact hp2, e2⟩))
      generalize fill3 512 b = fz at *
      clear hU hp1 hp2 ho k0 k1 k2 k3 hq oA hbA
      go_wp2_with fail
      generalize wr.alloc (.cells #[.int .i64 kd, .int .i64 x, .int .u8 b, .int .i64 mo] 27) = W1 at *
      have kk : Only [] W1 W1.drew := (Only.refl _ _).drew
      have zz := HXQ.out _ kk
      go_region_held3 (fun w' => w'.cell? ⟨gw, 1, none⟩ = some (.pointer (some ⟨g, 0, none⟩)) ∧ w'.cell? ⟨wr.heap.size, 1, none⟩ = some (.int .i64 x) ∧ w'.cell? ⟨wr.heap.size, 2, none⟩ = some (.int .u8 b)) (first | go_keep | exact HXQ.out _ kk | exact z3) (first | (go_at_call 10; refine (HF.out _).mono ?_; rintro e w2 ⟨d, rfl, -, hd, o2⟩; have kk2 := kk.trans ((show Only [] W1.drew _ from by repeat (first | exact Only.refl _ _ | apply Only.drew | apply Only.drewN)).trans o2); have HD := hide hd; clear hd o2 kk; have kk := kk2; clear kk2) | (go_at_call 9; refine (HWR.out _ (kk.trans (by repeat (first | exact Only.refl _ _ | apply Only.drew | apply Only.drewN))) _ HD.out).mono ?_; rintro e w3 ⟨⟨y, rfl⟩, z3, hu⟩; have HU3 := hide hu; clear hu))
      all_goals
        go_wp2
        go_roundw
        case rel => exact ⟨i + 1, hlt, by go_num, HU3.out⟩
        case measure => simp [intOf]; omega
    · obtain rfl : i = n := by omega
      have e8 : IntKind.i64.wrap ((sn : Int) + 8) = (sn : Int) + 8 := IntWalk.i64_in _ (by omega)
      have hN8 : ((N : Nat) : Int) = (sn : Int) + 8 := by have := HN.out; omega
      have HXQ := hide (fun (W : World) (ho : Only [] wr W) => (hU.quiet ho).c1)
      have HT := hide (fun (W : World) (ho : Only [] wr W) => (hU.calls (R := fun e => e = .returned (.string (strB (tellF p.G p.plat p.l N 0 sn N)))) ho (fun F hL => tell_is hL (by decide))).mono (R' := fun e w' => e = .returned (.string (strB (tellF p.G p.plat p.l N 0 sn N))) ∧ UL w w' gw gd g gr gx N 0 sn none p (2 + N) []) (fun e w' ⟨e1, e2, _⟩ => ⟨e1, e2⟩))
      rw [hN8] at HT
      clear hU hp1 hp2 hN8
      go_wp2_with fail
      have kk : Only [] wr wr.drew := (Only.refl _ _).drew
      have zz := HXQ.out _ kk
      go_region_held3 (fun w' => w'.cell? ⟨gw, 1, none⟩ = some (.pointer (some ⟨g, 0, none⟩))) (first | go_keep | exact HXQ.out _ kk | exact z2 | exact z3) (first | (go_at_call 11; refine (HT.out _ (kk.trans (by repeat (first | exact Only.refl _ _ | apply Only.drew | apply Only.drewN)))).mono ?_; rintro e w2 ⟨rfl, hu⟩; have z2 := hu.c1; have HD2 := hide (fun W (ho : Only [] w2 W) => (show Calls Try.prog 12 #[.pointer (some ⟨g, 0, none⟩)] W (fun e w' => ∃ v', e = .returned v' ∧ IRow w' v' (p.G.map (·.1)) ∧ (∀ q, v'.ownBlock = some q → w2.heap.size ≤ q) ∧ Only [] W w') from by obtain ⟨F, hL⟩ := (hu.quiet ho).lgp; exact (lg_dirty hL).mono (fun e w' ⟨v', e1, e2, e3, e4⟩ => ⟨v', e1, e2, fun q hq => Nat.le_trans ho.size (e3 q hq), e4⟩))); have HU2 := hide hu; clear hu) | (go_at_call 12; refine (HD2.out _ (by repeat (first | exact Only.refl _ _ | apply Only.drew | apply Only.drewN))).mono ?_; rintro e w3 ⟨v3, rfl, r3, n3, o3⟩; obtain ⟨A3, c3, rfl, -⟩ := r3.form2; have o23 := Only.trans (by repeat (first | exact Only.refl [] w2 | apply Only.drew | apply Only.drewN)) o3; have z3 := (HU2.out.quiet o23).c1; have HR3 := hide r3; have HN3 := hide n3; have HO23 := hide o23; clear r3 n3 o3 o23))
      have hU3 := HU2.out.add HO23.out (ys := (Value.slice A3 (p.G.map (·.1)).length c3).ownBlock.toList) (fun q hq => ⟨HN3.out q (mem_own.1 hq), ((HR3.out).at_ (mem_own.1 hq)).2.1⟩)
      rw [List.append_nil] at hU3
      have HB := hide (fun (W : World) (ho : Only [] w3 W) => (hU3.calls (R := fun e => e = .returned (.int .i64 0)) (S' := some p.G) (p' := p) (k' := 2 + N) ho (fun F hL => lg_begin hL rfl (by rw [HP.out.1]; rfl))).mono (R' := fun e w' => e = .returned (.int .i64 0) ∧ UL w w' gw gd g gr gx N 0 sn (some p.G) p (2 + N) (Value.slice A3 (p.G.map (·.1)).length c3).ownBlock.toList ∧ IRow w' (.slice A3 (p.G.map (·.1)).length c3) (p.G.map (·.1))) (fun e w' ⟨e1, e2, T, e3, _, e4, _⟩ => ⟨e1, e2, KRow.only (KRow.only HR3.out ho (by simp)) e3 (fun q hq => e4 q (mem_own.2 hq))⟩))
      have d1 := hU3.c1
      clear hU3 HU2 HR3 HN3
      simp only [List.length_map] at HB
      go_wp2_with (first | (go_at_call 13; refine (HB.out _ (Only.refl _ _)).mono ?_; rintro e w4 ⟨rfl, hu4, r4⟩; have d4 := hu4.c1; have HU4 := hide hu4; have HR4 := hide r4; have HS4 := hide ((hu4.calls (R := fun e => e = .returned (.bool false)) (S' := some p.G) (p' := p) (k' := 2 + N) (Only.refl _ _) (fun F hL => by have h := lg_start hL; have hsb : startB p.G (some p.G) p.st = false := (by simp [startB]); rw [hsb, if_neg (by simp)] at h; exact h)).mono (R' := fun e w' => e = .returned (.bool false) ∧ UL w w' gw gd g gr gx N 0 sn (some p.G) p (2 + N) (Value.slice A3 p.G.length c3).ownBlock.toList ∧ IRow w' (.slice A3 p.G.length c3) (p.G.map (·.1))) (fun e w' ⟨e1, e2, T, e3, _, e4, _⟩ => ⟨e1, e2, KRow.only r4 e3 (fun q hq => e4 q (mem_own.2 hq))⟩)); clear hu4 r4) | (go_at_call 14; refine HS4.out.mono ?_; rintro e w5 ⟨rfl, hu5, r5⟩; have HU5 := hide hu5; have HR5 := hide r5; clear hu5 r5))
      clear HB HS4 HU4 HR4
      have hnb2 : (n2 : Int) ≤ 4398046511104 := by omega
      have HU5' := hide (show ∃ p' : LP, p'.st = 0 ∧ p'.nx = 0 ∧ p'.gen = p.gen ∧ p'.plat = p.plat ∧ p'.l = p.l ∧ UL w w5 gw gd g gr gx N 0 sn (some p.G) p' (2 + N) (Value.slice A3 p.G.length c3).ownBlock.toList ∧ IRow w5 (.slice A3 p.G.length c3) (p.G.map (·.1)) from ⟨p, HP.out.1, HP.out.2, rfl, rfl, rfl, by simpa using HU5.out, by simpa using HR5.out⟩)
      clear HU5 HR5
      go_loopw [78, 15] (fun iv _ wr => ∃ i : Nat, i ≤ n2 ∧ iv = .int .i64 i ∧ ∃ p' : LP, p'.st = 0 ∧ p'.nx = 0 ∧ p'.gen = p.gen ∧ p'.plat = p.plat ∧ p'.l = p.l ∧ UL w wr gw gd g gr gx N 0 sn (some p.G) p' (2 + N) (Value.slice A3 p.G.length c3).ownBlock.toList ∧ IRow wr (.slice A3 p.G.length c3) (p.G.map (·.1))) (fun iv _ _ => n2 - (intOf iv).toNat)
      case atStart => exact ⟨0, Nat.zero_le _, rfl, HU5'.out⟩
      case round =>
        clear HU5'
        obtain ⟨i, hi, rfl, p', hp1, hp2, hp3, hp4, hp5, hU, hR⟩ := hrel
        have HU := hide hU
        have HR := hide hR
        have HP' := hide (And.intro hp1 (And.intro hp2 (And.intro hp3 (And.intro hp4 hp5))))
        clear hp3 hp4 hp5
        by_cases hlt : i < n2
        · have hltI : (i : Int) < n2 := by omega
          obtain ⟨q, o, kd, x, b, mo, rfl, hq, k0, k1, k2, k3, hb, hx, hm⟩ := HOP2.out i hlt
          have ho := hU.only
          have c0 := (ho.cell hq (by simp)).trans k0
          have c1 := (ho.cell hq (by simp)).trans k1
          have c2 := (ho.cell hq (by simp)).trans k2
          have c3' := (ho.cell hq (by simp)).trans k3
          have oA : Only [] wr (wr.alloc (.cells #[.int .i64 kd, .int .i64 x, .int .u8 b, .int .i64 mo] 27)) := (Only.refl [] wr).alloc _
          have hbA := Blk.new wr 27 #[.int .i64 kd, .int .i64 x, .int .u8 b, .int .i64 mo]
          have HX := hide (fun (W : World) (h1 : W.cell? ⟨gw, 1, none⟩ = some (.pointer (some ⟨g, 0, none⟩))) (h2 : Blk W wr.heap.size 27 #[.int .i64 kd, .int .i64 x, .int .u8 b, .int .i64 mo]) => (show W.cell? ⟨gw, 1, none⟩ = some (.pointer (some ⟨g, 0, none⟩)) ∧ W.cell? ⟨wr.heap.size, 1, none⟩ = some (.int .i64 x) ∧ W.cell? ⟨wr.heap.size, 2, none⟩ = some (.int .u8 b) from ⟨h1, h2.cell 1, h2.cell 2⟩))
          have HXQ := hide (fun (W : World) (ho : Only [] (wr.alloc (.cells #[.int .i64 kd, .int .i64 x, .int .u8 b, .int .i64 mo] 27)) W) => HX.out W ((hU.quiet (oA.trans ho)).c1) (hbA.only ho (by simp)))
          have HF := hide (fun (W : World) => filled512 b W hb.1 hb.2)
          have HWR := hide (fun (W : World) (ho : Only [] (wr.alloc (.cells #[.int .i64 kd, .int .i64 x, .int .u8 b, .int .i64 mo] 27)) W) (d : Nat) (hd : Blk W d 5 (u8l (fill3 512 b)).toArray) => (hU.write hp1 (oA.trans ho) x d (fill3 512 b) (fill3_length _ _) (u8_fill3 _ _) hd).mono (R' := fun e w' => (∃ y : Int, e = .returned (.int .i64 y)) ∧ (w'.cell? ⟨gw, 1, none⟩ = some (.pointer (some ⟨g, 0, none⟩)) ∧ w'.cell? ⟨wr.heap.size, 1, none⟩ = some (.int .i64 x) ∧ w'.cell? ⟨wr.heap.size, 2, none⟩ = some (.int .u8 b)) ∧ ∃ p' : LP, p'.st = 0 ∧ p'.nx = 0 ∧ p'.gen = p.gen ∧ p'.plat = p.plat ∧ p'.l = p.l ∧ UL w w' gw gd g gr gx N 0 sn (some p.G) p' (2 + N) (Value.slice A3 p.G.length c3).ownBlock.toList ∧ IRow w' (.slice A3 p.G.length c3) (p.G.map (·.1))) (fun e w' ⟨e1, e2, T, e3, _, e4, e5⟩ => ⟨e1, HX.out w' e2.c1 ((hbA.only ho (by simp)).only e3 (fun hm => by have := (e5 _ hm).2; omega)), _, by rw [(writeP_st N 0 sn p' x _).1]; exact hp1, by rw [(writeP_st N 0 sn p' x _).2.1]; exact hp2, by rw [(writeP_st N 0 sn p' x _).2.2.1]; exact HP'.out.2.2.1, by rw [(writeP_st N 0 sn p' x _).2.2.2.1]; exact HP'.out.2.2.2.1, by rw [(writeP_st N 0 sn p' x _).2.2.2.2]; exact HP'.out.2.2.2.2, e2, KRow.only (KRow.only hR (oA.trans ho) (by simp)) e3 (fun q hq => e4 q (mem_own.2 hq))⟩))
          generalize fill3 512 b = fz at *
          clear hU hR hp1 hp2 ho k0 k1 k2 k3 hq oA hbA
          go_wp2_with fail
          generalize wr.alloc (.cells #[.int .i64 kd, .int .i64 x, .int .u8 b, .int .i64 mo] 27) = W1 at *
          have kk : Only [] W1 W1.drew := (Only.refl _ _).drew
          have zz := HXQ.out _ kk
          go_region_held3 (fun w' => w'.cell? ⟨gw, 1, none⟩ = some (.pointer (some ⟨g, 0, none⟩)) ∧ w'.cell? ⟨wr.heap.size, 1, none⟩ = some (.int .i64 x) ∧ w'.cell? ⟨wr.heap.size, 2, none⟩ = some (.int .u8 b)) (first | go_keep | exact HXQ.out _ kk | exact z3) (first | (go_at_call 10; refine (HF.out _).mono ?_; rintro e w2 ⟨d, rfl, -, hd, o2⟩; have kk2 := kk.trans ((show Only [] W1.drew _ from by repeat (first | exact Only.refl _ _ | apply Only.drew | apply Only.drewN)).trans o2); have HD := hide hd; clear hd o2 kk; have kk := kk2; clear kk2) | (go_at_call 9; refine (HWR.out _ (kk.trans (by repeat (first | exact Only.refl _ _ | apply Only.drew | apply Only.drewN))) _ HD.out).mono ?_; rintro e w3 ⟨⟨y, rfl⟩, z3, hu⟩; have HU3 := hide hu; clear hu))
          all_goals
            go_wp2
            go_roundw
            case rel => exact ⟨i + 1, hlt, by go_num, HU3.out⟩
            case measure => simp [intOf]; omega
        · obtain rfl : i = n2 := by omega
          have hN8 : ((N : Nat) : Int) = (sn : Int) + 8 := by have := HN.out; omega
          have hla : p.G.length ≤ 100000 := by
            obtain ⟨F, hL⟩ := hU.lgp
            have h1 := hL.oks.1
            omega
          have hAB := hU.calls (R := fun e => e = .returned (.int .i64 0)) (S' := none) (p' := { p' with G := p.G }) (k' := 2 + N) (Only.refl _ _) (fun F hL => lg_abort hL rfl)
          have HAB := hide (hAB.mono (R' := fun e w' => e = .returned (.int .i64 0) ∧ UL w w' gw gd g gr gx N 0 sn none { p' with G := p.G } (2 + N) (Value.slice A3 p.G.length c3).ownBlock.toList ∧ IRow w' (.slice A3 p.G.length c3) (p.G.map (·.1))) (fun e w' ⟨e1, e2, T, e3, _, e4, _⟩ => ⟨e1, e2, KRow.only hR e3 (fun q hq => e4 q (mem_own.2 hq))⟩))
          have d0 := hU.c1
          clear hU hR hp1 hp2 hAB
          go_wp2_with fail
          refine HAB.out.mono ?_
          rintro e w1 ⟨rfl, hu1, r1⟩
          have d1 := hu1.c1
          have HT1 := hide ((hu1.calls (R := fun e => e = .returned (.string (strB (tellF p.G p.plat p.l N 0 sn N)))) (S' := none) (p' := { p' with G := p.G }) (k' := 2 + N + N) (Only.refl _ _) (fun F hL => (tell_is hL (by have := HN.out; omega)).mono (fun e w' ⟨h1, h2⟩ => ⟨by rw [h1]; show Ending.returned (.string (strB (tellF p.G p'.plat p'.l N 0 sn N))) = _; rw [HP'.out.2.2.2.1, HP'.out.2.2.2.2], h2⟩))).mono (R' := fun e w' => e = .returned (.string (strB (tellF p.G p.plat p.l N 0 sn N))) ∧ UL w w' gw gd g gr gx N 0 sn none { p' with G := p.G } (2 + N + N) (Value.slice A3 p.G.length c3).ownBlock.toList ∧ IRow w' (.slice A3 p.G.length c3) (p.G.map (·.1))) (fun e w' ⟨e1, e2, T, e3, _, e4, _⟩ => ⟨e1, e2, KRow.only r1 e3 (fun q hq => e4 q (mem_own.2 hq))⟩))
          rw [hN8] at HT1
          clear hu1 r1 HAB d0 hN8
          go_wp2_with fail
          refine HT1.out.mono ?_
          rintro e w2 ⟨rfl, hu2, r2⟩
          have d2 := hu2.c1
          have HU2 := hide hu2
          have HR2 := hide r2
          have HDI := hide (show Calls Try.prog 12 #[.pointer (some ⟨g, 0, none⟩)] w2 (fun e w' => ∃ v', e = .returned v' ∧ IRow w' v' (p.G.map (·.1)) ∧ Only [] w2 w') from by
            obtain ⟨F, hL⟩ := hu2.lgp
            exact (lg_dirty hL).mono (fun e w' ⟨v', e1, e2, e3, e4⟩ => ⟨v', e1, e2, e4⟩))
          clear hu2 r2 HT1 d1
          generalize tellF p.G p.plat p.l N 0 sn N = tf at *
          generalize strB tf = sf at *
          go_wp2_with fail
          refine HDI.out.mono ?_
          rintro e w3 ⟨v3, rfl, r3, o3⟩
          have d3 := (HU2.out.quiet o3).c1
          have HSA := hide (same16_yes r3 (KRow.only HR2.out o3 (by simp)) (by rw [List.length_map]; exact hla))
          have HO3 := hide o3
          clear r3 o3 HDI
          go_wp2_with fail
          refine HSA.out.mono ?_
          rintro e w4 ⟨rfl, o4⟩
          have o24 := HO3.out.trans o4
          have d4 := (HU2.out.quiet o24).c1
          have HO24 := hide o24
          have HAN := hide (show Calls Try.prog 15 #[.pointer (some ⟨g, 0, none⟩)] w4 (fun e w' => e = .returned (.int .i64 4) ∧ w4 = w') from by
            obtain ⟨F, hL⟩ := (HU2.out.quiet o24).lgp
            exact lg_abort_none hL rfl)
          have HEN := hide (show Calls Try.prog 17 #[.pointer (some ⟨g, 0, none⟩)] w4 (fun e w' => e = .returned (.int .i64 4) ∧ w4 = w') from by
            obtain ⟨F, hL⟩ := (HU2.out.quiet o24).lgp
            exact lg_end_none hL rfl)
          clear o4 o24 HSA
          go_wp2_with (first | (go_at_call 15; refine HAN.out.mono ?_; rintro e w' ⟨rfl, rfl⟩) | (go_at_call 17; refine HEN.out.mono ?_; rintro e w' ⟨rfl, rfl⟩))
          go_ret
          exact ⟨rfl, (HU2.out.only.trans HO24.out).below (Nat.le_refl _) (by simp)⟩
end Go.Proofs.Ytpajdnjbeplneaa
