/-
  The log: 'awake' holds.
-/
import Derived.Test.YtpajdnjbeplneaaLgLaw
namespace Go.Proofs.Ytpajdnjbeplneaa
open Go.ChangeShapes Go.WideShapes Go.ChangeAt Go.RowKit Go.Maps
set_option linter.unusedVariables false
set_option linter.unusedSimpArgs false
theorem conv_blk3 {w : World} {d c n : Nat} {xs : List Int} {r : List Value} (h : Blk w d 5 (u8l xs ++ r).toArray) (hu : U8 xs) (hn : xs.length = n) : (convert 39 9 (.slice (some ⟨d, 0, none⟩) n c)).run Try.prog w = .ok (.string (strB xs)) w := by
  subst hn
  exact conv_bytes w _ _ _ xs ⟨rfl, fun _ => ⟨d, 0, rfl, h.lt, fun i hi => by rw [Nat.zero_add, h.cell]; exact u8l_get _ _ i hi⟩⟩ (by simp) hu
theorem layAll_len {N : Nat} : ∀ (l : List (Nat × List Int)) (plat : List Int), plat.length = 512 * N → (∀ p ∈ l, p.1 < N ∧ p.2.length = 512) → (layAll plat l).length = 512 * N
  | [], plat, hp, hl => hp
  | p :: l, plat, hp, hl => by
    have h1 := hl p (by simp)
    exact layAll_len l (Go.splice plat (512 * p.1) p.2) (splice_len hp h1.2 h1.1) (fun q hq => hl q (by simp [hq]))
/-- Where awake's commit ends. -/
theorem awake_end (f1 f2 : List Int) (P : List Int) (hP : P.length = 512 * 12) (h1 : f1.length = 512) (h2 : f2.length = 512) :
    let q := endP 1 (startP none ⟨0, putG (putG [] 7 f1) 9 f2, 0, 0, P, []⟩)
    q.gen = 1 ∧ q.G = [] ∧ q.st = 0 ∧ q.nx = 0 ∧ q.l = [] ∧ sect q.plat q.l 9 = f2 := by
  have e0 : putG (putG [] 7 f1) 9 f2 = [(7, f1), (9, f2)] := by simp [putG]
  have es : startP none ⟨0, [(7, f1), (9, f2)], 0, 0, P, []⟩ = ⟨0, [(7, f1), (9, f2)], 1, 0, P, []⟩ := rfl
  have el : leftP ⟨0, [(7, f1), (9, f2)], 1, 0, P, []⟩ = 10 := rfl
  have ee : endP 1 ⟨0, [(7, f1), (9, f2)], 1, 0, P, []⟩ = ⟨1, [], 0, 0, layAll (layAll (layAll (layAll P [(2, f1), (3, f2)]) [(1, hdrF 1 [7, 9])]) [(7, f1), (9, f2)]) [(1, hdrF 1 [])], []⟩ := by
    unfold endP
    rw [el]
    simp [iterP, stepP, nextP, doP, eachP]
  rw [e0, es, ee]
  refine ⟨rfl, rfl, rfl, rfl, rfl, ?_⟩
  have hh : ∀ g ns, ns.length ≤ 247 → (hdrF g ns).length = 512 := hdrF_length
  have q1 : ∀ p ∈ [((2 : Nat), f1), (3, f2)], p.1 < 12 ∧ p.2.length = 512 := by simp [h1, h2]
  have l1 := layAll_len (N := 12) _ P hP q1
  have q2 : ∀ p ∈ [((1 : Nat), hdrF 1 [7, 9])], p.1 < 12 ∧ p.2.length = 512 := by simp [hh]
  have l2 := layAll_len (N := 12) _ _ l1 q2
  have q3 : ∀ p ∈ [((7 : Nat), f1), (9, f2)], p.1 < 12 ∧ p.2.length = 512 := by simp [h1, h2]
  have l3 := layAll_len (N := 12) _ _ l2 q3
  have q4 : ∀ p ∈ [((1 : Nat), hdrF 1 [])], p.1 < 12 ∧ p.2.length = 512 := by simp [hh]
  show sect (layAll (layAll (layAll (layAll P [(2, f1), (3, f2)]) [(1, hdrF 1 [7, 9])]) [(7, f1), (9, f2)]) [(1, hdrF 1 [])]) [] 9 = f2
  rw [sect_flush (N := 12) 9 _ _ l3 q4]
  have e1 := sect_write (layAll (layAll (layAll P [(2, f1), (3, f2)]) [(1, hdrF 1 [7, 9])]) [(7, f1), (9, f2)]) [] 1 9 (hdrF 1 [])
  rw [List.nil_append, if_neg (by decide)] at e1
  rw [e1, sect_flush (N := 12) 9 _ _ l2 q3]
  have e2 := sect_write (layAll (layAll P [(2, f1), (3, f2)]) [(1, hdrF 1 [7, 9])]) [(7, f1)] 9 9 f2
  rw [if_pos rfl] at e2
  exact e2
theorem awake_left (f1 f2 P : List Int) : leftP (startP none ⟨0, putG (putG [] 7 f1) 9 f2, 0, 0, P, []⟩) = 10 := by
  have e0 : putG (putG [] 7 f1) 9 f2 = [(7, f1), (9, f2)] := by simp [putG]
  rw [e0]
  rfl
/-- What the last read of awake leaves. -/
def ReadA (w7 : World) (g gd : Nat) (q : LP) (f2 : List Int) (k : Nat) (F : List Nat) (t4 t6 : Value) (wx : World) : Prop := t4 = .int .i64 0 ∧ ∃ d c r, t6 = .slice (some ⟨d, 0, none⟩) 512 c ∧ Blk wx d 5 (u8l f2 ++ r).toArray ∧ DidP w7 wx g gd 12 1 4 none q k F
theorem filled512 (c : Int) (w : World) (h0 : 0 ≤ c) (h1 : c ≤ 255) : Calls Try.prog 10 #[.int .i64 512, .int .u8 c] w fun e w' => ∃ d, e = .returned (.slice (some ⟨d, 0, none⟩) 512 512) ∧ w.heap.size ≤ d ∧ Blk w' d 5 (u8l (fill3 512 c)).toArray ∧ Only [] w w' := filled3_ok 512 c w (by decide) h0 h1
set_option maxRecDepth 100000 in
set_option maxHeartbeats 2000000 in
theorem awake_ok (w : World) : Calls Try.prog 18 #[] w fun e w' => e = .returned (.bool true) ∧ Only [] w w' := by
  go_enter Try.func18, Try.ntmps18
  go_wp2_with fail
  refine (dk_new 12 _ (by decide) (by decide)).mono ?_
  rintro e w1 ⟨gd, FD, rfl, ho1, hFD, hd⟩
  have HO1 := hide ho1
  have HFD := hide hFD
  have HD := hide hd
  clear ho1 hFD hd
  go_wp2_with fail
  refine (format_ok (a := 1) (sz := 4) HD.out (by decide) (by decide)).mono ?_
  rintro e w2 ⟨g, F2, rfl, ho2, hF2, hL2⟩
  have HPL := hide (show (layAll (List.replicate (512 * (12 : Int).toNat) 0) ([] ++ [(1, hdrF 0 [])])).length = 512 * 12 from layAll_len (N := 12) _ _ (by simp) (by simp [hdrF_length]))
  unfold fmtP at hL2
  generalize layAll (List.replicate (512 * (12 : Int).toNat) 0) ([] ++ [(1, hdrF 0 [])]) = P at hL2 HPL
  have HO2 := hide (HO1.out.trans' ho2 (fun q hq hm => by have := HFD.out q hm; omega))
  have HF2 := hide (show ∀ q ∈ F2, w.heap.size ≤ q from fun q hq => (hF2 q hq).elim (fun e => HFD.out q e) (fun e => Nat.le_trans HO1.out.size e))
  have HL2 := hide hL2
  clear ho2 hF2 hL2
  go_wp2_with fail
  refine (filled512 1 _ (by decide) (by decide)).mono ?_
  rintro e w3 ⟨d3, rfl, hd3, hb3, ho3⟩
  have HO3 := hide (HO2.out.trans ho3)
  have HL3 := hide (HL2.out.quiet ho3)
  have HB3 := hide hb3
  clear hd3 hb3 ho3
  have h31 := fill3_length 512 1
  have u31 := u8_fill3 512 1
  generalize fill3 512 1 = f1 at *
  have HZ1 := hide h31
  have HU1 := hide u31
  clear h31 u31
  go_wp2_with fail
  refine (lg_write HL3.out 7 d3 0 512 f1 (by decide) rfl (.inr (by decide)) HZ1.out HU1.out (fun i hi => by rw [Nat.zero_add, HB3.out.cell]; have := u8l_get f1 [] i (by rw [HZ1.out]; exact hi); rwa [List.append_nil] at this) HB3.out.lt).mono ?_
  rintro e w4 ⟨rfl, F4, hT4, hL4⟩
  have HO4 := hide (HO3.out.trans' hT4.1 (fun q hq hm => by have := HF2.out q hm; omega))
  have HF4 := hide (show ∀ q ∈ F4, w.heap.size ≤ q from fun q hq => (hT4.2 q hq).elim (fun e => HF2.out q e) (fun e => Nat.le_trans HO3.out.size e))
  have HL4 := hide hL4
  clear hT4 hL4
  go_wp2_with fail
  refine (filled512 2 _ (by decide) (by decide)).mono ?_
  rintro e w5 ⟨d5, rfl, hd5, hb5, ho5⟩
  have HO5 := hide (HO4.out.trans ho5)
  have HL5 := hide (HL4.out.quiet ho5)
  have HB5 := hide hb5
  clear hd5 hb5 ho5
  have h32 := fill3_length 512 2
  have u32 := u8_fill3 512 2
  have HF3 := hide (fun W => filled512 2 W (by decide) (by decide))
  generalize fill3 512 2 = f2 at *
  have HZ2 := hide h32
  have HU2 := hide u32
  clear h32 u32
  go_wp2_with fail
  refine (lg_write HL5.out 9 d5 0 512 f2 (by decide) rfl (.inr (by simp [putG])) HZ2.out HU2.out (fun i hi => by rw [Nat.zero_add, HB5.out.cell]; have := u8l_get f2 [] i (by rw [HZ2.out]; exact hi); rwa [List.append_nil] at this) HB5.out.lt).mono ?_
  rintro e w6 ⟨rfl, F6, hT6, hL6⟩
  have HO6 := hide (HO5.out.trans' hT6.1 (fun q hq hm => by have := HF4.out q hm; omega))
  have HF6 := hide (show ∀ q ∈ F6, w.heap.size ≤ q from fun q hq => (hT6.2 q hq).elim (fun e => HF4.out q e) (fun e => Nat.le_trans HO5.out.size e))
  have HL6 := hide (show LgP w6 g gd 12 1 4 none ⟨0, putG (putG [] 7 f1) 9 f2, 0, 0, P, []⟩ 2 F6 from hL6)
  clear hT6 hL6
  go_wp2_with fail
  have hc := lg_commit HL6.out (.inl ⟨rfl, rfl⟩) (by decide)
  rw [awake_left, show ((10 : Nat) : Int) = 10 from rfl] at hc
  obtain ⟨g1, g2, g3, g4, g5, g6⟩ := awake_end f1 f2 P HPL.out HZ1.out HZ2.out
  have HE := hide (And.intro g1 (And.intro g2 (And.intro g3 (And.intro g4 (And.intro g5 g6)))))
  clear g1 g2 g3 g4 g5 g6
  generalize endP 1 (startP none ⟨0, putG (putG [] 7 f1) 9 f2, 0, 0, P, []⟩) = q at *
  refine hc.mono ?_
  clear hc
  rintro e w7 ⟨rfl, F7, hT7, hL7⟩
  have HO7 := hide (HO6.out.trans' hT7.1 (fun q hq hm => by have := HF6.out q hm; omega))
  have HF7 := hide (show ∀ q ∈ F7, w.heap.size ≤ q from fun q hq => (hT7.2 q hq).elim (fun e => HF6.out q e) (fun e => Nat.le_trans HO6.out.size e))
  have HL7 := hide hL7
  clear hT7 hL7
  go_upto_region 6 with (fail)
  go_cut [4, 6] from 8 to 47 (fun t4 t6 wx => ReadA w7 g gd q f2 (2 + 10 + 1) F7 t4 t6 wx)
  case first =>
    go_wp2_with fail
    refine (lg_dread HL7.out 9 (by decide) (by decide)).mono ?_
    rintro e w8 ⟨v8, rfl, hf8, hD8⟩
    rw [HE.out.2.2.2.2.2] at hf8
    obtain ⟨d8, c8, r8, rfl, hd8, hb8, hc8⟩ := hf8
    rw [HZ2.out]
    have HB8 := hide hb8
    have HD8 := hide hD8
    clear hd8 hb8 hc8 hD8
    go_wp2_with fail
    go_meet
    case rel => exact ⟨rfl, d8, c8, r8, rfl, HB8.out, HD8.out⟩
  case rest =>
  obtain ⟨rfl, d8, c8, r8, rfl, hb8, F8, hT8, hL8⟩ := hcut
  obtain ⟨w8, hw8⟩ : ∃ w8, w8 = wc := ⟨_, rfl⟩
  subst hw8
  have HO8 := hide (HO7.out.trans' hT8.1 (fun q hq hm => by have := HF7.out q hm; omega))
  have HL8 := hide hL8
  have HCV := hide (fun W (ho : Only [] w8 W) => conv_blk3 (c := c8) (hb8.only ho (by simp)) HU2.out HZ2.out)
  have HF9 := hide (fun W (ho : Only [] w8 W) => (HF3.out W).mono (R' := fun e w' => ∃ d, e = .returned (.slice (some ⟨d, 0, none⟩) 512 512) ∧ (∀ W', Only [] w' W' → (convert 39 9 (.slice (some ⟨d, 0, none⟩) 512 512)).run Try.prog W' = .ok (.string (strB f2)) W') ∧ Only [] w8 w') (fun e w' ⟨d, e1, e2, e3, e4⟩ => ⟨d, e1, fun W' hW' => conv_blk3 (r := []) (by rw [List.append_nil]; exact e3.only hW' (by simp)) HU2.out HZ2.out, ho.trans e4⟩))
  have hg := fun W (ho : Only [] w8 W) => lg_gen (hL8.quiet ho)
  have hr := fun W (ho : Only [] w8 W) => lg_room (hL8.quiet ho)
  have hp := fun W (ho : Only [] w8 W) => lg_dpending (hL8.quiet ho)
  obtain ⟨g1, g2, g3, g4, g5, g6⟩ := HE.out
  rw [g1] at hg
  simp only [g2, List.length_nil] at hr
  rw [show ((4 : Nat) : Int) - 1 - ((0 : Nat) : Int) = 3 from rfl] at hr
  simp only [g5, List.length_nil] at hp
  have HG := hide hg
  have HR := hide hr
  have HP := hide hp
  generalize strB f2 = sf at *
  clear hT8 hL8 hb8 hg hr hp g1 g2 g3 g4 g5 g6
  have cv0 := HCV.out _ ((Only.refl [] w8).drew)
  go_wp2_with fail
  have kk : Only [] w8 w8.drew := (Only.refl _ _).drew
  refine wp_region_held_drew (S := fun w' => (convert 39 9 (.slice (some ⟨d8, 0, none⟩) 512 c8)).run Try.prog w' = .ok (.string sf) w') (by kernel_rfl) (HCV.out _ kk) (fun hHeld => ?_)
  refine wpAnyH_take (i := 0) (oi := _) (v := ?_) rfl (by kernel_rfl) (by kernel_rfl) (by kernel_rfl) (fun _ _ _ h => h) (Or.inl ⟨by rfl, ?hy⟩) hHeld ?_
  case hy => (intro w hSw; (try simp only [List.getElem_toArray, List.getElem_cons_zero, List.getElem_cons_succ]); go_simp; (try with_reducible rfl))
  try simp only [List.getElem_toArray, List.getElem_cons_zero, List.getElem_cons_succ, Act.put, List.setIfInBounds_toArray, List.set_cons_zero, List.set_cons_succ]
  refine wpAnyH_take (i := 1) (oi := _) (v := ?_) rfl (by kernel_rfl) (by kernel_rfl) (by kernel_rfl) (fun _ _ _ h => h) (Or.inl ⟨by rfl, ?hy⟩) hHeld ?_
  case hy => (intro w hSw; (try simp only [List.getElem_toArray, List.getElem_cons_zero, List.getElem_cons_succ]); go_simp; (try with_reducible rfl))
  try simp only [List.getElem_toArray, List.getElem_cons_zero, List.getElem_cons_succ, Act.put, List.setIfInBounds_toArray, List.set_cons_zero, List.set_cons_succ]
  refine wpAnyH_take (i := 2) (oi := _) (v := ?_) rfl (by kernel_rfl) (by kernel_rfl) (by kernel_rfl) (fun _ _ _ h => h) (Or.inl ⟨by rfl, ?hy⟩) hHeld ?_
  case hy => (intro w hSw; (try simp only [List.getElem_toArray, List.getElem_cons_zero, List.getElem_cons_succ]); go_simp; (try with_reducible rfl))
  try simp only [List.getElem_toArray, List.getElem_cons_zero, List.getElem_cons_succ, Act.put, List.setIfInBounds_toArray, List.set_cons_zero, List.set_cons_succ]
  refine wpAnyH_take (i := 3) (oi := _) (v := ?_) rfl (by kernel_rfl) (by kernel_rfl) (by kernel_rfl) (fun _ _ _ h => h) (Or.inl ⟨by rfl, ?hy⟩) hHeld ?_
  case hy => (intro w hSw; (try simp only [List.getElem_toArray, List.getElem_cons_zero, List.getElem_cons_succ]); go_simp; (try with_reducible rfl))
  try simp only [List.getElem_toArray, List.getElem_cons_zero, List.getElem_cons_succ, Act.put, List.setIfInBounds_toArray, List.set_cons_zero, List.set_cons_succ]
  refine wpAnyH_take (i := 4) (oi := _) (v := ?_) rfl (by kernel_rfl) (by kernel_rfl) (by kernel_rfl) (fun _ _ _ h => h) (Or.inl ⟨by rfl, ?hy⟩) hHeld ?_
  case hy => (intro w hSw; (try simp only [List.getElem_toArray, List.getElem_cons_zero, List.getElem_cons_succ]); go_simp; (try with_reducible rfl))
  try simp only [List.getElem_toArray, List.getElem_cons_zero, List.getElem_cons_succ, Act.put, List.setIfInBounds_toArray, List.set_cons_zero, List.set_cons_succ]
  refine wpAnyH_take (i := 5) (oi := _) (v := ?_) rfl (by kernel_rfl) (by kernel_rfl) (by kernel_rfl) (fun _ _ _ h => h) (Or.inl ⟨by rfl, ?hy⟩) hHeld ?_
  case hy => (intro w hSw; (try simp only [List.getElem_toArray, List.getElem_cons_zero, List.getElem_cons_succ]); go_simp; (try with_reducible rfl))
  try simp only [List.getElem_toArray, List.getElem_cons_zero, List.getElem_cons_succ, Act.put, List.setIfInBounds_toArray, List.set_cons_zero, List.set_cons_succ]
  refine wpAnyH_take (i := 6) (oi := _) (v := ?_) rfl (by kernel_rfl) (by kernel_rfl) (by kernel_rfl) (fun _ _ _ h => h) (Or.inl ⟨by rfl, ?hy⟩) hHeld ?_
  case hy => (intro w hSw; (try simp only [List.getElem_toArray, List.getElem_cons_zero, List.getElem_cons_succ]); go_simp; (try with_reducible rfl))
  try simp only [List.getElem_toArray, List.getElem_cons_zero, List.getElem_cons_succ, Act.put, List.setIfInBounds_toArray, List.set_cons_zero, List.set_cons_succ]
  refine wpAnyH_take (i := 7) (oi := _) (v := ?_) rfl (by kernel_rfl) (by kernel_rfl) (by kernel_rfl) (fun _ _ _ h => h) (Or.inl ⟨by rfl, ?hy⟩) hHeld ?_
  case hy => (intro w hSw; (try simp only [List.getElem_toArray, List.getElem_cons_zero, List.getElem_cons_succ]); go_simp; (try with_reducible rfl))
  try simp only [List.getElem_toArray, List.getElem_cons_zero, List.getElem_cons_succ, Act.put, List.setIfInBounds_toArray, List.set_cons_zero, List.set_cons_succ]
  refine wpAnyH_take (i := 8) (oi := _) (v := ?_) rfl (by kernel_rfl) (by kernel_rfl) (by kernel_rfl) (fun _ _ _ h => h) (Or.inl ⟨by rfl, ?hy⟩) hHeld ?_
  case hy => (intro w hSw; (try simp only [List.getElem_toArray, List.getElem_cons_zero, List.getElem_cons_succ]); go_simp; (try with_reducible rfl))
  try simp only [List.getElem_toArray, List.getElem_cons_zero, List.getElem_cons_succ, Act.put, List.setIfInBounds_toArray, List.set_cons_zero, List.set_cons_succ]
  refine wpAnyH_take (i := 9) (oi := _) (v := ?_) rfl (by kernel_rfl) (by kernel_rfl) (by kernel_rfl) (fun _ _ _ h => h) (Or.inl ⟨by rfl, ?hy⟩) hHeld ?_
  case hy => (intro w hSw; (try simp only [List.getElem_toArray, List.getElem_cons_zero, List.getElem_cons_succ]); go_simp; (try with_reducible rfl))
  try simp only [List.getElem_toArray, List.getElem_cons_zero, List.getElem_cons_succ, Act.put, List.setIfInBounds_toArray, List.set_cons_zero, List.set_cons_succ]
  refine wpAnyH_take (i := 10) (oi := _) (v := ?_) rfl (by kernel_rfl) (by kernel_rfl) (by kernel_rfl) (fun _ _ _ h => h) (Or.inl ⟨by rfl, ?hy⟩) hHeld ?_
  case hy => (intro w hSw; (try simp only [List.getElem_toArray, List.getElem_cons_zero, List.getElem_cons_succ]); go_simp; (try with_reducible rfl))
  try simp only [List.getElem_toArray, List.getElem_cons_zero, List.getElem_cons_succ, Act.put, List.setIfInBounds_toArray, List.set_cons_zero, List.set_cons_succ]
  refine wpAnyH_take (i := 11) (oi := _) (v := ?_) rfl (by kernel_rfl) (by kernel_rfl) (by kernel_rfl) (fun _ _ _ h => h) (Or.inl ⟨by rfl, ?hy⟩) hHeld ?_
  case hy => (intro w hSw; (try simp only [List.getElem_toArray, List.getElem_cons_zero, List.getElem_cons_succ]); go_simp; (try with_reducible rfl))
  try simp only [List.getElem_toArray, List.getElem_cons_zero, List.getElem_cons_succ, Act.put, List.setIfInBounds_toArray, List.set_cons_zero, List.set_cons_succ]
  refine wpAnyH_take (i := 12) (oi := _) (v := ?_) rfl (by kernel_rfl) (by kernel_rfl) (by kernel_rfl) (fun _ _ _ h => h) (Or.inl ⟨by rfl, ?hy⟩) hHeld ?_
  case hy => (intro w hSw; (try simp only [List.getElem_toArray, List.getElem_cons_zero, List.getElem_cons_succ]); go_simp; (try with_reducible rfl))
  try simp only [List.getElem_toArray, List.getElem_cons_zero, List.getElem_cons_succ, Act.put, List.setIfInBounds_toArray, List.set_cons_zero, List.set_cons_succ]
  refine wpAnyH_ready (rs := [13]) (by kernel_rfl) (by simp) ?_
  refine (AllReadyH.cons rfl (fun K hK => ?_) AllReadyH.nil)
  go_simp
  go_at_call 10
  refine (HF9.out _ kk).mono ?_
  rintro e w9 ⟨d9, rfl, k9, o9⟩
  have k9' := k9 w9 (Only.refl _ _)
  have HK9 := hide k9
  clear kk k9
  have kk := o9
  refine hK.out _ _ (HCV.out _ kk) (fun hHeld => ?_)
  clear hK K
  try simp only [List.getElem_toArray, List.getElem_cons_zero, List.getElem_cons_succ, Act.put, List.setIfInBounds_toArray, List.set_cons_zero, List.set_cons_succ]
  refine wpAnyH_ready (rs := [14]) (by kernel_rfl) (by simp) ?_
  refine (AllReadyH.cons rfl (fun K hK => ?_) AllReadyH.nil)
  go_simp
  refine hK.out _ _ (HCV.out _ kk) (fun hHeld => ?_)
  clear hK K
  try simp only [List.getElem_toArray, List.getElem_cons_zero, List.getElem_cons_succ, Act.put, List.setIfInBounds_toArray, List.set_cons_zero, List.set_cons_succ]
  refine wpAnyH_take (i := 15) (oi := _) (v := ?_) rfl (by kernel_rfl) (by kernel_rfl) (by kernel_rfl) (fun _ _ _ h => h) (Or.inl ⟨by rfl, ?hy⟩) hHeld ?_
  case hy => (intro w hSw; (try simp only [List.getElem_toArray, List.getElem_cons_zero, List.getElem_cons_succ]); go_simp; (try with_reducible rfl))
  try simp only [List.getElem_toArray, List.getElem_cons_zero, List.getElem_cons_succ, Act.put, List.setIfInBounds_toArray, List.set_cons_zero, List.set_cons_succ]
  refine wpAnyH_take (i := 16) (oi := _) (v := ?_) rfl (by kernel_rfl) (by kernel_rfl) (by kernel_rfl) (fun _ _ _ h => h) (Or.inl ⟨by rfl, ?hy⟩) hHeld ?_
  case hy => (intro w hSw; (try simp only [List.getElem_toArray, List.getElem_cons_zero, List.getElem_cons_succ]); go_simp; (try with_reducible rfl))
  try simp only [List.getElem_toArray, List.getElem_cons_zero, List.getElem_cons_succ, Act.put, List.setIfInBounds_toArray, List.set_cons_zero, List.set_cons_succ]
  refine wpAnyH_take (i := 17) (oi := _) (v := ?_) rfl (by kernel_rfl) (by kernel_rfl) (by kernel_rfl) (fun _ _ _ h => h) (Or.inl ⟨by rfl, ?hy⟩) hHeld ?_
  case hy => (intro w hSw; (try simp only [List.getElem_toArray, List.getElem_cons_zero, List.getElem_cons_succ]); go_simp; (try with_reducible rfl))
  try simp only [List.getElem_toArray, List.getElem_cons_zero, List.getElem_cons_succ, Act.put, List.setIfInBounds_toArray, List.set_cons_zero, List.set_cons_succ]
  refine wpAnyH_take (i := 18) (oi := _) (v := ?_) rfl (by kernel_rfl) (by kernel_rfl) (by kernel_rfl) (fun _ _ _ h => h) (Or.inl ⟨by rfl, ?hy⟩) hHeld ?_
  case hy => (intro w hSw; (try simp only [List.getElem_toArray, List.getElem_cons_zero, List.getElem_cons_succ]); go_simp; (try with_reducible rfl))
  try simp only [List.getElem_toArray, List.getElem_cons_zero, List.getElem_cons_succ, Act.put, List.setIfInBounds_toArray, List.set_cons_zero, List.set_cons_succ]
  refine wpAnyH_ready (rs := [19]) (by kernel_rfl) (by simp) ?_
  refine (AllReadyH.cons rfl (fun K hK => ?_) AllReadyH.nil)
  go_simp
  go_at_call 25
  refine (HG.out _ kk).mono ?_
  rintro e wA ⟨rfl, rfl⟩
  refine hK.out _ _ (HCV.out _ kk) (fun hHeld => ?_)
  clear hK K
  try simp only [List.getElem_toArray, List.getElem_cons_zero, List.getElem_cons_succ, Act.put, List.setIfInBounds_toArray, List.set_cons_zero, List.set_cons_succ]
  refine wpAnyH_take (i := 20) (oi := _) (v := ?_) rfl (by kernel_rfl) (by kernel_rfl) (by kernel_rfl) (fun _ _ _ h => h) (Or.inl ⟨by rfl, ?hy⟩) hHeld ?_
  case hy => (intro w hSw; (try simp only [List.getElem_toArray, List.getElem_cons_zero, List.getElem_cons_succ]); go_simp; (try with_reducible rfl))
  try simp only [List.getElem_toArray, List.getElem_cons_zero, List.getElem_cons_succ, Act.put, List.setIfInBounds_toArray, List.set_cons_zero, List.set_cons_succ]
  refine wpAnyH_take (i := 21) (oi := _) (v := ?_) rfl (by kernel_rfl) (by kernel_rfl) (by kernel_rfl) (fun _ _ _ h => h) (Or.inl ⟨by rfl, ?hy⟩) hHeld ?_
  case hy => (intro w hSw; (try simp only [List.getElem_toArray, List.getElem_cons_zero, List.getElem_cons_succ]); go_simp; (try with_reducible rfl))
  try simp only [List.getElem_toArray, List.getElem_cons_zero, List.getElem_cons_succ, Act.put, List.setIfInBounds_toArray, List.set_cons_zero, List.set_cons_succ]
  refine wpAnyH_take (i := 22) (oi := _) (v := ?_) rfl (by kernel_rfl) (by kernel_rfl) (by kernel_rfl) (fun _ _ _ h => h) (Or.inl ⟨by rfl, ?hy⟩) hHeld ?_
  case hy => (intro w hSw; (try simp only [List.getElem_toArray, List.getElem_cons_zero, List.getElem_cons_succ]); go_simp; (try with_reducible rfl))
  try simp only [List.getElem_toArray, List.getElem_cons_zero, List.getElem_cons_succ, Act.put, List.setIfInBounds_toArray, List.set_cons_zero, List.set_cons_succ]
  refine wpAnyH_take (i := 23) (oi := _) (v := ?_) rfl (by kernel_rfl) (by kernel_rfl) (by kernel_rfl) (fun _ _ _ h => h) (Or.inl ⟨by rfl, ?hy⟩) hHeld ?_
  case hy => (intro w hSw; (try simp only [List.getElem_toArray, List.getElem_cons_zero, List.getElem_cons_succ]); go_simp; (try with_reducible rfl))
  try simp only [List.getElem_toArray, List.getElem_cons_zero, List.getElem_cons_succ, Act.put, List.setIfInBounds_toArray, List.set_cons_zero, List.set_cons_succ]
  refine wpAnyH_ready (rs := [24]) (by kernel_rfl) (by simp) ?_
  refine (AllReadyH.cons rfl (fun K hK => ?_) AllReadyH.nil)
  go_simp
  go_at_call 23
  refine (HR.out _ kk).mono ?_
  rintro e wB ⟨rfl, oB⟩
  have kk2 := kk.trans oB
  clear kk
  have kk := kk2
  clear kk2 oB
  refine hK.out _ _ (HCV.out _ kk) (fun hHeld => ?_)
  clear hK K
  try simp only [List.getElem_toArray, List.getElem_cons_zero, List.getElem_cons_succ, Act.put, List.setIfInBounds_toArray, List.set_cons_zero, List.set_cons_succ]
  refine wpAnyH_take (i := 25) (oi := _) (v := ?_) rfl (by kernel_rfl) (by kernel_rfl) (by kernel_rfl) (fun _ _ _ h => h) (Or.inl ⟨by rfl, ?hy⟩) hHeld ?_
  case hy => (intro w hSw; (try simp only [List.getElem_toArray, List.getElem_cons_zero, List.getElem_cons_succ]); go_simp; (try with_reducible rfl))
  try simp only [List.getElem_toArray, List.getElem_cons_zero, List.getElem_cons_succ, Act.put, List.setIfInBounds_toArray, List.set_cons_zero, List.set_cons_succ]
  refine wpAnyH_take (i := 26) (oi := _) (v := ?_) rfl (by kernel_rfl) (by kernel_rfl) (by kernel_rfl) (fun _ _ _ h => h) (Or.inl ⟨by rfl, ?hy⟩) hHeld ?_
  case hy => (intro w hSw; (try simp only [List.getElem_toArray, List.getElem_cons_zero, List.getElem_cons_succ]); go_simp; (try with_reducible rfl))
  try simp only [List.getElem_toArray, List.getElem_cons_zero, List.getElem_cons_succ, Act.put, List.setIfInBounds_toArray, List.set_cons_zero, List.set_cons_succ]
  refine wpAnyH_take (i := 27) (oi := _) (v := ?_) rfl (by kernel_rfl) (by kernel_rfl) (by kernel_rfl) (fun _ _ _ h => h) (Or.inl ⟨by rfl, ?hy⟩) hHeld ?_
  case hy => (intro w hSw; (try simp only [List.getElem_toArray, List.getElem_cons_zero, List.getElem_cons_succ]); go_simp; (try with_reducible rfl))
  try simp only [List.getElem_toArray, List.getElem_cons_zero, List.getElem_cons_succ, Act.put, List.setIfInBounds_toArray, List.set_cons_zero, List.set_cons_succ]
  refine wpAnyH_take (i := 28) (oi := _) (v := ?_) rfl (by kernel_rfl) (by kernel_rfl) (by kernel_rfl) (fun _ _ _ h => h) (Or.inl ⟨by rfl, ?hy⟩) hHeld ?_
  case hy => (intro w hSw; (try simp only [List.getElem_toArray, List.getElem_cons_zero, List.getElem_cons_succ]); go_simp; (try with_reducible rfl))
  try simp only [List.getElem_toArray, List.getElem_cons_zero, List.getElem_cons_succ, Act.put, List.setIfInBounds_toArray, List.set_cons_zero, List.set_cons_succ]
  refine wpAnyH_ready (rs := [29]) (by kernel_rfl) (by simp) ?_
  refine (AllReadyH.cons rfl (fun K hK => ?_) AllReadyH.nil)
  go_simp
  go_at_call 40
  refine (HP.out _ kk).mono ?_
  rintro e wC ⟨dC, rfl, -, -, oC⟩
  have kk2 := kk.trans oC
  clear kk
  have kk := kk2
  clear kk2 oC
  refine hK.out _ _ (HCV.out _ kk) (fun hHeld => ?_)
  clear hK K
  try simp only [List.getElem_toArray, List.getElem_cons_zero, List.getElem_cons_succ, Act.put, List.setIfInBounds_toArray, List.set_cons_zero, List.set_cons_succ]
  refine wpAnyH_take (i := 30) (oi := _) (v := ?_) rfl (by kernel_rfl) (by kernel_rfl) (by kernel_rfl) (fun _ _ _ h => h) (Or.inl ⟨by rfl, ?hy⟩) hHeld ?_
  case hy => (intro w hSw; (try simp only [List.getElem_toArray, List.getElem_cons_zero, List.getElem_cons_succ]); go_simp; (try with_reducible rfl))
  try simp only [List.getElem_toArray, List.getElem_cons_zero, List.getElem_cons_succ, Act.put, List.setIfInBounds_toArray, List.set_cons_zero, List.set_cons_succ]
  refine wpAnyH_take (i := 31) (oi := _) (v := ?_) rfl (by kernel_rfl) (by kernel_rfl) (by kernel_rfl) (fun _ _ _ h => h) (Or.inl ⟨by rfl, ?hy⟩) hHeld ?_
  case hy => (intro w hSw; (try simp only [List.getElem_toArray, List.getElem_cons_zero, List.getElem_cons_succ]); go_simp; (try with_reducible rfl))
  try simp only [List.getElem_toArray, List.getElem_cons_zero, List.getElem_cons_succ, Act.put, List.setIfInBounds_toArray, List.set_cons_zero, List.set_cons_succ]
  refine wpAnyH_take (i := 32) (oi := _) (v := ?_) rfl (by kernel_rfl) (by kernel_rfl) (by kernel_rfl) (fun _ _ _ h => h) (Or.inl ⟨by rfl, ?hy⟩) hHeld ?_
  case hy => (intro w hSw; (try simp only [List.getElem_toArray, List.getElem_cons_zero, List.getElem_cons_succ]); go_simp; (try with_reducible rfl))
  try simp only [List.getElem_toArray, List.getElem_cons_zero, List.getElem_cons_succ, Act.put, List.setIfInBounds_toArray, List.set_cons_zero, List.set_cons_succ]
  refine wpAnyH_take (i := 33) (oi := _) (v := ?_) rfl (by kernel_rfl) (by kernel_rfl) (by kernel_rfl) (fun _ _ _ h => h) (Or.inl ⟨by rfl, ?hy⟩) hHeld ?_
  case hy => (intro w hSw; (try simp only [List.getElem_toArray, List.getElem_cons_zero, List.getElem_cons_succ]); go_simp; (try with_reducible rfl))
  try simp only [List.getElem_toArray, List.getElem_cons_zero, List.getElem_cons_succ, Act.put, List.setIfInBounds_toArray, List.set_cons_zero, List.set_cons_succ]
  refine wpAnyH_done (by kernel_rfl) ?_ _
  try simp only [List.getElem_toArray, List.getElem_cons_zero, List.getElem_cons_succ]
  go_wp2
  go_ret
  exact ⟨rfl, HO8.out.trans kk⟩
end Go.Proofs.Ytpajdnjbeplneaa
