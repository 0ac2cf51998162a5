/-
  The log: 'awake' holds.
-/
import Derived.Test.YtokdpldmoflnkaaMg17
import Derived.Maps.AppendAt
namespace Go.Proofs.Ytokdpldmoflnkaa
open Go.ChangeShapes Go.WideShapes Go.ChangeAt Go.RowKit Go.Maps
set_option linter.unusedVariables false
set_option linter.unusedSimpArgs false
theorem conv_blk3 {w : World} {d c n : Nat} {xs : List Int} {r : List Value} (h : Blk w d 5 (u8l xs ++ r).toArray) (hu : U8 xs) (hn : xs.length = n) : (convert 46 9 (.slice (some ⟨d, 0, none⟩) n c)).run Try.prog w = .ok (.string (strB xs)) w := by
  subst hn
  exact conv_bytes w _ _ _ xs ⟨rfl, fun _ => ⟨d, 0, rfl, h.lt, fun i hi => by rw [Nat.zero_add, h.cell]; exact u8l_get _ _ i hi⟩⟩ (by simp) hu
theorem layAll_len {N : Nat} : ∀ (l : List (Nat × List Int)) (plat : List Int), plat.length = 512 * N → (∀ p ∈ l, p.1 < N ∧ p.2.length = 512) → (layAll plat l).length = 512 * N
  | [], plat, hp, hl => hp
  | p :: l, plat, hp, hl => by
    have h1 := hl p (by simp)
    exact layAll_len l (Go.splice plat (512 * p.1) p.2) (splice_len hp h1.2 h1.1) (fun q hq => hl q (by simp [hq]))
/-- Where awake's commit ends. -/
theorem awake_end (f1 f2 : List Int) (P : List Int) (hP : P.length = 512 * 12) (h1 : f1.length = 512) (h2 : f2.length = 512) :
    let q := endP 1 (startP none ⟨0, putG (putG [] 7 f1) 9 f2, 0, 0, P, []⟩)
    q.gen = 1 ∧ q.G = [] ∧ q.st = 0 ∧ q.nx = 0 ∧ q.l = [] ∧ sect q.plat q.l 9 = f2 := by
  have e0 : putG (putG [] 7 f1) 9 f2 = [(7, f1), (9, f2)] := by simp [putG]
  have es : startP none ⟨0, [(7, f1), (9, f2)], 0, 0, P, []⟩ = ⟨0, [(7, f1), (9, f2)], 1, 0, P, []⟩ := rfl
  have el : leftP ⟨0, [(7, f1), (9, f2)], 1, 0, P, []⟩ = 10 := rfl
  have ee : endP 1 ⟨0, [(7, f1), (9, f2)], 1, 0, P, []⟩ = ⟨1, [], 0, 0, layAll (layAll (layAll (layAll P [(2, f1), (3, f2)]) [(1, hdrF 1 [7, 9])]) [(7, f1), (9, f2)]) [(1, hdrF 1 [])], []⟩ := by
    unfold endP
    rw [el]
    simp [iterP, stepP, nextP, doP, eachP]
  rw [e0, es, ee]
  refine ⟨rfl, rfl, rfl, rfl, rfl, ?_⟩
  have hh : ∀ g ns, ns.length ≤ 247 → (hdrF g ns).length = 512 := hdrF_length
  have q1 : ∀ p ∈ [((2 : Nat), f1), (3, f2)], p.1 < 12 ∧ p.2.length = 512 := by simp [h1, h2]
  have l1 := layAll_len (N := 12) _ P hP q1
  have q2 : ∀ p ∈ [((1 : Nat), hdrF 1 [7, 9])], p.1 < 12 ∧ p.2.length = 512 := by simp [hh]
  have l2 := layAll_len (N := 12) _ _ l1 q2
  have q3 : ∀ p ∈ [((7 : Nat), f1), (9, f2)], p.1 < 12 ∧ p.2.length = 512 := by simp [h1, h2]
  have l3 := layAll_len (N := 12) _ _ l2 q3
  have q4 : ∀ p ∈ [((1 : Nat), hdrF 1 [])], p.1 < 12 ∧ p.2.length = 512 := by simp [hh]
  show sect (layAll (layAll (layAll (layAll P [(2, f1), (3, f2)]) [(1, hdrF 1 [7, 9])]) [(7, f1), (9, f2)]) [(1, hdrF 1 [])]) [] 9 = f2
  rw [sect_flush (N := 12) 9 _ _ l3 q4]
  have e1 := sect_write (layAll (layAll (layAll P [(2, f1), (3, f2)]) [(1, hdrF 1 [7, 9])]) [(7, f1), (9, f2)]) [] 1 9 (hdrF 1 [])
  rw [List.nil_append, if_neg (by decide)] at e1
  rw [e1, sect_flush (N := 12) 9 _ _ l2 q3]
  have e2 := sect_write (layAll (layAll P [(2, f1), (3, f2)]) [(1, hdrF 1 [7, 9])]) [(7, f1)] 9 9 f2
  rw [if_pos rfl] at e2
  exact e2
theorem awake_left (f1 f2 P : List Int) : leftP (startP none ⟨0, putG (putG [] 7 f1) 9 f2, 0, 0, P, []⟩) = 10 := by
  have e0 : putG (putG [] 7 f1) 9 f2 = [(7, f1), (9, f2)] := by simp [putG]
  rw [e0]
  rfl
/-- What the last read of awake leaves. -/
def ReadA (w7 : World) (g gd : Nat) (q : LP) (f2 : List Int) (k : Nat) (F : List Nat) (t4 t6 : Value) (wx : World) : Prop := t4 = .int .i64 0 ∧ ∃ d c r, t6 = .slice (some ⟨d, 0, none⟩) 512 c ∧ Blk wx d 5 (u8l f2 ++ r).toArray ∧ DidP w7 wx g gd 12 1 4 none q k F
theorem filled512 (c : Int) (w : World) (h0 : 0 ≤ c) (h1 : c ≤ 255) : Calls Try.prog 12 #[.int .i64 512, .int .u8 c] w fun e w' => ∃ d, e = .returned (.slice (some ⟨d, 0, none⟩) 512 512) ∧ w.heap.size ≤ d ∧ Blk w' d 5 (u8l (fill3 512 c)).toArray ∧ Only [] w w' := filled3_ok 512 c w (by decide) h0 h1
set_option maxRecDepth 100000 in
set_option maxHeartbeats 2000000 in
theorem awake_ok (w : World) : Calls Try.prog 9 #[] w fun e w' => e = .returned (.bool true) ∧ Only [] w w' := by
  go_enter Try.func9, Try.ntmps9
  go_wp2_with fail
  refine (dk_new 12 _ (by decide) (by decide)).mono ?_
  rintro e w1 ⟨gd, FD, rfl, ho1, hFD, hd⟩
  have HO1 := hide ho1
  have HFD := hide hFD
  have HD := hide hd
  clear ho1 hFD hd
  go_wp2_with fail
  refine (format_ok (a := 1) (sz := 4) HD.out (by decide) (by decide) (by decide)).mono ?_
  rintro e w2 ⟨g, F2, rfl, ho2, hF2, hL2⟩
  have HPL := hide (show (layAll (List.replicate (512 * (12 : Int).toNat) 0) ([] ++ [(1, hdrF 0 [])])).length = 512 * 12 from layAll_len (N := 12) _ _ (by simp) (by simp [hdrF_length]))
  unfold fmtP at hL2
  generalize layAll (List.replicate (512 * (12 : Int).toNat) 0) ([] ++ [(1, hdrF 0 [])]) = P at hL2 HPL
  have HO2 := hide (HO1.out.trans' ho2 (fun q hq hm => by have := HFD.out q hm; omega))
  have HF2 := hide (show ∀ q ∈ F2, w.heap.size ≤ q from fun q hq => (hF2 q hq).elim (fun e => HFD.out q e) (fun e => Nat.le_trans HO1.out.size e))
  have HL2 := hide hL2
  clear ho2 hF2 hL2
  go_wp2_with fail
  refine (filled512 1 _ (by decide) (by decide)).mono ?_
  rintro e w3 ⟨d3, rfl, hd3, hb3, ho3⟩
  have HO3 := hide (HO2.out.trans ho3)
  have HL3 := hide (HL2.out.quiet ho3)
  have HB3 := hide hb3
  clear hd3 hb3 ho3
  have h31 := fill3_length 512 1
  have u31 := u8_fill3 512 1
  generalize fill3 512 1 = f1 at *
  have HZ1 := hide h31
  have HU1 := hide u31
  clear h31 u31
  go_wp2_with fail
  refine (lg_write HL3.out 7 d3 0 512 f1 (by decide) rfl (.inr (by decide)) HZ1.out HU1.out (fun i hi => by rw [Nat.zero_add, HB3.out.cell]; have := u8l_get f1 [] i (by rw [HZ1.out]; exact hi); rwa [List.append_nil] at this) HB3.out.lt).mono ?_
  rintro e w4 ⟨rfl, F4, hT4, hL4⟩
  have HO4 := hide (HO3.out.trans' hT4.1 (fun q hq hm => by have := HF2.out q hm; omega))
  have HF4 := hide (show ∀ q ∈ F4, w.heap.size ≤ q from fun q hq => (hT4.2 q hq).elim (fun e => HF2.out q e) (fun e => Nat.le_trans HO3.out.size e))
  have HL4 := hide hL4
  clear hT4 hL4
  go_wp2_with fail
  refine (filled512 2 _ (by decide) (by decide)).mono ?_
  rintro e w5 ⟨d5, rfl, hd5, hb5, ho5⟩
  have HO5 := hide (HO4.out.trans ho5)
  have HL5 := hide (HL4.out.quiet ho5)
  have HB5 := hide hb5
  clear hd5 hb5 ho5
  have h32 := fill3_length 512 2
  have u32 := u8_fill3 512 2
  have HF3 := hide (fun W => filled512 2 W (by decide) (by decide))
  generalize fill3 512 2 = f2 at *
  have HZ2 := hide h32
  have HU2 := hide u32
  clear h32 u32
  go_wp2_with fail
  refine (lg_write HL5.out 9 d5 0 512 f2 (by decide) rfl (.inr (by simp [putG])) HZ2.out HU2.out (fun i hi => by rw [Nat.zero_add, HB5.out.cell]; have := u8l_get f2 [] i (by rw [HZ2.out]; exact hi); rwa [List.append_nil] at this) HB5.out.lt).mono ?_
  rintro e w6 ⟨rfl, F6, hT6, hL6⟩
  have HO6 := hide (HO5.out.trans' hT6.1 (fun q hq hm => by have := HF4.out q hm; omega))
  have HF6 := hide (show ∀ q ∈ F6, w.heap.size ≤ q from fun q hq => (hT6.2 q hq).elim (fun e => HF4.out q e) (fun e => Nat.le_trans HO5.out.size e))
  have HL6 := hide (show LgP w6 g gd 12 1 4 none ⟨0, putG (putG [] 7 f1) 9 f2, 0, 0, P, []⟩ 2 F6 from hL6)
  clear hT6 hL6
  go_wp2_with fail
  have hc := lg_commit HL6.out (.inl ⟨rfl, rfl⟩) (by decide) (by show ([] : List (Nat × List Int)).length < 4398046000000; decide)
  rw [awake_left, show ((10 : Nat) : Int) = 10 from rfl] at hc
  obtain ⟨g1, g2, g3, g4, g5, g6⟩ := awake_end f1 f2 P HPL.out HZ1.out HZ2.out
  have HE := hide (And.intro g1 (And.intro g2 (And.intro g3 (And.intro g4 (And.intro g5 g6)))))
  clear g1 g2 g3 g4 g5 g6
  generalize endP 1 (startP none ⟨0, putG (putG [] 7 f1) 9 f2, 0, 0, P, []⟩) = q at *
  refine hc.mono ?_
  clear hc
  rintro e w7 ⟨rfl, F7, hT7, hL7⟩
  have HO7 := hide (HO6.out.trans' hT7.1 (fun q hq hm => by have := HF6.out q hm; omega))
  have HF7 := hide (show ∀ q ∈ F7, w.heap.size ≤ q from fun q hq => (hT7.2 q hq).elim (fun e => HF6.out q e) (fun e => Nat.le_trans HO6.out.size e))
  have HL7 := hide hL7
  clear hT7 hL7
  go_upto_region 6 with (fail)
  go_cut [4, 6] from 8 to 47 (fun t4 t6 wx => ReadA w7 g gd q f2 (2 + 10 + 1) F7 t4 t6 wx)
  case first =>
    go_wp2_with fail
    refine (lg_dread HL7.out 9 (by decide) (by decide)).mono ?_
    rintro e w8 ⟨v8, rfl, hf8, hD8⟩
    rw [HE.out.2.2.2.2.2] at hf8
    obtain ⟨d8, c8, r8, rfl, hd8, hb8, hc8⟩ := hf8
    rw [HZ2.out]
    have HB8 := hide hb8
    have HD8 := hide hD8
    clear hd8 hb8 hc8 hD8
    go_wp2_with fail
    go_meet
    case rel => exact ⟨rfl, d8, c8, r8, rfl, HB8.out, HD8.out⟩
  case rest =>
  obtain ⟨rfl, d8, c8, r8, rfl, hb8, F8, hT8, hL8⟩ := hcut
  obtain ⟨w8, hw8⟩ : ∃ w8, w8 = wc := ⟨_, rfl⟩
  subst hw8
  have HO8 := hide (HO7.out.trans' hT8.1 (fun q hq hm => by have := HF7.out q hm; omega))
  have HL8 := hide hL8
  have HCV := hide (fun W (ho : Only [] w8 W) => conv_blk3 (c := c8) (hb8.only ho (by simp)) HU2.out HZ2.out)
  have HF9 := hide (fun W (ho : Only [] w8 W) => (HF3.out W).mono (R' := fun e w' => ∃ d, e = .returned (.slice (some ⟨d, 0, none⟩) 512 512) ∧ (∀ W', Only [] w' W' → (convert 46 9 (.slice (some ⟨d, 0, none⟩) 512 512)).run Try.prog W' = .ok (.string (strB f2)) W') ∧ Only [] w8 w') (fun e w' ⟨d, e1, e2, e3, e4⟩ => ⟨d, e1, fun W' hW' => conv_blk3 (r := []) (by rw [List.append_nil]; exact e3.only hW' (by simp)) HU2.out HZ2.out, ho.trans e4⟩))
  have hg := fun W (ho : Only [] w8 W) => lg_gen (hL8.quiet ho)
  have hr := fun W (ho : Only [] w8 W) => lg_room (hL8.quiet ho)
  have hp := fun W (ho : Only [] w8 W) => lg_dpending (hL8.quiet ho)
  obtain ⟨g1, g2, g3, g4, g5, g6⟩ := HE.out
  rw [g1] at hg
  simp only [g2, List.length_nil] at hr
  rw [show ((4 : Nat) : Int) - 1 - ((0 : Nat) : Int) = 3 from rfl] at hr
  simp only [g5, List.length_nil] at hp
  have HG := hide hg
  have HR := hide hr
  have HP := hide hp
  generalize strB f2 = sf at *
  clear hT8 hL8 hb8 hg hr hp g1 g2 g3 g4 g5 g6
  have cv0 := HCV.out _ ((Only.refl [] w8).drew)
  go_wp2_with fail
  have kk : Only [] w8 w8.drew := (Only.refl _ _).drew
  refine wp_region_held_drew (S := fun w' => (convert 46 9 (.slice (some ⟨d8, 0, none⟩) 512 c8)).run Try.prog w' = .ok (.string sf) w') (by kernel_rfl) (HCV.out _ kk) (fun hHeld => ?_)
  refine wpAnyH_take (i := 0) (oi := _) (v := ?_) rfl (by kernel_rfl) (by kernel_rfl) (by kernel_rfl) (fun _ _ _ h => h) (Or.inl ⟨by rfl, ?hy⟩) hHeld ?_
  case hy => (intro w hSw; (try simp only [List.getElem_toArray, List.getElem_cons_zero, List.getElem_cons_succ]); go_simp; (try with_reducible rfl))
  try simp only [List.getElem_toArray, List.getElem_cons_zero, List.getElem_cons_succ, Act.put, List.setIfInBounds_toArray, List.set_cons_zero, List.set_cons_succ]
  refine wpAnyH_take (i := 1) (oi := _) (v := ?_) rfl (by kernel_rfl) (by kernel_rfl) (by kernel_rfl) (fun _ _ _ h => h) (Or.inl ⟨by rfl, ?hy⟩) hHeld ?_
  case hy => (intro w hSw; (try simp only [List.getElem_toArray, List.getElem_cons_zero, List.getElem_cons_succ]); go_simp; (try with_reducible rfl))
  try simp only [List.getElem_toArray, List.getElem_cons_zero, List.getElem_cons_succ, Act.put, List.setIfInBounds_toArray, List.set_cons_zero, List.set_cons_succ]
  refine wpAnyH_take (i := 2) (oi := _) (v := ?_) rfl (by kernel_rfl) (by kernel_rfl) (by kernel_rfl) (fun _ _ _ h => h) (Or.inl ⟨by rfl, ?hy⟩) hHeld ?_
  case hy => (intro w hSw; (try simp only [List.getElem_toArray, List.getElem_cons_zero, List.getElem_cons_succ]); go_simp; (try with_reducible rfl))
  try simp only [List.getElem_toArray, List.getElem_cons_zero, List.getElem_cons_succ, Act.put, List.setIfInBounds_toArray, List.set_cons_zero, List.set_cons_succ]
  refine wpAnyH_take (i := 3) (oi := _) (v := ?_) rfl (by kernel_rfl) (by kernel_rfl) (by kernel_rfl) (fun _ _ _ h => h) (Or.inl ⟨by rfl, ?hy⟩) hHeld ?_
  case hy => (intro w hSw; (try simp only [List.getElem_toArray, List.getElem_cons_zero, List.getElem_cons_succ]); go_simp; (try with_reducible rfl))
  try simp only [List.getElem_toArray, List.getElem_cons_zero, List.getElem_cons_succ, Act.put, List.setIfInBounds_toArray, List.set_cons_zero, List.set_cons_succ]
  refine wpAnyH_take (i := 4) (oi := _) (v := ?_) rfl (by kernel_rfl) (by kernel_rfl) (by kernel_rfl) (fun _ _ _ h => h) (Or.inl ⟨by rfl, ?hy⟩) hHeld ?_
  case hy => (intro w hSw; (try simp only [List.getElem_toArray, List.getElem_cons_zero, List.getElem_cons_succ]); go_simp; (try with_reducible rfl))
  try simp only [List.getElem_toArray, List.getElem_cons_zero, List.getElem_cons_succ, Act.put, List.setIfInBounds_toArray, List.set_cons_zero, List.set_cons_succ]
  refine wpAnyH_take (i := 5) (oi := _) (v := ?_) rfl (by kernel_rfl) (by kernel_rfl) (by kernel_rfl) (fun _ _ _ h => h) (Or.inl ⟨by rfl, ?hy⟩) hHeld ?_
  case hy => (intro w hSw; (try simp only [List.getElem_toArray, List.getElem_cons_zero, List.getElem_cons_succ]); go_simp; (try with_reducible rfl))
  try simp only [List.getElem_toArray, List.getElem_cons_zero, List.getElem_cons_succ, Act.put, List.setIfInBounds_toArray, List.set_cons_zero, List.set_cons_succ]
  refine wpAnyH_take (i := 6) (oi := _) (v := ?_) rfl (by kernel_rfl) (by kernel_rfl) (by kernel_rfl) (fun _ _ _ h => h) (Or.inl ⟨by rfl, ?hy⟩) hHeld ?_
  case hy => (intro w hSw; (try simp only [List.getElem_toArray, List.getElem_cons_zero, List.getElem_cons_succ]); go_simp; (try with_reducible rfl))
  try simp only [List.getElem_toArray, List.getElem_cons_zero, List.getElem_cons_succ, Act.put, List.setIfInBounds_toArray, List.set_cons_zero, List.set_cons_succ]
  refine wpAnyH_take (i := 7) (oi := _) (v := ?_) rfl (by kernel_rfl) (by kernel_rfl) (by kernel_rfl) (fun _ _ _ h => h) (Or.inl ⟨by rfl, ?hy⟩) hHeld ?_
  case hy => (intro w hSw; (try simp only [List.getElem_toArray, List.getElem_cons_zero, List.getElem_cons_succ]); go_simp; (try with_reducible rfl))
  try simp only [List.getElem_toArray, List.getElem_cons_zero, List.getElem_cons_succ, Act.put, List.setIfInBounds_toArray, List.set_cons_zero, List.set_cons_succ]
  refine wpAnyH_take (i := 8) (oi := _) (v := ?_) rfl (by kernel_rfl) (by kernel_rfl) (by kernel_rfl) (fun _ _ _ h => h) (Or.inl ⟨by rfl, ?hy⟩) hHeld ?_
  case hy => (intro w hSw; (try simp only [List.getElem_toArray, List.getElem_cons_zero, List.getElem_cons_succ]); go_simp; (try with_reducible rfl))
  try simp only [List.getElem_toArray, List.getElem_cons_zero, List.getElem_cons_succ, Act.put, List.setIfInBounds_toArray, List.set_cons_zero, List.set_cons_succ]
  refine wpAnyH_take (i := 9) (oi := _) (v := ?_) rfl (by kernel_rfl) (by kernel_rfl) (by kernel_rfl) (fun _ _ _ h => h) (Or.inl ⟨by rfl, ?hy⟩) hHeld ?_
  case hy => (intro w hSw; (try simp only [List.getElem_toArray, List.getElem_cons_zero, List.getElem_cons_succ]); go_simp; (try with_reducible rfl))
  try simp only [List.getElem_toArray, List.getElem_cons_zero, List.getElem_cons_succ, Act.put, List.setIfInBounds_toArray, List.set_cons_zero, List.set_cons_succ]
  refine wpAnyH_take (i := 10) (oi := _) (v := ?_) rfl (by kernel_rfl) (by kernel_rfl) (by kernel_rfl) (fun _ _ _ h => h) (Or.inl ⟨by rfl, ?hy⟩) hHeld ?_
  case hy => (intro w hSw; (try simp only [List.getElem_toArray, List.getElem_cons_zero, List.getElem_cons_succ]); go_simp; (try with_reducible rfl))
  try simp only [List.getElem_toArray, List.getElem_cons_zero, List.getElem_cons_succ, Act.put, List.setIfInBounds_toArray, List.set_cons_zero, List.set_cons_succ]
  refine wpAnyH_take (i := 11) (oi := _) (v := ?_) rfl (by kernel_rfl) (by kernel_rfl) (by kernel_rfl) (fun _ _ _ h => h) (Or.inl ⟨by rfl, ?hy⟩) hHeld ?_
  case hy => (intro w hSw; (try simp only [List.getElem_toArray, List.getElem_cons_zero, List.getElem_cons_succ]); go_simp; (try with_reducible rfl))
  try simp only [List.getElem_toArray, List.getElem_cons_zero, List.getElem_cons_succ, Act.put, List.setIfInBounds_toArray, List.set_cons_zero, List.set_cons_succ]
  refine wpAnyH_take (i := 12) (oi := _) (v := ?_) rfl (by kernel_rfl) (by kernel_rfl) (by kernel_rfl) (fun _ _ _ h => h) (Or.inl ⟨by rfl, ?hy⟩) hHeld ?_
  case hy => (intro w hSw; (try simp only [List.getElem_toArray, List.getElem_cons_zero, List.getElem_cons_succ]); go_simp; (try with_reducible rfl))
  try simp only [List.getElem_toArray, List.getElem_cons_zero, List.getElem_cons_succ, Act.put, List.setIfInBounds_toArray, List.set_cons_zero, List.set_cons_succ]
  refine wpAnyH_ready (rs := [13]) (by kernel_rfl) (by simp) ?_
  refine (AllReadyH.cons rfl (fun K hK => ?_) AllReadyH.nil)
  go_simp
  go_at_call 12
  refine (HF9.out _ kk).mono ?_
  rintro e w9 ⟨d9, rfl, k9, o9⟩
  have k9' := k9 w9 (Only.refl _ _)
  have HK9 := hide k9
  clear kk k9
  have kk := o9
  refine hK.out _ _ (HCV.out _ kk) (fun hHeld => ?_)
  clear hK K
  try simp only [List.getElem_toArray, List.getElem_cons_zero, List.getElem_cons_succ, Act.put, List.setIfInBounds_toArray, List.set_cons_zero, List.set_cons_succ]
  refine wpAnyH_ready (rs := [14]) (by kernel_rfl) (by simp) ?_
  refine (AllReadyH.cons rfl (fun K hK => ?_) AllReadyH.nil)
  go_simp
  refine hK.out _ _ (HCV.out _ kk) (fun hHeld => ?_)
  clear hK K
  try simp only [List.getElem_toArray, List.getElem_cons_zero, List.getElem_cons_succ, Act.put, List.setIfInBounds_toArray, List.set_cons_zero, List.set_cons_succ]
  refine wpAnyH_take (i := 15) (oi := _) (v := ?_) rfl (by kernel_rfl) (by kernel_rfl) (by kernel_rfl) (fun _ _ _ h => h) (Or.inl ⟨by rfl, ?hy⟩) hHeld ?_
  case hy => (intro w hSw; (try simp only [List.getElem_toArray, List.getElem_cons_zero, List.getElem_cons_succ]); go_simp; (try with_reducible rfl))
  try simp only [List.getElem_toArray, List.getElem_cons_zero, List.getElem_cons_succ, Act.put, List.setIfInBounds_toArray, List.set_cons_zero, List.set_cons_succ]
  refine wpAnyH_take (i := 16) (oi := _) (v := ?_) rfl (by kernel_rfl) (by kernel_rfl) (by kernel_rfl) (fun _ _ _ h => h) (Or.inl ⟨by rfl, ?hy⟩) hHeld ?_
  case hy => (intro w hSw; (try simp only [List.getElem_toArray, List.getElem_cons_zero, List.getElem_cons_succ]); go_simp; (try with_reducible rfl))
  try simp only [List.getElem_toArray, List.getElem_cons_zero, List.getElem_cons_succ, Act.put, List.setIfInBounds_toArray, List.set_cons_zero, List.set_cons_succ]
  refine wpAnyH_take (i := 17) (oi := _) (v := ?_) rfl (by kernel_rfl) (by kernel_rfl) (by kernel_rfl) (fun _ _ _ h => h) (Or.inl ⟨by rfl, ?hy⟩) hHeld ?_
  case hy => (intro w hSw; (try simp only [List.getElem_toArray, List.getElem_cons_zero, List.getElem_cons_succ]); go_simp; (try with_reducible rfl))
  try simp only [List.getElem_toArray, List.getElem_cons_zero, List.getElem_cons_succ, Act.put, List.setIfInBounds_toArray, List.set_cons_zero, List.set_cons_succ]
  refine wpAnyH_take (i := 18) (oi := _) (v := ?_) rfl (by kernel_rfl) (by kernel_rfl) (by kernel_rfl) (fun _ _ _ h => h) (Or.inl ⟨by rfl, ?hy⟩) hHeld ?_
  case hy => (intro w hSw; (try simp only [List.getElem_toArray, List.getElem_cons_zero, List.getElem_cons_succ]); go_simp; (try with_reducible rfl))
  try simp only [List.getElem_toArray, List.getElem_cons_zero, List.getElem_cons_succ, Act.put, List.setIfInBounds_toArray, List.set_cons_zero, List.set_cons_succ]
  refine wpAnyH_ready (rs := [19]) (by kernel_rfl) (by simp) ?_
  refine (AllReadyH.cons rfl (fun K hK => ?_) AllReadyH.nil)
  go_simp
  go_at_call 35
  refine (HG.out _ kk).mono ?_
  rintro e wA ⟨rfl, rfl⟩
  refine hK.out _ _ (HCV.out _ kk) (fun hHeld => ?_)
  clear hK K
  try simp only [List.getElem_toArray, List.getElem_cons_zero, List.getElem_cons_succ, Act.put, List.setIfInBounds_toArray, List.set_cons_zero, List.set_cons_succ]
  refine wpAnyH_take (i := 20) (oi := _) (v := ?_) rfl (by kernel_rfl) (by kernel_rfl) (by kernel_rfl) (fun _ _ _ h => h) (Or.inl ⟨by rfl, ?hy⟩) hHeld ?_
  case hy => (intro w hSw; (try simp only [List.getElem_toArray, List.getElem_cons_zero, List.getElem_cons_succ]); go_simp; (try with_reducible rfl))
  try simp only [List.getElem_toArray, List.getElem_cons_zero, List.getElem_cons_succ, Act.put, List.setIfInBounds_toArray, List.set_cons_zero, List.set_cons_succ]
  refine wpAnyH_take (i := 21) (oi := _) (v := ?_) rfl (by kernel_rfl) (by kernel_rfl) (by kernel_rfl) (fun _ _ _ h => h) (Or.inl ⟨by rfl, ?hy⟩) hHeld ?_
  case hy => (intro w hSw; (try simp only [List.getElem_toArray, List.getElem_cons_zero, List.getElem_cons_succ]); go_simp; (try with_reducible rfl))
  try simp only [List.getElem_toArray, List.getElem_cons_zero, List.getElem_cons_succ, Act.put, List.setIfInBounds_toArray, List.set_cons_zero, List.set_cons_succ]
  refine wpAnyH_take (i := 22) (oi := _) (v := ?_) rfl (by kernel_rfl) (by kernel_rfl) (by kernel_rfl) (fun _ _ _ h => h) (Or.inl ⟨by rfl, ?hy⟩) hHeld ?_
  case hy => (intro w hSw; (try simp only [List.getElem_toArray, List.getElem_cons_zero, List.getElem_cons_succ]); go_simp; (try with_reducible rfl))
  try simp only [List.getElem_toArray, List.getElem_cons_zero, List.getElem_cons_succ, Act.put, List.setIfInBounds_toArray, List.set_cons_zero, List.set_cons_succ]
  refine wpAnyH_take (i := 23) (oi := _) (v := ?_) rfl (by kernel_rfl) (by kernel_rfl) (by kernel_rfl) (fun _ _ _ h => h) (Or.inl ⟨by rfl, ?hy⟩) hHeld ?_
  case hy => (intro w hSw; (try simp only [List.getElem_toArray, List.getElem_cons_zero, List.getElem_cons_succ]); go_simp; (try with_reducible rfl))
  try simp only [List.getElem_toArray, List.getElem_cons_zero, List.getElem_cons_succ, Act.put, List.setIfInBounds_toArray, List.set_cons_zero, List.set_cons_succ]
  refine wpAnyH_ready (rs := [24]) (by kernel_rfl) (by simp) ?_
  refine (AllReadyH.cons rfl (fun K hK => ?_) AllReadyH.nil)
  go_simp
  go_at_call 33
  refine (HR.out _ kk).mono ?_
  rintro e wB ⟨rfl, oB⟩
  have kk2 := kk.trans oB
  clear kk
  have kk := kk2
  clear kk2 oB
  refine hK.out _ _ (HCV.out _ kk) (fun hHeld => ?_)
  clear hK K
  try simp only [List.getElem_toArray, List.getElem_cons_zero, List.getElem_cons_succ, Act.put, List.setIfInBounds_toArray, List.set_cons_zero, List.set_cons_succ]
  refine wpAnyH_take (i := 25) (oi := _) (v := ?_) rfl (by kernel_rfl) (by kernel_rfl) (by kernel_rfl) (fun _ _ _ h => h) (Or.inl ⟨by rfl, ?hy⟩) hHeld ?_
  case hy => (intro w hSw; (try simp only [List.getElem_toArray, List.getElem_cons_zero, List.getElem_cons_succ]); go_simp; (try with_reducible rfl))
  try simp only [List.getElem_toArray, List.getElem_cons_zero, List.getElem_cons_succ, Act.put, List.setIfInBounds_toArray, List.set_cons_zero, List.set_cons_succ]
  refine wpAnyH_take (i := 26) (oi := _) (v := ?_) rfl (by kernel_rfl) (by kernel_rfl) (by kernel_rfl) (fun _ _ _ h => h) (Or.inl ⟨by rfl, ?hy⟩) hHeld ?_
  case hy => (intro w hSw; (try simp only [List.getElem_toArray, List.getElem_cons_zero, List.getElem_cons_succ]); go_simp; (try with_reducible rfl))
  try simp only [List.getElem_toArray, List.getElem_cons_zero, List.getElem_cons_succ, Act.put, List.setIfInBounds_toArray, List.set_cons_zero, List.set_cons_succ]
  refine wpAnyH_take (i := 27) (oi := _) (v := ?_) rfl (by kernel_rfl) (by kernel_rfl) (by kernel_rfl) (fun _ _ _ h => h) (Or.inl ⟨by rfl, ?hy⟩) hHeld ?_
  case hy => (intro w hSw; (try simp only [List.getElem_toArray, List.getElem_cons_zero, List.getElem_cons_succ]); go_simp; (try with_reducible rfl))
  try simp only [List.getElem_toArray, List.getElem_cons_zero, List.getElem_cons_succ, Act.put, List.setIfInBounds_toArray, List.set_cons_zero, List.set_cons_succ]
  refine wpAnyH_take (i := 28) (oi := _) (v := ?_) rfl (by kernel_rfl) (by kernel_rfl) (by kernel_rfl) (fun _ _ _ h => h) (Or.inl ⟨by rfl, ?hy⟩) hHeld ?_
  case hy => (intro w hSw; (try simp only [List.getElem_toArray, List.getElem_cons_zero, List.getElem_cons_succ]); go_simp; (try with_reducible rfl))
  try simp only [List.getElem_toArray, List.getElem_cons_zero, List.getElem_cons_succ, Act.put, List.setIfInBounds_toArray, List.set_cons_zero, List.set_cons_succ]
  refine wpAnyH_ready (rs := [29]) (by kernel_rfl) (by simp) ?_
  refine (AllReadyH.cons rfl (fun K hK => ?_) AllReadyH.nil)
  go_simp
  go_at_call 37
  refine (HP.out _ kk).mono ?_
  rintro e wC ⟨dC, rfl, -, -, oC⟩
  have kk2 := kk.trans oC
  clear kk
  have kk := kk2
  clear kk2 oC
  refine hK.out _ _ (HCV.out _ kk) (fun hHeld => ?_)
  clear hK K
  try simp only [List.getElem_toArray, List.getElem_cons_zero, List.getElem_cons_succ, Act.put, List.setIfInBounds_toArray, List.set_cons_zero, List.set_cons_succ]
  refine wpAnyH_take (i := 30) (oi := _) (v := ?_) rfl (by kernel_rfl) (by kernel_rfl) (by kernel_rfl) (fun _ _ _ h => h) (Or.inl ⟨by rfl, ?hy⟩) hHeld ?_
  case hy => (intro w hSw; (try simp only [List.getElem_toArray, List.getElem_cons_zero, List.getElem_cons_succ]); go_simp; (try with_reducible rfl))
  try simp only [List.getElem_toArray, List.getElem_cons_zero, List.getElem_cons_succ, Act.put, List.setIfInBounds_toArray, List.set_cons_zero, List.set_cons_succ]
  refine wpAnyH_take (i := 31) (oi := _) (v := ?_) rfl (by kernel_rfl) (by kernel_rfl) (by kernel_rfl) (fun _ _ _ h => h) (Or.inl ⟨by rfl, ?hy⟩) hHeld ?_
  case hy => (intro w hSw; (try simp only [List.getElem_toArray, List.getElem_cons_zero, List.getElem_cons_succ]); go_simp; (try with_reducible rfl))
  try simp only [List.getElem_toArray, List.getElem_cons_zero, List.getElem_cons_succ, Act.put, List.setIfInBounds_toArray, List.set_cons_zero, List.set_cons_succ]
  refine wpAnyH_take (i := 32) (oi := _) (v := ?_) rfl (by kernel_rfl) (by kernel_rfl) (by kernel_rfl) (fun _ _ _ h => h) (Or.inl ⟨by rfl, ?hy⟩) hHeld ?_
  case hy => (intro w hSw; (try simp only [List.getElem_toArray, List.getElem_cons_zero, List.getElem_cons_succ]); go_simp; (try with_reducible rfl))
  try simp only [List.getElem_toArray, List.getElem_cons_zero, List.getElem_cons_succ, Act.put, List.setIfInBounds_toArray, List.set_cons_zero, List.set_cons_succ]
  refine wpAnyH_take (i := 33) (oi := _) (v := ?_) rfl (by kernel_rfl) (by kernel_rfl) (by kernel_rfl) (fun _ _ _ h => h) (Or.inl ⟨by rfl, ?hy⟩) hHeld ?_
  case hy => (intro w hSw; (try simp only [List.getElem_toArray, List.getElem_cons_zero, List.getElem_cons_succ]); go_simp; (try with_reducible rfl))
  try simp only [List.getElem_toArray, List.getElem_cons_zero, List.getElem_cons_succ, Act.put, List.setIfInBounds_toArray, List.set_cons_zero, List.set_cons_succ]
  refine wpAnyH_done (by kernel_rfl) ?_ _
  try simp only [List.getElem_toArray, List.getElem_cons_zero, List.getElem_cons_succ]
  go_wp2
  go_ret
  exact ⟨rfl, HO8.out.trans kk⟩
end Go.Proofs.Ytokdpldmoflnkaa
/-
  The log: the laws' 'tell' and 'sameInts'; Write, whatever comes.
-/
namespace Go.Proofs.Ytokdpldmoflnkaa

open Go.ChangeShapes Go.WideShapes Go.ChangeAt Go.RowKit Go.Maps
set_option linter.unusedVariables false

abbrev YRow (w : World) (B : Nat) (v : Value) (zs : List Int) : Prop := KRow .u8 5 w B v zs

theorem wpList_append_y {ops : Array Oper} {rest : List Oper} {o : Oper} {a : Act} {w : World} {Q : Exit → Act → World → Prop} (hgd : o.guard = none) (s x : Operand)
    (ho : o.op = .call { callee := .builtin .append, args := #[s, x], argTypes := #[46, 46] }) (B : Nat) (hB : B ≤ w.heap.size) (v : Value) (ns : List Int) (hs : a.eval s = v) (hr : YRow w B v ns)
    (ad : Addr) (m c : Nat) (hx : a.eval x = .slice (some ad) m c) (zs : List Int) (hz : zs.length = m) (hnews : ∀ j, j < m → w.cell? (ad.add j) = some (.int .u8 (gb zs j))) (hbig : ns.length + m < 4000000000000)
    (hK : ∀ v' w2, YRow w2 B v' (ns ++ zs) → Only v.ownBlock.toList w w2 → (∀ k, v'.ownBlock = some k → v.ownBlock = some k ∨ w.heap.size ≤ k) → wpList Try.prog ops Q rest (a.put o.dst v') w2) : wpList Try.prog ops Q (o :: rest) a w := by
  obtain ⟨i0, hi0, hz0, hz1, hz2⟩ := info_parts info_u8
  obtain ⟨v', w', hrun, h2, h3, _, h5⟩ := run_append_own_at (P := Try.prog) (w := w) B 46 o.type 5 i0 _ 1 1 Try.underlying46 hi0 hz0 hz1 hz2 rfl (by decide) v ns.length (u8l ns) hr ad m c (u8l zs) (by rw [u8l_length, hz, Nat.mul_one]) (fun j u hu => by
    have hj : j < m := by
      have := (List.getElem?_eq_some_iff.1 hu).1
      rw [u8l_length] at this
      omega
    rw [hnews j hj, ← hu]
    simp [u8l, gb, List.getD, List.getElem?_eq_getElem (show j < zs.length by omega)]) (u8l_one _) (by unfold maxLen; omega) (by omega) hB
  refine wpList_plain hgd fun K hK' => ?_
  unfold Oper.wp
  simp [execOp, ho, resolve, invoke, builtin, hs, hx, hrun, Result.andThen]
  refine hK' _ _ (hK v' w' ?_ (only_grown' h3) (fun k hk => ?_))
  · unfold YRow KRow
    rw [List.length_append, List.map_append, hz]
    exact h2
  · rcases h5 with h5 | h5
    · exact .inl (h5 ▸ hk)
    · rw [h5] at hk
      injection hk with hk
      exact .inr (Nat.le_of_eq hk)

theorem YRow.sees {w : World} {B : Nat} {v : Value} {ns : List Int} (h : YRow w B v ns) : ∃ A c, v = .slice A ns.length c ∧ Sees w A ns.length ns ∧ (A = none → ns.length = 0) := by
  obtain ⟨A, c, e, hc⟩ := KRow.form h
  refine ⟨A, c, e, ⟨rfl, fun hp => ?_⟩, fun hA => ?_⟩
  · obtain ⟨b, e2, _, hlt, hcell⟩ := hc hp
    exact ⟨b, 0, e2, hlt, fun i hi => by rw [Nat.zero_add]; exact hcell i hi⟩
  · cases hl : ns.length with
    | zero => rfl
    | succ k =>
      obtain ⟨b, e2, _⟩ := hc (by omega)
      rw [hA] at e2; cases e2

/-- What the blocks read, one behind the other. -/
def tellF (G : PG) (plat : List Int) (l : List (Nat × List Int)) (N a sz i : Nat) : List Int := (List.range i).flatMap fun (n : Nat) => if blkB N a sz n then readG G plat l n else []

theorem tellF_succ (G : PG) (plat : List Int) (l : List (Nat × List Int)) (N a sz i : Nat) : tellF G plat l N a sz (i + 1) = tellF G plat l N a sz i ++ if blkB N a sz i then readG G plat l i else [] := by
  unfold tellF
  rw [List.range_succ, List.flatMap_append]
  simp

section

variable {w w' w1 : World} {g gd N a sz : Nat} {k k' : Nat} {F T : List Nat} {S : Option PG} {p : LP}

theorem read_ok (h : LgP w g gd N a sz S p k F) (n : Nat) (hn : n < N) : (readG p.G p.plat p.l n).length = 512 ∧ U8 (readG p.G p.plat p.l n) := by
  obtain ⟨rd, wt, fl, FD, hd⟩ := h.disk
  have hs := hd.secOk hn
  have hg := h.okp.2.2
  unfold readG
  split
  · rename_i q hq
    have := hg q (List.mem_of_find?_eq_some hq)
    exact ⟨this.2.1, this.2.2⟩
  · simpa using hs

theorem tell_len (h : LgP w g gd N a sz S p k F) : ∀ i, i ≤ N → (tellF p.G p.plat p.l N a sz i).length ≤ 512 * i ∧ U8 (tellF p.G p.plat p.l N a sz i)
  | 0, _ => by simp [tellF]; intro x hx; simp at hx
  | i + 1, hi => by
    have ih := tell_len h i (by omega)
    rw [tellF_succ]
    split
    · have := read_ok h i (by omega)
      exact ⟨by rw [List.length_append]; omega, ih.2.append this.2⟩
    · exact ⟨by rw [List.append_nil]; omega, by rw [List.append_nil]; exact ih.2⟩



/-- A write, whatever comes. -/
def writeP (N a sz : Nat) (p : LP) (n : Int) (zs : List Int) : LP := if blkB N a sz n = true ∧ (n ∈ p.G.map (·.1) ∨ p.G.length + 1 < sz) then { p with G := putG p.G n zs } else p

theorem lg_write_any (h : LgP w g gd N a sz S p k F) (hst : p.st = 0) (n : Int) (d o c : Nat) (zs : List Int) (hz : zs.length = 512) (hu : U8 zs) (hc : ∀ i, i < 512 → w.cell? ⟨d, o + i, none⟩ = some (.int .u8 (gb zs i))) (hdl : d < w.heap.size) :
    Calls Try.prog 13 #[.pointer (some ⟨g, 0, none⟩), .int .i64 n, .slice (some ⟨d, o, none⟩) 512 c] w fun e w' => (∃ x : Int, e = .returned (.int .i64 x)) ∧ DidP w w' g gd N a sz S (writeP N a sz p n zs) k F := by
  unfold writeP
  cases hb : blkB N a sz n with
  | false =>
    rw [if_neg (by simp)]
    exact (lg_write_arg h n _ _ _ (.inl hb)).mono fun e w' ⟨h1, h2⟩ => ⟨⟨1, h1⟩, h.same h2⟩
  | true =>
    by_cases hf : n ∈ p.G.map (·.1) ∨ p.G.length + 1 < sz
    · rw [if_pos ⟨rfl, hf⟩]
      exact (lg_write h n d o c zs hb (by rw [hst]; rfl) hf hz hu hc hdl).mono fun e w' ⟨h1, h2⟩ => ⟨⟨0, h1⟩, h2⟩
    · rw [if_neg (fun e => hf e.2)]
      have hl := h.okp.1
      have h1 : n ∉ p.G.map (·.1) := fun e => hf (.inl e)
      have h2 : p.G.length + 1 = sz := by
        have : ¬ p.G.length + 1 < sz := fun e => hf (.inr e)
        omega
      exact (lg_write_full h n _ _ hb (by rw [hst]; rfl) h1 h2).mono fun e w' ⟨h1, h2⟩ => ⟨⟨2, h1⟩, h.same h2⟩

theorem writeP_st (N a sz : Nat) (p : LP) (n : Int) (zs : List Int) : (writeP N a sz p n zs).st = p.st ∧ (writeP N a sz p n zs).nx = p.nx ∧ (writeP N a sz p n zs).gen = p.gen ∧ (writeP N a sz p n zs).plat = p.plat ∧ (writeP N a sz p n zs).l = p.l := by
  unfold writeP
  split <;> simp

end

set_option maxRecDepth 100000 in
theorem same16_yes {w : World} {v v' : Value} {ns : List Int} (h : IRow w v ns) (h' : IRow w v' ns) (hn : ns.length ≤ 100000) : Calls Try.prog 30 #[v, v'] w fun e w' => e = .returned (.bool true) ∧ Only [] w w' := by
  obtain ⟨A, c, rfl, hA, _, _, hc⟩ := h.form2
  obtain ⟨A', c', rfl, hA', _, _, hc'⟩ := h'.form2
  have H := hide (And.intro hA hc)
  have H' := hide (And.intro hA' hc')
  have hb : ((ns.length : Int) != (ns.length : Int)) = false := by simp
  clear h h' hA hc hA' hc'
  go_enter Try.func30, Try.ntmps30
  go_wp2
  go_loopw [13, 5] (fun i _ wr => ∃ k : Nat, k ≤ ns.length ∧ i = .int .i64 k ∧ Only [] w wr) (fun i _ _ => ns.length - (intOf i).toNat)
  case atStart => exact ⟨0, Nat.zero_le _, rfl, Only.refl _ _⟩
  case round =>
    obtain ⟨k, hk, rfl, ho⟩ := hrel
    have HO := hide ho
    by_cases hlt : k < ns.length
    · obtain ⟨ad, rfl⟩ : ∃ ad, A = some ad := by
        rcases A with _ | ad
        · have := (H.out.1 rfl).1; omega
        · exact ⟨ad, rfl⟩
      obtain ⟨ad', rfl⟩ : ∃ ad, A' = some ad := by
        rcases A' with _ | ad
        · have := (H'.out.1 rfl).1; omega
        · exact ⟨ad, rfl⟩
      obtain ⟨b, rfl, hbl, h1⟩ := H.out.2 _ rfl
      obtain ⟨b', rfl, hbl', h2⟩ := H'.out.2 _ rfl
      have c1 := (ho.cell hbl (by simp)).trans (h1 k (.int .i64 (gb ns k)) (by simp [i64l, gb, List.getD, hlt]))
      have c2 := (ho.cell hbl' (by simp)).trans (h2 k (.int .i64 (gb ns k)) (by simp [i64l, gb, List.getD, hlt]))
      have hlt2 : (k : Int) < ns.length := by omega
      clear ho h1 h2 hbl hbl'
      generalize gb ns k = x at c1 c2
      go_wp2
      go_quiet (fail)
      go_wp2
      go_roundw
      case rel => exact ⟨k + 1, hlt, by go_num, HO.out.drewN _⟩
      case measure => simp [intOf]; omega
    · obtain rfl : k = ns.length := by omega
      clear ho
      go_wp2
      go_ret
      exact ⟨rfl, HO.out⟩

end Go.Proofs.Ytokdpldmoflnkaa
/-
  The log (parapet/wlog): what every call of a nil log comes to; Open of no disk.
-/
namespace Go.Proofs.Ytokdpldmoflnkaa
open Go.ChangeShapes Go.WideShapes Go.ChangeAt Go.RowKit Go.Maps
set_option linter.unusedVariables false
theorem lgclosed_nil (w : World) : Calls Try.prog 49 #[.pointer none] w fun e w' => e = .returned (.bool true) ∧ w = w' := by
  go_enter Try.func49, Try.ntmps49
  go_wp2
  go_ret
  exact ⟨rfl, rfl⟩
theorem lgRead_nil (w : World) (n : Int) : Calls Try.prog 15 #[.pointer none, .int .i64 n] w fun e w' => e = .returned (.tuple #[.slice none 0 0, .int .i64 6]) ∧ w = w' := by
  go_enter Try.func15, Try.ntmps15
  go_wp2_with (go_at_call 49; refine (lgclosed_nil _).mono ?_; rintro e w' ⟨rfl, rfl⟩)
  go_ret2
  exact ⟨rfl, rfl⟩
theorem lgWrite_nil (w : World) (n : Int) (A : Option Addr) (m c : Nat) : Calls Try.prog 13 #[.pointer none, .int .i64 n, .slice A m c] w fun e w' => e = .returned (.int .i64 6) ∧ w = w' := by
  go_enter Try.func13, Try.ntmps13
  go_wp2_with (go_at_call 49; refine (lgclosed_nil _).mono ?_; rintro e w' ⟨rfl, rfl⟩)
  go_ret
  exact ⟨rfl, rfl⟩
theorem lgRoom_nil (w : World) : Calls Try.prog 33 #[.pointer none] w fun e w' => e = .returned (.int .i64 0) ∧ w = w' := by
  go_enter Try.func33, Try.ntmps33
  go_wp2_with (go_at_call 49; refine (lgclosed_nil _).mono ?_; rintro e w' ⟨rfl, rfl⟩)
  go_ret
  exact ⟨rfl, rfl⟩
theorem lgDirty_nil (w : World) : Calls Try.prog 31 #[.pointer none] w fun e w' => e = .returned (.slice none 0 0) ∧ w = w' := by
  go_enter Try.func31, Try.ntmps31
  go_wp2_with (go_at_call 49; refine (lgclosed_nil _).mono ?_; rintro e w' ⟨rfl, rfl⟩)
  go_ret
  exact ⟨rfl, rfl⟩
theorem lgBegin_nil (w : World) : Calls Try.prog 17 #[.pointer none] w fun e w' => e = .returned (.int .i64 6) ∧ w = w' := by
  go_enter Try.func17, Try.ntmps17
  go_wp2_with (go_at_call 49; refine (lgclosed_nil _).mono ?_; rintro e w' ⟨rfl, rfl⟩)
  go_ret
  exact ⟨rfl, rfl⟩
theorem lgEnd_nil (w : World) : Calls Try.prog 19 #[.pointer none] w fun e w' => e = .returned (.int .i64 6) ∧ w = w' := by
  go_enter Try.func19, Try.ntmps19
  go_wp2_with (go_at_call 49; refine (lgclosed_nil _).mono ?_; rintro e w' ⟨rfl, rfl⟩)
  go_ret
  exact ⟨rfl, rfl⟩
theorem lgAbort_nil (w : World) : Calls Try.prog 21 #[.pointer none] w fun e w' => e = .returned (.int .i64 6) ∧ w = w' := by
  go_enter Try.func21, Try.ntmps21
  go_wp2_with (go_at_call 49; refine (lgclosed_nil _).mono ?_; rintro e w' ⟨rfl, rfl⟩)
  go_ret
  exact ⟨rfl, rfl⟩
theorem lgGen_nil (w : World) : Calls Try.prog 35 #[.pointer none] w fun e w' => e = .returned (.int .u64 0) ∧ w = w' := by
  go_enter Try.func35, Try.ntmps35
  go_wp2_with (go_at_call 49; refine (lgclosed_nil _).mono ?_; rintro e w' ⟨rfl, rfl⟩)
  go_ret
  exact ⟨rfl, rfl⟩
theorem lgDisk_nil (w : World) : Calls Try.prog 36 #[.pointer none] w fun e w' => e = .returned (.pointer none) ∧ w = w' := by
  go_enter Try.func36, Try.ntmps36
  go_wp2_with (go_at_call 49; refine (lgclosed_nil _).mono ?_; rintro e w' ⟨rfl, rfl⟩)
  go_ret
  exact ⟨rfl, rfl⟩
theorem lgRunning_nil (w : World) : Calls Try.prog 34 #[.pointer none] w fun e w' => e = .returned (.bool false) ∧ w = w' := by
  go_enter Try.func34, Try.ntmps34
  go_wp2_with (go_at_call 49; refine (lgclosed_nil _).mono ?_; rintro e w' ⟨rfl, rfl⟩)
  go_ret
  exact ⟨rfl, rfl⟩
theorem lgStart_nil (w : World) : Calls Try.prog 22 #[.pointer none] w fun e w' => e = .returned (.bool false) ∧ w = w' := by
  go_enter Try.func22, Try.ntmps22
  go_wp2_with (go_at_call 49; refine (lgclosed_nil _).mono ?_; rintro e w' ⟨rfl, rfl⟩)
  go_ret
  exact ⟨rfl, rfl⟩
theorem lgStep_nil (w : World) : Calls Try.prog 24 #[.pointer none] w fun e w' => e = .returned (.tuple #[.bool false, .int .i64 6]) ∧ w = w' := by
  go_enter Try.func24, Try.ntmps24
  go_wp2_with (go_at_call 49; refine (lgclosed_nil _).mono ?_; rintro e w' ⟨rfl, rfl⟩)
  go_ret2
  exact ⟨rfl, rfl⟩
theorem lgCommit_nil (w : World) : Calls Try.prog 26 #[.pointer none] w fun e w' => e = .returned (.tuple #[.int .i64 0, .int .i64 6]) ∧ w = w' := by
  go_enter Try.func26, Try.ntmps26
  go_wp2_with (go_at_call 49; refine (lgclosed_nil _).mono ?_; rintro e w' ⟨rfl, rfl⟩)
  go_ret2
  exact ⟨rfl, rfl⟩
theorem lgOpen_no {w : World} {N : Nat} {dv : Option Addr} (hN : N ≤ 4096) (ai szi : Int) (hc : Calls Try.prog 65 #[.pointer dv] w fun e w' => e = .returned (.int .i64 N) ∧ w = w') (hm : mayL N ai szi = false) : Calls Try.prog 28 #[.pointer dv, .int .i64 ai, .int .i64 szi] w fun e w' => e = .returned (.tuple #[.pointer none, .int .i64 0, .int .i64 1]) ∧ w = w' := by
  have HM := hide (mayBe_is hN ai szi hc)
  rw [hm] at HM
  clear hc hm
  go_enter Try.func28, Try.ntmps28
  go_wp2_with (go_at_call 42; refine HM.out.mono ?_; rintro e w' ⟨rfl, rfl⟩)
  exact bodyPost_ret (v := .tuple #[.pointer none, .int .i64 0, .int .i64 1]) (by simp [results, Try.results28, go_sem]) rfl ⟨rfl, rfl⟩
end Go.Proofs.Ytokdpldmoflnkaa
