/-
  The pipe (parapet/pipe): granted, take, Read.
-/
import Derived.Test.YteljjngmhldfbaaPiIs
import Derived.Test.YteljjngmhldfbaaPiCopy
namespace Go.Proofs.Yteljjngmhldfbaa
open Go.ChangeShapes Go.WideShapes Go.ChangeAt Go.RowKit
set_option linter.unusedVariables false
/-- What a read of n gets where c bytes are there, and more may come or not. -/
def grantP (n : Int) (c : Nat) (more : Bool) : Int × Int := if n < 0 then (0, 1) else if 0 < n ∧ c = 0 ∧ more = true then (0, 211) else (min n c, 0)
theorem granted_is (n : Int) (c : Nat) (m : Bool) (w : World) (hc : c ≤ 9223372036854775807) : Calls Try.prog 41 #[.int .i64 n, .int .i64 c, .bool m] w fun e w' => e = .returned (.tuple #[.int .i64 (grantP n c m).1, .int .i64 (grantP n c m).2]) ∧ w = w' := by
  by_cases h1 : n < 0
  · have HF := hide (show grantP n c m = (0, 1) by simp [grantP, h1])
    go_enter Try.func41, Try.ntmps41
    go_wp2
    all_goals (go_ret2; refine ⟨?_, rfl⟩; rw [HF.out]; first | rfl | (simp; omega))
  · by_cases h2 : 0 < n
    · by_cases h3 : c = 0
      · subst h3
        cases m
        · have HF := hide (show grantP n 0 false = (min n 0, 0) by simp [grantP, h1])
          have k2 : decide (0 < n) = true := decide_eq_true h2
          go_enter Try.func41, Try.ntmps41
          go_wp2
          all_goals (go_ret2; refine ⟨?_, rfl⟩; rw [HF.out]; first | rfl | (simp; omega))
        · have HF := hide (show grantP n 0 true = (0, 211) by simp [grantP, h1, h2])
          have k2 : decide (0 < n) = true := decide_eq_true h2
          go_enter Try.func41, Try.ntmps41
          go_wp2
          all_goals (go_ret2; refine ⟨?_, rfl⟩; rw [HF.out]; first | rfl | (simp; omega))
      · have HF := hide (show grantP n c m = (min n c, 0) by simp [grantP, h1, h3])
        have k2 : decide (0 < n) = true := decide_eq_true h2
        have k3 : ((c : Int) == 0) = false := beq_eq_false_iff_ne.2 (by omega)
        clear h3
        go_enter Try.func41, Try.ntmps41
        go_wp2
        all_goals (go_ret2; refine ⟨?_, rfl⟩; rw [HF.out]; first | rfl | (simp; omega))
    · have HF := hide (show grantP n c m = (min n c, 0) by simp [grantP, h1, h2])
      have k2 : decide (0 < n) = false := decide_eq_false h2
      go_enter Try.func41, Try.ntmps41
      go_wp2
      all_goals (go_ret2; refine ⟨?_, rfl⟩; rw [HF.out]; first | rfl | (simp; omega))
/-- What a read tells, and what it leaves. -/
def readP (B : List Int) (more : Bool) (n : Int) : List Int × Int × List Int :=
  if n < 0 then ([], 1, B) else if n = 0 then ([], 0, B) else if B = [] then ([], if more then 211 else 0, B) else (B.take n.toNat, 0, B.drop n.toNat)
theorem grant_read (B : List Int) (more : Bool) (n : Int) : (∃ e, grantP n B.length more = (0, e) ∧ readP B more n = ([], e, B)) ∨ ∃ m : Nat, 1 ≤ m ∧ m ≤ B.length ∧ grantP n B.length more = ((m : Int), 0) ∧ readP B more n = (B.take m, 0, B.drop m) := by
  unfold grantP readP
  by_cases k1 : n < 0
  · exact .inl ⟨1, by simp [k1], by simp [k1]⟩
  · by_cases k2 : n = 0
    · subst k2
      refine .inl ⟨0, ?_, by simp⟩
      rw [if_neg k1, if_neg (by omega)]
      congr 1
    · by_cases k3 : B = []
      · subst k3
        cases more
        · refine .inl ⟨0, ?_, by simp [k1, k2]⟩
          rw [if_neg k1, if_neg (by simp)]
          congr 1
          simp
          omega
        · refine .inl ⟨211, ?_, by simp [k1, k2]⟩
          rw [if_neg k1, if_pos ⟨by omega, rfl, rfl⟩]
      · have hl : 0 < B.length := List.length_pos_iff.2 k3
        refine .inr ⟨min n.toNat B.length, by omega, by omega, ?_, ?_⟩
        · rw [if_neg k1, if_neg (by omega)]
          congr 1
          omega
        · rw [if_neg k1, if_neg k2, if_neg k3]
          by_cases k4 : n.toNat ≤ B.length
          · rw [Nat.min_eq_left k4]
          · rw [Nat.min_eq_right (by omega), List.take_of_length_le (by omega), List.drop_of_length_le (by omega), List.take_length, List.drop_length]
section
variable {w w' : World} {g f : Nat} {R B : List Int} {r q : Int} {S : List Nat}
theorem u8l_splice (a b : List Int) (o : Nat) : Go.splice (u8l a) o (u8l b) = u8l (Go.splice a o b) := by
  simp [Go.splice, u8l, List.map_take, List.map_drop]
theorem IsPi.took (h : IsPi w g R f B r q) {n : Nat} (hn : n ≤ B.length) {x y : Int} (hx : x = (((f + n) % 512 : Nat) : Int)) (hy : y = (((B.drop n).length : Nat) : Int)) :
    IsPi ((w.setCell ⟨g, 513, none⟩ (.int .i64 x)).setCell ⟨g, 514, none⟩ (.int .i64 y)) g R ((f + n) % 512) (B.drop n) r q := by
  subst hx hy
  refine ⟨?_, h.ring.take hn, h.rd, h.wr⟩
  have h1 := h.blk.set_ 513 (.int .i64 (((f + n) % 512 : Nat) : Int))
  rw [pipeC_set h.ring.len 0] at h1
  have h2 := h1.set_ 514 (.int .i64 (((B.drop n).length : Nat) : Int))
  rw [show (Value.bool true :: (u8l R ++ ([.int .i64 f, .int .i64 (B.length : Nat), .int .i64 r, .int .i64 q] : List Value).set 0 (.int .i64 (((f + n) % 512 : Nat) : Int)))).toArray = (pipeC R ((f + n) % 512) B.length r q).toArray from rfl, pipeC_set h.ring.len 1] at h2
  exact h2
set_option maxRecDepth 100000 in
theorem pitake_is (h : IsPi w g R f B r q) (n : Nat) (h1 : 1 ≤ n) (hn : n ≤ B.length) : Calls Try.prog 42 #[.pointer (some ⟨g, 0, none⟩), .int .i64 n] w fun e w' => ∃ v, e = .returned v ∧ Fresh w' w.heap.size v (B.take n) ∧ Only [g] w w' ∧ Pi w' g (B.drop n) r q := by
  obtain ⟨i0, hi, hz0, hz1, hz2⟩ := info_parts info_u8
  have hfew := h.ring.few
  have hat := h.ring.at_
  have hrl := h.ring.len
  have hmk : ∀ u : World, (Instr.makeSlice 29 (.int .i64 (n : Int)) (.int .i64 (n : Int))).run Try.prog u =
      .ok (.slice (some ⟨u.heap.size, 0, none⟩) n n) (u.alloc (.cells (madeCells #[.int .u8 0] n) 5)) := fun u => by
    have h := run_make (P := Try.prog) u 29 5 i0 (.int .u8 0) Try.underlying29 hi hz0 .i64 .i64 (n : Int) (n : Int) (by omega) (Int.le_refl _) (by rw [hz2]; omega) (by omega)
    simpa [hz1, Value.cells] using h
  have hmx : max (n : Int) 0 = n := by omega
  have hml : madeCells #[.int .u8 0] n = (u8l (List.replicate n 0)).toArray := by
    apply Array.ext'
    rw [toList_madeCells_one]
    simp [u8l]
  simp only [hml] at hmk
  clear hml
  have hlt := h.blk.lt
  have HLT := hide hlt
  have H := hide h
  obtain ⟨k, hk⟩ : ∃ k, k = min n (512 - f) := ⟨_, rfl⟩
  have hkn : k ≤ n := by omega
  have HK := hide hk
  have HB0 := hide (fun W (hW : Only [] (w.alloc (.cells (u8l (List.replicate n 0)).toArray 5)) W) => (show Blk W w.heap.size 5 (u8l (List.replicate n 0)).toArray from by
    have := (Blk.new w 5 (u8l (List.replicate n 0)).toArray).only hW (by simp)
    exact this))
  have HS1 := hide (fun W (hW : Only [] w W) => (show Sees W (some ⟨g, 1 + f, none⟩) k ((R.drop f).take k) from
    ⟨by rw [List.length_take, List.length_drop]; omega, fun _ => ⟨g, 1 + f, rfl, Nat.lt_of_lt_of_le hlt hW.size, fun i hi => by
      rw [hW.cell hlt (by simp), gb_take hi, gb_drop, Nat.add_assoc]
      exact h.c1 (by omega)⟩⟩))
  have HS2 := hide (fun W (hW : Only [] w W) => (show Sees W (some ⟨g, 1, none⟩) (n - k) (R.take (n - k)) from
    ⟨by rw [List.length_take]; omega, fun _ => ⟨g, 1, rfl, Nat.lt_of_lt_of_le hlt hW.size, fun i hi => by
      rw [hW.cell hlt (by simp), gb_take hi]
      exact h.c1 (by omega)⟩⟩))
  have HL1 := hide (show ((R.drop f).take k).length = k by rw [List.length_take, List.length_drop]; omega)
  have HL2 := hide (show (R.take (n - k)).length = n - k by rw [List.length_take]; omega)
  have HN1 := hide (show k = Nat.min (512 - f) n by rw [hk]; exact Nat.min_comm _ _)
  have HN2 := hide (show n - k = Nat.min 512 (n - k) by show n - k = min 512 (n - k); omega)
  have HF1 := hide (show 0 + k ≤ (u8l (List.replicate n 0)).length by rw [u8l_length, List.length_replicate]; omega)
  have HF2 := hide (show k + (n - k) ≤ (Go.splice (u8l (List.replicate n 0)) 0 (u8l ((R.drop f).take k))).length by
    rw [length_splice _ _ _ (by rw [u8l_length, u8l_length, HL1.out, List.length_replicate]; omega), u8l_length, List.length_replicate]; omega)
  have hf0 : (f : Int) ≤ 512 := by omega
  have hf1 : ¬ 512 = f := by omega
  obtain ⟨A, hA⟩ : ∃ A : Option Addr, (if n = k then some (⟨w.heap.size, 0, none⟩ : Addr) else some ⟨w.heap.size, k, none⟩) = A := ⟨_, rfl⟩
  have HA := hide (show 0 < n - k → A = some ⟨w.heap.size, k, none⟩ by intro h; rw [← hA, if_neg (by omega)])
  have c1a : ∀ o, (w.alloc o).cell? ⟨g, 513, none⟩ = some (.int .i64 f) := fun o => (H.out.only ((Only.refl [] w).alloc o) (by simp)).c513
  have hkn1 : (k : Int) ≤ n := by omega
  have HO0 := hide (show ∀ W, Only [w.heap.size] (w.alloc (.cells (u8l (List.replicate n 0)).toArray 5)) W → Only [] w W from fun W hW => ((Only.refl [] w).alloc _).trans' hW (fun q hq hm => by simp at hm; omega))
  clear h hk hlt
  go_enter Try.func42, Try.ntmps42
  go_wp2
  go_region_law (refine step_copy_u8 rfl _ _ rfl (some ⟨w.heap.size, 0, none⟩) (some ⟨g, 1 + f, none⟩) n n (512 - f) (512 - f) (by simp [Act.eval, Act.put]) (by simp [Act.eval, Act.put]) w.heap.size 0 5 (u8l (List.replicate n 0)) (HB0.out _ (by repeat (first | exact Only.refl _ _ | apply Only.drew))) _ k HL1.out HN1.out (fun _ => ⟨rfl, HS1.out _ (by repeat (first | exact Only.refl _ _ | apply Only.drew | apply Only.alloc))⟩) HF1.out ?_; intro w2 hb2 ho2)
  have HB2 := hide hb2.out
  have HO2 := hide (HO0.out _ (show Only [w.heap.size] (w.alloc (.cells (u8l (List.replicate n 0)).toArray 5)) w2 from ((Only.refl _ _).drew).trans ho2))
  have c2a : w2.cell? ⟨g, 513, none⟩ = some (.int .i64 f) := (H.out.only HO2.out (by simp)).c513
  clear hb2 ho2
  go_wp2
  go_region_law (refine step_copy_u8 rfl _ _ rfl A (some ⟨g, 1, none⟩) (n - k) (n - k) 512 512 (by simp [Act.eval, Act.put]) (by simp [Act.eval, Act.put]) w.heap.size k 5 _ HB2.out _ (n - k) HL2.out HN2.out (fun hp => ⟨HA.out hp, HS2.out _ (HO2.out.trans (by repeat (first | exact Only.refl _ _ | apply Only.drew)))⟩) HF2.out ?_; intro w3 hb3 ho3)
  have HB3 := hide hb3.out
  have HO3 := hide (show Only [w.heap.size] w2 w3 from ((Only.refl _ _).drew).trans ho3)
  have HO4 := hide (show Only [] w w3 from HO2.out.trans' HO3.out (fun q hq hm => by simp at hm; omega))
  have HT := hide ((H.out.only HO4.out (by simp)).took hn (x := ((f : Int) + n) % 512) (y := (B.length : Int) - n) (by omega) (by rw [List.length_drop]; omega))
  have c3a := (H.out.only HO4.out (by simp)).c513
  have c3b := (H.out.only HO4.out (by simp)).c514
  have f3a := (H.out.only HO4.out (by simp)).blk.frozen 513
  have f3b := (H.out.only HO4.out (by simp)).blk.frozen 514
  clear hb3 ho3 c1a c2a hA hmk
  go_wp2
  go_ret
  have hHT := HT.out
  have hne : w.heap.size ≠ g := by have := HLT.out; omega
  have hb := (HB3.out.far (p := ⟨g, 513, none⟩) hne (.int .i64 (((f : Int) + n) % 512))).far (p := ⟨g, 514, none⟩) hne (.int .i64 ((B.length : Int) - n))
  have e := H.out.ring.out hn
  rw [← HK.out] at e
  have hlen : (B.take n).length = n := by rw [List.length_take]; omega
  rw [u8l_splice, u8l_splice, e] at hb
  exact ⟨_, rfl, ⟨w.heap.size, n, [], by rw [hlen]; rfl, Nat.le_refl _, by rw [List.append_nil]; exact hb, by rw [hlen]; rfl⟩, ((HO4.out.mono (by simp)).setCell _ (by simp)).setCell _ (by simp), R, _, hHT⟩
theorem Fresh.zero_sees {w : World} {B : Nat} : Sees w none 0 [] := ⟨rfl, fun h => absurd h (by omega)⟩
/-- A slice that shows these bytes; a new one, or none. -/
def New (w : World) (B : Nat) (v : Value) (xs : List Int) : Prop := (v = .slice none 0 0 ∧ xs = []) ∨ Fresh w B v xs
set_option maxRecDepth 100000 in
theorem piRead_is (h : Pi w g B r q) (n : Int) : Calls Try.prog 15 #[.pointer (some ⟨g, 0, none⟩), .int .i64 n] w fun e w' => ∃ v, e = .returned (.tuple #[v, .int .i64 (readP B (decide (0 < q)) n).2.1]) ∧ New w' w.heap.size v (readP B (decide (0 < q)) n).1 ∧ Only [g] w w' ∧ Pi w' g (readP B (decide (0 < q)) n).2.2 r q := by
  have HP := hide h
  obtain ⟨R, f, h⟩ := h
  have hfew := h.ring.few
  have c3 := h.c514
  have c5 := h.c516
  have HC := hide (piclosed_is h)
  have HG := hide (fun W => (granted_is n B.length (decide (0 < q)) W (by omega)).mono (R' := fun e w' => e = .returned (.tuple #[.int .i64 (grantP n B.length (decide (0 < q))).1, .int .i64 (grantP n B.length (decide (0 < q))).2]) ∧ w' = W) fun _ _ h => ⟨h.1, h.2.symm⟩)
  have HT := hide (fun (m : Nat) (h1 : 1 ≤ m) (hm : m ≤ B.length) W (hW : Only [] w W) => pitake_is (h.only hW (by simp)) m h1 hm)
  clear h
  rcases grant_read B (decide (0 < q)) n with ⟨e1, eG, eR⟩ | ⟨m, hm1, hm2, eG, eR⟩
  · rw [eR]
    rw [eG] at HG
    clear eG eR
    go_enter Try.func15, Try.ntmps15
    go_wp2_with (go_at_call 40; refine HC.out.mono ?_; rintro e w' ⟨rfl, rfl⟩)
    go_quiet (first | (go_at_call 41; exact Calls.quiet_of_same (HG.out _)))
    go_wp2_with fail
    go_ret2
    exact ⟨_, rfl, .inl ⟨rfl, rfl⟩, by repeat (first | exact Only.refl _ _ | apply Only.drew | apply Only.drewN), HP.out.only (S := []) (by repeat (first | exact Only.refl _ _ | apply Only.drew | apply Only.drewN)) (by simp)⟩
  · rw [eR]
    rw [eG] at HG
    clear eG eR
    have hm0 : ((m : Int) == 0) = false := beq_eq_false_iff_ne.2 (by omega)
    go_enter Try.func15, Try.ntmps15
    go_wp2_with (go_at_call 40; refine HC.out.mono ?_; rintro e w' ⟨rfl, rfl⟩)
    go_quiet (first | (go_at_call 41; exact Calls.quiet_of_same (HG.out _)))
    go_wp2_with (go_at_call 42; refine (HT.out m hm1 hm2 _ (by repeat (first | exact Only.refl _ _ | apply Only.drew | apply Only.drewN))).mono ?_; rintro e w5 ⟨v5, rfl, hf5, ho5, hp5⟩; have HF := hide hf5; have HO := hide ho5; have HQ := hide hp5; clear hf5 ho5 hp5)
    go_ret2
    exact ⟨v5, rfl, .inr HF.out, (show Only [g] w w5 from (show Only [g] w (w.drewN _) from (Only.refl _ _).drewN _).trans HO.out), HQ.out⟩
end
end Go.Proofs.Yteljjngmhldfbaa
