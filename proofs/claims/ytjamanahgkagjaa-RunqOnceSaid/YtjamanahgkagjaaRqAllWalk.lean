/-
  The walk of 'RunqAll'.
-/
import Derived.Test.YtjamanahgkagjaaRqAll
import Derived.Laws.MakeOwn
namespace Go.Proofs.Ytjamanahgkagjaa
open Go.ChangeShapes Go.WideShapes Go.ChangeAt Go.RowKit Go.Deep
set_option linter.unusedVariables false

/-- A row of cells. -/
def rowG (f : Nat → Value) (N : Nat) : Array Value := ((List.range N).map f).toArray
theorem rowG_get (f : Nat → Value) {N i : Nat} (h : i < N) : (rowG f N)[i]? = some (f i) := by
  simp [rowG, List.getElem?_map, List.getElem?_range h]
theorem rowG_set (f : Nat → Value) (N i : Nat) (x : Value) : (rowG f N).setIfInBounds i x = rowG (upd f i x) N := by
  unfold rowG
  rw [List.setIfInBounds_toArray]
  congr 1
  apply List.ext_getElem
  · simp
  · intro j h1 h2
    rw [List.getElem_set]
    by_cases h : i = j
    · subst h; simp [upd]
    · rw [if_neg h]; simp [upd, Ne.symm h]
theorem made_row (v : Value) (N : Nat) : madeCells #[v] N = rowG (fun _ => v) N := by
  unfold rowG
  apply Array.ext'
  rw [toList_madeCells_one]
  apply List.ext_getElem
  · simp
  · intro i h1 h2
    simp
def boolG (f : Nat → Bool) : Nat → Value := fun i => .bool (f i)
theorem boolG_upd (f : Nat → Bool) (i : Nat) (b : Bool) : upd (boolG f) i (.bool b) = boolG (upd f i b) := by
  funext k
  unfold boolG
  by_cases h : k = i
  · subst h; rw [upd_same, upd_same]
  · rw [upd_far _ _ h, upd_far _ _ h]
theorem info_bool : (Try.prog.info? 4).map (fun i => (i.zero, i.size, i.bytes)) = some (some (.bool false), 1, 1) := by kernel_rfl
theorem wrap64_in (n : Int) (h : -9223372036854775808 ≤ n ∧ n ≤ 9223372036854775807) : wrap64 n = n := by unfold wrap64; omega

def AllP (w : World) (g H k : Nat) (wr : World) : Prop := ∃ s, RqL w wr g s [] ∧ s.H = H ∧ (∀ h, s.r h = 0) ∧ s.O.length = k ∧ ∀ t, t ∈ keysQ s ↔ 1 ≤ t ∧ t ≤ (k : Int)
/-- Ahead of a hart's turn. -/
def AllIn (w : World) (g H n b ρ h : Nat) (wr : World) : Prop := ∃ s f, RqL w wr g s [b] ∧ s.H = H ∧ Blk wr b 4 (rowG (boolG f) (n + 1)) ∧ JQ s f n ρ h
section
variable {w wr : World} {g H k n b ρ h : Nat}
theorem all_put (P : AllP w g H k wr) (hk : k < 60) {x : Int} (hx : 0 ≤ x ∧ x < H) : Calls Try.prog 14 #[.pointer (some ⟨g, 0, none⟩), .int .i64 x, .int .i64 ((k : Int) + 1)] wr fun e w' => e = .returned (.int .i64 0) ∧ AllP w g H (k + 1) w' := by
  obtain ⟨s, R, h1, h2, h3, h4⟩ := P
  obtain ⟨s', e, k1, k2, k3, k4⟩ := put_next R.ok hk (x := x) (by unfold hasQ; rw [decide_eq_true_eq]; omega) h2 h3 h4
  refine (lq_put R x ((k : Int) + 1) (iW_le (by omega) (by omega))).mono ?_
  rw [e]
  rintro e w' ⟨rfl, hd, -⟩
  exact ⟨rfl, s', hd, by rw [k1, h1], k2, k3, k4⟩
theorem all_start (P : AllP w g H n wr) : AllIn w g H n wr.heap.size 0 0 (wr.alloc (.cells (madeCells #[.bool false] (n + 1)) 4)) := by
  obtain ⟨s, R, h1, h2, h3, h4⟩ := P
  refine ⟨s, fun _ => false, R.add _, h1, ?_, JQ.first R.ok h2 h4 _⟩
  rw [made_row]
  exact Blk.new _ _ _
/-- Where the law's own row stands behind Next: x is what the hart runs. -/
def AllMid (w : World) (g H n b ρ h x : Nat) (wr : World) : Prop := x ≤ n ∧ ∃ s f, RqL w wr g s [b] ∧ runningF s h = x ∧ s.H = H ∧ Blk wr b 4 (rowG (boolG f) (n + 1)) ∧ JQ (tickF s h).1 (upd f x true) n ρ (h + 1)
def AllMid2 (w : World) (g H n b ρ h : Nat) (wr : World) : Prop := ∃ s f, RqL w wr g s [b] ∧ s.H = H ∧ Blk wr b 4 (rowG (boolG f) (n + 1)) ∧ JQ (tickF s h).1 f n ρ (h + 1)
theorem all_next (P : AllIn w g H n b ρ h wr) (hh : h < H) : Calls Try.prog 16 #[.pointer (some ⟨g, 0, none⟩), .int .i64 h] wr fun e w' => ∃ y z x, e = .returned (.tuple #[.int .i64 y, .bool z]) ∧ AllMid w g H n b ρ h x w' := by
  obtain ⟨s, f, R, h1, h2, h3⟩ := P
  obtain ⟨x, e1, e2, e3⟩ := h3.turn R.ok (h1.symm ▸ hh)
  refine (lq_next R h).mono ?_
  rintro e w' ⟨rfl, hd, hk⟩
  exact ⟨_, _, x, rfl, e2, _, f, hd, e1, by rw [nextF_H, h1], (hk b (by simp)).trans h2, e3⟩
theorem all_run {x : Nat} (P : AllMid w g H n b ρ h x wr) : Calls Try.prog 20 #[.pointer (some ⟨g, 0, none⟩), .int .i64 h] wr fun e w' => e = .returned (.int .i64 x) ∧ wr = w' := by
  obtain ⟨hx, s, f, R, h1, _⟩ := P
  rw [← h1]
  exact lq_running R h
theorem all_store {x : Nat} (P : AllMid w g H n b ρ h x wr) : wr.cell? ⟨b, x, none⟩ ≠ none ∧ (∃ q, wr.cell? ⟨b, x, none⟩ = some (.bool q)) ∧ wr.frozen? ⟨b, x, none⟩ = false ∧ AllMid2 w g H n b ρ h (wr.setCell ⟨b, x, none⟩ (.bool true)) := by
  obtain ⟨hx, s, f, R, h1, h2, h3, h4⟩ := P
  have hc : wr.cell? ⟨b, x, none⟩ = some (.bool (f x)) := by rw [h3.cell, rowG_get _ (by omega)]; rfl
  refine ⟨by rw [hc]; simp, ⟨_, hc⟩, h3.frozen x, s, upd f x true, R.other ((Only.refl [b] wr).setCell _ (by simp)) (fun q hq => hq), h2, ?_, h4⟩
  have := h3.set_ x (.bool true)
  rwa [rowG_set, boolG_upd] at this
theorem all_tick (P : AllMid2 w g H n b ρ h wr) : Calls Try.prog 17 #[.pointer (some ⟨g, 0, none⟩), .int .i64 h] wr fun e w' => ∃ z, e = .returned (.bool z) ∧ AllIn w g H n b ρ (h + 1) w' := by
  obtain ⟨s, f, R, h1, h2, h3⟩ := P
  refine (lq_tick R h).mono ?_
  rintro e w' ⟨rfl, hd, hk⟩
  exact ⟨_, rfl, _, f, hd, by rw [tickF_H, h1], (hk b (by simp)).trans h2, h3⟩
theorem all_round (P : AllIn w g H n b ρ H wr) : AllIn w g H n b (ρ + 1) 0 wr := by
  obtain ⟨s, f, R, h1, h2, h3⟩ := P
  exact ⟨s, f, R, h1, h2, JQ.round R.ok (h1.symm ▸ h3)⟩
theorem all_end (P : AllIn w g H n b ρ 0 wr) (hp : n < ρ) : Only [] w wr ∧ ∀ t, 1 ≤ t → t ≤ n → wr.cell? ⟨b, t, none⟩ = some (.bool true) := by
  obtain ⟨s, f, R, h1, h2, h3⟩ := P
  refine ⟨R.base, fun t k1 k2 => ?_⟩
  rw [h2.cell, rowG_get _ (by omega)]
  unfold boolG
  rw [h3.all hp k1 k2]
end
theorem all_count (a : Int) : ∃ n : Nat, n ≤ 29 ∧ (a.tmod 30 < 0 → wrap64 (-a.tmod 30) = n) ∧ (¬ a.tmod 30 < 0 → a.tmod 30 = n) := by
  have h1 : -30 < a.tmod 30 := by
    have := Int.lt_tmod_of_pos a (show (0 : Int) < 30 by decide)
    omega
  have h2 : a.tmod 30 < 30 := Int.tmod_lt_of_pos a (by decide)
  generalize a.tmod 30 = m at *
  by_cases h : m < 0
  · refine ⟨(-m).toNat, by omega, fun _ => ?_, fun h' => absurd h h'⟩
    rw [wrap64_in (-m) (by omega)]
    omega
  · exact ⟨m.toNat, by omega, fun h' => absurd h' h, fun _ => by omega⟩
set_option maxHeartbeats 3000000 in
set_option maxRecDepth 100000 in
theorem runqAll_walk (n0 c : Int) (A : Option Addr) (len cap : Nat) (w : World) (hlen : len < 5900000000000) (hops : ∀ i, i < len → OpAt11 w A i) :
    Calls Try.prog 8 #[.int .i64 n0, .slice A len cap, .int .i64 c] w fun e w' => e = .returned (.bool true) ∧ Below w.heap.size w w' := by
  have HOP := hide hops
  have HLEN := hide hlen
  clear hops
  by_cases hn : 1 ≤ n0 ∧ n0 ≤ 8
  · obtain ⟨H, rfl⟩ : ∃ H : Nat, n0 = H := ⟨n0.toNat, by omega⟩
    have hH : 1 ≤ H ∧ H ≤ 8 := by omega
    obtain ⟨n, hn29, e1, e2⟩ := all_count c
    have HE1 := hide e1
    have HE2 := hide e2
    obtain ⟨i0, hi, hz0, hz1, hz2⟩ := info_parts info_bool
    have hmk : ∀ u : World, (Instr.makeSlice 47 (.int .i64 ((n : Int) + 1)) (.int .i64 ((n : Int) + 1))).run Try.prog u =
        .ok (.slice (some ⟨u.heap.size, 0, none⟩) (n + 1) (n + 1)) (u.alloc (.cells (madeCells #[.bool false] (n + 1)) 4)) := fun u => by
      have h := run_make (P := Try.prog) u 47 4 i0 (.bool false) Try.underlying47 hi hz0 .i64 .i64 ((n + 1 : Nat) : Int) ((n + 1 : Nat) : Int) (by omega) (Int.le_refl _) (by rw [hz2]; omega) (by omega)
      simpa [hz1, Value.cells] using h
    have HMK := hide hmk
    clear e1 e2 hi hz0 hz1 hz2 hmk
    go_enter Try.func8, Try.ntmps8
    go_wp2_with fail
    refine (lq_new H hH).mono ?_
    rintro e w1 ⟨g, rfl, h1⟩
    go_wp2_with fail
    refine (lives11 _).mono ?_
    rintro e w2 ⟨rfl, ho2⟩
    have HI := hide (show AllP w g H 0 w2 from ⟨_, h1.quiet ho2, rfl, fun _ => rfl, rfl, fun t => by simp [emptyQ]; omega⟩)
    clear h1 ho2
    go_wp2_with fail
    all_goals
      rename_i hcase _ _
      first | rw [HE1.out hcase] | rw [HE2.out hcase]
      clear HE1 HE2 hcase
      go_loopw [10] (fun tv wr => ∃ k : Nat, k ≤ n ∧ tv = .int .i64 ((k : Int) + 1) ∧ AllP w g H k wr) (fun tv _ => n + 1 - (intOf tv).toNat)
      case atStart => exact ⟨0, Nat.zero_le _, rfl, HI.out⟩
      case round =>
        obtain ⟨k, hk, rfl, hT⟩ := hrel
        by_cases hlt : k < n
        · have hkI : (k : Int) + 1 ≤ n := by omega
          have hw1 : wrap64 ((k : Int) + 1 - 1) = k := by rw [wrap64_in _ (by omega)]; omega
          have hw2 : wrap64 (k : Int) = k := wrap64_in _ (by omega)
          have HP := hide (fun x hx => all_put hT (by omega) (x := x) hx)
          by_cases hkl : k < len
          · obtain ⟨q, o, kd, b, c2, rfl, hq, c0, c1, _, _, _⟩ := HOP.out k hkl
            have hb1 : wr.cell? ⟨q, o + k * 3 + 1, none⟩ = some (.int .i64 b) := by
              obtain ⟨s, R, _⟩ := hT
              exact (R.base.cell hq (by simp)).trans c1
            have hl1 : (k : Int) + 1 ≤ len := by omega
            clear hT c0 c1
            by_cases hb : 0 ≤ b
            · have hH0 : (H : Int) ≠ 0 := by omega
              have hx1 : 0 ≤ b.tmod H := Int.tmod_nonneg _ hb
              have hx2 : b.tmod H < H := Int.tmod_lt_of_pos b (by omega)
              have hx3 : IntKind.i64.wrap (b.tmod H) = b.tmod H := by rw [IntKind.wrap_i64]; omega
              have HX := hide (HP.out (b.tmod H) ⟨hx1, hx2⟩)
              clear hx1 hx2
              revert HX hx3
              generalize hxe : b.tmod H = x
              intro hx3 HX
              go_wp2_with (go_at_call 14; refine HX.out.mono ?_; rintro e w3 ⟨rfl, h3⟩; have H3 := hide h3; clear h3)
              go_roundw
              case rel => exact ⟨k + 1, hlt, by go_num, H3.out⟩
              case measure => simp only [intOf]; omega
            · have hbd : decide (0 ≤ b) = false := by simp [hb]
              have HX := hide (HP.out 0 (by omega))
              clear hb
              go_wp2_with (go_at_call 14; refine HX.out.mono ?_; rintro e w3 ⟨rfl, h3⟩; have H3 := hide h3; clear h3)
              go_roundw
              case rel => exact ⟨k + 1, hlt, by go_num, H3.out⟩
              case measure => simp only [intOf]; omega
          · have hl1 : ¬ (k : Int) + 1 ≤ len := by omega
            have hl2 : decide ((k : Int) + 1 ≤ len) = false := by simp; omega
            have HX := hide (HP.out 0 (by omega))
            clear hT
            go_wp2_with (go_at_call 14; refine HX.out.mono ?_; rintro e w3 ⟨rfl, h3⟩; have H3 := hide h3; clear h3)
            go_roundw
            case rel => exact ⟨k + 1, hlt, by go_num, H3.out⟩
            case measure => simp only [intOf]; omega
        · obtain rfl : k = n := by omega
          have hkI : ¬ (k : Int) + 1 ≤ k := by omega
          have hw1 : wrap64 ((k : Int) + 1) = (k : Int) + 1 := wrap64_in _ (by omega)
          have hmk := HMK.out
          have HST := hide (all_start hT)
          have hlr : wr.heap.size < (wr.alloc (.cells (madeCells #[.bool false] (k + 1)) 4)).heap.size := by simp
          clear hT HI HOP
          go_wp2_with fail
          revert HST
          generalize wr.alloc (.cells (madeCells #[.bool false] (k + 1)) 4) = wa
          generalize wr.heap.size = b
          intro HST
          have hm1 : wrap64 (2 * (k : Int)) = 2 * k := wrap64_in _ (by omega)
          have hm2 : wrap64 (2 * (k : Int) + 2) = 2 * k + 2 := wrap64_in _ (by omega)
          go_loopw [13] (fun iv wq => ∃ ρ : Nat, ρ ≤ 2 * k + 2 ∧ iv = .int .i64 ρ ∧ AllIn w g H k b ρ 0 wq) (fun iv _ => 2 * k + 2 - (intOf iv).toNat)
          case atStart => exact ⟨0, Nat.zero_le _, rfl, HST.out⟩
          case round =>
            obtain ⟨ρ, hρ, rfl, hA⟩ := hrel
            by_cases hrl : ρ < 2 * k + 2
            · have hrI : (ρ : Int) < 2 * k + 2 := by omega
              have HA := hide hA
              clear hA
              go_wp2_with fail
              go_loopw [14] (fun iv wq => ∃ h : Nat, h ≤ H ∧ iv = .int .i64 h ∧ AllIn w g H k b ρ h wq) (fun iv _ => H - (intOf iv).toNat)
              case atStart => exact ⟨0, Nat.zero_le _, rfl, HA.out⟩
              case round =>
                obtain ⟨h, hh, rfl, hB⟩ := hrel
                by_cases hhl : h < H
                · have hhI : (h : Int) < H := by omega
                  have HN := hide (all_next hB hhl)
                  clear hB
                  go_wp2_with (first | (go_at_call 16; refine HN.out.mono ?_; rintro e w5 ⟨y, z, x, rfl, hM⟩; have hxk : (x : Int) < (k : Int) + 1 := (by have := hM.1; omega); have HM := hide hM; clear hM) | (go_at_call 20; refine (all_run HM.out).mono ?_; rintro e w6 ⟨rfl, rfl⟩; obtain ⟨_, ⟨q1, z1⟩, z2, z3⟩ := all_store HM.out; have HM2 := hide z3; clear z3) | (go_at_call 17; refine (all_tick HM2.out).mono ?_; rintro e w7 ⟨zz, rfl, hC⟩; have HC := hide hC; clear hC))
                  go_roundw
                  case rel => exact ⟨h + 1, hhl, by go_num, HC.out⟩
                  case measure => simp only [intOf]; omega
                · obtain rfl : h = H := by omega
                  have HR := hide (all_round hB)
                  clear hB
                  go_wp2_with fail
                  go_roundw
                  case rel => exact ⟨ρ + 1, hrl, by go_num, HR.out⟩
                  case measure => simp only [intOf]; omega
            · obtain rfl : ρ = 2 * k + 2 := by omega
              obtain ⟨hO, hE⟩ := all_end hA (by omega)
              have HO := hide hO
              have HE := hide hE
              clear hA hO hE
              go_wp2_with fail
              go_loopw [15] (fun tv wq => ∃ j : Nat, j ≤ k ∧ tv = .int .i64 ((j : Int) + 1) ∧ Only [] w wq ∧ ∀ t, 1 ≤ t → t ≤ k → wq.cell? ⟨b, t, none⟩ = some (.bool true)) (fun tv _ => k + 1 - (intOf tv).toNat)
              case atStart => exact ⟨0, Nat.zero_le _, rfl, HO.out, HE.out⟩
              case round =>
                obtain ⟨j, hj, rfl, hO, hE⟩ := hrel
                have HO2 := hide hO
                have HE2 := hide hE
                by_cases hjl : j < k
                · have q1 : _ = some (Value.bool true) := hE (j + 1) (by omega) (by omega)
                  have hjI : (j : Int) + 1 ≤ k := by omega
                  have hjI2 : (j : Int) + 1 < (k : Int) + 1 := by omega
                  have hjt : ((j : Int) + 1).toNat = j + 1 := by omega
                  have hj0 : ¬ ((j : Int) + 1 < 0) := by omega
                  have hj0' : (0 : Int) ≤ (j : Int) + 1 := by omega
                  clear hO hE
                  go_wp2_with fail
                  go_roundw
                  case rel => exact ⟨j + 1, hjl, by go_num, HO2.out, HE2.out⟩
                  case measure => simp only [intOf]; omega
                · obtain rfl : j = k := by omega
                  have hjI : ¬ (j : Int) + 1 ≤ j := by omega
                  clear hO hE
                  go_wp2_with fail
                  go_ret
                  exact ⟨rfl, HO2.out.below (Nat.le_refl _) (by simp)⟩
  · have HB := hide (qNew_bad (w := w) n0 hn)
    go_enter Try.func8, Try.ntmps8
    go_wp2_with (first | (go_at_call 9; refine HB.out.mono ?_; rintro e w1 ⟨rfl, rfl⟩) | (go_at_call 11; refine (lives11 _).mono ?_; rintro e w2 ⟨rfl, ho2⟩; have H2 := hide ho2; clear ho2))
    go_ret
    exact ⟨rfl, H2.out.below (Nat.le_refl _) (by simp)⟩
end Go.Proofs.Ytjamanahgkagjaa
