/-
  The walk of 'RunqFinds'.
-/
import Derived.Test.YtjamanahgkagjaaRqLaw
namespace Go.Proofs.Ytjamanahgkagjaa
open Go.ChangeShapes Go.WideShapes Go.ChangeAt Go.RowKit Go.Deep
set_option linter.unusedVariables false

theorem putF_H (s : RQ) (h t : Int) : (putF s h t).1.H = s.H := by
  unfold putF
  split
  · rfl
  · split
    · rfl
    · split <;> rfl
theorem wakeF_H (s : RQ) (t : Int) : (wakeF s t).1.H = s.H := by
  unfold wakeF
  split
  · exact putF_H _ _ _
  · rfl
theorem nextF_H (s : RQ) (h : Int) : (nextF s h).1.H = s.H := by
  unfold nextF
  split
  · rfl
  · split
    · rfl
    · split <;> rfl
theorem tickF_H (s : RQ) (h : Int) : (tickF s h).1.H = s.H := by
  unfold tickF
  split <;> rfl
theorem removeF_H (s : RQ) (t : Int) : (removeF s t).1.H = s.H := by
  unfold removeF
  split
  · exact (drop_parts _ _ _).1
  · rfl
theorem sleepF_H (s : RQ) (h : Int) : (sleepF s h).1.H = s.H := by
  unfold sleepF
  split
  · rfl
  · exact (drop_parts _ _ _).1
theorem busyQ_max (s : RQ) : ∀ k j, j < k → (s.n j).length ≤ (s.n (busyQ s k)).length
  | 0, j, h => by omega
  | k + 1, j, h => by
    have ih := busyQ_max s k
    unfold busyQ
    by_cases e : j = k
    · subst e
      split <;> omega
    · have := ih j (by omega)
      split <;> omega
/-- How many wait in the first k queues. -/
def waitsQ (s : RQ) : Nat → Nat
  | 0 => 0
  | k + 1 => waitsQ s k + (s.n k).length
theorem waitsQ_le {s : RQ} (o : OkQ s) : ∀ k, k ≤ 8 → waitsQ s k ≤ 64 * k
  | 0, _ => by simp [waitsQ]
  | k + 1, h => by
    have := waitsQ_le o k (by omega)
    have := o.small.few k (by omega)
    unfold waitsQ
    omega
theorem waitsQ_zero {s : RQ} : ∀ k, waitsQ s k = 0 ↔ ∀ j, j < k → s.n j = []
  | 0 => by simp [waitsQ]
  | k + 1 => by
    have ih := waitsQ_zero (s := s) k
    unfold waitsQ
    constructor
    · intro h j hj
      by_cases e : j = k
      · subst e; exact List.eq_nil_of_length_eq_zero (by omega)
      · exact ih.1 (by omega) j (by omega)
    · intro h
      rw [ih.2 fun j hj => h j (by omega), h k (by omega)]
      rfl
theorem busy_none {s : RQ} (o : OkQ s) : s.n (busyQ s s.H) = [] ↔ waitsQ s s.H = 0 := by
  rw [waitsQ_zero]
  constructor
  · intro e j hj
    have := busyQ_max s s.H j hj
    rw [e] at this
    exact List.eq_nil_of_length_eq_zero (by simpa using this)
  · intro h
    have := busyQ_lt s s.H
    have := o.h1
    exact h _ (by omega)
/-- A hart that runs nothing finds a thread, if one waits. -/
theorem next_finds {s : RQ} (o : OkQ s) {h : Nat} (hh : h < s.H) (hr : s.r h = 0) (hw : waitsQ s s.H ≠ 0) :
    ∃ f i, i < (s.n f).length ∧ nextF s h = (runS s h f i, gb (s.n f) i, true) := by
  have hb : hasQ s h = true := by simp [hasQ, hh]
  unfold nextF
  rw [hb, Int.toNat_natCast, if_neg (by simp [hr])]
  by_cases e : s.n h = []
  · rw [if_neg (by simp [e])]
    have e2 : s.n (busyQ s s.H) ≠ [] := fun e => hw ((busy_none o).1 e)
    rw [if_neg e2]
    have := List.length_pos_iff.2 e2
    exact ⟨_, _, by omega, rfl⟩
  · rw [if_pos e]
    exact ⟨_, _, List.length_pos_iff.2 e, rfl⟩
theorem next_no {s : RQ} (o : OkQ s) {h : Int} (hn : hasQ s h = false ∨ s.r h.toNat ≠ 0 ∨ waitsQ s s.H = 0) : nextF s h = (s, 0, false) := by
  unfold nextF
  by_cases h1 : hasQ s h = false ∨ s.r h.toNat ≠ 0
  · rw [if_pos h1]
  · rw [if_neg h1]
    have h2 : waitsQ s s.H = 0 := by
      rcases hn with hn | hn | hn
      · exact absurd (.inl hn) h1
      · exact absurd (.inr hn) h1
      · exact hn
    have hb : hasQ s h = true := by simpa using fun e => h1 (.inl e)
    obtain ⟨k, rfl, hk⟩ := hasQ_nat hb
    rw [Int.toNat_natCast, if_neg (by simp [(waitsQ_zero _).1 h2 k hk]), if_pos ((busy_none o).2 h2)]
theorem run_where {s : RQ} (o : OkQ s) {h f i : Nat} (hh : h < s.H) (hr : s.r h = 0) (hi : i < (s.n f).length) :
    runningF (runS s h f i) h = gb (s.n f) i ∧ whereF (runS s h f i) (gb (s.n f) i) = ((h : Int), true) := by
  have o' := o.run hh hi hr
  have ha : atQ (runS s h f i) (gb (s.n f) i) h := (at_run o hi hr).2 (.inr ⟨rfl, rfl⟩)
  constructor
  · unfold runningF
    have hb : hasQ (runS s h f i) h = true := by
      unfold hasQ
      rw [decide_eq_true_eq]
      have hh' : h < (runS s h f i).H := hh
      omega
    rw [if_pos hb, Int.toNat_natCast]
    exact upd_same _ _ _
  · unfold whereF
    rw [if_pos (o'.key.2 ⟨h, ha⟩), whereQ_is o' ha]

def FinIn (w : World) (g H : Nat) (wr : World) : Prop := ∃ s, RqL w wr g s [] ∧ s.H = H
section
variable {w wr : World} {g H : Nat}
theorem FinIn.only {w' : World} (h : FinIn w g H wr) (ho : Only [] wr w') : FinIn w g H w' := by
  obtain ⟨s, h1, h2⟩ := h
  exact ⟨s, h1.quiet ho, h2⟩
theorem FinIn.base (h : FinIn w g H wr) : Only [] w wr := by obtain ⟨s, h1, _⟩ := h; exact h1.base
theorem fin_put (h : FinIn w g H wr) (a b : Int) (hb : iW b) : Calls Try.prog 14 #[.pointer (some ⟨g, 0, none⟩), .int .i64 a, .int .i64 b] wr fun e w' => ∃ x, e = .returned (.int .i64 x) ∧ FinIn w g H w' := by
  obtain ⟨s, h1, h2⟩ := h
  exact (lq_put h1 a b hb).mono fun e w' ⟨he, hd⟩ => ⟨_, he, _, hd.1, by rw [putF_H, h2]⟩
theorem fin_next (h : FinIn w g H wr) (a : Int) : Calls Try.prog 16 #[.pointer (some ⟨g, 0, none⟩), .int .i64 a] wr fun e w' => ∃ x y, e = .returned (.tuple #[.int .i64 x, .bool y]) ∧ FinIn w g H w' := by
  obtain ⟨s, h1, h2⟩ := h
  exact (lq_next h1 a).mono fun e w' ⟨he, hd⟩ => ⟨_, _, he, _, hd.1, by rw [nextF_H, h2]⟩
theorem fin_tick (h : FinIn w g H wr) (a : Int) : Calls Try.prog 17 #[.pointer (some ⟨g, 0, none⟩), .int .i64 a] wr fun e w' => ∃ x, e = .returned (.bool x) ∧ FinIn w g H w' := by
  obtain ⟨s, h1, h2⟩ := h
  exact (lq_tick h1 a).mono fun e w' ⟨he, hd⟩ => ⟨_, he, _, hd.1, by rw [tickF_H, h2]⟩
theorem fin_sleep (h : FinIn w g H wr) (a : Int) : Calls Try.prog 18 #[.pointer (some ⟨g, 0, none⟩), .int .i64 a] wr fun e w' => ∃ x y, e = .returned (.tuple #[.int .i64 x, .int .i64 y]) ∧ FinIn w g H w' := by
  obtain ⟨s, h1, h2⟩ := h
  exact (lq_sleep h1 a).mono fun e w' ⟨he, hd⟩ => ⟨_, _, he, _, hd.1, by rw [sleepF_H, h2]⟩
end
set_option maxHeartbeats 1500000 in
set_option maxRecDepth 100000 in
theorem runqFinds_walk (n hart : Int) (A : Option Addr) (len cap : Nat) (w : World) (hlen : len < 5900000000000) (hops : ∀ i, i < len → OpAt11 w A i) :
    Calls Try.prog 6 #[.int .i64 n, .slice A len cap, .int .i64 hart] w fun e w' => e = .returned (.bool true) ∧ Below w.heap.size w w' := by
  have HOP := hide hops
  have HLEN := hide hlen
  clear hops
  by_cases hn : 1 ≤ n ∧ n ≤ 8
  · obtain ⟨H, rfl⟩ : ∃ H : Nat, n = H := ⟨n.toNat, by omega⟩
    have hH : 1 ≤ H ∧ H ≤ 8 := by omega
    go_enter Try.func6, Try.ntmps6
    go_wp2_with fail
    refine (lq_new H hH).mono ?_
    rintro e w1 ⟨g, rfl, h1⟩
    go_wp2_with fail
    refine (lives11 _).mono ?_
    rintro e w2 ⟨rfl, ho2⟩
    have HI := hide (show FinIn w g H w2 from ⟨_, h1.quiet ho2, rfl⟩)
    clear h1 ho2
    go_wp2
    go_loopw [9] (fun iv wr => ∃ k : Nat, k ≤ len ∧ iv = .int .i64 k ∧ FinIn w g H wr) (fun iv _ => len - (intOf iv).toNat)
    case atStart => exact ⟨0, Nat.zero_le _, rfl, HI.out⟩
    case round =>
      obtain ⟨k, hk, rfl, hI⟩ := hrel
      by_cases hlt : k < len
      · obtain ⟨q, o, kd, b, c, rfl, hq, c0, c1, c2, hb, hc⟩ := HOP.out k hlt
        have d0 := (hI.base.cell hq (by simp) (o := o + k * 3) (s := none)).trans c0
        have d1 := (hI.base.cell hq (by simp) (o := o + k * 3 + 1) (s := none)).trans c1
        have d2 := (hI.base.cell hq (by simp) (o := o + k * 3 + 2) (s := none)).trans c2
        have hl64 : (k : Int) + 1 ≤ 9223372036854775807 := by omega
        have HPA := hide (fun ob => hI.only ((Only.refl [] wr).alloc ob))
        have HB1 := hide (fun ob => fin_put (hI.only ((Only.refl [] wr).alloc ob)) b c hc)
        have HB2 := hide (fun ob => fin_next (hI.only ((Only.refl [] wr).alloc ob)) b)
        have HB3 := hide (fun ob => fin_tick (hI.only ((Only.refl [] wr).alloc ob)) b)
        have HB4 := hide (fun ob => fin_sleep (hI.only ((Only.refl [] wr).alloc ob)) b)
        clear hI c0 c1 c2
        by_cases k1 : kd = 1
        · subst k1
          go_wp2_with (go_at_call 14; refine (HB1.out _).mono ?_; rintro e w3 ⟨x, rfl, h3⟩; have H3 := hide h3; clear h3)
          go_roundw
          case rel => exact ⟨k + 1, hlt, by go_num, H3.out⟩
          case measure => simp only [intOf]; omega
        · have k1b : (kd == 1) = false := beq_eq_false_iff_ne.2 k1
          by_cases k3 : kd = 3
          · subst k3
            clear k1 k1b
            go_wp2_with (go_at_call 16; refine (HB2.out _).mono ?_; rintro e w3 ⟨x, y, rfl, h3⟩; have H3 := hide h3; clear h3)
            go_roundw
            case rel => exact ⟨k + 1, hlt, by go_num, H3.out⟩
            case measure => simp only [intOf]; omega
          · have k3b : (kd == 3) = false := beq_eq_false_iff_ne.2 k3
            by_cases k4 : kd = 4
            · subst k4
              clear k1 k1b k3 k3b
              go_wp2_with (go_at_call 17; refine (HB3.out _).mono ?_; rintro e w3 ⟨x, rfl, h3⟩; have H3 := hide h3; clear h3)
              go_roundw
              case rel => exact ⟨k + 1, hlt, by go_num, H3.out⟩
              case measure => simp only [intOf]; omega
            · have k4b : (kd == 4) = false := beq_eq_false_iff_ne.2 k4
              by_cases k5 : kd = 5
              · subst k5
                clear k1 k1b k3 k3b k4 k4b
                go_wp2_with (go_at_call 18; refine (HB4.out _).mono ?_; rintro e w3 ⟨x, y, rfl, h3⟩; have H3 := hide h3; clear h3)
                go_roundw
                case rel => exact ⟨k + 1, hlt, by go_num, H3.out⟩
                case measure => simp only [intOf]; omega
              · have k5b : (kd == 5) = false := beq_eq_false_iff_ne.2 k5
                clear k1 k3 k4 k5
                go_wp2
                go_roundw
                case rel => exact ⟨k + 1, hlt, by go_num, HPA.out _⟩
                case measure => simp only [intOf]; omega
      · obtain rfl : k = len := by omega
        obtain ⟨s, hR, rfl⟩ := hI
        have HR := hide hR
        clear hR HI HOP
        go_wp2_with fail
        go_loopw [11, 12] (fun nv iv wq => ∃ j : Nat, j ≤ s.H ∧ iv = .int .i64 j ∧ nv = .int .i64 (waitsQ s j) ∧ RqL w wq g s []) (fun _ iv _ => s.H - (intOf iv).toNat)
        case atStart => exact ⟨0, Nat.zero_le _, rfl, rfl, HR.out⟩
        case round =>
          obtain ⟨j, hj, rfl, rfl, hQ⟩ := hrel
          by_cases hjl : j < s.H
          · have hjI : (j : Int) < s.H := by omega
            have HQ := hide (lq_queue hQ j)
            have HQQ := hide hQ
            have hle := waitsQ_le hQ.ok j (by omega)
            have hfe := hQ.ok.small.few j (by omega)
            have HLN := hide (show (queueQ s j).length = (s.n j).length by
              unfold queueQ
              rw [show hasQ s j = true by simp [hasQ, hjl], if_pos rfl, Int.toNat_natCast])
            have hw : IntKind.i64.wrap (((waitsQ s j : Nat) : Int) + ((s.n j).length : Int)) = ((waitsQ s (j + 1) : Nat) : Int) := by
              have hw0 : waitsQ s (j + 1) = waitsQ s j + (s.n j).length := rfl
              rw [IntKind.wrap_i64, hw0]
              omega
            clear hQ hle hfe
            go_wp2_with (go_at_call 21; refine HQ.out.mono ?_; rintro e w4 ⟨v, rfl, hr, -, ho⟩; obtain ⟨A4, c4, rfl, -⟩ := hr.form; rw [HLN.out]; have H4 := hide (HQQ.out.quiet ho); clear hr ho)
            go_roundw
            case rel => exact ⟨j + 1, hjl, by go_num, by first | rfl | rw [hw], H4.out⟩
            case measure => simp only [intOf]; omega
          · obtain rfl : j = s.H := by omega
            have o := hQ.ok
            have H5 := hide hQ
            have HRN := hide (lq_running hQ hart)
            have HNX := hide (lq_next hQ hart)
            have HSM := hide hH
            have hwb : waitsQ s s.H ≤ 512 := by have := waitsQ_le o s.H (by omega); omega
            clear hQ HR
            by_cases hb : 0 ≤ hart ∧ hart < s.H
            · obtain ⟨h, rfl⟩ : ∃ h : Nat, hart = h := ⟨hart.toNat, by omega⟩
              have hh : h < s.H := by omega
              have hh1 : (0 : Int) ≤ h := by omega
              have hh2 : (h : Int) < s.H := by omega
              have hbq : hasQ s h = true := by simp [hasQ, hh]
              have er : runningF s h = s.r h := by unfold runningF; rw [if_pos hbq, Int.toNat_natCast]
              rw [er] at HRN
              clear hb er
              by_cases hr : s.r h = 0
              · rw [hr] at HRN
                by_cases hwz : waitsQ s s.H = 0
                · rw [next_no o (.inr (.inr hwz))] at HNX
                  have hwI : ((waitsQ s s.H : Nat) : Int) = 0 := by omega
                  rw [hwI]
                  clear o hbq hr hwz hwb hwI
                  go_wp2_with (first | (go_at_call 20; refine HRN.out.mono ?_; rintro e w5 ⟨rfl, rfl⟩) | (go_at_call 16; refine HNX.out.mono ?_; rintro e w6 ⟨rfl, h6, -⟩; have H6 := hide h6.base; clear h6))
                  go_ret
                  exact ⟨rfl, H6.out.below (Nat.le_refl _) (by simp)⟩
                · obtain ⟨f, i, hi, e⟩ := next_finds o hh hr hwz
                  obtain ⟨e1, e2⟩ := run_where o hh hr hi
                  have hwt := (o.wn f _ (gb_mem hi)).2
                  have HS1 := hide (fun wq (R : RqL w wq g (runS s h f i) []) => lq_where R (gb (s.n f) i) hwt)
                  have HS2 := hide (fun wq (R : RqL w wq g (runS s h f i) []) => lq_running R h)
                  rw [e] at HNX
                  rw [e2] at HS1
                  rw [e1] at HS2
                  have hwp : 0 < waitsQ s s.H := by omega
                  generalize waitsQ s s.H = W at *
                  clear o hbq hr hwz hwb e e1 e2 hwt
                  revert HNX HS1 HS2
                  generalize gb (s.n f) i = t
                  intro HNX HS1 HS2
                  have hs1 : (t == t) = true := by simp
                  have hs2 : ((h : Int) == (h : Int)) = true := by simp
                  go_wp2_with (first | (go_at_call 16; refine HNX.out.mono ?_; rintro e w6 ⟨rfl, h6, -⟩; have H6 := hide h6; clear h6) | (go_at_call 22; refine (HS1.out _ H6.out).mono ?_; rintro e w7 ⟨rfl, rfl⟩) | (go_at_call 20; have hg := H6; refine (HS2.out _ H6.out).mono ?_; rintro e w7 ⟨rfl, rfl⟩) | (go_at_call 20; refine HRN.out.mono ?_; rintro e w5 ⟨rfl, rfl⟩))
                  go_ret
                  exact ⟨rfl, H6.out.base.below (Nat.le_refl _) (by simp)⟩
              · rw [next_no (h := (h : Int)) o (.inr (.inl (by rw [Int.toNat_natCast]; exact hr)))] at HNX
                have hrb : (s.r h == 0) = false := by simp [hr]
                clear o hbq hr hwb
                generalize s.r h = rh at *
                go_wp2_with (first | (go_at_call 20; refine HRN.out.mono ?_; rintro e w5 ⟨rfl, rfl⟩) | (go_at_call 16; refine HNX.out.mono ?_; rintro e w6 ⟨rfl, h6, -⟩; have H6 := hide h6.base; clear h6))
                go_ret
                exact ⟨rfl, H6.out.below (Nat.le_refl _) (by simp)⟩
            · have hbq : hasQ s hart = false := by simp [hasQ]; omega
              rw [next_no o (.inl hbq)] at HNX
              clear o hbq hwb
              by_cases h0 : 0 ≤ hart
              · have h1 : ¬ hart < s.H := fun h => hb ⟨h0, h⟩
                have h1b : decide (hart < (s.H : Int)) = false := by simp [h1]
                clear hb
                go_wp2_with (go_at_call 16; refine HNX.out.mono ?_; rintro e w6 ⟨rfl, h6, -⟩; have H6 := hide h6.base; clear h6)
                go_ret
                exact ⟨rfl, H6.out.below (Nat.le_refl _) (by simp)⟩
              · have h0b : decide (0 ≤ hart) = false := by simp [h0]
                clear hb
                go_wp2_with (go_at_call 16; refine HNX.out.mono ?_; rintro e w6 ⟨rfl, h6, -⟩; have H6 := hide h6.base; clear h6)
                go_ret
                exact ⟨rfl, H6.out.below (Nat.le_refl _) (by simp)⟩
  · have HB := hide (qNew_bad (w := w) n hn)
    go_enter Try.func6, Try.ntmps6
    go_wp2_with (first | (go_at_call 9; refine HB.out.mono ?_; rintro e w1 ⟨rfl, rfl⟩) | (go_at_call 11; refine (lives11 _).mono ?_; rintro e w2 ⟨rfl, ho2⟩; have H2 := hide ho2; clear ho2))
    go_ret
    exact ⟨rfl, H2.out.below (Nat.le_refl _) (by simp)⟩
end Go.Proofs.Ytjamanahgkagjaa
