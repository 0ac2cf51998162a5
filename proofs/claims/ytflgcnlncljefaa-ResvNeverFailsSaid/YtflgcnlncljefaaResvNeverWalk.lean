/-
  The walk of 'ResvNeverFails'.
-/
import Derived.Test.YtflgcnlncljefaaResvNever
namespace Go.Proofs.Ytflgcnlncljefaa
open Go.ChangeShapes Go.WideShapes Go.ChangeAt Go.RowKit Go.Deep
set_option linter.unusedVariables false

def NfIn (w : World) (g : Nat) (H : Int) (n : Nat) (iv : Value) (wr : World) : Prop := ∃ (k : Nat) (s : GS), k ≤ n ∧ iv = .int .i64 k ∧ GtI w wr g H s ∧ Nod s.ss
def CellsS (w : World) (b : Nat) (ss : List ST) : Prop := ∀ (i : Nat) (s : ST), ss[i]? = some s →
  w.cell? ⟨b, i * 4, none⟩ = some (.int .i64 s.id) ∧ w.cell? ⟨b, i * 4 + 1, none⟩ = some (.int .i64 s.bound) ∧ w.cell? ⟨b, i * 4 + 2, none⟩ = some (.int .i64 s.taken) ∧ w.cell? ⟨b, i * 4 + 3, none⟩ = some (.bool s.waits)
def NfIn2 (w : World) (g : Nat) (H : Int) (A : Option Addr) (cs : List ST) (iv : Value) (wr : World) : Prop :=
  ∃ (i : Nat) (L : Int), i ≤ cs.length ∧ iv = .int .i64 i ∧ GtI w wr g H ⟨L, spent cs i⟩ ∧ (0 < cs.length → ∃ b, A = some ⟨b, 0, none⟩ ∧ GtL w wr g H ⟨L, spent cs i⟩ [b] ∧ CellsS wr b cs)

section
variable {w wr : World} {g : Nat} {H : Int} {s : GS}
theorem enterN (h : GtI w wr g H s) (hn : Nod s.ss) (id b : Int) : Calls Try.prog 14 #[.pointer (some ⟨g, 0, none⟩), .int .i64 id, .int .i64 b] wr fun e w' => ∃ (bb : Bool) (er L3 : Int) (ss3 : List ST), e = .returned (.tuple #[.bool bb, .int .i64 er]) ∧ GtI w w' g H ⟨L3, ss3⟩ ∧ Nod ss3 :=
  (enterI h id b).mono fun e w' ⟨he, hg⟩ => ⟨_, _, _, _, he, hg, hn.enter (H := H) id b⟩
theorem takeN (h : GtI w wr g H s) (hn : Nod s.ss) (id b : Int) : Calls Try.prog 15 #[.pointer (some ⟨g, 0, none⟩), .int .i64 id, .int .i64 b] wr fun e w' => ∃ (er L3 : Int) (ss3 : List ST), e = .returned (.int .i64 er) ∧ GtI w w' g H ⟨L3, ss3⟩ ∧ Nod ss3 :=
  (takeI h id b).mono fun e w' ⟨he, hg⟩ => ⟨_, _, _, he, hg, hn.take id b⟩
theorem giveN (h : GtI w wr g H s) (hn : Nod s.ss) (b : Int) : Calls Try.prog 16 #[.pointer (some ⟨g, 0, none⟩), .int .i64 b] wr fun e w' => ∃ (A : Option Addr) (m c : Nat) (er L3 : Int) (ss3 : List ST), e = .returned (.tuple #[.slice A m c, .int .i64 er]) ∧ GtI w w' g H ⟨L3, ss3⟩ ∧ Nod ss3 :=
  (giveI h b).mono fun e w' ⟨A, c, he, _, hg⟩ => ⟨A, _, c, _, _, _, he, hg, hn.give (H := H) b⟩
theorem leaveN (h : GtI w wr g H s) (hn : Nod s.ss) (b : Int) : Calls Try.prog 17 #[.pointer (some ⟨g, 0, none⟩), .int .i64 b] wr fun e w' => ∃ (A : Option Addr) (m c : Nat) (er L3 : Int) (ss3 : List ST), e = .returned (.tuple #[.slice A m c, .int .i64 er]) ∧ GtI w w' g H ⟨L3, ss3⟩ ∧ Nod ss3 :=
  (leaveI h b).mono fun e w' ⟨A, c, he, _, hg⟩ => ⟨A, _, c, _, _, _, he, hg, hn.leave (H := H) b⟩
theorem heap_bounds {L : Int} {ss : List ST} (h : GtI w wr g H ⟨L, ss⟩) : decide (L < 0) = false ∧ decide (resvL ss < 0) = false ∧ decide (H < L) = false ∧ decide (H - L < resvL ss) = false ∧ IntKind.i64.wrap (H - L) = H - L := by
  have h1 : 0 ≤ L := h.ok.l0
  have h2 : 0 ≤ resvL ss := h.ok.r0
  have h3 : L + resvL ss ≤ H := h.ok.sum
  have h4 := h.ok.size
  refine ⟨by simp; omega, by simp; omega, by simp; omega, by simp; omega, by rw [IntKind.wrap_i64]; omega⟩
end
theorem take2_ {L h : Int} {cs : List ST} (hn : Nod cs) {i : Nat} {t : ST} (ht : cs[i]? = some t) (hw : t.waits = false) (h0 : 0 ≤ h) (h1 : h ≤ t.bound) :
    takeF ⟨L + h, (spent cs i).set i { t with bound := t.bound - h, taken := t.taken + h }⟩ t.id (t.bound - h) = (0, ⟨L + t.bound, spent cs (i + 1)⟩) := by
  have hs := spent_at ht
  have hi := (List.getElem?_eq_some_iff.1 hs).1
  have hn2 : Nod ((spent cs i).set i { t with bound := t.bound - h, taken := t.taken + h }) := (spent_nod hn i).set hs rfl
  have hat : ((spent cs i).set i { t with bound := t.bound - h, taken := t.taken + h })[i]? = some { t with bound := t.bound - h, taken := t.taken + h } := by rw [List.getElem?_set_self hi]
  have := take_in (L := L + h) hn2 hat hw (n := t.bound - h) (by omega) (by simp only []; omega)
  simp only [] at this
  rw [this, List.set_set, spent_succ ht]
  have e1 : L + h + (t.bound - h) = L + t.bound := by omega
  have e2 : t.bound - h - (t.bound - h) = 0 := by omega
  have e3 : t.taken + h + (t.bound - h) = t.taken + t.bound := by omega
  rw [e1, e2, e3]
  unfold spend
  rw [if_neg (by rw [hw]; simp)]
theorem take3_ {L : Int} {cs : List ST} (hn : Nod cs) {i : Nat} {t : ST} (ht : cs[i]? = some t) (hw : t.waits = false) :
    takeF ⟨L, spent cs (i + 1)⟩ t.id 1 = (90, ⟨L, spent cs (i + 1)⟩) := by
  have hs := spent_at ht
  have hi := (List.getElem?_eq_some_iff.1 hs).1
  have hat : (spent cs (i + 1))[i]? = some (spend t) := by rw [spent_succ ht, List.getElem?_set_self hi]
  have e : spend t = { t with bound := 0, taken := t.taken + t.bound } := by unfold spend; rw [if_neg (by rw [hw]; simp)]
  have := take_over (L := L) (spent_nod hn (i + 1)) hat (by rw [e]; exact hw) (n := 1) (by omega) (by rw [e]; simp)
  rw [e] at this
  exact this
theorem CellsS.kept {w w' : World} {b : Nat} {ss : List ST} (h : CellsS w b ss) (hc : ∀ o, w'.cell? ⟨b, o, none⟩ = w.cell? ⟨b, o, none⟩) : CellsS w' b ss := fun i s hs => by
  obtain ⟨c0, c1, c2, c3⟩ := h i s hs
  exact ⟨(hc _).trans c0, (hc _).trans c1, (hc _).trans c2, (hc _).trans c3⟩

/-- In a round of the takes: the seat's own box, the copied seats, the gate. -/
structure Qn (w W : World) (g : Nat) (H : Int) (s : GS) (bx b : Nat) (t : ST) (cs : List ST) : Prop where
  gl : GtL w W g H s [bx, b]
  k0 : W.cell? ⟨bx, 0, none⟩ = some (.int .i64 t.id)
  k1 : W.cell? ⟨bx, 1, none⟩ = some (.int .i64 t.bound)
  cs : CellsS W b cs
theorem takeQ {w W : World} {g : Nat} {H : Int} {s s' : GS} {bx b : Nat} {t : ST} {cs : List ST} (h : Qn w W g H s bx b t cs) {m er : Int} (he : takeF s t.id m = (er, s')) :
    Calls Try.prog 15 #[.pointer (some ⟨g, 0, none⟩), .int .i64 t.id, .int .i64 m] W fun e w' => e = .returned (.int .i64 er) ∧ Qn w w' g H s' bx b t cs := by
  have := takeL h.gl t.id m
  rw [he] at this
  refine this.mono ?_
  rintro e w' ⟨rfl, hg, hc⟩
  exact ⟨rfl, hg, (hc bx (by simp) 0).trans h.k0, (hc bx (by simp) 1).trans h.k1, h.cs.kept fun o => hc b (by simp) o⟩

set_option maxHeartbeats 1500000 in
set_option maxRecDepth 100000 in
theorem resvNever_walk (n : Int) (A : Option Addr) (len cap : Nat) (w : World) (hlen : len < 5900000000000) (hops : ∀ i, i < len → OpAt9 w A i) :
    Calls Try.prog 4 #[.int .i64 n, .slice A len cap] w fun e w' => e = .returned (.bool true) ∧ Below w.heap.size w w' := by
  have HOP := hide hops
  have HLEN := hide hlen
  clear hops
  by_cases hn : 1 ≤ n ∧ n ≤ 1073741824
  · go_enter Try.func4, Try.ntmps4
    go_wp2_with fail
    refine (gNew_ok n hn).mono ?_
    rintro e w1 ⟨g, F, rfl, hg, hF, ho⟩
    have hI : GtI w w1 g n ⟨0, []⟩ := ⟨F, hg, hF, ho⟩
    clear hg hF ho
    go_wp2_with fail
    refine (lives9 _).mono ?_
    rintro e w2 ⟨rfl, ho2⟩
    have HI := hide (hI.only ho2)
    clear hI ho2
    go_wp2
    go_loopw [7] (fun iv wr => NfIn w g n len iv wr) (fun iv _ => len - (intOf iv).toNat)
    case atStart => exact ⟨0, _, Nat.zero_le _, rfl, HI.out, by simp [Nod]⟩
    case round =>
      obtain ⟨k, s, hk, rfl, hI, hnd⟩ := hrel
      have HGI := hide hI
      have HND := hide hnd
      clear hnd
      by_cases hlt : k < len
      · obtain ⟨q, o, kd, b, c, rfl, hq, c0, c1, c2, hb, hc⟩ := HOP.out k hlt
        have hww := hI.base
        have d0 := (hww.cell hq (by simp) : wr.cell? ⟨q, o + k * 3, none⟩ = _).trans c0
        have d1 := (hww.cell hq (by simp) : wr.cell? ⟨q, o + k * 3 + 1, none⟩ = _).trans c1
        have d2 := (hww.cell hq (by simp) : wr.cell? ⟨q, o + k * 3 + 2, none⟩ = _).trans c2
        have HGB := hide (hI.only ((Only.refl [] wr).alloc (.cells #[.int .i64 kd, .int .i64 b, .int .i64 c] 33)))
        have hl64 : (k : Int) + 1 ≤ 9223372036854775807 := by omega
        clear hI c0 c1 c2 hww
        by_cases k1 : kd = 1
        · subst k1
          go_wp2_with (first | (go_at_call 14; refine (enterN HGB.out HND.out _ _).mono ?_; rintro e w3 ⟨bb, er, L3, ss3, rfl, hI3, hN3⟩; have HI3 := hide hI3; have HN3 := hide hN3; obtain ⟨f1, f2, f3, f4, f5⟩ := heap_bounds hI3; clear hI3 hN3) | (go_at_call 18; refine (heapI HI3.out).mono ?_; rintro e w4 ⟨rfl, ho4⟩; have HO4 := hide ho4; clear ho4))
          go_roundw
          case rel => exact ⟨k + 1, _, by omega, by go_num, HI3.out.only (HO4.out.alloc _), HN3.out⟩
          case measure => simp [intOf]; omega
        · by_cases k2 : kd = 2
          · subst k2
            go_wp2_with (first | (go_at_call 15; refine (takeN HGB.out HND.out _ _).mono ?_; rintro e w3 ⟨er, L3, ss3, rfl, hI3, hN3⟩; have HI3 := hide hI3; have HN3 := hide hN3; obtain ⟨f1, f2, f3, f4, f5⟩ := heap_bounds hI3; clear hI3 hN3) | (go_at_call 18; refine (heapI HI3.out).mono ?_; rintro e w4 ⟨rfl, ho4⟩; have HO4 := hide ho4; clear ho4))
            go_roundw
            case rel => exact ⟨k + 1, _, by omega, by go_num, HI3.out.only (HO4.out.alloc _), HN3.out⟩
            case measure => simp [intOf]; omega
          · by_cases k3 : kd = 3
            · subst k3
              go_wp2_with (first | (go_at_call 16; refine (giveN HGB.out HND.out _).mono ?_; rintro e w3 ⟨A3, m3, c3, er, L3, ss3, rfl, hI3, hN3⟩; have HI3 := hide hI3; have HN3 := hide hN3; obtain ⟨f1, f2, f3, f4, f5⟩ := heap_bounds hI3; clear hI3 hN3) | (go_at_call 18; refine (heapI HI3.out).mono ?_; rintro e w4 ⟨rfl, ho4⟩; have HO4 := hide ho4; clear ho4))
              go_roundw
              case rel => exact ⟨k + 1, _, by omega, by go_num, HI3.out.only (HO4.out.alloc _), HN3.out⟩
              case measure => simp [intOf]; omega
            · by_cases k4 : kd = 4
              · subst k4
                go_wp2_with (first | (go_at_call 17; refine (leaveN HGB.out HND.out _).mono ?_; rintro e w3 ⟨A3, m3, c3, er, L3, ss3, rfl, hI3, hN3⟩; have HI3 := hide hI3; have HN3 := hide hN3; obtain ⟨f1, f2, f3, f4, f5⟩ := heap_bounds hI3; clear hI3 hN3) | (go_at_call 18; refine (heapI HI3.out).mono ?_; rintro e w4 ⟨rfl, ho4⟩; have HO4 := hide ho4; clear ho4))
                go_roundw
                case rel => exact ⟨k + 1, _, by omega, by go_num, HI3.out.only (HO4.out.alloc _), HN3.out⟩
                case measure => simp [intOf]; omega
              · have e1 : (kd == 1) = false := beq_eq_false_iff_ne.2 k1
                have e2 : (kd == 2) = false := beq_eq_false_iff_ne.2 k2
                have e3 : (kd == 3) = false := beq_eq_false_iff_ne.2 k3
                have e4 : (kd == 4) = false := beq_eq_false_iff_ne.2 k4
                obtain ⟨L3, ss3⟩ := s
                obtain ⟨f1, f2, f3, f4, f5⟩ := heap_bounds HGB.out
                clear k1 k2 k3 k4
                go_wp2_with (go_at_call 18; refine (heapI HGB.out).mono ?_; rintro e w4 ⟨rfl, ho4⟩; have HO4 := hide ho4; clear ho4)
                go_roundw
                case rel => exact ⟨k + 1, _, by omega, by go_num, HGB.out.only (HO4.out.alloc _), HND.out⟩
                case measure => simp [intOf]; omega
      · obtain rfl : k = len := by omega
        obtain ⟨L0, cs⟩ := s
        have HS1 := hide (seatsI hI)
        clear hI
        go_wp2_with (go_at_call 19; refine HS1.out.mono ?_; rintro e w4 ⟨A4, c4, rfl, hss, hfr, ho4⟩; have HSS := hide hss; have HFR := hide hfr; have HO4 := hide ho4; clear hss hfr ho4)
        go_loopw [11] (fun iv wz => NfIn2 w g n A4 cs iv wz) (fun iv _ => cs.length - (intOf iv).toNat)
        case atStart =>
          refine ⟨0, L0, Nat.zero_le _, rfl, by rw [spent_zero]; exact HGI.out.only HO4.out, fun hp => ?_⟩
          obtain ⟨b, hb, hbl, hcs⟩ := HSS.out hp
          exact ⟨b, hb, by rw [spent_zero]; exact HGI.out.gl.box HO4.out (HFR.out b 0 hb) hbl, hcs⟩
        case round =>
          obtain ⟨i, L, hi, rfl, hJ, hX⟩ := hrel
          have hcl : cs.length ≤ 64 := HGI.out.ok.few
          by_cases hlt : i < cs.length
          · obtain ⟨b, rfl, hgl, hcs⟩ := hX (by omega)
            obtain ⟨t, ht⟩ : ∃ t, cs[i]? = some t := ⟨_, List.getElem?_eq_getElem hlt⟩
            obtain ⟨c0, c1, c2, c3⟩ := hcs i t ht
            have HGL := hide hgl
            have HCS := hide hcs
            have HT := hide ht
            have HJ := hide hJ
            clear hX hgl hcs ht hJ
            cases hw : t.waits with
            | true =>
              rw [hw] at c3
              have HW := hide hw
              clear hw
              go_wp2
              go_roundw
              case rel =>
                have hal : Only [] wr (wr.alloc (.cells #[.int .i64 t.id, .int .i64 t.bound, .int .i64 t.taken, .bool true] 48)) := (Only.refl [] wr).alloc _
                refine ⟨i + 1, L, hlt, by go_num, by rw [spent_wait HT.out HW.out]; exact HJ.out.only hal, fun hp => ⟨b, rfl, by rw [spent_wait HT.out HW.out]; exact HGL.out.only hal, ?_⟩⟩
                obtain ⟨F5, _, _, _, h5⟩ := HGL.out
                exact HCS.out.kept fun o => hal.cell (h5 b (by simp)).2 (by simp)
              case measure => simp [intOf]; omega
            | false =>
              rw [hw] at c3
              have HW := hide hw
              clear hw
              have hok := HGL.out.gi.ok
              have hts : 0 ≤ t.bound ∧ 0 ≤ t.taken ∧ t.bound + t.taken ≤ n := hok.at_ (spent_at HT.out)
              have hsz := hok.size
              have hh1 : IntKind.i64.wrap (t.bound.tdiv 2) = t.bound / 2 := by rw [Int.tdiv_eq_ediv_of_nonneg hts.1, IntKind.wrap_i64]; omega
              obtain ⟨hh, hhe⟩ : ∃ hh : Int, hh = t.bound / 2 := ⟨_, rfl⟩
              have hh0 : 0 ≤ hh ∧ hh ≤ t.bound := by omega
              have hh2 : IntKind.i64.wrap (t.bound - hh) = t.bound - hh := by rw [IntKind.wrap_i64]; omega
              rw [← hhe] at hh1
              have HND2 : Hid (Nod cs) := HND
              have HQ1 := hide (show Qn w (wr.alloc (.cells #[.int .i64 t.id, .int .i64 t.bound, .int .i64 t.taken, .bool false] 48)) g n ⟨L, spent cs i⟩ wr.heap.size b t cs from by
                have hal : Only [] wr (wr.alloc (.cells #[.int .i64 t.id, .int .i64 t.bound, .int .i64 t.taken, .bool false] 48)) := (Only.refl [] wr).alloc _
                refine ⟨HGL.out.box hal (Nat.le_refl _) (by simp), (Blk.new wr 48 _).cell 0, (Blk.new wr 48 _).cell 1, ?_⟩
                obtain ⟨F5, _, _, _, h5⟩ := HGL.out
                exact HCS.out.kept fun o => hal.cell (h5 b (by simp)).2 (by simp))
              have HT1 := hide (fun (W : World) (hq : Qn w W g n ⟨L, spent cs i⟩ wr.heap.size b t cs) => takeQ hq (take_in (L := L) (spent_nod HND.out i) (spent_at HT.out) HW.out hh0.1 hh0.2))
              have HT2 := hide (fun (W : World) (hq : Qn w W g n _ wr.heap.size b t cs) => takeQ hq (take2_ (L := L) HND.out HT.out HW.out hh0.1 hh0.2))
              have HT3 := hide (fun (W : World) (hq : Qn w W g n _ wr.heap.size b t cs) => takeQ hq (take3_ (L := L + t.bound) HND.out HT.out HW.out))
              clear hok hts hsz hhe hh0
              go_wp2_with (first | (go_at_call 15; have hg := HQ3; refine (HT3.out _ HQ3.out).mono ?_; rintro e w7 ⟨rfl, hq⟩; have HQ4 := hide hq; clear hq) | (go_at_call 15; have hg := HQ2; refine (HT2.out _ HQ2.out).mono ?_; rintro e w6 ⟨rfl, hq⟩; have HQ3 := hide hq; have j0 := hq.k0; have j1 := hq.k1; clear hq) | (go_at_call 15; refine (HT1.out _ HQ1.out).mono ?_; rintro e w5 ⟨rfl, hq⟩; have HQ2 := hide hq; have m0 := hq.k0; have m1 := hq.k1; clear hq))
              go_roundw
              case rel => exact ⟨i + 1, L + t.bound, hlt, by go_num, HQ4.out.gl.gi, fun hp => ⟨b, rfl, HQ4.out.gl.less (by simp), HQ4.out.cs⟩⟩
              case measure => simp [intOf]; omega
          · obtain rfl : i = cs.length := by omega
            have hb6 : decide (L ≤ n) = true := by have h1 : 0 ≤ resvL (spent cs cs.length) := hJ.ok.r0; have h2 : L + resvL (spent cs cs.length) ≤ n := hJ.ok.sum; simp; omega
            have HHE := hide (heapI hJ)
            have HJB := hide hJ.base
            have hr0 := spent_all cs
            clear hX
            go_wp2_with (go_at_call 18; refine HHE.out.mono ?_; rintro e w5 ⟨rfl, ho5⟩; have HO5 := hide ho5; clear ho5)
            go_ret
            exact ⟨rfl, ((HJB.out.trans HO5.out).alloc _).below (Nat.le_refl _) (by simp)⟩
  · go_enter Try.func4, Try.ntmps4
    go_wp2_with (first | (go_at_call 9; refine (gNew_no n (by omega)).mono ?_; rintro e w1 ⟨rfl, rfl⟩) | (go_at_call 11; refine (lives9 _).mono ?_; rintro e w2 ⟨rfl, ho2⟩; have HO2 := hide ho2; clear ho2))
    go_ret
    exact ⟨rfl, HO2.out.below (Nat.le_refl _) (by simp)⟩
end Go.Proofs.Ytflgcnlncljefaa
