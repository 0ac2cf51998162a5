/-
  The document's own run queues (parapetref11): Next where it refuses, or takes from the busiest.
-/
import Derived.Test.YtdinndpeoankdaaRq11Next
namespace Go.Proofs.Ytdinndpeoankdaa
open Go.ChangeShapes Go.WideShapes Go.ChangeAt Go.RowKit Go.Maps
set_option linter.unusedVariables false
section
variable {w w' w1 w5 : World} {gx hx : Nat} {s s' s2 : RQ} {xs : Nat → Value} {S : List Nat} {v5 : Value} {zs : List Int}
theorem xNext_no (X : IsX w gx hx s xs) (o : OkQ s) (h : Int) (hn : hasQ s h = false ∨ s.r h.toNat ≠ 0) :
    Calls Try.prog 16 #[.pointer (some ⟨gx, 0, none⟩), .int .i64 h] w fun e w' => e = .returned (.tuple #[.int .i64 0, .bool false]) ∧ DidX w w' gx hx s.H xs s := by
  have HH := hide (xhart_is X h)
  have HX := hide (X.sameX (Only.refl [] w))
  by_cases hb : hasQ s h = false
  · rw [hb] at HH
    clear X o hn hb
    go_enter Try.func16, Try.ntmps16
    go_wp2_with (go_at_call 35; refine HH.out.mono ?_; rintro e w' ⟨rfl, rfl⟩)
    go_ret2
    exact ⟨rfl, HX.out⟩
  · have hb' : hasQ s h = true := by simpa using hb
    rw [hb'] at HH
    obtain ⟨k, rfl, hk⟩ := hasQ_nat hb'
    have hr : s.r k ≠ 0 := by
      rcases hn with h | h
      · rw [hb'] at h; cases h
      · simpa using h
    have c0 := X.cT
    have cr := X.cR hk
    have hp : 0 < s.r k := by have := (o.wr k).1; omega
    have hhi : (k : Int) < s.H := by omega
    generalize s.r k = x at *
    clear X o hn hb hb' hr
    go_enter Try.func16, Try.ntmps16
    go_wp2_with (go_at_call 35; refine HH.out.mono ?_; rintro e w' ⟨rfl, rfl⟩)
    go_ret2
    exact ⟨rfl, HX.out⟩
set_option maxHeartbeats 4000000 in
set_option maxRecDepth 100000 in
theorem xNext_far (X : IsX w gx hx s xs) (o : OkQ s) (k : Nat) (hk : k < s.H) (hr : s.r k = 0) (hne : s.n k = []) :
    Calls Try.prog 16 #[.pointer (some ⟨gx, 0, none⟩), .int .i64 k] w fun e w' => e = .returned (.tuple #[.int .i64 (nextF s k).2.1, .bool (nextF s k).2.2]) ∧ DidX w w' gx hx s.H xs (nextF s k).1 := by
  have HH := hide (xhart_is X k)
  rw [show hasQ s k = true by simp [hasQ, hk]] at HH
  have c0 := X.cT
  have cr := X.cR hk
  rw [hr] at cr
  obtain ⟨A0, k0, _, cn0, _⟩ := X.form hk
  rw [show (s.n k).length = 0 by rw [hne]; rfl] at cn0
  have hhi : (k : Int) < s.H := by omega
  have hbH : busyQ s s.H < s.H := by have := busyQ_lt s s.H; have := o.h1; omega
  have HR1 := hide (show s.n (busyQ s s.H) = [] → nextF s k = (s, 0, false) from fun h => by
    unfold nextF
    rw [if_neg (by simp [hasQ, hk, hr]), if_neg (by simp [hne]), if_pos h])
  have HR2 := hide (show s.n (busyQ s s.H) ≠ [] → nextF s k = (runS s k (busyQ s s.H) ((s.n (busyQ s s.H)).length - 1), gb (s.n (busyQ s s.H)) ((s.n (busyQ s s.H)).length - 1), true) from fun h => by
    unfold nextF
    rw [if_neg (by simp [hasQ, hk, hr]), if_neg (by simp [hne]), if_neg h]
    rfl)
  have HX := hide X
  have HO := hide o
  have HXF := hide (fun (wr : World) (ho : Only [] w wr) (h : Nat) (hh : h < s.H) => (X.quiet ho).form hh)
  have HCT := hide (fun (wr : World) (ho : Only [] w wr) => (X.quiet ho).cT)
  generalize nextF s k = rr at *
  clear X o hr hne
  go_enter Try.func16, Try.ntmps16
  go_wp2_with (go_at_call 35; refine HH.out.mono ?_; rintro e w' ⟨rfl, rfl⟩)
  go_loopw [7, 8] (fun lv iv wr => ∃ i b : Nat, 1 ≤ i ∧ i ≤ s.H ∧ iv = .int .i64 i ∧ lv = .int .i64 b ∧ b = busyQ s i ∧ Only [] w wr) (fun _ iv _ => s.H - (intOf iv).toNat)
  case atStart => exact ⟨1, 0, Nat.le_refl _, HO.out.h1, rfl, rfl, by simp [busyQ], Only.refl _ _⟩
  case round =>
    obtain ⟨i, b, hi1, hi, rfl, rfl, hB, ho⟩ := hrel
    have ct := HCT.out _ ho
    by_cases hlt : i < s.H
    · have hb := busyQ_lt s i
      rw [← hB] at hb
      have h8 := HO.out.h8
      have hltI : (i : Int) < s.H := by omega
      have hbI : (b : Int) < s.H := by omega
      obtain ⟨A1, k1, _, q1, _⟩ := HXF.out _ ho i (by omega)
      obtain ⟨A2, k2, _, q2, _⟩ := HXF.out _ ho b (by omega)
      have HE := hide (show busyQ s (i + 1) = if (s.n b).length < (s.n i).length then i else b from hB ▸ rfl)
      have HOO := hide ho
      clear hb hB ho
      by_cases hc : (s.n b).length < (s.n i).length
      · rw [if_pos hc] at HE
        have hcI : ((s.n b).length : Int) < (s.n i).length := by omega
        clear hc
        go_wp2_with fail
        go_region
        clear q1 q2
        go_wp2_with fail
        go_roundw
        case rel => exact ⟨i + 1, i, by omega, hlt, by go_num, rfl, HE.out.symm, HOO.out.drew⟩
        case measure => simp [intOf]; omega
      · rw [if_neg hc] at HE
        have hcI : ¬ ((s.n b).length : Int) < (s.n i).length := by omega
        clear hc
        go_wp2_with fail
        go_region
        clear q1 q2
        go_wp2_with fail
        go_roundw
        case rel => exact ⟨i + 1, b, by omega, hlt, by go_num, rfl, HE.out.symm, HOO.out.drew⟩
        case measure => simp [intOf]; omega
    · obtain rfl : i = s.H := by omega
      subst hB
      obtain ⟨A, c, hv, cn, hA, hlc, hcm, hc⟩ := HXF.out _ ho _ hbH
      have hbI : (busyQ s s.H : Int) < s.H := by omega
      by_cases he : s.n (busyQ s s.H) = []
      · have hr := HR1.out he
        rw [show (s.n (busyQ s s.H)).length = 0 by rw [he]; rfl] at cn
        have HRR := hide hr
        have HXX := hide (HX.out.sameX ho)
        clear hr HR1 HR2 hv hA hlc hcm hc he
        go_wp2_with fail
        go_ret2
        rw [HRR.out]
        exact ⟨rfl, HXX.out⟩
      · have hr := HR2.out he
        have hpos : 0 < (s.n (busyQ s s.H)).length := List.length_pos_iff.2 he
        rcases A with _ | ad
        · have := (hA rfl).1; omega
        obtain ⟨b, rfl, hb, hcell⟩ := hc ad rfl
        have Xr := HX.out.quiet ho
        have hbx : b ≠ hx := Xr.rh hbH (by rw [hv]; rfl)
        have hf := HO.out.small.few (busyQ s s.H) (by have := HO.out.h8; omega)
        have cb : wr.cell? ⟨b, (s.n (busyQ s s.H)).length - 1, none⟩ = some (.int .i64 (gb (s.n (busyQ s s.H)) ((s.n (busyQ s s.H)).length - 1))) := by
          refine hcell _ _ ?_
          have hlt9 : (s.n (busyQ s s.H)).length - 1 < (s.n (busyQ s s.H)).length := by omega
          simp [i64l, gb, List.getD, List.getElem?_eq_getElem hlt9]
        have crw := Xr.cR hk
        have frw := Xr.fr (k * 2)
        have heras : (s.n (busyQ s s.H)).eraseIdx ((s.n (busyQ s s.H)).length - 1) = (s.n (busyQ s s.H)).take ((s.n (busyQ s s.H)).length - 1) := by
          rw [List.eraseIdx_eq_take_drop_succ, List.drop_eq_nil_of_le (by omega), List.append_nil]
        obtain ⟨X0, o0⟩ := Xr.putR (s' := { s with r := upd s.r k (gb (s.n (busyQ s s.H)) ((s.n (busyQ s s.H)).length - 1)) }) hk (gb (s.n (busyQ s s.H)) ((s.n (busyQ s s.H)).length - 1)) rfl rfl rfl
        have X1 := X0.quiet ((Only.refl [] _).drew)
        have o1 := o0.drew
        have ho1 : Only [hx] w ((wr.setCell ⟨hx, k * 2, none⟩ (.int .i64 (gb (s.n (busyQ s s.H)) ((s.n (busyQ s s.H)).length - 1)))).drew) := (ho.mono (by simp)).trans o1
        have HNW := hide (fun (V : World) (hV : Only [] ((wr.setCell ⟨hx, k * 2, none⟩ (.int .i64 (gb (s.n (busyQ s s.H)) ((s.n (busyQ s s.H)).length - 1)))).drew) V) => (show ∀ ad, (some ⟨b, 0, none⟩ : Option Addr) = some ad → ∀ j u, (i64l ((s.n (busyQ s s.H)).take ((s.n (busyQ s s.H)).length - 1)))[j]? = some u → V.cell? (ad.add j) = some u from fun ad e j u hu => by
          injection e with e
          subst e
          rw [add_at, Nat.zero_add]
          have hu2 : (i64l (s.n (busyQ s s.H)))[j]? = some u := by
            unfold i64l at hu ⊢
            rw [List.map_take, List.getElem?_take] at hu
            split at hu
            · exact hu
            · cases hu
          have h1 : ((wr.setCell ⟨hx, k * 2, none⟩ (.int .i64 (gb (s.n (busyQ s s.H)) ((s.n (busyQ s s.H)).length - 1)))).drew).cell? ⟨b, j, none⟩ = wr.cell? ⟨b, j, none⟩ := o1.cell (b := b) (o := j) (s := none) hb (by simpa using hbx)
          exact (hV.cell (Nat.lt_of_lt_of_le hb o1.size) (by simp)).trans (h1.trans (hcell j u hu2))))
        have HB0 := hide (show ([] : List Int).length + ((s.n (busyQ s s.H)).length - 1) < 4000000000000 by simp; omega)
        have HLT := hide (show ((s.n (busyQ s s.H)).take ((s.n (busyQ s s.H)).length - 1)).length = (s.n (busyQ s s.H)).length - 1 from by rw [List.length_take]; omega)
        have HCT1 := hide X1.cT
        have HP := hide (fun (v5 : Value) (w5 : World) (hc5 : Copied ((wr.setCell ⟨hx, k * 2, none⟩ (.int .i64 (gb (s.n (busyQ s s.H)) ((s.n (busyQ s s.H)).length - 1)))).drew) w5 v5 ((s.n (busyQ s s.H)).take ((s.n (busyQ s s.H)).length - 1))) =>
          (show w5.cell? ⟨gx, 0, none⟩ = some (.slice (some ⟨hx, 0, none⟩) s.H s.H) ∧ (w5.cell? ⟨hx, busyQ s s.H * 2 + 1, none⟩ = some (.slice (some ⟨b, 0, none⟩) (s.n (busyQ s s.H)).length c) ∧ w5.frozen? ⟨hx, busyQ s s.H * 2 + 1, none⟩ = false) ∧
            (w5.setCell ⟨hx, busyQ s s.H * 2 + 1, none⟩ v5).cell? ⟨gx, 0, none⟩ = some (.slice (some ⟨hx, 0, none⟩) s.H s.H) ∧ (w5.setCell ⟨hx, busyQ s s.H * 2 + 1, none⟩ v5).cell? ⟨hx, k * 2, none⟩ = some (.int .i64 (gb (s.n (busyQ s s.H)) ((s.n (busyQ s s.H)).length - 1))) ∧
            DidX w (w5.setCell ⟨hx, busyQ s s.H * 2 + 1, none⟩ v5) gx hx s.H xs (runS s k (busyQ s s.H) ((s.n (busyQ s s.H)).length - 1)) from by
            have X5 := X1.quiet hc5.only
            have hD := X1.putN (s' := runS s k (busyQ s s.H) ((s.n (busyQ s s.H)).length - 1)) hbH hc5 rfl rfl (by show upd s.n (busyQ s s.H) _ = _; rw [heras])
            obtain ⟨xs7, X7, _, T7⟩ := id hD
            have cr7 := X7.cR (h := k) hk
            rw [show (runS s k (busyQ s s.H) ((s.n (busyQ s s.H)).length - 1)).r k = gb (s.n (busyQ s s.H)) ((s.n (busyQ s s.H)).length - 1) from upd_same ..] at cr7
            exact ⟨X5.cT, ⟨by rw [X5.cN hbH, hv], X5.fr _⟩, X7.cT, cr7, DidX.of_run X1 rfl ho1 hD⟩))
        have HW1 : Hid (Only [hx] w ((wr.setCell ⟨hx, k * 2, none⟩ (.int .i64 (gb (s.n (busyQ s s.H)) ((s.n (busyQ s s.H)).length - 1)))).drew)) := hide ho1
        have HRR := hide hr
        have hn0 : ((((s.n (busyQ s s.H)).length : Nat) : Int) == 0) = false := by simp; omega
        have e1 : IntKind.i64.wrap ((((s.n (busyQ s s.H)).length : Nat) : Int) - 1) = (((s.n (busyQ s s.H)).length : Nat) : Int) - 1 := by rw [IntKind.wrap_i64]; omega
        have e2 : (0 : Int) ≤ (((s.n (busyQ s s.H)).length : Nat) : Int) - 1 := by omega
        have e3 : (((s.n (busyQ s s.H)).length : Nat) : Int) - 1 < (((s.n (busyQ s s.H)).length : Nat) : Int) := by omega
        have e4 : (((s.n (busyQ s s.H)).length : Nat) : Int) - 1 ≤ (c : Nat) := by omega
        have e5 : ((((s.n (busyQ s s.H)).length : Nat) : Int) - 1).toNat = (s.n (busyQ s s.H)).length - 1 := by omega
        have e6 : (1 : Int) ≤ (((s.n (busyQ s s.H)).length : Nat) : Int) := by omega
        have e7 : (((s.n (busyQ s s.H)).length : Nat) : Int) ≤ (c : Nat) + 1 := by omega
        have e8 : (s.n (busyQ s s.H)).length - 1 ≤ c := by omega
        have e9 : (((s.n (busyQ s s.H)).length : Nat) : Int) ≤ (c : Nat) := by omega
        have e10 : (s.n (busyQ s s.H)).length ≤ c + 1 := by omega
        clear hr HR1 HR2 hA hlc hcm hc he hcell Xr X0 o0 X1 o1 ho1 heras hf hv
        generalize (s.n (busyQ s s.H)).take ((s.n (busyQ s s.H)).length - 1) = tl at *
        generalize gb (s.n (busyQ s s.H)) ((s.n (busyQ s s.H)).length - 1) = x at *
        go_wp2_with fail
        go_region
        go_wp2_with fail
        have c17 := HCT1.out
        clear c0 cr cn0 ct cn cb crw frw
        generalize (wr.setCell ⟨hx, k * 2, none⟩ (.int .i64 x)).drew = W1 at *
        go_region_held3 (fun w' => w'.cell? ⟨gx, 0, none⟩ = some (.slice (some ⟨hx, 0, none⟩) s.H s.H)) (first | go_keep | exact kk | exact kk2) (first | (refine step_append_any rfl _ _ rfl (.slice (some ⟨W1.heap.size, 0, none⟩) 0 0) [] (by simp [Act.eval]) (irow_empty (Blk.new W1.drew 3 #[])) (some ⟨b, 0, none⟩) ((s.n (busyQ s s.H)).length - 1) c (by simp [Act.eval]) (by intro e; cases e) tl HLT.out (HNW.out _ ((Only.refl [] W1).drew.alloc _)) HB0.out ?_; intro v5 w5 h1 h2 h3; have hc5 := copied_of (w := W1) ((Only.refl [] W1).drew.alloc _) (Nat.le_refl _) h1 h2 h3; obtain ⟨kk, ⟨ka, kb⟩, kk2, ke, kf⟩ := HP.out v5 w5 hc5; have HD := hide kf; obtain ⟨A5, c5, rfl, -⟩ := hc5.row.form; clear h1 h2 h3 hc5 kf))
        all_goals
          go_wp2
          go_ret2
          rw [HRR.out]
          exact ⟨rfl, HD.out⟩
end
end Go.Proofs.Ytdinndpeoankdaa
