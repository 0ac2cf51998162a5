/-
  The document's cache of names (parapetref19): ForgetDir.
-/
import Derived.Test.YtjpojoflbjhjjaaNcXPut
namespace Go.Proofs.Ytjpojoflbjhjjaa
open Go.ChangeShapes Go.WideShapes Go.ChangeAt Go.RowKit Go.Maps
set_option linter.unusedVariables false
set_option linter.unusedSimpArgs false
section
variable {w w' w1 : World} {x : Nat} {p : CS} {F S : List Nat} {k : NM} {i : Nat} {e : KE}
def cntD (p : CS) (dir : Int) (j : Nat) : Nat := ((p.L.take j).filter (fun e => !(e.key.dir == dir))).length
theorem cntD_le (p : CS) (dir : Int) (j : Nat) : cntD p dir j ≤ j := Nat.le_trans (List.length_filter_le _ _) (by rw [List.length_take]; omega)
theorem upto_len (p : CS) (dir : Int) {j : Nat} (hj : j ≤ p.L.length) : (p.upto dir j).L.length = cntD p dir j + (p.L.length - j) := by
  show ((p.L.take j).filter (fun e => !(e.key.dir == dir)) ++ p.L.drop j).length = _
  rw [List.length_append, List.length_drop]
  rfl
theorem cntD_yes (hi : p.L[i]? = some e) {dir : Int} (h : (e.key.dir == dir) = true) : cntD p dir (i + 1) = cntD p dir i := by
  unfold cntD
  rw [(take_one_more hi).1, List.filter_append]
  simp [h]
theorem cntD_no (hi : p.L[i]? = some e) {dir : Int} (h : (e.key.dir == dir) = false) : cntD p dir (i + 1) = cntD p dir i + 1 := by
  unfold cntD
  rw [(take_one_more hi).1, List.filter_append]
  simp [h]
set_option maxRecDepth 100000 in
set_option maxHeartbeats 1000000 in
theorem xc_forgetDir (h : Xc w x p F) (ok : OkC p) (dir : Int) : Calls Try.prog 19 #[.pointer (some ⟨x, 0, none⟩), .int .i64 dir] w fun e w' => e = .returned (.int .i64 ((p.L.length : Int) - (p.forgetDir dir).L.length)) ∧ DidX w w' x (p.forgetDir dir) F := by
  have H := hide h
  have HOK := hide ok
  have hlen : p.L.length ≤ 4096 := by have := ok.len; have := ok.r1; omega
  have HFL := hide (show (p.forgetDir dir).L.length = cntD p dir p.L.length from by unfold CS.forgetDir; rw [upto_len p dir (Nat.le_refl _)]; omega)
  have HFD := hide (show p.upto dir p.L.length = p.forgetDir dir from rfl)
  clear h ok
  go_enter Try.func19, Try.ntmps19
  go_wp2_with fail
  generalize hN : p.L.length = N at *
  have HN := hide hN
  clear hN
  go_loopw [5, 6] (fun nv iv wr => ∃ j : Nat, j ≤ N ∧ iv = .int .i64 (cntD p dir j) ∧ nv = .int .i64 ((j : Int) - cntD p dir j) ∧ DidX w wr x (p.upto dir j) F) (fun nv iv _ => N - ((intOf nv).toNat + (intOf iv).toNat))
  case atStart => exact ⟨0, Nat.zero_le _, rfl, rfl, by rw [CS.upto_zero]; exact DidX.same H.out (Only.refl _ _)⟩
  case round =>
    obtain ⟨j, hj, rfl, rfl, hD⟩ := hrel
    have HD := hide hD
    obtain ⟨F', t1, hX⟩ := hD
    have HX := hide hX
    have HT := hide t1
    have hc := cntD_le p dir j
    have hok := HOK.out.upto dir j (by rw [HN.out]; exact hj)
    have HOK2 := hide hok
    have hul := upto_len p dir (j := j) (by rw [HN.out]; exact hj)
    rw [HN.out] at hul
    obtain ⟨v, u, g1, g2, g3⟩ := hX
    obtain ⟨A, cap, ev, hA⟩ := g1.rl.form
    subst ev
    have k1 := g1.c1
    generalize hm : (p.upto dir j).L.length = m at *
    by_cases hlt : j < N
    · have hcm : (cntD p dir j : Int) < m := by omega
      obtain ⟨e, he⟩ : ∃ e, p.L[j]? = some e := ⟨_, List.getElem?_eq_getElem (by rw [HN.out]; exact hlt)⟩
      have hat := CS.upto_at (dir := dir) he
      obtain ⟨b, rfl, hb⟩ := hA (by omega)
      have e0 := (g1.rl.cell rfl rfl hat).1
      have e0' : wr.cell? ⟨b, cntD p dir j * 4, none⟩ = some (.int .i64 e.key.dir) := e0
      have HE := hide he
      have HDR := hide (xc_drop HX.out HOK2.out hat)
      rw [show ((p.L.take j).filter (fun e => !(e.key.dir == dir))).length = cntD p dir j from rfl] at HDR
      clear g1 g2 g3 hA hat hok e0 t1 he
      have hgc : cntD p dir j = cntD p dir j := rfl
      cases hd : (e.key.dir == dir)
      · have h1 := cntD_no HE.out hd
        have h2 := CS.upto_no HE.out hd
        have H1 := hide h1
        have H2 := hide h2
        clear h1 h2
        generalize cntD p dir j = c at *
        go_wp2_with fail
        go_roundw
        case rel => exact ⟨j + 1, by omega, by rw [H1.out]; go_num, by rw [H1.out]; congr 1; omega, by rw [H2.out]; exact HD.out⟩
        case measure => simp [intOf]; omega
      · have h1 := cntD_yes HE.out hd
        have h2 := CS.upto_yes HE.out hd
        have H1 := hide h1
        have H2 := hide h2
        clear h1 h2
        rw [show ((p.L.take j).filter (fun e => !(e.key.dir == dir))).length = cntD p dir j from rfl] at H2
        generalize cntD p dir j = c at *
        go_wp2_with (go_at_call 36; refine HDR.out.mono ?_; rintro e w2 ⟨rfl, hd⟩; have HX2 := hide hd; clear hd)
        go_roundw
        case rel =>
          obtain ⟨F2, t2, hX2⟩ := HX2.out
          exact ⟨j + 1, by omega, by rw [H1.out], by rw [H1.out]; go_num, by rw [H2.out]; exact ⟨F2, HT.out.trans t2, hX2⟩⟩
        case measure => simp [intOf]; omega
    · obtain rfl : j = N := by omega
      have hcm : ¬ (cntD p dir j : Int) < m := by omega
      clear g1 g2 g3 hA hok t1
      have HCE := hide (show ((j : Int) - cntD p dir j) = (j : Int) - (p.forgetDir dir).L.length from by rw [HFL.out])
      have HDF := hide (show DidX w wr x (p.forgetDir dir) F from by rw [← HFD.out]; exact HD.out)
      go_wp2_with fail
      go_ret
      exact ⟨by rw [HN.out, ← HCE.out]; rfl, HDF.out⟩
end
end Go.Proofs.Ytjpojoflbjhjjaa
