/-
  The walk of 'WaitDoes'.
-/
import Derived.Test.YtokclkiidhcffaaWqDoes3
import Derived.Test.YtokclkiidhcffaaWqOnceP
namespace Go.Proofs.Ytokclkiidhcffaa
open Go.ChangeShapes Go.WideShapes Go.ChangeAt Go.RowKit Go.Maps
set_option linter.unusedVariables false
section
variable {w0 w w' W : World} {g r m m' : Nat} {s s' : LW} {R R' : List SE} {xs ys F F' S : List Nat}
theorem does12_is (h : Bm w0 w g r m s R xs F) (hR : RelW s R) (hm : m < 100000000000000000) {x : OP12} (hx : x.Ok w0) (hw : x.c * 24 ≤ reachBytes) :
    Calls Try.prog 12 #[.pointer (some ⟨g, 0, none⟩), .pointer (some ⟨r, 0, none⟩), .agg x.cells.toArray] w fun e w' => e = .returned (.bool true) ∧ DidB w0 w w' g r (m + 1) xs := by
  by_cases h0 : x.kind = 0
  · exact does_sleep h hR hm hx hw h0
  by_cases h1 : x.kind = 1
  · exact does_wake h hR hm hx.f h1
  by_cases h2 : x.kind = 2
  · exact does_cancel h hR hm hx.tid h2
  by_cases h3 : x.kind = 3
  · exact does_move h hR hm hx.f hx.g h3
  refine (does_look h hR hm hx.tid hx.f h0 h1 h2 h3).mono ?_
  rintro e w' ⟨rfl, ho⟩
  exact ⟨rfl, s, R, F, (h.quiet ho).more (Nat.le_succ m), hR, fun k hk => ho.block k (h.lt hk) (by simp)⟩
/-- What a seat shows is sound. -/
theorem Bm.seat (h : Bm w0 w g r m s R xs F) (hR : RelW s R) {x : SE} (hx : x ∈ R) : iW x.tid ∧ x.on.wf := by
  obtain ⟨n, _, hn⟩ := (hR.at_ x).1 hx
  have hc : x.on ∈ atL s.1 x.tid := List.mem_of_getElem? hn
  refine ⟨h.q.keyI _ (mem_atL (fun e => by rw [e] at hc; cases hc)), ?_⟩
  have ht := (hR.ok.both x.tid x.on).1 hc
  obtain ⟨G, hq⟩ := h.q
  obtain ⟨m1, m2, R1, R2, hw, e1, e2, _⟩ := hq.q
  have hk : x.on ∈ s.2.map (·.1) := mem_atL (fun e => by rw [e] at ht; cases ht)
  rw [← e2, viewE_keys] at hk
  obtain ⟨e, he, hee⟩ := List.mem_map.1 hk
  rw [← hee]
  exact hw.sl.wf he
def OpCellsD (W : World) (q o : Nat) (x : OP12) : Prop := W.cell? ⟨q, o, none⟩ = some (.int .i64 x.kind) ∧ W.cell? ⟨q, o + 1, none⟩ = some (.int .i64 x.tid) ∧ W.cell? ⟨q, o + 2, none⟩ = some (.slice x.A x.l.length x.c) ∧
    W.cell? ⟨q, o + 3, none⟩ = some (.int .i64 x.f.kind) ∧ W.cell? ⟨q, o + 4, none⟩ = some (.int .i64 x.f.a) ∧ W.cell? ⟨q, o + 5, none⟩ = some (.int .i64 x.f.b) ∧
    W.cell? ⟨q, o + 6, none⟩ = some (.int .i64 x.g.kind) ∧ W.cell? ⟨q, o + 7, none⟩ = some (.int .i64 x.g.a) ∧ W.cell? ⟨q, o + 8, none⟩ = some (.int .i64 x.g.b) ∧ W.cell? ⟨q, o + 9, none⟩ = some (.int .i64 x.n)
theorem opAt_cellsD {w W : World} {q o i : Nat} {x : OP12} (hq : q < w.heap.size) (h : ∀ k u, x.cells[k]? = some u → w.cell? ⟨q, o + (i * 10 + k), none⟩ = some u) (ho : Only [] w W) : OpCellsD W q (o + i * 10) x := by
  have h' : ∀ k u, x.cells[k]? = some u → W.cell? ⟨q, o + i * 10 + k, none⟩ = some u := fun k u hu => by
    rw [Nat.add_assoc]
    exact (ho.cell hq (by simp)).trans (h k u hu)
  exact ⟨h' 0 _ rfl, h' 1 _ rfl, h' 2 _ rfl, h' 3 _ rfl, h' 4 _ rfl, h' 5 _ rfl, h' 6 _ rfl, h' 7 _ rfl, h' 8 _ rfl, h' 9 _ rfl⟩
/-- One round. -/
structure RoundD (w0 W : World) (i : Nat) (qv : Value) (r : Nat) : Prop where
  ex : ∃ g s R F, qv = .pointer (some ⟨g, 0, none⟩) ∧ Bm w0 W g r i s R [] F ∧ RelW s R
set_option maxHeartbeats 2000000 in
set_option maxRecDepth 100000 in
theorem waitDoes_is (A : Option Addr) (n cp : Nat) (w : World) (hA : ∀ i, i < n → ∃ (q o : Nat) (x : OP12), A = some ⟨q, o, none⟩ ∧ q < w.heap.size ∧ x.Ok w ∧ x.c * 24 ≤ reachBytes ∧ ∀ k u, x.cells[k]? = some u → w.cell? ⟨q, o + (i * 10 + k), none⟩ = some u) (hn : n < 2000000000000) :
    Calls Try.prog 3 #[.slice A n cp] w fun e w' => e = .returned (.bool true) ∧ Below w.heap.size w w' := by
  have HA := hide hA
  have HN := hide hn
  clear hA hn
  go_enter Try.func3, Try.ntmps3
  go_wp2_with (first | (go_at_call 7; refine (lq_wnew _).mono ?_; rintro e w1 ⟨g, rfl, h1⟩; have H1 := hide h1; clear h1) | (go_at_call 8; refine (awake12 _).mono ?_; rintro e w2 ⟨rfl, ho⟩; have H2 := hide (H1.out.quiet ho); clear ho))
  go_loopw [3, 21] (fun qv iv wr => ∃ i : Nat, i ≤ n ∧ iv = .int .i64 i ∧ RoundD w wr i qv w2.heap.size) (fun _ iv _ => n - (intOf iv).toNat)
  case atStart =>
    refine ⟨0, Nat.zero_le _, rfl, g, ([], []), [], [w2.heap.size], rfl, ⟨?_, ?_, by simp⟩, RelW.empty⟩
    · exact H2.out.add _
    · exact ⟨.slice none 0 0, Blk.new _ _ _, ERw.nil _, rfl⟩
  case round =>
    rename_i qv iv
    obtain ⟨i, hi, rfl, g2, s, R, F, rfl, hb, hR⟩ := hrel
    by_cases hlt : i < n
    · have hltI : (i : Int) < n := by omega
      obtain ⟨q, o, x, rfl, hq, hx, hw24, hcell⟩ := HA.out i hlt
      obtain ⟨e0, e1, e2, e3, e4, e5, e6, e7, e8, e9⟩ := opAt_cellsD hq hcell hb.base
      have hB1 := hb.add (.cells x.cells.toArray 34)
      have HBX := hide (Blk.new wr 34 x.cells.toArray)
      have HM := hide (show i < 100000000000000000 by have := HN.out; omega)
      have HB1 := hide hB1
      have HR := hide hR
      have HDO := hide (fun (W : World) (g3 : Nat) (s3 : LW) (F3 : List Nat) (hb : Bm w W g3 w2.heap.size i s3 R [wr.heap.size] F3) (hR : RelW s3 R) => does12_is hb hR HM.out hx hw24)
      have HXF := hide hx.f
      have HXT := hide hx.tid
      have HOP := hide (fun (W : World) (hW : ∀ k ∈ [wr.heap.size], W.heap[k]? = (wr.alloc (.cells x.cells.toArray 34)).heap[k]?) => opD_cells (x := x) ((hW wr.heap.size (by simp)).trans HBX.out))
      clear hcell hq hx hw24 hb hB1 hR
      unfold OP12.cells at *
      by_cases h5 : x.kind = 5
      · have k5 : (x.kind == 5) = true := by simp [h5]
        clear h5
        go_wp2_with (first | (go_at_call 9; refine (fk_fork HB1.out HM.out HR.out).mono ?_; rintro e wf ⟨f, sN, KK, G, rfl, hf, hrN, hmN, hs⟩; have HF1 := hide hf; have HRN := hide hrN; have HMN := hide hmN; have HS1 := hide hs; obtain ⟨a0, a1, a2, a3, a4, a5, a6, a7, a8, a9⟩ := HOP.out wf hs; clear hf hrN hmN hs) | (go_at_call 10; refine (fk_wake HF1.out HM.out HXF.out 9).mono ?_; rintro e wk ⟨v, rfl, G2, hf, hs⟩; have HF2 := hide hf; have HS2 := hide (fun k hk => (hs k hk).trans (HS1.out k hk)); obtain ⟨b0, b1, b2, b3, b4, b5, b6, b7, b8, b9⟩ := HOP.out wk HS2.out; clear hf hs) | (go_at_call 11; refine (fk_cancel HF2.out HM.out HXT.out).mono ?_; rintro e wc ⟨b, rfl, sy, G3, hf, hs⟩; have HF3 := hide (hf.take HRN.out HMN.out); have HS3 := hide (fun k hk => (hs k hk).trans (HS2.out k hk)); obtain ⟨c0, c1, c2, c3, c4, c5, c6, c7, c8, c9⟩ := HOP.out wc HS3.out; clear hf hs) | (go_at_call 12; refine (HDO.out _ _ _ _ HF3.out HRN.out).mono ?_; rintro e wd ⟨rfl, hd⟩; have HDD := hide hd; clear hd))
        rw [show wrap64 ((i : Int) + 1) = ((i + 1 : Nat) : Int) by have := HN.out; rw [wrap64]; omega]
        refine ⟨⟨i + 1, hlt, rfl, f, sN, R, F, rfl, (HF3.out.more (Nat.le_succ i)).less (by simp), HRN.out⟩, ?_⟩
        simp [intOf]
        omega
      · have k5 : (x.kind == 5) = false := by simp [h5]
        clear h5
        go_wp2_with (go_at_call 12; refine (HDO.out _ _ _ _ HB1.out HR.out).mono ?_; rintro e wd ⟨rfl, s9, R9, F9, d1, d2, d3⟩; have HD1 := hide d1; have HD2 := hide d2; clear d1 d2 d3)
        rw [show wrap64 ((i : Int) + 1) = ((i + 1 : Nat) : Int) by have := HN.out; rw [wrap64]; omega]
        refine ⟨⟨i + 1, hlt, rfl, g2, s9, R9, F9, rfl, HD1.out.less (by simp), HD2.out⟩, ?_⟩
        simp [intOf]
        omega
    · obtain rfl : i = n := by omega
      obtain ⟨Av, cv, hav, hAv⟩ := hb.x.cell
      obtain ⟨c0, _, _⟩ := hav wr (Only.refl _ _)
      have HAV := hide hav
      have HAV2 := hide hAv
      have HM := hide (show i < 100000000000000000 by have := HN.out; omega)
      have HFEW := hide (seats_few hR)
      have HLK := hide (fun (W : World) (hW : Only [] wr W) (x : OP12) (ht : iW x.tid) (hf : x.f.wf) (h4 : x.kind = 4) => does_look (hb.quiet hW) hR HM.out ht hf (by rw [h4]; decide) (by rw [h4]; decide) (by rw [h4]; decide) (by rw [h4]; decide))
      have HST := hide (fun (W : World) (hW : Only [] wr W) (x : SE) (hx : x ∈ R) => (show Calls Try.prog 12 #[.pointer (some ⟨g2, 0, none⟩), .pointer (some ⟨w2.heap.size, 0, none⟩), .agg #[.int .i64 4, .int .i64 x.tid, .slice none 0 0, .int .i64 x.on.kind, .int .i64 x.on.a, .int .i64 x.on.b, .int .i64 0, .int .i64 0, .int .i64 0, .int .i64 0]] W fun e w' => e = .returned (.bool true) ∧ Only [] W w' from HLK.out W hW ⟨4, x.tid, none, 0, [], x.on, ⟨0, 0, 0⟩, 0⟩ (hb.seat hR hx).1 (hb.seat hR hx).2 rfl))
      have HEND := hide (fun (W : World) (hW : Only [] wr W) => (show Calls Try.prog 12 #[.pointer (some ⟨g2, 0, none⟩), .pointer (some ⟨w2.heap.size, 0, none⟩), .agg #[.int .i64 4, .int .i64 0, .slice none 0 0, .int .i64 0, .int .i64 0, .int .i64 0, .int .i64 0, .int .i64 0, .int .i64 0, .int .i64 0]] W fun e w' => e = .returned (.bool true) ∧ Only [] W w' from HLK.out W hW ⟨4, 0, none, 0, [], ⟨0, 0, 0⟩, ⟨0, 0, 0⟩, 0⟩ (by decide) ⟨by decide, by decide, by decide⟩ rfl))
      have HBA := hide hb.base
      clear hav hAv hb hR
      go_wp2
      go_loopw [52] (fun jv wr2 => ∃ j : Nat, j ≤ R.length ∧ jv = .int .i64 j ∧ Only [] wr wr2) (fun jv _ => R.length - (intOf jv).toNat)
      case atStart => exact ⟨0, Nat.zero_le _, rfl, Only.refl _ _⟩
      case round =>
        obtain ⟨j, hj, rfl, hw⟩ := hrel
        by_cases hlt2 : j < R.length
        · have hltJ : (j : Int) < R.length := by omega
          obtain ⟨b, rfl, _⟩ := HAV2.out (by omega)
          obtain ⟨e0, e1, e2, e3, e4⟩ := (HAV.out wr hw).2.2.cell rfl rfl (show R[j]? = some R[j] by simp [hlt2])
          have HCALL := hide (HST.out (wr.alloc (.cells (R[j]).cells.toArray 40)) (hw.alloc _) R[j] (List.getElem_mem hlt2))
          have HW := hide (hw.alloc (.cells (R[j]).cells.toArray 40))
          have HJ := hide (show j < 2000 from by have := HFEW.out; omega)
          generalize R[j] = x at *
          unfold SE.cells at *
          clear hw
          go_wp2_with (go_at_call 12; refine HCALL.out.mono ?_; rintro e w8 ⟨rfl, ho⟩; have HO := hide ho; clear ho)
          rw [show wrap64 ((j : Int) + 1) = ((j + 1 : Nat) : Int) by have := HJ.out; rw [wrap64]; omega]
          refine ⟨⟨j + 1, hlt2, rfl, HW.out.trans HO.out⟩, ?_⟩
          simp [intOf]
          omega
        · have HCALL := hide (HEND.out wr hw)
          have HW := hide hw
          clear hw
          go_wp2_with (go_at_call 12; refine HCALL.out.mono ?_; rintro e w8 ⟨rfl, ho⟩; have HO := hide ho; clear ho)
          go_ret
          exact ⟨rfl, ((HBA.out.trans HW.out).trans HO.out).below (Nat.le_refl _) (by simp)⟩
theorem waitDoes_walk {H : Type} {enc : TypeId × Value → H} {d : DataW H} {w : World} {A : Option Addr} {n cp : Nat} (h : Rd enc Try.prog w 22 [.slice A n cp] d) :
    Calls Try.prog 3 #[.slice A n cp] w fun e w' => e = .returned (.bool true) ∧ Below w.heap.size w w' := by
  obtain ⟨hn, hA⟩ := Rd.ops12 h
  refine waitDoes_is A n cp w (fun i hi => ?_) hn
  obtain ⟨q, o, x, e, hq, hx, hc⟩ := hA i hi
  exact ⟨q, o, x, e, hq, hx, (Rd.on12 h hi e (hc 2 _ rfl)).2, hc⟩
end
end Go.Proofs.Ytokclkiidhcffaa
