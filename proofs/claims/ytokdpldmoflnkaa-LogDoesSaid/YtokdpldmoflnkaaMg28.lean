/-
  LogDoes: does, of the kind Read.
-/
import Derived.Test.YtokdpldmoflnkaaMg27
namespace Go.Proofs.Ytokdpldmoflnkaa
open Go.ChangeShapes Go.WideShapes Go.ChangeAt Go.RowKit Go.Maps
set_option linter.unusedVariables false
set_option linter.unusedSimpArgs false
section
variable {w0 w w' w1 w2 : World} {gw gd g gr gx N a sz K K' : Nat} {S S' : Option PG} {p p' : LP} {F G F' G' T : List Nat}
/-- Blocks that are neither log's turn. -/
theorem Bl.far (h : Bl w0 w gw gd g gr gx N a sz S p K F G) (ho : Only T w w') (hT : ∀ q ∈ T, q ∉ F ∧ q ∉ G ∧ q ≠ gw ∧ w0.heap.size ≤ q) : Bl w0 w' gw gd g gr gx N a sz S p K F G :=
  ⟨h.lg.only ho (fun q hq hm => (hT q hm).1 hq), h.xl.only ho (fun q hq hm => (hT q hm).2.1 hq), h.wd.only ho (fun hm => (hT gw hm).2.2.1 rfl), h.newF, h.newG, h.neww, h.apart, h.gwF, h.only.trans' ho (fun q hq hm => by have := (hT q hm).2.2.2; omega), h.run, h.sav, h.hdr⟩
theorem Bl.more (h : Bl w0 w gw gd g gr gx N a sz S p K F G) (hk : K ≤ K') : Bl w0 w gw gd g gr gx N a sz S p K' F G := by
  obtain ⟨nx, ⟨vG, ws, vS, ss, op, GD, h1, h2⟩, h3⟩ := h.xl
  exact ⟨Lg.more h.lg hk, ⟨nx, ⟨vG, ws, vS, ss, op, GD, h1.more hk, h2⟩, h3⟩, h.wd, h.newF, h.newG, h.neww, h.apart, h.gwF, h.only, h.run, h.sav, h.hdr⟩
theorem DidBl.more (h : DidBl w0 w gw gd N a sz S p K) (hk : K ≤ K') : DidBl w0 w gw gd N a sz S p K' := by
  obtain ⟨g, gr, gx, F, G, h1⟩ := h
  exact ⟨g, gr, gx, F, G, h1.more hk⟩
/-- What both answered. -/
def RdP (w0 w2 : World) (gw gd N a sz : Nat) (S : Option PG) (p : LP) (K : Nat) (xs : List Int) (d d' : Nat) : Prop := ∃ g gr gx F G r r', Bl w0 w2 gw gd g gr gx N a sz S p K F G ∧ Blk w2 d 5 (u8l xs ++ r).toArray ∧ Blk w2 d' 5 (u8l xs ++ r').toArray ∧ d ∉ F ∧ d ∉ G ∧ d ≠ gw ∧ w0.heap.size ≤ d
def LCells (w : World) (gw g gx q : Nat) (n b m : Int) : Prop := w.cell? ⟨gw, 1, none⟩ = some (.pointer (some ⟨g, 0, none⟩)) ∧ w.cell? ⟨gw, 3, none⟩ = some (.pointer (some ⟨gx, 0, none⟩)) ∧ w.cell? ⟨q, 1, none⟩ = some (.int .i64 n) ∧ w.cell? ⟨q, 2, none⟩ = some (.int .u8 b) ∧ w.cell? ⟨q, 3, none⟩ = some (.int .i64 m)
theorem Bl.reads (h : Bl w0 w gw gd g gr gx N a sz S p K F G) (n : Nat) (hn : blkB N a sz n = true) (hk : K < 4611686018427000000) {q : Nat} {kd b m : Int} (hq : Blk w q 27 #[.int .i64 kd, .int .i64 n, .int .u8 b, .int .i64 m]) (hqn : q ∉ F ∧ q ∉ G) :
    Calls Try.prog 15 #[.pointer (some ⟨g, 0, none⟩), .int .i64 n] w fun e w1 => ∃ d c, e = .returned (.tuple #[.slice (some ⟨d, 0, none⟩) 512 c, .int .i64 0]) ∧ LCells w1 gw g gx q n b m ∧ ∀ W2, Only [] w1 W2 → Calls Try.prog 16 #[.pointer (some ⟨gx, 0, none⟩), .int .i64 n] W2 fun e w2 => ∃ d' c', e = .returned (.tuple #[.slice (some ⟨d', 0, none⟩) 512 c', .int .i64 0]) ∧ LCells w2 gw g gx q n b m ∧ RdP w0 w2 gw gd N a sz S p (K + 1) (readG p.G p.plat p.l n) d d' := by
  have hnN : n < N := by have := blkB_yes.1 hn; omega
  have hro := read_ok h.lg n hnN
  refine (lg_read h.lg n hn (by omega)).mono ?_
  rintro e w1 ⟨vd, rfl, ⟨d, c, r, rfl, hd, hb, hc⟩, t1, l1⟩
  have hw1 := h.wd.only t1.1 h.gwF.1
  have hq1 := hq.only t1.1 hqn.1
  rw [hro.1]
  refine ⟨d, c, rfl, ⟨hw1.cell 1, hw1.cell 3, (hq1.cell 1).trans rfl, (hq1.cell 2).trans rfl, (hq1.cell 3).trans rfl⟩, fun W2 ho2 => ?_⟩
  have t2 := turned_quiet t1 ho2
  have hwl := h.wd.lt
  have hdF : d ∉ F := fun hm => by have := h.lg.lt d hm; omega
  have hdG : d ∉ G := fun hm => by have := h.xl.lt d hm; omega
  refine (xlp_read (h.xl1 t2) n hn h.lg.okp.2.1 (by omega)).mono ?_
  rintro e w2 ⟨vd', rfl, ⟨d', c', r', rfl, hd', hb', hc'⟩, t3, x3⟩
  rw [hro.1]
  have hB := h.both t2 (show LgP W2 g gd N a sz S p (K + 1) F from l1.quiet ho2) t3 x3 h.run h.sav h.hdr
  have hw2 := (hw1.only ho2 (by simp)).only t3.1 h.gwF.2
  have hq2 := (hq1.only ho2 (by simp)).only t3.1 hqn.2
  exact ⟨d', c', rfl, ⟨hw2.cell 1, hw2.cell 3, (hq2.cell 1).trans rfl, (hq2.cell 2).trans rfl, (hq2.cell 3).trans rfl⟩, g, gr, gx, F, G, r, r', hB, (hb.only ho2 (by simp)).only t3.1 hdG, hb', hdF, hdG, by omega, Nat.le_trans h.only.size hd⟩
theorem Bl.reads_bad (h : Bl w0 w gw gd g gr gx N a sz S p K F G) (n : Int) (hn : blkB N a sz n = false) {q : Nat} {kd b m : Int} (hq : Blk w q 27 #[.int .i64 kd, .int .i64 n, .int .u8 b, .int .i64 m]) :
    Calls Try.prog 15 #[.pointer (some ⟨g, 0, none⟩), .int .i64 n] w fun e w1 => e = .returned (.tuple #[.slice none 0 0, .int .i64 1]) ∧ LCells w1 gw g gx q n b m ∧ ∀ W2, Only [] w1 W2 → Calls Try.prog 16 #[.pointer (some ⟨gx, 0, none⟩), .int .i64 n] W2 fun e w2 => e = .returned (.tuple #[.slice none 0 0, .int .i64 1]) ∧ LCells w2 gw g gx q n b m ∧ DidBl w0 w2 gw gd N a sz S p K := by
  refine (lg_read_bad h.lg n hn).mono ?_
  rintro e w1 ⟨rfl, ho1⟩
  have hw1 := h.wd.only ho1 (by simp)
  have hq1 := hq.only ho1 (by simp)
  refine ⟨rfl, ⟨hw1.cell 1, hw1.cell 3, (hq1.cell 1).trans rfl, (hq1.cell 2).trans rfl, (hq1.cell 3).trans rfl⟩, fun W2 ho2 => ?_⟩
  refine (xlp_read_bad (h.xl.quiet (ho1.trans ho2)) n hn).mono ?_
  rintro e w2 ⟨rfl, ho3⟩
  have hw2 := (hw1.only ho2 (by simp)).only ho3 (by simp)
  have hq2 := (hq1.only ho2 (by simp)).only ho3 (by simp)
  exact ⟨rfl, ⟨hw2.cell 1, hw2.cell 3, (hq2.cell 1).trans rfl, (hq2.cell 2).trans rfl, (hq2.cell 3).trans rfl⟩, g, gr, gx, F, G, h.quiet ((ho1.trans ho2).trans ho3)⟩
set_option maxRecDepth 100000 in
set_option maxHeartbeats 1500000 in
theorem does_read (h : Bl w0 w gw gd g gr gx N a sz S p K F G) (hk : K < 4611686018427000000) (n b m : Int) : Calls Try.prog 5 #[.pointer (some ⟨gw, 0, none⟩), op16V 1 n b m] w fun e w' => e = .returned (.bool true) ∧ DidBl w0 w' gw gd N a sz S p (K + 1) := by
  have HC := hide (fun W (ho : Only [] w W) q (hb : Blk W q 27 #[.int .i64 1, .int .i64 n, .int .u8 b, .int .i64 m]) => (show LCells W gw g gx q n b m from
    ⟨(h.quiet ho).cells.1, (h.quiet ho).cells.2, (hb.cell 1).trans rfl, (hb.cell 2).trans rfl, (hb.cell 3).trans rfl⟩))
  have HW := hide (show (∀ q ∈ F, q < w.heap.size) ∧ ∀ q ∈ G, q < w.heap.size from ⟨h.lg.lt, h.xl.lt⟩)
  have hoa : Only [] w (w.alloc (.cells #[.int .i64 1, .int .i64 n, .int .u8 b, .int .i64 m] 27)) := (Only.refl _ _).alloc _
  have HBX := hide (Blk.new w 27 #[.int .i64 1, .int .i64 n, .int .u8 b, .int .i64 m])
  have HQ := hide (show w.heap.size ∉ F ∧ w.heap.size ∉ G from ⟨fun hm => Nat.lt_irrefl _ (HW.out.1 _ hm), fun hm => Nat.lt_irrefl _ (HW.out.2 _ hm)⟩)
  have hcc0 := HC.out _ hoa _ HBX.out
  have H := hide h
  unfold op16V
  by_cases hn : blkB N a sz n = true
  · obtain ⟨n', rfl⟩ := Int.eq_ofNat_of_zero_le (blkB_yes.1 hn).1
    have hro := hide (read_ok h.lg n' (by have := blkB_yes.1 hn; omega))
    have HB := hide (fun W (ho : Only [] w W) (hb : Blk W w.heap.size 27 #[.int .i64 1, .int .i64 n', .int .u8 b, .int .i64 m]) => (h.quiet ho).reads n' hn hk hb HQ.out)
    clear h hn
    go_enter Try.func5, Try.ntmps5
    go_wp2_with fail
    generalize w.alloc (.cells #[.int .i64 1, .int .i64 n', .int .u8 b, .int .i64 m] 27) = W1 at *
    generalize w.heap.size = q at *
    unfold LCells at hcc0
    go_region_held3 (fun w' => w'.cell? ⟨gw, 1, none⟩ = some (.pointer (some ⟨g, 0, none⟩)) ∧ w'.cell? ⟨gw, 3, none⟩ = some (.pointer (some ⟨gx, 0, none⟩)) ∧ w'.cell? ⟨q, 1, none⟩ = some (.int .i64 n') ∧ w'.cell? ⟨q, 2, none⟩ = some (.int .u8 b) ∧ w'.cell? ⟨q, 3, none⟩ = some (.int .i64 m)) (first | go_keep | assumption) (
      (go_at_call 15; refine (HB.out _ (Only.trans hoa (by repeat (first | exact Only.refl _ _ | apply Only.drew | apply Only.drewN))) (HBX.out.only (show Only [] W1 _ from by repeat (first | exact Only.refl _ _ | apply Only.drew | apply Only.drewN)) (by simp))).mono ?_; rintro e w2 ⟨d, c, rfl, hcc, hn2⟩; unfold LCells at hcc; have HN2 := hide hn2; clear hn2))
    clear hcc0
    go_wp2_with fail
    go_region_held3 (fun w' => w'.cell? ⟨gw, 1, none⟩ = some (.pointer (some ⟨g, 0, none⟩)) ∧ w'.cell? ⟨gw, 3, none⟩ = some (.pointer (some ⟨gx, 0, none⟩)) ∧ w'.cell? ⟨q, 1, none⟩ = some (.int .i64 n') ∧ w'.cell? ⟨q, 2, none⟩ = some (.int .u8 b) ∧ w'.cell? ⟨q, 3, none⟩ = some (.int .i64 m)) (first | go_keep | assumption) (
      (go_at_call 16; refine (HN2.out _ (by repeat (first | exact Only.refl _ _ | apply Only.drew | apply Only.drewN))).mono ?_; rintro e w3 ⟨d', c', rfl, hcc3, hrp⟩; unfold LCells at hcc3; have HRP := hide hrp; clear hrp))
    obtain ⟨g1, gr1, gx1, F1, G1, r, r', hbl, hbk, hbk', hf⟩ := HRP.out
    have HBL := hide hbl
    have HBK := hide hbk
    have HF := hide hf
    have hq1 : (convert 46 9 (.slice (some ⟨d, 0, none⟩) 512 c)).run Try.prog w3 = .ok (.string (strB (readG p.G p.plat p.l n'))) w3 :=
      conv_bytes w3 _ _ _ _ ⟨hro.out.1, fun _ => ⟨d, 0, rfl, hbk.lt, fun i hi => by rw [Nat.zero_add, hbk.cell]; exact u8l_get _ _ i (by rw [hro.out.1]; omega)⟩⟩ (by simp) hro.out.2
    have hq2 : (convert 46 9 (.slice (some ⟨d', 0, none⟩) 512 c')).run Try.prog w3 = .ok (.string (strB (readG p.G p.plat p.l n'))) w3 :=
      conv_bytes w3 _ _ _ _ ⟨hro.out.1, fun _ => ⟨d', 0, rfl, hbk'.lt, fun i hi => by rw [Nat.zero_add, hbk'.cell]; exact u8l_get _ _ i (by rw [hro.out.1]; omega)⟩⟩ (by simp) hro.out.2
    clear hbl hbk hbk' hf
    generalize readG p.G p.plat p.l n' = xs at *
    go_wp2_with fail
    clear hq1 hq2 hcc3
    go_loopw [109] (fun i wr => ∃ j : Nat, j ≤ 512 ∧ i = .int .i64 j ∧ Only [d] w3 wr ∧ ∃ zs : List Int, zs.length = 512 ∧ Blk wr d 5 (u8l zs ++ r).toArray) (fun i _ => 512 - (intOf i).toNat)
    case atStart => exact ⟨0, Nat.zero_le _, rfl, Only.refl _ _, xs, hro.out.1, HBK.out⟩
    case round =>
      obtain ⟨j, hj, rfl, ho, zs, hzl, hbk⟩ := hrel
      have HO := hide ho
      have HBj := hide hbk
      have HZL := hide hzl
      by_cases hlt : j < 512
      · have hck : wr.cell? ⟨d, j, none⟩ = some (.int .u8 (gb zs j)) := by
          rw [hbk.cell]
          exact u8l_get _ _ j (by omega)
        have hfk := hbk.frozen j
        have hk2 : (j : Int) < 512 := by omega
        clear hbk ho hzl
        generalize gb zs j = y at hck
        go_wp2
        go_roundw
        case rel =>
          refine ⟨j + 1, by omega, by go_num, HO.out.setCell (p := ⟨d, j, none⟩) _ (by simp), zs.set j ((y + 1) % 256), by rw [List.length_set]; exact HZL.out, ?_⟩
          have h2 := HBj.out.set_ j (.int .u8 ((y + 1) % 256))
          rw [u8l_set _ _ _ _ (by rw [HZL.out]; omega)] at h2
          exact h2
        case measure => simp [intOf]; omega
      · have hj2 : j = 512 := by omega
        subst hj2
        clear hbk ho hzl
        go_wp2
        go_ret
        refine ⟨by first | rfl | simp, g1, gr1, gx1, F1, G1, HBL.out.far HO.out (fun q hq => ?_)⟩
        simp at hq
        subst hq
        exact HF.out
  · have hn : blkB N a sz n = false := by cases e : blkB N a sz n with | true => exact absurd e hn | false => rfl
    have HB := hide (fun W (ho : Only [] w W) (hb : Blk W w.heap.size 27 #[.int .i64 1, .int .i64 n, .int .u8 b, .int .i64 m]) => (h.quiet ho).reads_bad n hn hb)
    clear h hn
    go_enter Try.func5, Try.ntmps5
    go_wp2_with fail
    generalize w.alloc (.cells #[.int .i64 1, .int .i64 n, .int .u8 b, .int .i64 m] 27) = W1 at *
    generalize w.heap.size = q at *
    unfold LCells at hcc0
    go_region_held3 (fun w' => w'.cell? ⟨gw, 1, none⟩ = some (.pointer (some ⟨g, 0, none⟩)) ∧ w'.cell? ⟨gw, 3, none⟩ = some (.pointer (some ⟨gx, 0, none⟩)) ∧ w'.cell? ⟨q, 1, none⟩ = some (.int .i64 n) ∧ w'.cell? ⟨q, 2, none⟩ = some (.int .u8 b) ∧ w'.cell? ⟨q, 3, none⟩ = some (.int .i64 m)) (first | go_keep | assumption) (
      (go_at_call 15; refine (HB.out _ (Only.trans hoa (by repeat (first | exact Only.refl _ _ | apply Only.drew | apply Only.drewN))) (HBX.out.only (show Only [] W1 _ from by repeat (first | exact Only.refl _ _ | apply Only.drew | apply Only.drewN)) (by simp))).mono ?_; rintro e w2 ⟨rfl, hcc, hn2⟩; unfold LCells at hcc; have HN2 := hide hn2; clear hn2))
    clear hcc0
    go_wp2_with fail
    go_region_held3 (fun w' => w'.cell? ⟨gw, 1, none⟩ = some (.pointer (some ⟨g, 0, none⟩)) ∧ w'.cell? ⟨gw, 3, none⟩ = some (.pointer (some ⟨gx, 0, none⟩)) ∧ w'.cell? ⟨q, 1, none⟩ = some (.int .i64 n) ∧ w'.cell? ⟨q, 2, none⟩ = some (.int .u8 b) ∧ w'.cell? ⟨q, 3, none⟩ = some (.int .i64 m)) (first | go_keep | assumption) (
      (go_at_call 16; refine (HN2.out _ (by repeat (first | exact Only.refl _ _ | apply Only.drew | apply Only.drewN))).mono ?_; rintro e w3 ⟨rfl, hcc3, hrp⟩; unfold LCells at hcc3; have HRP := hide hrp; clear hrp))
    have hq0 : ∀ W : World, (convert 46 9 (.slice none 0 0)).run Try.prog W = .ok (.string (strB [])) W := fun W => conv_bytes W _ _ _ [] ⟨rfl, by omega⟩ (by simp) (by simp [U8])
    go_wp2_with fail
    clear hq0 hcc3
    go_loopw [109] (fun i wr => i = .int .i64 0 ∧ Only [] w3 wr) (fun i _ => 0)
    case atStart => exact ⟨rfl, Only.refl _ _⟩
    case round =>
      obtain ⟨rfl, ho⟩ := hrel
      have HO := hide ho
      clear ho
      go_wp2
      go_ret
      obtain ⟨g1, gr1, gx1, F1, G1, hbl⟩ := HRP.out
      exact ⟨by first | rfl | simp, g1, gr1, gx1, F1, G1, (hbl.quiet HO.out).more (Nat.le_succ K)⟩
end
end Go.Proofs.Ytokdpldmoflnkaa
/-
  LogDoes: does, of the kind Write.
-/
namespace Go.Proofs.Ytokdpldmoflnkaa
open Go.ChangeShapes Go.WideShapes Go.ChangeAt Go.RowKit Go.Maps
set_option linter.unusedVariables false
set_option linter.unusedSimpArgs false
section
variable {w0 w w' w1 w2 : World} {gw gd g gr gx N a sz K K' : Nat} {S S' : Option PG} {p p' : LP} {F G F' G' T : List Nat}
/-- What Write answers, what it leaves. -/
def wrE (N a sz : Nat) (p : LP) (n : Int) (m : Nat) : Int := if blkB N a sz n = false ∨ m ≠ 512 then 1 else if p.st ≠ 0 then 5 else if n ∉ p.G.map (·.1) ∧ p.G.length + 1 = sz then 2 else 0
def wrP (N a sz : Nat) (p : LP) (n : Int) (m : Nat) (zs : List Int) : LP := if m = 512 ∧ p.st = 0 then writeP N a sz p n zs else p
theorem wrP_st (N a sz : Nat) (p : LP) (n : Int) (m : Nat) (zs : List Int) : (wrP N a sz p n m zs).st = p.st ∧ (wrP N a sz p n m zs).nx = p.nx ∧ (wrP N a sz p n m zs).gen = p.gen ∧ (wrP N a sz p n m zs).plat = p.plat ∧ (wrP N a sz p n m zs).l = p.l := by
  unfold wrP
  split
  · exact writeP_st N a sz p n zs
  · exact ⟨rfl, rfl, rfl, rfl, rfl⟩
theorem lgp_write {k : Nat} (h : LgP w g gd N a sz S p k F) (n : Int) (d m c : Nat) (zs : List Int) (hz : zs.length = m) (hu : U8 zs) (hc : ∀ i, i < m → w.cell? ⟨d, 0 + i, none⟩ = some (.int .u8 (gb zs i))) (hdl : d < w.heap.size) :
    Calls Try.prog 13 #[.pointer (some ⟨g, 0, none⟩), .int .i64 n, .slice (some ⟨d, 0, none⟩) m c] w fun e w' => e = .returned (.int .i64 (wrE N a sz p n m)) ∧ DidP w w' g gd N a sz S (wrP N a sz p n m zs) k F := by
  unfold wrE wrP
  by_cases h1 : blkB N a sz n = false ∨ m ≠ 512
  · rw [if_pos h1]
    refine (lg_write_arg h n (some ⟨d, 0, none⟩) m c h1).mono fun e w' ⟨q1, q2⟩ => ⟨q1, ?_⟩
    have : (if m = 512 ∧ p.st = 0 then writeP N a sz p n zs else p) = p := by
      split
      · rename_i hc
        unfold writeP
        rw [if_neg (fun hq => ?_)]
        rcases h1 with e | e
        · rw [hq.1] at e; cases e
        · exact e hc.1
      · rfl
    rw [this]
    exact Lg.same h q2
  · rw [if_neg h1]
    have hb : blkB N a sz n = true := by cases e : blkB N a sz n with | true => rfl | false => exact absurd (.inl e) h1
    have hm : m = 512 := by by_cases e : m = 512; exact e; exact absurd (.inr e) h1
    subst hm
    by_cases h2 : p.st = 0
    · rw [show (if (512 : Nat) = 512 ∧ p.st = 0 then writeP N a sz p n zs else p) = writeP N a sz p n zs from if_pos ⟨rfl, h2⟩, show (if p.st ≠ 0 then (5 : Int) else if n ∉ p.G.map (·.1) ∧ p.G.length + 1 = sz then 2 else 0) = (if n ∉ p.G.map (·.1) ∧ p.G.length + 1 = sz then 2 else 0) from if_neg (by simpa using h2)]
      by_cases h3 : n ∉ p.G.map (·.1) ∧ p.G.length + 1 = sz
      · rw [if_pos h3, show writeP N a sz p n zs = p from if_neg (fun hq => by rcases hq.2 with e | e; exact h3.1 e; omega)]
        exact (lg_write_full h n (some ⟨d, 0, none⟩) c hb (by omega) h3.1 h3.2).mono fun e w' ⟨q1, q2⟩ => ⟨q1, Lg.same h q2⟩
      · have hf : n ∈ p.G.map (·.1) ∨ p.G.length + 1 < sz := by
          by_cases e : n ∈ p.G.map (·.1)
          · exact .inl e
          · have := h.okp.1
            have : ¬ p.G.length + 1 = sz := fun e2 => h3 ⟨e, e2⟩
            exact .inr (by omega)
        rw [if_neg h3, show writeP N a sz p n zs = { p with G := putG p.G n zs } from if_pos ⟨hb, hf⟩]
        have h0 : ((p.st : Nat) : Int) = 0 := by omega
        exact (lg_write h n d 0 c zs hb h0 hf hz hu hc hdl).mono fun e w' ⟨q1, q2⟩ => ⟨q1, q2⟩
    · rw [show (if (512 : Nat) = 512 ∧ p.st = 0 then writeP N a sz p n zs else p) = p from if_neg (fun hq => h2 hq.2), if_pos h2]
      exact (lg_write_busy h n (some ⟨d, 0, none⟩) c hb (by omega)).mono fun e w' ⟨q1, q2⟩ => ⟨q1, Lg.same h q2⟩
theorem xlp_write2 {k : Nat} (h : XlP w gx gr N a sz S p k F) (n : Int) (A : Option Addr) (m c : Nat) (zs : List Int) (hnd : (p.G.map (·.1)).Nodup) (hl : p.G.length + 1 ≤ sz) (hs : Sees w A m zs) (hu : U8 zs) : Calls Try.prog 14 #[.pointer (some ⟨gx, 0, none⟩), .int .i64 n, .slice A m c] w fun e w' =>
    e = .returned (.int .i64 (wrE N a sz p n m)) ∧ DidXP w w' gx gr N a sz S (wrP N a sz p n m zs) k F := xlp_write h n A m c zs hnd hl hs hu
theorem LCells.far {q d : Nat} {n b m : Int} (h : LCells w gw g gx q n b m) (ho : Only [d] w w') (h1 : gw < w.heap.size) (h2 : q < w.heap.size) (h3 : gw ≠ d) (h4 : q ≠ d) : LCells w' gw g gx q n b m := by
  obtain ⟨c1, c2, c3, c4, c5⟩ := h
  exact ⟨(ho.cell h1 (by simpa using h3)).trans c1, (ho.cell h1 (by simpa using h3)).trans c2, (ho.cell h2 (by simpa using h4)).trans c3, (ho.cell h2 (by simpa using h4)).trans c4, (ho.cell h2 (by simpa using h4)).trans c5⟩
theorem LCells.thru {q : Nat} {T : List Nat} {n b m : Int} (h : LCells w gw g gx q n b m) (ho : Only T w w') (h1 : gw < w.heap.size) (h2 : q < w.heap.size) (h3 : gw ∉ T) (h4 : q ∉ T) : LCells w' gw g gx q n b m := by
  obtain ⟨c1, c2, c3, c4, c5⟩ := h
  exact ⟨(ho.cell h1 h3).trans c1, (ho.cell h1 h3).trans c2, (ho.cell h2 h4).trans c3, (ho.cell h2 h4).trans c4, (ho.cell h2 h4).trans c5⟩
/-- The program's log was written; the document's not yet. -/
structure HalfW (w wr : World) (gw gd g gr gx N a sz : Nat) (S : Option PG) (p p' : LP) (K : Nat) (F F1 G : List Nat) : Prop where
  turn : Turned w wr F F1
  lg : LgP wr g gd N a sz S p' K F1
theorem HalfW.far {d : Nat} (h : HalfW w w1 gw gd g gr gx N a sz S p p' K F F' G) (ho : Only [d] w1 w2) (hd : w.heap.size ≤ d) (hF : d ∉ F') : HalfW w w2 gw gd g gr gx N a sz S p p' K F F' G :=
  ⟨⟨h.turn.1.trans' ho (fun q hq hm => by simp at hm; omega), h.turn.2⟩, Lg.only h.lg ho (fun q hq hm => by simp at hm; subst hm; exact hF hq)⟩
theorem HalfW.quiet (h : HalfW w w1 gw gd g gr gx N a sz S p p' K F F' G) (ho : Only [] w1 w2) : HalfW w w2 gw gd g gr gx N a sz S p p' K F F' G :=
  ⟨turned_quiet h.turn ho, Lg.quiet h.lg ho⟩
set_option maxRecDepth 100000 in
set_option maxHeartbeats 1500000 in
theorem does_write (h : Bl w0 w gw gd g gr gx N a sz S p K F G) (n b m : Int) (hb : 0 ≤ b ∧ b ≤ 255) (mm : Nat) (hmm : (mm : Int) = 512 + m.tmod 3) : Calls Try.prog 5 #[.pointer (some ⟨gw, 0, none⟩), op16V 0 n b m] w fun e w' => e = .returned (.bool true) ∧ DidBl w0 w' gw gd N a sz S (wrP N a sz p n mm (fill3 mm b)) K := by
  have hm1 := Int.tmod_lt_of_pos m (show (0 : Int) < 3 by decide)
  have hm2 : -3 < m.tmod 3 := by
    have := Int.tmod_lt_of_pos (-m) (show (0 : Int) < 3 by decide)
    rw [Int.neg_tmod] at this
    omega
  have hmw : IntKind.i64.wrap (512 + m.tmod 3) = mm := by rw [IntKind.wrap_i64]; omega
  have hmle : mm ≤ 515 := by omega
  have HOK := hide h.lg.okp
  have HLT := hide (show (∀ q ∈ F, q < w.heap.size) ∧ (∀ q ∈ G, q < w.heap.size) ∧ gw < w.heap.size from ⟨h.lg.lt, h.xl.lt, h.wd.lt⟩)
  have HC := hide (fun W (ho : Only [] w W) q (hb : Blk W q 27 #[.int .i64 0, .int .i64 n, .int .u8 b, .int .i64 m]) => (show LCells W gw g gx q n b m from
    ⟨(h.quiet ho).cells.1, (h.quiet ho).cells.2, (hb.cell 1).trans rfl, (hb.cell 2).trans rfl, (hb.cell 3).trans rfl⟩))
  have hoa : Only [] w (w.alloc (.cells #[.int .i64 0, .int .i64 n, .int .u8 b, .int .i64 m] 27)) := (Only.refl _ _).alloc _
  have HBX := hide (Blk.new w 27 #[.int .i64 0, .int .i64 n, .int .u8 b, .int .i64 m])
  have hcc0 := HC.out _ hoa _ HBX.out
  have HFL := hide (fun W => filled3_ok mm b W (by omega) hb.1 hb.2)
  have HFZ := hide (show (fill3 mm b).length = mm ∧ U8 (fill3 mm b) from ⟨fill3_length _ _, u8_fill3 _ _⟩)
  have HWR := hide (fun W (ho : Only [] w W) (d : Nat) (hd : w.heap.size < d) (hbk : Blk W d 5 (u8l (fill3 mm b)).toArray) (hbx : Blk W w.heap.size 27 #[.int .i64 0, .int .i64 n, .int .u8 b, .int .i64 m]) => (show Calls Try.prog 13 #[.pointer (some ⟨g, 0, none⟩), .int .i64 n, .slice (some ⟨d, 0, none⟩) mm mm] W (fun e w1 => e = .returned (.int .i64 (wrE N a sz p n mm)) ∧ LCells w1 gw g gx w.heap.size n b m ∧ ∃ F1, HalfW w w1 gw gd g gr gx N a sz S p (wrP N a sz p n mm (fill3 mm b)) K F F1 G ∧ d ∉ F1 ∧ Blk w1 d 5 (u8l (fill3 mm b)).toArray) from by
    have hq := h.quiet ho
    have hcl : ∀ i, i < mm → W.cell? ⟨d, 0 + i, none⟩ = some (.int .u8 (gb (fill3 mm b) i)) := fun i hi => by
      rw [Nat.zero_add, hbk.cell]
      have := u8l_get (fill3 mm b) [] i (by rw [fill3_length]; exact hi)
      simpa using this
    refine (lgp_write hq.lg n d mm mm (fill3 mm b) (fill3_length _ _) (u8_fill3 _ _) hcl hbk.lt).mono ?_
    rintro e w1 ⟨rfl, F1, t1, l1⟩
    have hw1 := hq.wd.only t1.1 hq.gwF.1
    have hqF : w.heap.size ∉ F := fun hm => Nat.lt_irrefl _ (HLT.out.1 _ hm)
    have hdF : d ∉ F := fun hm => by have := HLT.out.1 d hm; omega
    have hbx1 := hbx.only t1.1 hqF
    refine ⟨rfl, ⟨hw1.cell 1, hw1.cell 3, (hbx1.cell 1).trans rfl, (hbx1.cell 2).trans rfl, (hbx1.cell 3).trans rfl⟩, F1, ⟨⟨(ho.mono (by simp)).trans t1.1, fun q hq => (t1.2 q hq).imp_right (fun e => Nat.le_trans ho.size e)⟩, l1⟩, fun hm => ?_, hbk.only t1.1 hdF⟩
    rcases t1.2 d hm with e | e
    · exact hdF e
    · have := hbk.lt; omega))
  have HX := hide (fun W F1 (hh : HalfW w W gw gd g gr gx N a sz S p (wrP N a sz p n mm (fill3 mm b)) K F F1 G) (d : Nat) (hbk : Blk W d 5 (u8l (fill3 mm b)).toArray) (hlc : LCells W gw g gx w.heap.size n b m) (hlq : gw < W.heap.size ∧ w.heap.size < W.heap.size) => (show Calls Try.prog 14 #[.pointer (some ⟨gx, 0, none⟩), .int .i64 n, .slice (some ⟨d, 0, none⟩) mm mm] W (fun e w1 => e = .returned (.int .i64 (wrE N a sz p n mm)) ∧ LCells w1 gw g gx w.heap.size n b m ∧ DidBl w0 w1 gw gd N a sz S (wrP N a sz p n mm (fill3 mm b)) K) from by
    have hs : Sees W (some ⟨d, 0, none⟩) mm (fill3 mm b) := ⟨fill3_length _ _, fun _ => ⟨d, 0, rfl, hbk.lt, fun i hi => by
      rw [Nat.zero_add, hbk.cell]
      have := u8l_get (fill3 mm b) [] i (by rw [fill3_length]; exact hi)
      simpa using this⟩⟩
    refine (xlp_write2 (h.xl1 hh.turn) n (some ⟨d, 0, none⟩) mm mm (fill3 mm b) h.lg.okp.2.1 h.lg.okp.1 hs (u8_fill3 _ _)).mono ?_
    rintro e w1 ⟨rfl, G1, t2, x2⟩
    obtain ⟨s1, s2, s3, s4, s5⟩ := wrP_st N a sz p n mm (fill3 mm b)
    refine ⟨rfl, hlc.thru t2.1 hlq.1 hlq.2 h.gwF.2 (fun hm => Nat.lt_irrefl _ (HLT.out.2.1 _ hm)), g, gr, gx, F1, G1, h.both hh.turn hh.lg t2 x2 ?_ (fun e => by rw [s1]; exact h.sav e) (by rw [s4, s5]; exact h.hdr)⟩
    rcases h.run with e | e
    · exact .inl ⟨by rw [s1]; exact e.1, by rw [s2]; exact e.2⟩
    · by_cases hc : mm = 512 ∧ p.st = 0
      · exact absurd hc.2 (by have := e.1; omega)
      · unfold wrP; rw [if_neg hc]; exact .inr e))
  have hmt : (512 : Int) + m.tmod 3 = mm := by omega
  have hmv : IntKind.i64.wrap (mm : Int) = mm := by rw [IntKind.wrap_i64]; omega
  clear h HOK
  generalize wrE N a sz p n mm = xe at *
  generalize wrP N a sz p n mm (fill3 mm b) = p' at *
  unfold op16V
  generalize hZ : fill3 mm b = zs at *
  have HZ := hide hZ
  clear hZ
  go_enter Try.func5, Try.ntmps5
  clear hmm
  go_wp2_with (go_at_call 12; refine (HFL.out _).mono ?_; rintro e w2 ⟨d, rfl, hd, hbk, ho2⟩; have HD := hide hd; have HBK := hide hbk; have HO2 := hide ho2; clear hbk ho2)
  have hcc2 := HC.out w2 (hoa.trans HO2.out) _ (HBX.out.only HO2.out (by simp))
  have HB2 := hide (HBX.out.only HO2.out (by simp))
  have HOW := hide (hoa.trans HO2.out)
  have HDL := hide (show w.heap.size < d from by have := HD.out; simp at this; omega)
  have HQL := hide (show gw < w2.heap.size ∧ w.heap.size < w2.heap.size from ⟨Nat.lt_of_lt_of_le HLT.out.2.2 (hoa.trans HO2.out).size, HB2.out.lt⟩)
  have HSZ := hide (show w.heap.size ≤ w.heap.size from Nat.le_refl _)
  have HGD := hide (show gw < w.heap.size from HLT.out.2.2)
  clear HC HBX HD HO2 hoa hcc0 hd
  generalize hQ : w.heap.size = q at *
  have HQE := hide hQ
  clear hQ
  unfold LCells at hcc2
  go_region_held3 (fun w' => w'.cell? ⟨gw, 1, none⟩ = some (.pointer (some ⟨g, 0, none⟩)) ∧ w'.cell? ⟨gw, 3, none⟩ = some (.pointer (some ⟨gx, 0, none⟩)) ∧ w'.cell? ⟨q, 1, none⟩ = some (.int .i64 n) ∧ w'.cell? ⟨q, 2, none⟩ = some (.int .u8 b) ∧ w'.cell? ⟨q, 3, none⟩ = some (.int .i64 m)) (first | go_keep | assumption) (
    (go_at_call 13; refine (HWR.out _ (HOW.out.trans (show Only [] w2 _ from by repeat (first | exact Only.refl _ _ | apply Only.drew | apply Only.drewN))) d HDL.out (HBK.out.only (show Only [] w2 _ from by repeat (first | exact Only.refl _ _ | apply Only.drew | apply Only.drewN)) (by simp)) (HB2.out.only (show Only [] w2 _ from by repeat (first | exact Only.refl _ _ | apply Only.drew | apply Only.drewN)) (by simp))).mono ?_; rintro e w3 ⟨rfl, hcc3, hh⟩; have HL3 := hide hcc3; unfold LCells at hcc3; have HH := hide hh; clear hh))
  obtain ⟨F1, hh, hdF, hbk3⟩ := HH.out
  have HHW := hide hh
  have HDF := hide hdF
  have HBK3 := hide (show Blk w3 d 5 (u8l zs ++ ([] : List Value)).toArray from by rw [List.append_nil]; exact hbk3)
  have HGW3 := hide (show gw < w3.heap.size ∧ q < w3.heap.size from by have := hh.turn.1.size; have := HGD.out; have := HQE.out; exact ⟨by omega, by have := hbk3.lt; have := HDL.out; omega⟩)
  clear hh hdF hbk3 HH hcc2 hcc3 HWR
  have hmmI : (mm : Int) ≤ 515 := by omega
  go_wp2_with fail
  go_loopw [49] (fun iv wr => ∃ j : Nat, j ≤ mm ∧ iv = .int .i64 j ∧ Only [d] w3 wr ∧ ∃ ys : List Int, ys.length = mm ∧ Blk wr d 5 (u8l ys ++ ([] : List Value)).toArray) (fun iv _ => mm - (intOf iv).toNat)
  case atStart => exact ⟨0, Nat.zero_le _, rfl, Only.refl _ _, zs, HFZ.out.1, HBK3.out⟩
  case round =>
    obtain ⟨j, hj, rfl, ho, ys, hyl, hbk⟩ := hrel
    have HO := hide ho
    have HBj := hide hbk
    have HYL := hide hyl
    by_cases hlt : j < mm
    · have hck : wr.cell? ⟨d, j, none⟩ = some (.int .u8 (gb ys j)) := by
        rw [hbk.cell]
        exact u8l_get _ _ j (by omega)
      have hfk := hbk.frozen j
      have hk2 : (j : Int) < mm := by omega
      clear hbk ho hyl
      generalize gb ys j = y at hck
      go_wp2
      go_roundw
      case rel =>
        refine ⟨j + 1, by omega, by go_num, HO.out.setCell (p := ⟨d, j, none⟩) _ (by simp), ys.set j ((y + 1) % 256), by rw [List.length_set]; exact HYL.out, ?_⟩
        have h2 := HBj.out.set_ j (.int .u8 ((y + 1) % 256))
        rw [u8l_set _ _ _ _ (by rw [HYL.out]; omega)] at h2
        exact h2
      case measure => simp [intOf]; omega
    · have hj2 : j = mm := by omega
      subst hj2
      clear hbk ho hyl
      have hcc4 := HL3.out.far HO.out HGW3.out.1 HGW3.out.2 (by have := HDL.out; have := HGD.out; omega) (by have := HDL.out; omega)
      have HH4 := hide (HHW.out.far HO.out (by have := HDL.out; have := HQE.out; omega) HDF.out)
      have HGW4 := hide (show gw < wr.heap.size ∧ q < wr.heap.size from ⟨Nat.lt_of_lt_of_le HGW3.out.1 HO.out.size, Nat.lt_of_lt_of_le HGW3.out.2 HO.out.size⟩)
      have HL4 := hide (fun W (ho : Only [] wr W) => (show LCells W gw g gx q n b m from hcc4.far (d := d) (ho.mono (by simp)) (Nat.lt_of_lt_of_le HGW3.out.1 HO.out.size) (Nat.lt_of_lt_of_le HGW3.out.2 HO.out.size) (by have := HDL.out; have := HGD.out; omega) (by have := HDL.out; omega)))
      unfold LCells at hcc4
      clear HBj HBK3 HBK HB2
      go_wp2_with fail
      go_region_held3 (fun w' => w'.cell? ⟨gw, 1, none⟩ = some (.pointer (some ⟨g, 0, none⟩)) ∧ w'.cell? ⟨gw, 3, none⟩ = some (.pointer (some ⟨gx, 0, none⟩)) ∧ w'.cell? ⟨q, 1, none⟩ = some (.int .i64 n) ∧ w'.cell? ⟨q, 2, none⟩ = some (.int .u8 b) ∧ w'.cell? ⟨q, 3, none⟩ = some (.int .i64 m)) (first | go_keep | assumption) (first | (go_at_call 12; refine (HFL.out _).mono ?_; rintro e w5 ⟨d5, rfl, -, hbk5, ho5⟩; have HO5 := hide (show Only [] wr w5 from Only.trans (by repeat (first | exact Only.refl _ _ | apply Only.drew | apply Only.drewN)) ho5); have HBK5 := hide hbk5; have HL5 := hide (fun W (ho : Only [] w5 W) => (show LCells W gw g gx q n b m from HL4.out W (HO5.out.trans ho))); have HL6 := hide (fun W (ho : Only [] w5 W) => (show gw < W.heap.size ∧ q < W.heap.size from ⟨Nat.lt_of_lt_of_le HGW4.out.1 (HO5.out.trans ho).size, Nat.lt_of_lt_of_le HGW4.out.2 (HO5.out.trans ho).size⟩)); have hcc5 := HL5.out w5 (Only.refl _ _); clear hbk5 ho5; unfold LCells at hcc5) | (go_at_call 14; refine (HX.out _ F1 (HH4.out.quiet (HO5.out.trans (by repeat (first | exact Only.refl _ _ | apply Only.drew | apply Only.drewN)))) d5 (HBK5.out.only (S := []) (by repeat (first | exact Only.refl _ _ | apply Only.drew | apply Only.drewN)) (by simp)) (HL5.out _ (by repeat (first | exact Only.refl _ _ | apply Only.drew | apply Only.drewN))) (HL6.out _ (by repeat (first | exact Only.refl _ _ | apply Only.drew | apply Only.drewN)))).mono ?_; rintro e w6 ⟨rfl, hcc6, hd⟩; unfold LCells at hcc6; have HD := hide hd; clear hd))
      all_goals
        go_wp2
        go_ret
        exact ⟨by first | rfl | simp, HD.out⟩
end
end Go.Proofs.Ytokdpldmoflnkaa
/-
  What Open of a right header leaves, plainly.
-/
namespace Go.Proofs.Ytokdpldmoflnkaa
open Go.ChangeShapes Go.WideShapes Go.ChangeAt Go.RowKit
set_option linter.unusedVariables false
set_option linter.unusedSimpArgs false
/-- The writes behind i blocks laid down. -/
def placeL (a : Nat) (ns : List Int) (plat : List Int) (l : List (Nat × List Int)) (i : Nat) : List (Nat × List Int) := l ++ (List.range i).map fun (j : Nat) => ((gb ns j).toNat, sect plat l (a + 1 + j))
theorem placeL_succ (a : Nat) (ns : List Int) (plat : List Int) (l : List (Nat × List Int)) (i : Nat) : placeL a ns plat l (i + 1) = placeL a ns plat l i ++ [((gb ns i).toNat, sect plat l (a + 1 + i))] := by
  simp [placeL, List.range_succ]
theorem placeL_length (a : Nat) (ns : List Int) (plat : List Int) (l : List (Nat × List Int)) (i : Nat) : (placeL a ns plat l i).length = l.length + i := by simp [placeL]
theorem openG_get (a : Nat) (ns : List Int) (plat : List Int) (l : List (Nat × List Int)) (n i : Nat) (h : i < n) : (openG a ns plat l n).getD i (0, []) = (gb ns i, sect plat l (a + 1 + i)) := by
  simp [openG, List.getD, h]
theorem iter_place (a : Nat) (gen : Int) (ns : List Int) (plat : List Int) (l : List (Nat × List Int)) (hne : ns ≠ []) : ∀ i, i < ns.length → iterP a i (openP a gen ns plat l) = ⟨gen, openG a ns plat l ns.length, 5, i, plat, placeL a ns plat l i⟩
  | 0, _ => by simp [iterP, openP, hne, placeL]
  | i + 1, h => by
    rw [iterP_succ, iter_place a gen ns plat l hne i (by omega)]
    unfold stepP
    rw [show doP a ⟨gen, openG a ns plat l ns.length, 5, i, plat, placeL a ns plat l i⟩ = ⟨gen, openG a ns plat l ns.length, 5, i, plat, placeL a ns plat l (i + 1)⟩ from by
      simp only [doP]
      rw [openG_get _ _ _ _ _ _ (by omega), placeL_succ]]
    unfold nextP
    rw [if_pos ⟨by simp [eachP], by rw [openG_length]; show i + 1 ≠ ns.length; omega⟩]
theorem iter_placed (a : Nat) (gen : Int) (ns : List Int) (plat : List Int) (l : List (Nat × List Int)) (hne : ns ≠ []) : iterP a ns.length (openP a gen ns plat l) = ⟨gen, openG a ns plat l ns.length, 6, 0, plat, placeL a ns plat l ns.length⟩ := by
  have hp : 0 < ns.length := List.length_pos_iff.2 hne
  obtain ⟨i, hi⟩ : ∃ i, ns.length = i + 1 := ⟨ns.length - 1, by omega⟩
  have key : iterP a (i + 1) (openP a gen ns plat l) = ⟨gen, openG a ns plat l ns.length, 6, 0, plat, placeL a ns plat l (i + 1)⟩ := by
    rw [iterP_succ, iter_place a gen ns plat l hne i (by omega)]
    unfold stepP
    rw [show doP a ⟨gen, openG a ns plat l ns.length, 5, i, plat, placeL a ns plat l i⟩ = ⟨gen, openG a ns plat l ns.length, 5, i, plat, placeL a ns plat l (i + 1)⟩ from by
      simp only [doP]
      rw [openG_get _ _ _ _ _ _ (by omega), placeL_succ]]
    unfold nextP
    rw [if_neg (fun h => h.2 (by rw [openG_length]; show i + 1 = ns.length; omega)), if_neg (by show ¬ ((5 : Nat) = 8); decide)]
  rw [← hi] at key
  exact key
theorem open_end (a : Nat) (gen : Int) (ns : List Int) (plat : List Int) (l : List (Nat × List Int)) (hne : ns ≠ []) : leftP (openP a gen ns plat l) = ns.length + 3 ∧ endP a (openP a gen ns plat l) = ⟨gen, [], 0, 0, layAll (layAll plat (placeL a ns plat l ns.length)) [(a, hdrF gen [])], []⟩ := by
  have e : leftP (openP a gen ns plat l) = ns.length + 3 := by
    unfold leftP
    simp [openP, hne, openG_length, tailC]
    omega
  refine ⟨e, ?_⟩
  unfold endP
  rw [e, iterP_succ, iterP_succ, iterP_succ, iter_placed a gen ns plat l hne]
  rfl
theorem open_none (a : Nat) (gen : Int) (plat : List Int) (l : List (Nat × List Int)) : leftP (openP a gen [] plat l) = 0 ∧ endP a (openP a gen [] plat l) = ⟨gen, [], 0, 0, plat, l⟩ := by
  refine ⟨by simp [leftP, openP, tailC], rfl⟩
/-- The log's own sectors stand while blocks are laid down. -/
theorem place_sect {N a sz : Nat} {ns : List Int} (plat : List Int) (l : List (Nat × List Int)) (hok : ∀ x ∈ ns, blkB N a sz x = true) : ∀ i, i ≤ ns.length → ∀ m, a ≤ m → m < a + sz → sect plat (placeL a ns plat l i) m = sect plat l m
  | 0, _, m, _, _ => by simp [placeL]
  | i + 1, h, m, h1, h2 => by
    rw [placeL_succ, sect_write, if_neg, place_sect plat l hok i (by omega) m h1 h2]
    have hm : gb ns i ∈ ns := by simp only [gb, List.getD, List.getElem?_eq_getElem (show i < ns.length by omega), Option.getD_some]; exact List.getElem_mem _
    have := blkB_yes.1 (hok _ hm)
    omega
end Go.Proofs.Ytokdpldmoflnkaa
