/-
  The document's own log (parapetref16): may, Format.
-/
import Derived.Test.YtpajdnjbeplneaaXHead
import Derived.Test.YtpajdnjbeplneaaRPair
namespace Go.Proofs.Ytpajdnjbeplneaa
open Go.ChangeShapes Go.WideShapes Go.ChangeAt Go.RowKit
set_option linter.unusedVariables false
/-- The document's disk, at most k calls old. -/
def Xd (w : World) (gr N : Nat) (plat : List Int) (l : List (Nat × List Int)) (k : Nat) (G : List Nat) : Prop :=
  ∃ rd wt fl, Rk w gr N plat l 0 false rd wt fl G ∧ (0 ≤ rd ∧ rd ≤ k) ∧ (0 ≤ wt ∧ wt ≤ k) ∧ (0 ≤ fl ∧ fl ≤ k) ∧ l.length ≤ k
section
variable {w w' : World} {gr N : Nat} {plat : List Int} {l : List (Nat × List Int)} {k k' : Nat} {G S : List Nat}
theorem Xd.only (h : Xd w gr N plat l k G) (ho : Only S w w') (hs : ∀ q ∈ G, q ∉ S) : Xd w' gr N plat l k G := by
  obtain ⟨rd, wt, fl, h1, h2⟩ := h
  exact ⟨rd, wt, fl, h1.only ho hs, h2⟩
theorem Xd.quiet (h : Xd w gr N plat l k G) (ho : Only [] w w') : Xd w' gr N plat l k G := h.only ho (by simp)
theorem Xd.lt (h : Xd w gr N plat l k G) : ∀ q ∈ G, q < w.heap.size := by
  obtain ⟨rd, wt, fl, h1, h2⟩ := h
  exact h1.lt
theorem Xd.more (h : Xd w gr N plat l k G) (hk : k ≤ k') : Xd w gr N plat l k' G := by
  obtain ⟨rd, wt, fl, h1, h2⟩ := h
  exact ⟨rd, wt, fl, h1, by omega⟩
theorem Xd.big (h : Xd w gr N plat l k G) : 1 ≤ N ∧ N ≤ 4096 := by
  obtain ⟨rd, wt, fl, ⟨pb, pc, pr, pv, ws, hd, _⟩, _⟩ := h
  exact ⟨hd.pos, hd.big⟩
theorem Xd.gF (h : Xd w gr N plat l k G) : gr ∈ G := by
  obtain ⟨rd, wt, fl, ⟨pb, pc, pr, pv, ws, hd, e1, h2, _⟩, _⟩ := h
  exact h2
theorem Xd.c0 (h : Xd w gr N plat l k G) : w.cell? ⟨gr, 0, none⟩ = some (.int .i64 N) := by
  obtain ⟨rd, wt, fl, ⟨pb, pc, pr, pv, ws, hd, _⟩, _⟩ := h
  exact hd.str.cell 0
theorem xd_new (n : Int) (w : World) (h1 : 1 ≤ n) (h2 : n ≤ 4096) : Calls Try.prog 28 #[.int .i64 n] w fun e w' => ∃ g G, e = .returned (.tuple #[.pointer (some ⟨g, 0, none⟩), .int .i64 0]) ∧ Only [] w w' ∧ (∀ q ∈ G, w.heap.size ≤ q) ∧ Xd w' g n.toNat (List.replicate (512 * n.toNat) 0) [] 0 G :=
  (rk_new n w h1 h2).mono fun e w' ⟨g, G, e1, e2, e3, e4⟩ => ⟨g, G, e1, e2, e3, 0, 0, 0, e4, by simp⟩
theorem xd_read (h : Xd w gr N plat l k G) (n : Nat) (h1 : n < N) (hk : k < 4398046500000) : Calls Try.prog 63 #[.pointer (some ⟨gr, 0, none⟩), .int .i64 n] w fun e w' => ∃ v, e = .returned (.tuple #[v, .int .i64 0]) ∧ Fresh w' w.heap.size v (sect plat l n) ∧ Turned w w' G G ∧ Xd w' gr N plat l (k + 1) G := by
  obtain ⟨rd, wt, fl, h2, h3, h4, h5, h6⟩ := h
  exact (rk_read h2 n h1 h3.1 (by omega)).mono fun e w' ⟨v, e1, e2, e3, e4⟩ => ⟨v, e1, e2, e3, rd + 1, wt, fl, e4, by omega⟩
theorem xd_write (h : Xd w gr N plat l k G) (n : Nat) (A : Option Addr) (c : Nat) (zs : List Int) (h1 : n < N) (hs : Sees w A 512 zs) (hu : U8 zs) (hA : ∀ b, A = some b → b.block ∉ G) (hk : k < 4398046500000) : Calls Try.prog 59 #[.pointer (some ⟨gr, 0, none⟩), .int .i64 n, .slice A 512 c] w fun e w' => e = .returned (.int .i64 0) ∧ ∃ G', Turned w w' G G' ∧ Xd w' gr N plat (l ++ [(n, zs)]) (k + 1) G' := by
  obtain ⟨rd, wt, fl, h2, h3, h4, h5, h6⟩ := h
  exact (rk_write h2 n A c zs h1 (by simp) (by decide) hs hu hA h4.1 (by omega) (by omega)).mono fun e w' ⟨G', e1, e2, e3⟩ => ⟨e1, G', e2, rd, wt + 1, fl, by simpa using e3, by simp; omega⟩
theorem xd_flush (h : Xd w gr N plat l k G) (hk : k < 4398046500000) : Calls Try.prog 60 #[.pointer (some ⟨gr, 0, none⟩)] w fun e w' => (∃ x : Int, e = .returned (.int .i64 x)) ∧ ∃ G', Turned w w' G G' ∧ Xd w' gr N (layAll plat l) [] (k + 1) G' := by
  obtain ⟨rd, wt, fl, h2, h3, h4, h5, h6⟩ := h
  refine (rk_flush h2 (by simp) (by decide) h5.1 (by omega)).mono ?_
  rintro e w' ⟨rfl, e2, e3⟩
  exact ⟨⟨_, rfl⟩, G, e2, rd, wt, fl + 1, by simpa using e3, by simp; omega⟩
/-- May a log be? -/
theorem xmay_is (h : Xd w gr N plat l k G) (a sz : Int) : Calls Try.prog 57 #[.pointer (some ⟨gr, 0, none⟩), .int .i64 a, .int .i64 sz] w fun e w' => e = .returned (.bool (mayL N a sz)) ∧ w = w' := by
  have c0 := h.c0
  have hN := h.big
  clear h
  by_cases h1 : 2 ≤ sz
  · by_cases h2 : sz ≤ 248
    · by_cases h3 : 0 ≤ a
      · have e1 : IntKind.i64.wrap ((N : Int) - sz) = (N : Int) - sz := IntWalk.i64_in _ (by omega)
        by_cases h4 : a ≤ (N : Int) - sz
        · have HM := hide (show mayL N a sz = true from decide_eq_true ⟨h1, h2, h3, h4⟩)
          rw [HM.out]
          have d4 : decide (a ≤ (N : Int) - sz) = true := decide_eq_true h4
          clear h4
          go_enter Try.func57, Try.ntmps57
          go_wp2
          go_ret
          exact ⟨rfl, rfl⟩
        · have HM := hide (show mayL N a sz = false from decide_eq_false (fun h => h4 h.2.2.2))
          rw [HM.out]
          have d4 : decide (a ≤ (N : Int) - sz) = false := decide_eq_false h4
          clear h4
          go_enter Try.func57, Try.ntmps57
          go_wp2
          go_ret
          exact ⟨rfl, rfl⟩
      · have HM := hide (show mayL N a sz = false from decide_eq_false (fun h => h3 h.2.2.1))
        rw [HM.out]
        have d3 : decide (0 ≤ a) = false := decide_eq_false h3
        clear h3
        go_enter Try.func57, Try.ntmps57
        go_wp2
        go_ret
        exact ⟨rfl, rfl⟩
    · have HM := hide (show mayL N a sz = false from decide_eq_false (fun h => h2 h.2.1))
      rw [HM.out]
      have d3 : decide (sz ≤ 248) = false := decide_eq_false h2
      clear h2
      go_enter Try.func57, Try.ntmps57
      go_wp2
      go_ret
      exact ⟨rfl, rfl⟩
  · have HM := hide (show mayL N a sz = false from decide_eq_false (fun h => h1 h.1))
    rw [HM.out]
    have d3 : decide (2 ≤ sz) = false := decide_eq_false h1
    clear h1
    go_enter Try.func57, Try.ntmps57
    go_wp2
    go_ret
    exact ⟨rfl, rfl⟩
theorem xformat_no (h : Xd w gr N plat l k G) (a sz : Int) (hm : mayL N a sz = false) : Calls Try.prog 30 #[.pointer (some ⟨gr, 0, none⟩), .int .i64 a, .int .i64 sz] w fun e w' => e = .returned (.tuple #[.pointer none, .int .i64 1]) ∧ w = w' := by
  have HM := hide (xmay_is h a sz)
  rw [hm] at HM
  clear h hm
  go_enter Try.func30, Try.ntmps30
  go_wp2_with (go_at_call 57; refine HM.out.mono ?_; rintro e w' ⟨rfl, rfl⟩)
  go_ret2
  exact ⟨rfl, rfl⟩
/-- The cells of the document's log. -/
def xlC (gr a sz : Nat) (gen : Int) (vG vS : Value) (op runs : Bool) (nx : Int) : Array Value := #[.pointer (some ⟨gr, 0, none⟩), .int .i64 a, .int .i64 sz, .int .u64 gen, vG, vS, .bool op, .bool runs, .int .i64 nx]
theorem u8_512 {w : World} {d : Nat} {xs : List Int} (hb : Blk w d 5 (u8l xs ++ ([] : List Value)).toArray) (hl : xs.length = 512) : Sees w (some ⟨d, 0, none⟩) 512 xs :=
  ⟨hl, fun _ => ⟨d, 0, rfl, hb.lt, fun i hi => by rw [Nat.zero_add, hb.cell]; exact u8l_get _ _ i (by omega)⟩⟩
set_option maxRecDepth 100000 in
set_option maxHeartbeats 1000000 in
theorem xformat_ok {a sz : Nat} (h : Xd w gr N plat l k G) (hm : mayL N a sz = true) (hk : k < 4398046400000) : Calls Try.prog 30 #[.pointer (some ⟨gr, 0, none⟩), .int .i64 a, .int .i64 sz] w fun e w' => ∃ gx G', e = .returned (.tuple #[.pointer (some ⟨gx, 0, none⟩), .int .i64 0]) ∧ w.heap.size ≤ gx ∧ gx ∉ G' ∧ Turned w w' G G' ∧ Xd w' gr N (layAll plat (l ++ [(a, hdrF 0 [])])) [] (k + 2) G' ∧ Blk w' gx 71 (xlC gr a sz 0 (.slice none 0 0) (.slice none 0 0) false false 0) := by
  have hr : 2 ≤ sz ∧ sz ≤ 248 ∧ a + sz ≤ N := by
    have := of_decide_eq_true hm
    omega
  have HM := hide (xmay_is h a sz)
  rw [hm] at HM
  have HX := hide h
  clear h hm
  go_enter Try.func30, Try.ntmps30
  go_wp2_with (first | (go_at_call 57; refine HM.out.mono ?_; rintro e w' ⟨rfl, rfl⟩) | fail)
  refine (xheader_is (v := .slice none 0 0) (ns := []) (KRow.nil _ _ _ _) 0 (by decide) (by decide) (by simp) (by simp)).mono ?_
  rintro e w1 ⟨d, rfl, hd, hb, ho⟩
  have HX1 := hide (HX.out.quiet ho)
  have HB1 := hide hb
  have HD1 := hide (show ∀ b, (some ⟨d, 0, none⟩ : Option Addr) = some b → b.block ∉ G from fun b e hq => by injection e with e; subst e; have := HX.out.lt d hq; omega)
  have HO1 := hide ho
  clear hd hb ho
  go_wp2_with fail
  refine (xd_write HX1.out a (some ⟨d, 0, none⟩) 512 (hdrF 0 []) (by omega) (u8_512 HB1.out (hdrF_length _ _ (by simp))) (u8_hdrF _ _) HD1.out (by omega)).mono ?_
  rintro e w2 ⟨rfl, G2, t2, x2⟩
  have HX2 := hide x2
  have HT2 := hide t2
  clear x2 t2
  go_wp2_with fail
  refine (xd_flush HX2.out (by omega)).mono ?_
  rintro e w3 ⟨⟨x, rfl⟩, G3, t3, x3⟩
  have HX3 := hide x3
  have HT3 := hide t3
  clear x3 t3
  go_wp2
  go_ret2
  have hA : Only [] w3 (w3.alloc (.cells (xlC gr a sz 0 (.slice none 0 0) (.slice none 0 0) false false 0) 71)) := (Only.refl [] w3).alloc _
  refine ⟨w3.heap.size, G3, rfl, ?_, fun hq => absurd (HX3.out.lt _ hq) (Nat.lt_irrefl _), ⟨?_, fun q hq => ?_⟩, HX3.out.quiet hA, Blk.new _ _ _⟩
  · exact Nat.le_trans HO1.out.size (Nat.le_trans HT2.out.1.size HT3.out.1.size)
  · exact (((HO1.out.mono (by simp)).trans HT2.out.1).trans' HT3.out.1 (fun q hq hm => by
      rcases HT2.out.2 q hm with e | e
      · exact e
      · have := HO1.out.size; omega)).trans (hA.mono (by simp))
  · rcases HT3.out.2 q hq with e | e
    · exact (HT2.out.2 q e).imp_right (fun e => Nat.le_trans HO1.out.size e)
    · exact .inr (Nat.le_trans HO1.out.size (Nat.le_trans HT2.out.1.size e))
end
end Go.Proofs.Ytpajdnjbeplneaa
