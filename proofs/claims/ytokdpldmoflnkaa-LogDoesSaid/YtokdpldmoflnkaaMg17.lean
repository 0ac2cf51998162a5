/-
  The document's own disk as one packed fact: 'Rk w g N plat l left stops rd wt fl G'; its calls. The pair of both disks.
-/
import Derived.Test.YtokdpldmoflnkaaMg16
namespace Go.Proofs.Ytokdpldmoflnkaa
open Go.ChangeShapes Go.WideShapes Go.ChangeAt Go.RowKit
set_option linter.unusedVariables false

def Rk (w : World) (g N : Nat) (plat : List Int) (l : List (Nat × List Int)) (left : Int) (stops : Bool) (rd wt fl : Int) (G : List Nat) : Prop :=
  ∃ pb pc pr pv ws, IsR2 w g pb pc pr pv N plat ws left stops rd wt fl ∧ ofW ws = l ∧ g ∈ G ∧ pb ∈ G ∧ (∀ k, pv.ownBlock = some k → k ∈ G) ∧ (∀ x ∈ ws, x.blk ∈ G) ∧ ∀ q ∈ G, q < w.heap.size

section
variable {w w' : World} {g N : Nat} {plat : List Int} {l : List (Nat × List Int)} {left : Int} {stops : Bool} {rd wt fl : Int} {G S : List Nat}
theorem Rk.only (h : Rk w g N plat l left stops rd wt fl G) (ho : Only S w w') (hs : ∀ q ∈ G, q ∉ S) : Rk w' g N plat l left stops rd wt fl G := by
  obtain ⟨pb, pc, pr, pv, ws, hd, h1, h2, h3, h4, h5, h6⟩ := h
  exact ⟨pb, pc, pr, pv, ws, hd.only ho (hs _ h2) (hs _ h3) (fun k hk => hs k (h4 k hk)) (fun x hx => hs _ (h5 x hx)), h1, h2, h3, h4, h5, fun q hq => Nat.lt_of_lt_of_le (h6 q hq) ho.size⟩
theorem Rk.quiet (h : Rk w g N plat l left stops rd wt fl G) (ho : Only [] w w') : Rk w' g N plat l left stops rd wt fl G := h.only ho (by simp)
theorem Rk.lt (h : Rk w g N plat l left stops rd wt fl G) : ∀ q ∈ G, q < w.heap.size := by
  obtain ⟨pb, pc, pr, pv, ws, hd, h1, h2, h3, h4, h5, h6⟩ := h
  exact h6

section
variable (h : Rk w g N plat l left stops rd wt fl G)
include h

theorem rk_read_bad (n : Int) (hn : n < 0 ∨ N ≤ n) : Calls Try.prog 55 #[.pointer (some ⟨g, 0, none⟩), .int .i64 n] w fun e w' => e = .returned (.tuple #[.slice none 0 0, .int .i64 20]) ∧ w = w' := by
  obtain ⟨pb, pc, pr, pv, ws, hd, _⟩ := h
  exact rread_bad hd n hn

theorem rk_read (n : Nat) (h1 : n < N) (hr0 : 0 ≤ rd) (hr1 : rd < 9223372036854775807) : Calls Try.prog 55 #[.pointer (some ⟨g, 0, none⟩), .int .i64 n] w fun e w' => ∃ v, e = .returned (.tuple #[v, .int .i64 0]) ∧ Fresh w' w.heap.size v (sect plat l n) ∧ Turned w w' G G ∧ Rk w' g N plat l left stops (rd + 1) wt fl G := by
  obtain ⟨pb, pc, pr, pv, ws, hd, e1, h2, h3, h4, h5, h6⟩ := h
  subst e1
  refine (rread_ok hd n h1 hr0 hr1).mono ?_
  rintro e w' ⟨v, he, hf, ho, hd'⟩
  exact ⟨v, he, hf, .same (ho.mono (by intro k _ hk; simp at hk; subst hk; exact h2)), pb, pc, pr, pv, ws, hd', rfl, h2, h3, h4, h5, fun q hq => Nat.lt_of_lt_of_le (h6 q hq) ho.size⟩

theorem rk_write_sector (n : Int) (A : Option Addr) (m c : Nat) (hn : n < 0 ∨ N ≤ n) : Calls Try.prog 47 #[.pointer (some ⟨g, 0, none⟩), .int .i64 n, .slice A m c] w fun e w' => e = .returned (.int .i64 20) ∧ w = w' := by
  obtain ⟨pb, pc, pr, pv, ws, hd, _⟩ := h
  exact rwrite_sector hd n A m c hn
theorem rk_write_len (n : Int) (A : Option Addr) (m c : Nat) (h0 : 0 ≤ n) (h1 : n < N) (hm : m ≠ 512) : Calls Try.prog 47 #[.pointer (some ⟨g, 0, none⟩), .int .i64 n, .slice A m c] w fun e w' => e = .returned (.int .i64 1) ∧ w = w' := by
  obtain ⟨pb, pc, pr, pv, ws, hd, _⟩ := h
  exact rwrite_len hd n A m c h0 h1 hm
theorem rk_write_off (n : Int) (A : Option Addr) (c : Nat) (h0 : 0 ≤ n) (h1 : n < N) (hs : stops = true) (hl : left = 0) : Calls Try.prog 47 #[.pointer (some ⟨g, 0, none⟩), .int .i64 n, .slice A 512 c] w fun e w' => e = .returned (.int .i64 0) ∧ Only [] w w' := by
  obtain ⟨pb, pc, pr, pv, ws, hd, _⟩ := h
  exact rwrite_off hd n A c h0 h1 hs hl
theorem rk_write (n : Nat) (A : Option Addr) (c : Nat) (zs : List Int) (h1 : n < N) (hl : stops = true → 0 < left) (hm : left ≤ 9223372036854775807) (hs : Sees w A 512 zs) (hu : U8 zs) (hA : ∀ b, A = some b → b.block ∉ G) (hw0 : 0 ≤ wt) (hw1 : wt < 9223372036854775807) (hf : l.length < 4398046511000) :
    Calls Try.prog 47 #[.pointer (some ⟨g, 0, none⟩), .int .i64 n, .slice A 512 c] w fun e w' => ∃ G', e = .returned (.int .i64 0) ∧ Turned w w' G G' ∧ Rk w' g N plat (l ++ [(n, zs)]) (if stops then left - 1 else left) stops rd (wt + 1) fl G' := by
  obtain ⟨pb, pc, pr, pv, ws, hd, e1, h2, h3, h4, h5, h6⟩ := h
  subst e1
  rw [ofW_length] at hf
  refine (rwrite_do hd n A c zs h1 hl hm hs hu (fun b hb e => hA b hb (e ▸ h2)) hw0 hw1 hf).mono ?_
  rintro e w' ⟨he, pv', x, ho, hv, hx, e1, e2, hd'⟩
  refine ⟨g :: pb :: (pv'.ownBlock.toList ++ (ws ++ [x]).map WR.blk), he, ⟨ho.mono (by intro k _ hk; simp at hk; subst hk; exact h2), fun q hq => ?_⟩, pb, pc, pr, pv', ws ++ [x], hd', by rw [ofW_snoc, e1, e2], by simp, by simp, fun k hk => by simp [hk], fun y hy => ?_, fun q hq => ?_⟩
  · simp only [List.mem_cons, List.mem_append, List.map_append, List.mem_map, List.map_cons, List.map_nil, List.not_mem_nil, or_false, Option.mem_toList] at hq
    rcases hq with rfl | rfl | hq | ⟨y, hy, rfl⟩ | rfl
    · exact .inl h2
    · exact .inl h3
    · exact .inr (hv q hq)
    · exact .inl (h5 y hy)
    · exact .inr hx
  · simp only [List.mem_cons, List.mem_append, List.mem_map]
    exact .inr (.inr (.inr ⟨y, by simpa using hy, rfl⟩))
  · simp only [List.mem_cons, List.mem_append, List.mem_map, Option.mem_toList] at hq
    rcases hq with rfl | rfl | hq | ⟨y, hy, rfl⟩
    · exact hd'.str.lt
    · exact hd'.row.lt
    · rcases hd'.own.2 with ⟨e, _⟩ | ⟨b, cp, cur, e, _, hg, _⟩
      · rw [e] at hq; cases hq
      · rw [e] at hq
        simp only [Value.ownBlock, Option.some.injEq] at hq
        subst hq
        exact Blk.lt (t := 109) hg
    · exact (hd'.wok y (by simpa using hy)).row.lt

theorem rk_flush_off (hs : stops = true) (hl : left = 0) : Calls Try.prog 48 #[.pointer (some ⟨g, 0, none⟩)] w fun e w' => e = .returned (.int .i64 0) ∧ Only [] w w' := by
  obtain ⟨pb, pc, pr, pv, ws, hd, _⟩ := h
  exact rflush_off hd hs hl
theorem rk_flush (hl : stops = true → 0 < left) (hm : left ≤ 9223372036854775807) (hf0 : 0 ≤ fl) (hf1 : fl < 9223372036854775807) :
    Calls Try.prog 48 #[.pointer (some ⟨g, 0, none⟩)] w fun e w' => e = .returned (.int .i64 l.length) ∧ Turned w w' G G ∧ Rk w' g N (layAll plat l) [] (if stops then left - 1 else left) stops rd wt (fl + 1) G := by
  obtain ⟨pb, pc, pr, pv, ws, hd, e1, h2, h3, h4, h5, h6⟩ := h
  subst e1
  refine (rflush_do hd hl hm hf0 hf1).mono ?_
  rintro e w' ⟨he, ho, hd'⟩
  refine ⟨by rw [he, ofW_length], .same (ho.mono (by intro k _ hk; simp at hk; rcases hk with rfl | rfl; exact h2; exact h3)), pb, pc, pr, _, [], hd', rfl, h2, h3, by simp [Value.ownBlock], by simp, fun q hq => Nat.lt_of_lt_of_le (h6 q hq) ho.size⟩





end
end

theorem rk_new (n : Int) (w : World) (h1 : 1 ≤ n) (h2 : n ≤ 4096) : Calls Try.prog 8 #[.int .i64 n] w fun e w' => ∃ g G, e = .returned (.tuple #[.pointer (some ⟨g, 0, none⟩), .int .i64 0]) ∧ Only [] w w' ∧ (∀ q ∈ G, w.heap.size ≤ q) ∧ Rk w' g n.toNat (List.replicate (512 * n.toNat) 0) [] 0 false 0 0 0 G := by
  refine (rnew_ok n w h1 h2).mono ?_
  rintro e w' ⟨g, pb, he, hg, hp, ho, hd⟩
  refine ⟨g, [g, pb], he, ho, by simp [hg, hp], pb, _, _, _, [], hd, rfl, by simp, by simp, by simp [Value.ownBlock], by simp, ?_⟩
  intro q hq
  simp at hq
  rcases hq with rfl | rfl
  · exact hd.str.lt
  · exact hd.row.lt
end Go.Proofs.Ytokdpldmoflnkaa
/-
  The document's own log (parapetref16): may, Format.
-/
namespace Go.Proofs.Ytokdpldmoflnkaa
open Go.ChangeShapes Go.WideShapes Go.ChangeAt Go.RowKit
set_option linter.unusedVariables false
/-- The document's disk, at most k calls old. -/
def Xd (w : World) (gr N : Nat) (plat : List Int) (l : List (Nat × List Int)) (k : Nat) (G : List Nat) : Prop :=
  ∃ rd wt fl, Rk w gr N plat l 0 false rd wt fl G ∧ (0 ≤ rd ∧ rd ≤ k) ∧ (0 ≤ wt ∧ wt ≤ k) ∧ (0 ≤ fl ∧ fl ≤ k) ∧ l.length ≤ k
section
variable {w w' : World} {gr N : Nat} {plat : List Int} {l : List (Nat × List Int)} {k k' : Nat} {G S : List Nat}
theorem Xd.only (h : Xd w gr N plat l k G) (ho : Only S w w') (hs : ∀ q ∈ G, q ∉ S) : Xd w' gr N plat l k G := by
  obtain ⟨rd, wt, fl, h1, h2⟩ := h
  exact ⟨rd, wt, fl, h1.only ho hs, h2⟩
theorem Xd.quiet (h : Xd w gr N plat l k G) (ho : Only [] w w') : Xd w' gr N plat l k G := h.only ho (by simp)
theorem Xd.lt (h : Xd w gr N plat l k G) : ∀ q ∈ G, q < w.heap.size := by
  obtain ⟨rd, wt, fl, h1, h2⟩ := h
  exact h1.lt
theorem Xd.more (h : Xd w gr N plat l k G) (hk : k ≤ k') : Xd w gr N plat l k' G := by
  obtain ⟨rd, wt, fl, h1, h2⟩ := h
  exact ⟨rd, wt, fl, h1, by omega⟩
theorem Xd.big (h : Xd w gr N plat l k G) : 1 ≤ N ∧ N ≤ 4096 := by
  obtain ⟨rd, wt, fl, ⟨pb, pc, pr, pv, ws, hd, _⟩, _⟩ := h
  exact ⟨hd.pos, hd.big⟩
theorem Xd.gF (h : Xd w gr N plat l k G) : gr ∈ G := by
  obtain ⟨rd, wt, fl, ⟨pb, pc, pr, pv, ws, hd, e1, h2, _⟩, _⟩ := h
  exact h2
theorem Xd.c0 (h : Xd w gr N plat l k G) : w.cell? ⟨gr, 0, none⟩ = some (.int .i64 N) := by
  obtain ⟨rd, wt, fl, ⟨pb, pc, pr, pv, ws, hd, _⟩, _⟩ := h
  exact hd.str.cell 0
theorem xd_new (n : Int) (w : World) (h1 : 1 ≤ n) (h2 : n ≤ 4096) : Calls Try.prog 8 #[.int .i64 n] w fun e w' => ∃ g G, e = .returned (.tuple #[.pointer (some ⟨g, 0, none⟩), .int .i64 0]) ∧ Only [] w w' ∧ (∀ q ∈ G, w.heap.size ≤ q) ∧ Xd w' g n.toNat (List.replicate (512 * n.toNat) 0) [] 0 G :=
  (rk_new n w h1 h2).mono fun e w' ⟨g, G, e1, e2, e3, e4⟩ => ⟨g, G, e1, e2, e3, 0, 0, 0, e4, by simp⟩
theorem xd_read (h : Xd w gr N plat l k G) (n : Nat) (h1 : n < N) (hk : k < 4611686018427000000) : Calls Try.prog 55 #[.pointer (some ⟨gr, 0, none⟩), .int .i64 n] w fun e w' => ∃ v, e = .returned (.tuple #[v, .int .i64 0]) ∧ Fresh w' w.heap.size v (sect plat l n) ∧ Turned w w' G G ∧ Xd w' gr N plat l (k + 1) G := by
  obtain ⟨rd, wt, fl, h2, h3, h4, h5, h6⟩ := h
  exact (rk_read h2 n h1 h3.1 (by omega)).mono fun e w' ⟨v, e1, e2, e3, e4⟩ => ⟨v, e1, e2, e3, rd + 1, wt, fl, e4, by omega⟩
theorem xd_write (h : Xd w gr N plat l k G) (n : Nat) (A : Option Addr) (c : Nat) (zs : List Int) (h1 : n < N) (hs : Sees w A 512 zs) (hu : U8 zs) (hA : ∀ b, A = some b → b.block ∉ G) (hk : k < 4611686018427000000) (hlen : l.length < 4398046511000) : Calls Try.prog 47 #[.pointer (some ⟨gr, 0, none⟩), .int .i64 n, .slice A 512 c] w fun e w' => e = .returned (.int .i64 0) ∧ ∃ G', Turned w w' G G' ∧ Xd w' gr N plat (l ++ [(n, zs)]) (k + 1) G' := by
  obtain ⟨rd, wt, fl, h2, h3, h4, h5, h6⟩ := h
  exact (rk_write h2 n A c zs h1 (by simp) (by decide) hs hu hA h4.1 (by omega) (by omega)).mono fun e w' ⟨G', e1, e2, e3⟩ => ⟨e1, G', e2, rd, wt + 1, fl, by simpa using e3, by simp; omega⟩
theorem xd_flush (h : Xd w gr N plat l k G) (hk : k < 4611686018427000000) : Calls Try.prog 48 #[.pointer (some ⟨gr, 0, none⟩)] w fun e w' => (∃ x : Int, e = .returned (.int .i64 x)) ∧ ∃ G', Turned w w' G G' ∧ Xd w' gr N (layAll plat l) [] (k + 1) G' := by
  obtain ⟨rd, wt, fl, h2, h3, h4, h5, h6⟩ := h
  refine (rk_flush h2 (by simp) (by decide) h5.1 (by omega)).mono ?_
  rintro e w' ⟨rfl, e2, e3⟩
  exact ⟨⟨_, rfl⟩, G, e2, rd, wt, fl + 1, by simpa using e3, by simp; omega⟩
/-- May a log be? -/
theorem xmay_is (h : Xd w gr N plat l k G) (a sz : Int) : Calls Try.prog 45 #[.pointer (some ⟨gr, 0, none⟩), .int .i64 a, .int .i64 sz] w fun e w' => e = .returned (.bool (mayL N a sz)) ∧ w = w' := by
  have c0 := h.c0
  have hN := h.big
  clear h
  by_cases h1 : 2 ≤ sz
  · by_cases h2 : sz ≤ 248
    · by_cases h3 : 0 ≤ a
      · have e1 : IntKind.i64.wrap ((N : Int) - sz) = (N : Int) - sz := IntWalk.i64_in _ (by omega)
        by_cases h4 : a ≤ (N : Int) - sz
        · have HM := hide (show mayL N a sz = true from decide_eq_true ⟨h1, h2, h3, h4⟩)
          rw [HM.out]
          have d4 : decide (a ≤ (N : Int) - sz) = true := decide_eq_true h4
          clear h4
          go_enter Try.func45, Try.ntmps45
          go_wp2
          go_ret
          exact ⟨rfl, rfl⟩
        · have HM := hide (show mayL N a sz = false from decide_eq_false (fun h => h4 h.2.2.2))
          rw [HM.out]
          have d4 : decide (a ≤ (N : Int) - sz) = false := decide_eq_false h4
          clear h4
          go_enter Try.func45, Try.ntmps45
          go_wp2
          go_ret
          exact ⟨rfl, rfl⟩
      · have HM := hide (show mayL N a sz = false from decide_eq_false (fun h => h3 h.2.2.1))
        rw [HM.out]
        have d3 : decide (0 ≤ a) = false := decide_eq_false h3
        clear h3
        go_enter Try.func45, Try.ntmps45
        go_wp2
        go_ret
        exact ⟨rfl, rfl⟩
    · have HM := hide (show mayL N a sz = false from decide_eq_false (fun h => h2 h.2.1))
      rw [HM.out]
      have d3 : decide (sz ≤ 248) = false := decide_eq_false h2
      clear h2
      go_enter Try.func45, Try.ntmps45
      go_wp2
      go_ret
      exact ⟨rfl, rfl⟩
  · have HM := hide (show mayL N a sz = false from decide_eq_false (fun h => h1 h.1))
    rw [HM.out]
    have d3 : decide (2 ≤ sz) = false := decide_eq_false h1
    clear h1
    go_enter Try.func45, Try.ntmps45
    go_wp2
    go_ret
    exact ⟨rfl, rfl⟩
theorem xformat_no (h : Xd w gr N plat l k G) (a sz : Int) (hm : mayL N a sz = false) : Calls Try.prog 11 #[.pointer (some ⟨gr, 0, none⟩), .int .i64 a, .int .i64 sz] w fun e w' => e = .returned (.tuple #[.pointer none, .int .i64 1]) ∧ w = w' := by
  have HM := hide (xmay_is h a sz)
  rw [hm] at HM
  clear h hm
  go_enter Try.func11, Try.ntmps11
  go_wp2_with (go_at_call 45; refine HM.out.mono ?_; rintro e w' ⟨rfl, rfl⟩)
  go_ret2
  exact ⟨rfl, rfl⟩
/-- The cells of the document's log. -/
def xlC (gr a sz : Nat) (gen : Int) (vG vS : Value) (op runs : Bool) (nx : Int) : Array Value := #[.pointer (some ⟨gr, 0, none⟩), .int .i64 a, .int .i64 sz, .int .u64 gen, vG, vS, .bool op, .bool runs, .int .i64 nx]
theorem u8_512 {w : World} {d : Nat} {xs : List Int} (hb : Blk w d 5 (u8l xs ++ ([] : List Value)).toArray) (hl : xs.length = 512) : Sees w (some ⟨d, 0, none⟩) 512 xs :=
  ⟨hl, fun _ => ⟨d, 0, rfl, hb.lt, fun i hi => by rw [Nat.zero_add, hb.cell]; exact u8l_get _ _ i (by omega)⟩⟩
set_option maxRecDepth 100000 in
set_option maxHeartbeats 1000000 in
theorem xformat_ok {a sz : Nat} (h : Xd w gr N plat l k G) (hm : mayL N a sz = true) (hk : k < 4611686018426000000) (hlen : l.length < 4398046511000) : Calls Try.prog 11 #[.pointer (some ⟨gr, 0, none⟩), .int .i64 a, .int .i64 sz] w fun e w' => ∃ gx G', e = .returned (.tuple #[.pointer (some ⟨gx, 0, none⟩), .int .i64 0]) ∧ w.heap.size ≤ gx ∧ gx ∉ G' ∧ Turned w w' G G' ∧ Xd w' gr N (layAll plat (l ++ [(a, hdrF 0 [])])) [] (k + 2) G' ∧ Blk w' gx 62 (xlC gr a sz 0 (.slice none 0 0) (.slice none 0 0) false false 0) := by
  have hr : 2 ≤ sz ∧ sz ≤ 248 ∧ a + sz ≤ N := by
    have := of_decide_eq_true hm
    omega
  have HM := hide (xmay_is h a sz)
  rw [hm] at HM
  have HX := hide h
  clear h hm
  go_enter Try.func11, Try.ntmps11
  go_wp2_with (first | (go_at_call 45; refine HM.out.mono ?_; rintro e w' ⟨rfl, rfl⟩) | fail)
  refine (xheader_is (v := .slice none 0 0) (ns := []) (KRow.nil _ _ _ _) 0 (by decide) (by decide) (by simp) (by simp)).mono ?_
  rintro e w1 ⟨d, rfl, hd, hb, ho⟩
  have HX1 := hide (HX.out.quiet ho)
  have HB1 := hide hb
  have HD1 := hide (show ∀ b, (some ⟨d, 0, none⟩ : Option Addr) = some b → b.block ∉ G from fun b e hq => by injection e with e; subst e; have := HX.out.lt d hq; omega)
  have HO1 := hide ho
  clear hd hb ho
  go_wp2_with fail
  refine (xd_write HX1.out a (some ⟨d, 0, none⟩) 512 (hdrF 0 []) (by omega) (u8_512 HB1.out (hdrF_length _ _ (by simp))) (u8_hdrF _ _) HD1.out (by omega) hlen).mono ?_
  rintro e w2 ⟨rfl, G2, t2, x2⟩
  have HX2 := hide x2
  have HT2 := hide t2
  clear x2 t2
  go_wp2_with fail
  refine (xd_flush HX2.out (by omega)).mono ?_
  rintro e w3 ⟨⟨x, rfl⟩, G3, t3, x3⟩
  have HX3 := hide x3
  have HT3 := hide t3
  clear x3 t3
  go_wp2
  go_ret2
  have hA : Only [] w3 (w3.alloc (.cells (xlC gr a sz 0 (.slice none 0 0) (.slice none 0 0) false false 0) 62)) := (Only.refl [] w3).alloc _
  refine ⟨w3.heap.size, G3, rfl, ?_, fun hq => absurd (HX3.out.lt _ hq) (Nat.lt_irrefl _), ⟨?_, fun q hq => ?_⟩, HX3.out.quiet hA, Blk.new _ _ _⟩
  · exact Nat.le_trans HO1.out.size (Nat.le_trans HT2.out.1.size HT3.out.1.size)
  · exact (((HO1.out.mono (by simp)).trans HT2.out.1).trans' HT3.out.1 (fun q hq hm => by
      rcases HT2.out.2 q hm with e | e
      · exact e
      · have := HO1.out.size; omega)).trans (hA.mono (by simp))
  · rcases HT3.out.2 q hq with e | e
    · exact (HT2.out.2 q e).imp_right (fun e => Nat.le_trans HO1.out.size e)
    · exact .inr (Nat.le_trans HO1.out.size (Nat.le_trans HT2.out.1.size e))
end
end Go.Proofs.Ytokdpldmoflnkaa
/-
  Rows of the document's blocks (parapetref16.Block), as the document's sectors lie: their form, and append as a law for the walk.
-/
namespace Go.Proofs.Ytokdpldmoflnkaa
open Go.ChangeShapes Go.WideShapes Go.ChangeAt Go.RowKit
set_option linter.unusedVariables false
theorem info_xb : (Try.prog.info? 91).map (fun i => (i.zero, i.size, i.bytes)) = some (some (.agg #[.int .i64 0, .slice none 0 0]), 2, 32) := by kernel_rfl
/-- A row of the document's blocks is of another kind than a block known whole. -/
theorem xb_apart {w : World} {n : Nat} {xs : List Value} {v : Value} (h : w.ownsRow 0 91 2 v n xs) {q : Nat} {t : TypeId} {cs : Array Value} (hb : Blk w q t cs) (ht : t ≠ 91) : ∀ k, v.ownBlock = some k → k ≠ q := by
  intro k hk e
  subst e
  rcases h.2 with ⟨e, _⟩ | ⟨b, cap, cur, e, _, hg, _⟩
  · rw [e] at hk; simp [Value.ownBlock] at hk
  · rw [e] at hk
    simp only [Value.ownBlock, Option.some.injEq] at hk
    subst hk
    exact Blk.ne_ (t := 91) hg hb (Ne.symm ht) rfl
theorem xb_form {w : World} {pv : Value} {ws : List WR} (h : w.ownsRow 0 91 2 pv ws.length (ws.flatMap WR.cells)) : ∃ A cap, pv = .slice A ws.length cap ∧ (A = none → ws.length = 0 ∧ cap = 0) ∧ (∀ b, A = some b → ∃ q, b = ⟨q, 0, none⟩ ∧ q < w.heap.size ∧ pv.ownBlock = some q ∧ (∀ j u, (ws.flatMap WR.cells)[j]? = some u → w.cell? ⟨q, j, none⟩ = some u) ∧ ∀ (i : Nat) (x : WR), ws[i]? = some x →
    w.cell? ⟨q, i * 2, none⟩ = some (.int .i64 x.sec) ∧ w.cell? ⟨q, i * 2 + 1, none⟩ = some (.slice (some ⟨x.blk, 0, none⟩) 512 (512 + x.rest.length))) := by
  rcases h.2 with ⟨e, h0⟩ | ⟨b, cap, cur, e, _, hg, hn, hm, hs, ht⟩
  · exact ⟨none, 0, by rw [e, h0], fun _ => ⟨h0, rfl⟩, fun b hb => by cases hb⟩
  · have hc : ∀ j, j < ws.length * 2 → w.cell? ⟨b, j, none⟩ = (ws.flatMap WR.cells)[j]? := fun j hj => by
      rw [Blk.cell (t := 91) hg, ← ht, List.getElem?_take]
      simp [hj]
    refine ⟨some ⟨b, 0, none⟩, cap, e, fun h => (by cases h), fun q hq => ⟨b, (by injection hq with hq; exact hq.symm), Blk.lt (t := 91) hg, by rw [e]; rfl, fun j u hu => ?_, fun i x hx => ?_⟩⟩
    · have hj := (List.getElem?_eq_some_iff.1 hu).1
      rw [h.1] at hj
      rw [hc j hj]
      exact hu
    · obtain ⟨h1, h2⟩ := flat_cell hx
      have hil : i < ws.length := (List.getElem?_eq_some_iff.1 hx).1
      exact ⟨(hc _ (by omega)).trans h1, (hc _ (by omega)).trans h2⟩
theorem wp_append_xb {o : Oper} {a : Act} {w : World} {K : Act → World → Prop} {Q : Exit → Act → World → Prop} (s x : Operand)
    (ho : o.op = .call { callee := .builtin .append, args := #[s, x], argTypes := #[60, 60] }) (v : Value) (n : Nat) (xs : List Value) (hs : a.eval s = v) (hr : w.ownsRow 0 91 2 v n xs)
    (A : Option Addr) (m c : Nat) (hx : a.eval x = .slice A m c) (hA : A = none → m = 0 ∧ c = 0) (zs : List Value) (hz : zs.length = m * 2) (hone : ∀ u ∈ zs, u.oneCell' = true) (hnews : ∀ ad, A = some ad → ∀ j u, zs[j]? = some u → w.cell? (ad.add j) = some u) (hbig : n + m < 4398046511104)
    (hK : ∀ v' w2, w2.ownsRow 0 91 2 v' (n + m) (xs ++ zs) → Only v.ownBlock.toList w w2 → (∀ k, v'.ownBlock = some k → v.ownBlock = some k ∨ w.heap.size ≤ k) → K (a.put o.dst v') w2) : Oper.wp Try.prog o a w K Q := by
  obtain ⟨i0, hi0, hz0, hz1, hz2⟩ := info_parts info_xb
  rcases A with _ | ad
  · obtain ⟨rfl, rfl⟩ := hA rfl
    have hzs : zs = [] := List.eq_nil_of_length_eq_zero (by omega)
    subst hzs
    have hrun := run_append_owned_none (P := Try.prog) (w := w) 0 60 o.type 91 i0 2 Try.underlying60 hi0 v n xs hr
    unfold Oper.wp
    simp [execOp, ho, resolve, invoke, builtin, hs, hx, hrun, Result.andThen]
    exact hK v w (by simpa using hr) (Only.refl _ _) (fun k hk => .inl hk)
  · obtain ⟨v', w', hrun, h2, h3, _, h5⟩ := run_append_own_at (P := Try.prog) w 0 60 o.type 91 i0 _ 2 32 Try.underlying60 hi0 hz0 hz1 hz2 rfl (by decide) v n xs hr ad m c zs hz (hnews ad rfl) hone (by unfold maxLen; omega) (by omega) (Nat.zero_le _)
    unfold Oper.wp
    simp [execOp, ho, resolve, invoke, builtin, hs, hx, hrun, Result.andThen]
    refine hK v' w' h2 (only_grown h3) (fun k hk => ?_)
    rcases h5 with h5 | h5
    · exact .inl (h5 ▸ hk)
    · rw [h5] at hk
      injection hk with hk
      exact .inr (Nat.le_of_eq hk)
theorem wpList_append_xb {ops : Array Oper} {rest : List Oper} {o : Oper} {a : Act} {w : World} {Q : Exit → Act → World → Prop} (hgd : o.guard = none) (s x : Operand)
    (ho : o.op = .call { callee := .builtin .append, args := #[s, x], argTypes := #[60, 60] }) (v : Value) (n : Nat) (xs : List Value) (hs : a.eval s = v) (hr : w.ownsRow 0 91 2 v n xs)
    (A : Option Addr) (m c : Nat) (hx : a.eval x = .slice A m c) (hA : A = none → m = 0 ∧ c = 0) (zs : List Value) (hz : zs.length = m * 2) (hone : ∀ u ∈ zs, u.oneCell' = true) (hnews : ∀ ad, A = some ad → ∀ j u, zs[j]? = some u → w.cell? (ad.add j) = some u) (hbig : n + m < 4398046511104)
    (hK : ∀ v' w2, w2.ownsRow 0 91 2 v' (n + m) (xs ++ zs) → Only v.ownBlock.toList w w2 → (∀ k, v'.ownBlock = some k → v.ownBlock = some k ∨ w.heap.size ≤ k) → wpList Try.prog ops Q rest (a.put o.dst v') w2) : wpList Try.prog ops Q (o :: rest) a w :=
  wpList_plain hgd fun _ hK' => wp_append_xb s x ho v n xs hs hr A m c hx hA zs hz hone hnews hbig fun v' w2 h1 h2 h3 => hK' _ _ (hK v' w2 h1 h2 h3)
theorem xb_empty {w : World} {H : Nat} (hb : Blk w H 91 #[]) : w.ownsRow 0 91 2 (.slice (some ⟨H, 0, none⟩) 0 0) 0 [] :=
  ⟨by simp, .inr ⟨H, 0, #[], rfl, Nat.zero_le _, hb, Nat.le_refl _, Nat.zero_le _, rfl, by simp⟩⟩
/-- A row of blocks, its bytes included. -/
structure XRw (w : World) (v : Value) (ws : List WR) (N : Nat) : Prop where
  own : w.ownsRow 0 91 2 v ws.length (ws.flatMap WR.cells)
  ok : ∀ x ∈ ws, x.ok w N
theorem XRw.only {w w' : World} {v : Value} {ws : List WR} {N : Nat} {S : List Nat} (h : XRw w v ws N) (ho : Only S w w') (h1 : ∀ q, v.ownBlock = some q → q ∉ S) (h2 : ∀ x ∈ ws, x.blk ∉ S) : XRw w' v ws N :=
  ⟨ownsRow_only h.own ho h1, fun x hx => (h.ok x hx).only ho (h2 x hx)⟩
theorem XRw.nil (w : World) (N : Nat) : XRw w (.slice none 0 0) [] N := ⟨⟨by simp, .inl ⟨rfl, by simp⟩⟩, by simp⟩
theorem XRw.lt {w : World} {v : Value} {ws : List WR} {N : Nat} (h : XRw w v ws N) {q : Nat} (hq : v.ownBlock = some q) : q < w.heap.size := by
  obtain ⟨A, cap, rfl, _, h2⟩ := xb_form h.own
  rcases A with _ | ad
  · simp [Value.ownBlock] at hq
  · obtain ⟨q', rfl, hl, hv, _⟩ := h2 ad rfl
    rw [hv] at hq
    injection hq with hq
    omega
theorem XRw.slice {w : World} {v : Value} {ws : List WR} {N : Nat} (h : XRw w v ws N) : ∃ A cap, v = .slice A ws.length cap ∧ (A = none → ws.length = 0 ∧ cap = 0) := by
  obtain ⟨A, cap, rfl, h1, _⟩ := xb_form h.own
  exact ⟨A, cap, rfl, h1⟩
theorem XRw.apart {w : World} {v : Value} {ws : List WR} {N : Nat} (h : XRw w v ws N) {q : Nat} {t : TypeId} {cs : Array Value} (hb : Blk w q t cs) (ht : t ≠ 91) : ∀ k, v.ownBlock = some k → k ≠ q := xb_apart h.own hb ht
def pairX (x : WR) : Int × List Int := ((x.sec : Int), x.data)
/-- The document's log, its disk and its groups. -/
structure XlI (w : World) (gx gr N a sz : Nat) (gen : Int) (vG : Value) (ws : List WR) (vS : Value) (ss : List WR) (op runs : Bool) (nx : Int) (plat : List Int) (l : List (Nat × List Int)) (k : Nat) (GD : List Nat) : Prop where
  blk : Blk w gx 62 (xlC gr a sz gen vG vS op runs nx)
  grp : XRw w vG ws N
  sv : op = true → XRw w vS ss N
  xd : Xd w gr N plat l k GD
  dx : gx ∉ GD
  dG : ∀ q, vG.ownBlock = some q ∨ (∃ x ∈ ws, x.blk = q) → q ∉ GD
  dS : op = true → ∀ q, vS.ownBlock = some q ∨ (∃ x ∈ ss, x.blk = q) → q ∉ GD
  gen_ : 0 ≤ gen ∧ gen < 18446744073709551616
  rng : 2 ≤ sz ∧ sz ≤ 248 ∧ a + sz ≤ N
  len : ws.length + 1 ≤ sz
  lenS : op = true → ss.length + 1 ≤ sz
/-- All its blocks. -/
def footX (gx : Nat) (vG : Value) (ws : List WR) (vS : Value) (ss : List WR) (op : Bool) (GD : List Nat) (q : Nat) : Prop :=
  q = gx ∨ (vG.ownBlock = some q ∨ ∃ x ∈ ws, x.blk = q) ∨ (op = true ∧ (vS.ownBlock = some q ∨ ∃ x ∈ ss, x.blk = q)) ∨ q ∈ GD
section
variable {w w' : World} {gx gr N a sz : Nat} {gen : Int} {vG : Value} {ws : List WR} {vS : Value} {ss : List WR} {op runs : Bool} {nx : Int} {plat : List Int} {l : List (Nat × List Int)} {k k' : Nat} {GD T : List Nat} (h : XlI w gx gr N a sz gen vG ws vS ss op runs nx plat l k GD)
include h
theorem XlI.c0 : w.cell? ⟨gx, 0, none⟩ = some (.pointer (some ⟨gr, 0, none⟩)) := h.blk.cell 0
theorem XlI.c1 : w.cell? ⟨gx, 1, none⟩ = some (.int .i64 a) := h.blk.cell 1
theorem XlI.c2 : w.cell? ⟨gx, 2, none⟩ = some (.int .i64 sz) := h.blk.cell 2
theorem XlI.c3 : w.cell? ⟨gx, 3, none⟩ = some (.int .u64 gen) := h.blk.cell 3
theorem XlI.c4 : w.cell? ⟨gx, 4, none⟩ = some vG := h.blk.cell 4
theorem XlI.c5 : w.cell? ⟨gx, 5, none⟩ = some vS := h.blk.cell 5
theorem XlI.c6 : w.cell? ⟨gx, 6, none⟩ = some (.bool op) := h.blk.cell 6
theorem XlI.c7 : w.cell? ⟨gx, 7, none⟩ = some (.bool runs) := h.blk.cell 7
theorem XlI.c8 : w.cell? ⟨gx, 8, none⟩ = some (.int .i64 nx) := h.blk.cell 8
theorem XlI.fr (o : Nat) : w.frozen? ⟨gx, o, none⟩ = false := h.blk.frozen o
theorem XlI.d0 : w.cell? ⟨gr, 0, none⟩ = some (.int .i64 N) := h.xd.c0
theorem XlI.big : 1 ≤ N ∧ N ≤ 4096 := h.xd.big
theorem XlI.only (ho : Only T w w') (hs : ∀ q, footX gx vG ws vS ss op GD q → q ∉ T) : XlI w' gx gr N a sz gen vG ws vS ss op runs nx plat l k GD :=
  ⟨h.blk.only ho (hs _ (.inl rfl)), h.grp.only ho (fun q hq => hs q (.inr (.inl (.inl hq)))) (fun x hx => hs _ (.inr (.inl (.inr ⟨x, hx, rfl⟩)))), fun e => (h.sv e).only ho (fun q hq => hs q (.inr (.inr (.inl ⟨e, .inl hq⟩)))) (fun x hx => hs _ (.inr (.inr (.inl ⟨e, .inr ⟨x, hx, rfl⟩⟩)))), h.xd.only ho (fun q hq => hs q (.inr (.inr (.inr hq)))), h.dx, h.dG, h.dS, h.gen_, h.rng, h.len, h.lenS⟩
theorem XlI.quiet (ho : Only [] w w') : XlI w' gx gr N a sz gen vG ws vS ss op runs nx plat l k GD := h.only ho (by simp)
theorem XlI.lt {q : Nat} (hq : footX gx vG ws vS ss op GD q) : q < w.heap.size := by
  rcases hq with e | (e | ⟨x, hx, e⟩) | ⟨e0, e | ⟨x, hx, e⟩⟩ | e
  · subst e; exact h.blk.lt
  · exact h.grp.lt e
  · subst e; exact (h.grp.ok x hx).row.lt
  · exact (h.sv e0).lt e
  · subst e; exact ((h.sv e0).ok x hx).row.lt
  · exact h.xd.lt q e
/-- Only the struct turned. -/
theorem XlI.restr {gen' : Int} {op' runs' : Bool} {nx' : Int} (ho : Only [gx] w w') (hop : op' = true → op = true) (hg : 0 ≤ gen' ∧ gen' < 18446744073709551616) (hb : Blk w' gx 62 (xlC gr a sz gen' vG vS op' runs' nx')) : XlI w' gx gr N a sz gen' vG ws vS ss op' runs' nx' plat l k GD := by
  refine ⟨hb, h.grp.only ho (fun q hq => by simpa using h.grp.apart h.blk (by decide) q hq) (fun x hx => by simpa using (h.grp.ok x hx).row.ne_ h.blk (by decide)), fun e => (h.sv (hop e)).only ho (fun q hq => by simpa using (h.sv (hop e)).apart h.blk (by decide) q hq) (fun x hx => by simpa using ((h.sv (hop e)).ok x hx).row.ne_ h.blk (by decide)), h.xd.only ho (fun q hq hm => h.dx (by simp at hm; exact hm ▸ hq)), h.dx, h.dG, fun e => h.dS (hop e), hg, h.rng, h.len, fun e => h.lenS (hop e)⟩
end
end Go.Proofs.Ytokdpldmoflnkaa
