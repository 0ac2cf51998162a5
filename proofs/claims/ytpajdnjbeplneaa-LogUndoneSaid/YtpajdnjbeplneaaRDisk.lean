/-
  The document's own disk (parapetref02): where it lies; New, does, Stop, Sector, Read, Write.
-/
import Derived.Test.YtpajdnjbeplneaaRef02
import Derived.Test.YtpajdnjbeplneaaDiskOne
namespace Go.Proofs.Ytpajdnjbeplneaa
open Go.ChangeShapes Go.WideShapes Go.ChangeAt Go.RowKit
set_option linter.unusedVariables false

structure IsR2 (w : World) (g pb pc : Nat) (pr : List Value) (pv : Value) (N : Nat) (plat : List Int) (ws : List WR) (left : Int) (stops : Bool) (rd wt fl : Int) : Prop where
  str : Blk w g 77 #[.int .i64 N, .slice (some ⟨pb, 0, none⟩) (512 * N) pc, pv, .int .i64 left, .bool stops, .int .i64 rd, .int .i64 wt, .int .i64 fl]
  row : Blk w pb 5 (u8l plat ++ pr).toArray
  len : plat.length = 512 * N
  cap : 512 * N + pr.length = pc
  pos : 1 ≤ N
  big : N ≤ 4096
  u8 : U8 plat
  own : w.ownsRow 0 112 2 pv ws.length (ws.flatMap WR.cells)
  wok : ∀ x ∈ ws, x.ok w N
  far : ∀ x ∈ ws, x.blk ≠ pb
  few : ws.length ≤ 4398046511000
theorem info_sec : (Try.prog.info? 112).map (fun i => (i.zero, i.size, i.bytes)) = some (some (.agg #[.int .i64 0, .slice none 0 0]), 2, 32) := by kernel_rfl
section
variable {w w' : World} {g pb pc : Nat} {pr : List Value} {pv : Value} {N : Nat} {plat : List Int} {ws : List WR} {left : Int} {stops : Bool} {rd wt fl : Int} {S : List Nat}
theorem IsR2.c0 (h : IsR2 w g pb pc pr pv N plat ws left stops rd wt fl) : w.cell? ⟨g, 0, none⟩ = some (.int .i64 N) := h.str.cell 0
theorem IsR2.c1 (h : IsR2 w g pb pc pr pv N plat ws left stops rd wt fl) : w.cell? ⟨g, 1, none⟩ = some (.slice (some ⟨pb, 0, none⟩) (512 * N) pc) := h.str.cell 1
theorem IsR2.c2 (h : IsR2 w g pb pc pr pv N plat ws left stops rd wt fl) : w.cell? ⟨g, 2, none⟩ = some pv := h.str.cell 2
theorem IsR2.c3 (h : IsR2 w g pb pc pr pv N plat ws left stops rd wt fl) : w.cell? ⟨g, 3, none⟩ = some (.int .i64 left) := h.str.cell 3
theorem IsR2.c4 (h : IsR2 w g pb pc pr pv N plat ws left stops rd wt fl) : w.cell? ⟨g, 4, none⟩ = some (.bool stops) := h.str.cell 4
theorem IsR2.c5 (h : IsR2 w g pb pc pr pv N plat ws left stops rd wt fl) : w.cell? ⟨g, 5, none⟩ = some (.int .i64 rd) := h.str.cell 5
theorem IsR2.c6 (h : IsR2 w g pb pc pr pv N plat ws left stops rd wt fl) : w.cell? ⟨g, 6, none⟩ = some (.int .i64 wt) := h.str.cell 6
theorem IsR2.c7 (h : IsR2 w g pb pc pr pv N plat ws left stops rd wt fl) : w.cell? ⟨g, 7, none⟩ = some (.int .i64 fl) := h.str.cell 7
theorem IsR2.fr (h : IsR2 w g pb pc pr pv N plat ws left stops rd wt fl) (o : Nat) : w.frozen? ⟨g, o, none⟩ = false := h.str.frozen o
/-- The row of pending writes is of another kind than a block known whole. -/
theorem sec_apart {n : Nat} {xs : List Value} {v : Value} (h : w.ownsRow 0 112 2 v n xs) {q : Nat} {t : TypeId} {cs : Array Value} (hb : Blk w q t cs) (ht : t ≠ 112) : ∀ k, v.ownBlock = some k → k ≠ q := by
  intro k hk e
  subst e
  rcases h.2 with ⟨e, _⟩ | ⟨b, cap, cur, e, _, hg, _⟩
  · rw [e] at hk; simp [Value.ownBlock] at hk
  · rw [e] at hk
    simp only [Value.ownBlock, Option.some.injEq] at hk
    subst hk
    exact Blk.ne_ (t := 112) hg hb (Ne.symm ht) rfl
theorem IsR2.gp (h : IsR2 w g pb pc pr pv N plat ws left stops rd wt fl) : g ≠ pb := h.str.ne_ h.row (by decide)
theorem IsR2.only (h : IsR2 w g pb pc pr pv N plat ws left stops rd wt fl) (ho : Only S w w') (hg : g ∉ S) (hp : pb ∉ S) (hv : ∀ k, pv.ownBlock = some k → k ∉ S) (hx : ∀ x ∈ ws, x.blk ∉ S) : IsR2 w' g pb pc pr pv N plat ws left stops rd wt fl :=
  ⟨h.str.only ho hg, h.row.only ho hp, h.len, h.cap, h.pos, h.big, h.u8, ownsRow_only h.own ho hv, fun x hx' => (h.wok x hx').only ho (hx x hx'), h.far, h.few⟩
theorem IsR2.quiet (h : IsR2 w g pb pc pr pv N plat ws left stops rd wt fl) (ho : Only [] w w') : IsR2 w' g pb pc pr pv N plat ws left stops rd wt fl := h.only ho (by simp) (by simp) (by simp) (by simp)
/-- Only the struct has turned. -/
theorem IsR2.restr (h : IsR2 w g pb pc pr pv N plat ws left stops rd wt fl) {left' : Int} {stops' : Bool} {rd' wt' fl' : Int} (ho : Only [g] w w')
    (hs : Blk w' g 77 #[.int .i64 N, .slice (some ⟨pb, 0, none⟩) (512 * N) pc, pv, .int .i64 left', .bool stops', .int .i64 rd', .int .i64 wt', .int .i64 fl']) : IsR2 w' g pb pc pr pv N plat ws left' stops' rd' wt' fl' :=
  ⟨hs, h.row.only ho (by simpa using h.gp.symm), h.len, h.cap, h.pos, h.big, h.u8, ownsRow_only h.own ho (fun k hk e => sec_apart h.own h.str (by decide) k hk (by simpa using e)), fun x hx => (h.wok x hx).only ho (by simpa using ((h.wok x hx).row.ne_ h.str (by decide))), h.far, h.few⟩
/-- The platter turned. -/
theorem IsR2.replat (h : IsR2 w g pb pc pr pv N plat ws left stops rd wt fl) {plat' : List Int} (ho : Only [pb] w w') (hr : Blk w' pb 5 (u8l plat' ++ pr).toArray) (hl : plat'.length = 512 * N) (hu : U8 plat') : IsR2 w' g pb pc pr pv N plat' ws left stops rd wt fl :=
  ⟨h.str.only ho (by simpa using h.gp), hr, hl, h.cap, h.pos, h.big, hu, ownsRow_only h.own ho (fun k hk e => sec_apart h.own h.row (by decide) k hk (by simpa using e)), fun x hx => (h.wok x hx).only ho (by simpa using h.far x hx), h.far, h.few⟩
theorem sec_form (h : w.ownsRow 0 112 2 pv ws.length (ws.flatMap WR.cells)) : ∃ A cap, pv = .slice A ws.length cap ∧ (A = none → ws.length = 0 ∧ cap = 0) ∧ (∀ b, A = some b → ∃ q, b = ⟨q, 0, none⟩ ∧ q < w.heap.size ∧ pv.ownBlock = some q ∧ (∀ j u, (ws.flatMap WR.cells)[j]? = some u → w.cell? ⟨q, j, none⟩ = some u) ∧ ∀ (i : Nat) (x : WR), ws[i]? = some x →
    w.cell? ⟨q, i * 2, none⟩ = some (.int .i64 x.sec) ∧ w.cell? ⟨q, i * 2 + 1, none⟩ = some (.slice (some ⟨x.blk, 0, none⟩) 512 (512 + x.rest.length))) := by
  rcases h.2 with ⟨e, h0⟩ | ⟨b, cap, cur, e, _, hg, hn, hm, hs, ht⟩
  · exact ⟨none, 0, by rw [e, h0], fun _ => ⟨h0, rfl⟩, fun b hb => by cases hb⟩
  · have hc : ∀ j, j < ws.length * 2 → w.cell? ⟨b, j, none⟩ = (ws.flatMap WR.cells)[j]? := fun j hj => by
      rw [Blk.cell (t := 112) hg, ← ht, List.getElem?_take]
      simp [hj]
    refine ⟨some ⟨b, 0, none⟩, cap, e, fun h => (by cases h), fun q hq => ⟨b, (by injection hq with hq; exact hq.symm), Blk.lt (t := 112) hg, by rw [e]; rfl, fun j u hu => ?_, fun i x hx => ?_⟩⟩
    · have hj := (List.getElem?_eq_some_iff.1 hu).1
      rw [h.1] at hj
      rw [hc j hj]
      exact hu
    · obtain ⟨h1, h2⟩ := flat_cell hx
      have hil : i < ws.length := (List.getElem?_eq_some_iff.1 hx).1
      exact ⟨(hc _ (by omega)).trans h1, (hc _ (by omega)).trans h2⟩
/-- It is what the law's looks wants. -/
theorem IsR2.ref2 (h : IsR2 w g pb pc pr pv N plat ws left stops rd wt fl) : ∃ A cap, IsRef2 w g pb pc pr A cap N plat (ofW ws) left stops rd wt fl := by
  obtain ⟨A, cap, rfl, hA, hA2⟩ := sec_form h.own
  have hl := ofW_length ws
  refine ⟨A, cap, by rw [hl]; exact h.str, h.row, h.len, h.cap, h.pos, h.big, h.u8, fun hp => ?_, by rw [hl]; exact h.few⟩
  rcases A with _ | b
  · have := (hA rfl).1; omega
  · obtain ⟨q, rfl, hq, _, _, hc⟩ := hA2 b rfl
    refine ⟨q, rfl, hq, fun i x hx => ?_⟩
    unfold ofW at hx
    rw [List.getElem?_map] at hx
    obtain ⟨y, hy, rfl⟩ := Option.map_eq_some_iff.1 hx
    obtain ⟨h1, h2⟩ := hc i y hy
    have ho := h.wok y (List.mem_of_getElem? hy)
    exact ⟨y.blk, 0, _, h1, h2, ho.len, fun _ => ⟨y.blk, 0, rfl, ho.row.lt, fun j hj => by rw [Nat.zero_add, ho.row.cell]; exact u8l_get _ _ j (by rw [ho.len]; exact hj)⟩⟩
end

theorem rnew_bad (n : Int) (w : World) (h : n < 1 ∨ 4096 < n) : Calls Try.prog 28 #[.int .i64 n] w fun e w' => e = .returned (.tuple #[.pointer none, .int .i64 1]) ∧ w = w' := by
  by_cases h0 : n < 1
  · clear h
    go_enter Try.func28, Try.ntmps28
    go_wp2
    go_ret2
    exact ⟨rfl, rfl⟩
  · have h1 : 4096 < n := by omega
    clear h
    go_enter Try.func28, Try.ntmps28
    go_wp2
    go_ret2
    exact ⟨rfl, rfl⟩

set_option maxRecDepth 100000 in
theorem rnew_ok (n : Int) (w : World) (h1 : 1 ≤ n) (h2 : n ≤ 4096) : Calls Try.prog 28 #[.int .i64 n] w fun e w' => ∃ g pb, e = .returned (.tuple #[.pointer (some ⟨g, 0, none⟩), .int .i64 0]) ∧ w.heap.size ≤ g ∧ w.heap.size ≤ pb ∧ Only [] w w' ∧ IsR2 w' g pb (512 * n.toNat) [] (.slice none 0 0) n.toNat (List.replicate (512 * n.toNat) 0) [] 0 false 0 0 0 := by
  obtain ⟨i0, hi, hz0, hz1, hz2⟩ := info_parts info_u8
  have hmk : ∀ u : World, (Instr.makeSlice 39 (.int .i64 (512 * n)) (.int .i64 (512 * n))).run Try.prog u =
      .ok (.slice (some ⟨u.heap.size, 0, none⟩) (512 * n.toNat) (512 * n.toNat)) (u.alloc (.cells (madeCells #[.int .u8 0] (512 * n.toNat)) 5)) := fun u => by
    have h := run_make (P := Try.prog) u 39 5 i0 (.int .u8 0) Try.underlying39 hi hz0 .i64 .i64 (512 * n) (512 * n) (by omega) (Int.le_refl _) (by rw [hz2]; omega) (by omega)
    have e : (512 * n).toNat = 512 * n.toNat := by omega
    rw [e] at h
    simpa [hz1, Value.cells] using h
  clear hi hz0 hz1 hz2
  have HN := hide (show ((n.toNat : Nat) : Int) = n by omega)
  go_enter Try.func28, Try.ntmps28
  go_wp2
  clear hmk
  go_ret2
  have hb := Blk.new w 5 (madeCells #[.int .u8 0] (512 * n.toNat))
  rw [made_u8l] at hb ⊢
  have hs := Blk.new (w.alloc (.cells (u8l (List.replicate (512 * n.toNat) 0) ++ ([] : List Value)).toArray 5)) 77 #[.int .i64 n, .slice (some ⟨w.heap.size, 0, none⟩) (512 * n.toNat) (512 * n.toNat), .slice none 0 0, .int .i64 0, .bool false, .int .i64 0, .int .i64 0, .int .i64 0]
  rw [show (w.alloc (.cells (u8l (List.replicate (512 * n.toNat) 0) ++ ([] : List Value)).toArray 5)).heap.size = w.heap.size + 1 by simp] at hs
  refine ⟨w.heap.size + 1, w.heap.size, rfl, by omega, Nat.le_refl _, ((Only.refl _ _).alloc _).alloc _, ⟨by rw [HN.out]; exact hs, hb.alloc _, by simp, by simp, by omega, by omega, U8.replicate _, ⟨by simp, .inl ⟨rfl, by simp⟩⟩, by simp, by simp, by simp⟩⟩

section
variable {w : World} {g pb pc : Nat} {pr : List Value} {pv : Value} {N : Nat} {plat : List Int} {ws : List WR} {left : Int} {stops : Bool} {rd wt fl : Int} (h : IsR2 w g pb pc pr pv N plat ws left stops rd wt fl)
include h

theorem r2off_is : Calls Try.prog 90 #[.pointer (some ⟨g, 0, none⟩)] w fun e w' => e = .returned (.bool (stops && decide (left = 0))) ∧ Only [] w w' := by
  obtain ⟨A, cap, h2⟩ := h.ref2
  exact roff_is h2

/-- Without power nothing is done. -/
theorem rdoes_off (h1 : stops = true) (h2 : left = 0) : Calls Try.prog 79 #[.pointer (some ⟨g, 0, none⟩)] w fun e w' => e = .returned (.bool false) ∧ Only [] w w' := by
  have HO := hide (r2off_is h)
  subst h1 h2
  clear h
  go_enter Try.func79, Try.ntmps79
  go_wp2_with (go_at_call 90; refine HO.out.mono ?_; rintro e w' ⟨rfl, ho⟩; have HW := hide ho; clear ho)
  go_ret
  exact ⟨rfl, HW.out⟩

theorem rdoes_free (h1 : stops = false) : Calls Try.prog 79 #[.pointer (some ⟨g, 0, none⟩)] w fun e w' => e = .returned (.bool true) ∧ Only [] w w' := by
  have HO := hide ((r2off_is h).mono (R' := fun e w' => e = .returned (.bool (stops && decide (left = 0))) ∧ Only [] w w' ∧ w'.cell? ⟨g, 4, none⟩ = some (.bool stops)) (fun e w' ⟨a, b⟩ => ⟨a, b, (h.quiet b).c4⟩))
  subst h1
  clear h
  go_enter Try.func79, Try.ntmps79
  go_wp2_with (go_at_call 90; refine HO.out.mono ?_; rintro e w' ⟨rfl, ho, c4⟩; have HW := hide ho; clear ho)
  go_ret
  exact ⟨rfl, HW.out⟩

theorem rdoes_one (h1 : stops = true) (h2 : 0 < left) (hm : left ≤ 9223372036854775807) : Calls Try.prog 79 #[.pointer (some ⟨g, 0, none⟩)] w fun e w' => e = .returned (.bool true) ∧ Only [g] w w' ∧ IsR2 w' g pb pc pr pv N plat ws (left - 1) stops rd wt fl := by
  have HO := hide ((r2off_is h).mono (R' := fun e w' => e = .returned (.bool (stops && decide (left = 0))) ∧ Only [] w w' ∧ w'.cell? ⟨g, 4, none⟩ = some (.bool stops) ∧ w'.cell? ⟨g, 3, none⟩ = some (.int .i64 left) ∧ w'.frozen? ⟨g, 3, none⟩ = false) (fun e w' ⟨a, b⟩ => ⟨a, b, (h.quiet b).c4, (h.quiet b).c3, (h.quiet b).fr 3⟩))
  have HD := hide h
  subst h1
  rw [show (true && decide (left = 0)) = false by simp; omega] at HO
  clear h
  go_enter Try.func79, Try.ntmps79
  go_wp2_with (go_at_call 90; refine HO.out.mono ?_; rintro e w' ⟨rfl, ho, c4, c3, f3⟩; have HW := hide ho; clear ho)
  go_ret
  have h3 := HD.out.quiet HW.out
  have ho : Only [g] w' (w'.setCell ⟨g, 3, none⟩ (.int .i64 (left - 1))) := (Only.refl _ _).setCell _ (by simp)
  exact ⟨rfl, (HW.out.mono (by simp)).trans ho, h3.restr ho (h3.str.set_ 3 _)⟩

end
end Go.Proofs.Ytpajdnjbeplneaa