/-
  Buffers (parapet/buf): 'Bu w g gd N room plat l L k F': a cache at g of the disk at gd holds the blocks L, in order; its blocks lie in F. Read.
-/
import Derived.Test.YtenpifamklnkmaaBuPack
namespace Go.Proofs.Ytenpifamklnkmaa
open Go.ChangeShapes Go.WideShapes Go.ChangeAt Go.RowKit Go.Maps
set_option linter.unusedVariables false

def Bu (w : World) (g gd N room : Nat) (plat : List Int) (l : List (Nat × List Int)) (L : List VB) (k : Nat) (F : List Nat) : Prop :=
  ∃ m v LL hi mi ev wr rd wt fl FD, BuI w g m gd N room v LL hi mi ev wr plat l rd wt fl k FD ∧ LL.map BK.v = L ∧ (∀ q, q ∈ footB g m v ∨ q ∈ FD ∨ (∃ x ∈ LL, x.b = q) → q ∈ F) ∧ ∀ q ∈ F, q < w.heap.size

section
variable {w w' w1 : World} {g m gd N room : Nat} {v v' : Value} {LL LL' : List BK} {hi mi ev wr : Int} {plat : List Int} {l : List (Nat × List Int)} {rd wt fl : Int} {k k' : Nat} {FD F S : List Nat} {L : List VB}
theorem Bu.mk2 (h : BuI w' g m gd N room v' LL' hi mi ev wr plat l rd wt fl k FD) (ho : Only F w w') (h1 : ∀ q ∈ footB g m v', q ∈ F ∨ w.heap.size ≤ q) (h2 : ∀ q ∈ FD, q ∈ F ∨ w.heap.size ≤ q) (h3 : ∀ x ∈ LL', x.b ∈ F ∨ w.heap.size ≤ x.b) :
    ∃ F', Turned w w' F F' ∧ Bu w' g gd N room plat l (LL'.map BK.v) k F' := by
  refine ⟨footB g m v' ++ FD ++ LL'.map (·.b), ⟨ho, fun q hq => ?_⟩, m, v', LL', hi, mi, ev, wr, rd, wt, fl, FD, h, rfl, fun q hq => ?_, fun q hq => ?_⟩
  · simp only [List.mem_append, List.mem_map] at hq
    rcases hq with (hq | hq) | ⟨x, hx, rfl⟩
    · exact h1 q hq
    · exact h2 q hq
    · exact h3 x hx
  · simp only [List.mem_append, List.mem_map]
    rcases hq with hq | hq | ⟨x, hx, rfl⟩
    · exact .inl (.inl hq)
    · exact .inl (.inr hq)
    · exact .inr ⟨x, hx, rfl⟩
  · simp only [List.mem_append, List.mem_map] at hq
    rcases hq with (hq | hq) | ⟨x, hx, rfl⟩
    · exact h.is.foot_lt hq
    · exact h.dk.lt q hq
    · exact (h.ok x hx).row.lt
theorem Bu.only (h : Bu w g gd N room plat l L k F) (ho : Only S w w') (hs : ∀ q ∈ F, q ∉ S) : Bu w' g gd N room plat l L k F := by
  obtain ⟨m, v, LL, hi, mi, ev, wr, rd, wt, fl, FD, h1, h2, h3, h4⟩ := h
  exact ⟨m, v, LL, hi, mi, ev, wr, rd, wt, fl, FD, h1.other ho (fun q hq => hs q (h3 q (.inl hq))) (fun q hq => hs q (h3 q (.inr (.inl hq)))) (fun x hx => hs _ (h3 _ (.inr (.inr ⟨x, hx, rfl⟩)))), h2, h3, fun q hq => Nat.lt_of_lt_of_le (h4 q hq) ho.size⟩
theorem Bu.quiet (h : Bu w g gd N room plat l L k F) (ho : Only [] w w') : Bu w' g gd N room plat l L k F := h.only ho (by simp)
theorem Bu.more (h : Bu w g gd N room plat l L k F) (hk : k ≤ k') : Bu w g gd N room plat l L k' F := by
  obtain ⟨m, v, LL, hi, mi, ev, wr, rd, wt, fl, FD, h1, h2, h3, h4⟩ := h
  exact ⟨m, v, LL, hi, mi, ev, wr, rd, wt, fl, FD, h1.more hk, h2, h3, h4⟩
theorem Bu.lt (h : Bu w g gd N room plat l L k F) : ∀ q ∈ F, q < w.heap.size := by
  obtain ⟨m, v, LL, hi, mi, ev, wr, rd, wt, fl, FD, h1, h2, h3, h4⟩ := h
  exact h4
theorem Turned.quiet {F' : List Nat} (h : Turned w w1 F F') (ho : Only [] w1 w') : Turned w w' F F' := ⟨h.1.trans (ho.mono (by simp)), h.2⟩
theorem keep_end {y : BK} (h0 : BuI w g m gd N room v LL hi mi ev wr plat l rd wt fl k FD) {w2 : World} {hi' mi' rd' : Int} {k0 : Nat} (hF : ∀ q, q ∈ footB g m v ∨ q ∈ FD ∨ (∃ x ∈ LL, x.b = q) → q ∈ F) (h2 : Only F w w2) (hy : y ∈ LL ∨ w.heap.size ≤ y.b) (h : KeepF w2 w' g m gd N room v LL hi' mi' ev wr plat l rd' wt fl k0 FD y) :
    ∃ F', Turned w w' F F' ∧ Bu w' g gd N room plat l (putV room (LL.map BK.v) y.v) k0 F' := by
  obtain ⟨v', L', ev', hB, hL, hyL, hsub, hD⟩ := h
  rw [← hL]
  refine Bu.mk2 hB (h2.trans' hD.1 (fun q _ hm => hF q (.inl hm))) (fun q hq => ?_) (fun q hq => .inl (hF q (.inr (.inl hq)))) (fun x hx => ?_)
  · rcases mem_footB.1 hq with rfl | rfl | e
    · exact .inl (hF _ (.inl (mem_footB.2 (.inl rfl))))
    · exact .inl (hF _ (.inl (mem_footB.2 (.inr (.inl rfl)))))
    · rcases hD.2 q e with e | e
      · exact .inl (hF _ (.inl (mem_footB.2 (.inr (.inr e)))))
      · exact .inr (Nat.le_trans h2.size e)
  · rcases hsub x hx with h1 | rfl
    · exact .inl (hF _ (.inr (.inr ⟨x, h1, rfl⟩)))
    · rcases hy with h1 | h1
      · exact .inl (hF _ (.inr (.inr ⟨x, h1, rfl⟩)))
      · exact .inr h1
/-- What a read leaves: the bytes zs, and y stands last. -/
def ReadF (w w' : World) (e : Ending) (g gd N room : Nat) (plat : List Int) (l : List (Nat × List Int)) (L' : List VB) (k : Nat) (F : List Nat) (zs : List Int) : Prop :=
  ∃ vd B F', e = .returned (.tuple #[vd, .int .i64 0]) ∧ Fresh w' B vd zs ∧ w.heap.size ≤ B ∧ (∀ q ∈ F', q < B) ∧ Turned w w' F F' ∧ Bu w' g gd N room plat l L' k F'
theorem clone_bk {x : BK} {W : World} (hx : x.ok W N FD) : Calls Try.prog 28 #[.slice (some ⟨x.b, 0, none⟩) 512 (512 + x.r.length)] W fun e w' => ∃ v', e = .returned v' ∧ Fresh w' W.heap.size v' x.d ∧ Only [] W w' :=
  clone_ok ⟨x.b, 0, none⟩ 512 (512 + x.r.length) x.d W hx.len (by omega) (fun j hj => by
    rw [add_at, Nat.zero_add, hx.row.cell]
    exact u8l_get _ _ j (by rw [hx.len]; exact hj))
set_option maxRecDepth 100000 in
set_option maxHeartbeats 1500000 in
theorem read_kept (h : BuI w g m gd N room v LL hi mi ev wr plat l rd wt fl k FD) (hF : ∀ q, q ∈ footB g m v ∨ q ∈ FD ∨ (∃ x ∈ LL, x.b = q) → q ∈ F) (hk : k < 4611686018427387000) {x : BK} (hx : x ∈ LL) :
    Calls Try.prog 10 #[.pointer (some ⟨g, 0, none⟩), .int .i64 x.n] w fun e w' => ReadF w w' e g gd N room plat l (putV room (LL.map BK.v) x.v) (k + 1) F x.d := by
  have HC := hide (buclosed_is h.is)
  have c2 := h.is.c2
  obtain ⟨D, k1, k2⟩ := h.is.own
  have hl : (Instr.lookup 53 (.map (some m)) (.int .i64 x.n) true).run Try.prog w = .ok (.tuple #[.agg #[.slice (some ⟨x.b, 0, none⟩) 512 (512 + x.r.length), .bool x.y], .bool true]) w := lookB_ok k2 k1 (List.mem_map.2 ⟨x, hx, rfl⟩)
  have hA : Only [] w (w.alloc (.cells #[.slice (some ⟨x.b, 0, none⟩) 512 (512 + x.r.length), .bool x.y] 57)) := (Only.refl [] w).alloc _
  have hq := Blk.new w 57 #[.slice (some ⟨x.b, 0, none⟩) 512 (512 + x.r.length), .bool x.y]
  have h1 := h.quiet hA
  have hcn := h.cnt
  have c4 := h1.is.c4
  have f4 := h1.is.fr 4
  have ho : Only [g] (w.alloc (.cells #[.slice (some ⟨x.b, 0, none⟩) 512 (512 + x.r.length), .bool x.y] 57)) ((w.alloc (.cells #[.slice (some ⟨x.b, 0, none⟩) 512 (512 + x.r.length), .bool x.y] 57)).setCell ⟨g, 4, none⟩ (.int .i64 (hi + 1))) := (Only.refl _ _).setCell _ (by simp)
  have hgq : w.heap.size ≠ g := hq.ne_ h1.is.blk (by decide)
  have hI2 := h1.is.restr (hi' := hi + 1) ho (h1.is.blk.set_ 4 _)
  have hq2 := hq.only ho (by simpa using hgq)
  have h2 := h1.turn (k' := k + 1) (by omega) hI2 ⟨ho.mono (fun q _ hq => by simp at hq; exact mem_footB.2 (.inl hq)), fun q hq => .inl hq⟩ (fun z hz => (h1.ok z hz).only ho (by simpa using (h1.ok z hz).row.ne_ h1.is.blk (by decide))) h1.len (by omega)
  have q0 := hq.cell 0
  have q1 := hq.cell 1
  have q0' := hq2.cell 0
  have q1' := hq2.cell 1
  have hr : refV N room (LL.map BK.v) x.n = 0 := by
    unfold refV
    have := (h.ok x hx).rng
    rw [if_neg (by omega), if_pos (.inl (by rw [keys_v]; exact List.mem_map.2 ⟨x, hx, rfl⟩))]
  have HK := hide (show Calls Try.prog 27 #[.pointer (some ⟨g, 0, none⟩), .int .i64 x.n, .agg #[.slice (some ⟨x.b, 0, none⟩) 512 (512 + x.r.length), .bool x.y]] ((w.alloc (.cells #[.slice (some ⟨x.b, 0, none⟩) 512 (512 + x.r.length), .bool x.y] 57)).setCell ⟨g, 4, none⟩ (.int .i64 (hi + 1))) (fun e w' => e = .returned (.tuple #[]) ∧ w'.cell? ⟨w.heap.size, 0, none⟩ = some (.slice (some ⟨x.b, 0, none⟩) 512 (512 + x.r.length)) ∧ x.ok w' N FD ∧ w.heap.size ≤ w'.heap.size ∧
      ∃ F', Turned w w' F F' ∧ Bu w' g gd N room plat l (putV room (LL.map BK.v) x.v) (k + 1) F') from
    (pkeep h2 x (h2.ok x hx) hr (by omega) (by omega)).mono (fun e w' ⟨he, hKF⟩ => by
      have hD := hKF
      obtain ⟨v', L', ev', hB, hL, hyL, hsub, hD⟩ := hKF
      have hq3 := hq2.only hD.1 (fun e => by have := h.is.foot_lt e; omega)
      have o2 : Only F w ((w.alloc (.cells #[.slice (some ⟨x.b, 0, none⟩) 512 (512 + x.r.length), .bool x.y] 57)).setCell ⟨g, 4, none⟩ (.int .i64 (hi + 1))) := (hA.mono (by simp)).trans (ho.mono (fun q _ hq => by simp at hq; subst hq; exact hF _ (.inl (mem_footB.2 (.inl rfl)))))
      refine ⟨he, hq3.cell 0, hB.ok x hyL, Nat.le_trans o2.size hD.1.size, keep_end h hF o2 (.inl hx) ⟨v', L', ev', hB, hL, hyL, hsub, hD⟩⟩))
  clear h h1 h2 k1 k2 hA hq ho hI2 hq2 hx hF
  go_enter Try.func10, Try.ntmps10
  go_wp2_with (first | (go_at_call 25; refine HC.out.mono ?_; rintro e w' ⟨rfl, rfl⟩) | (go_at_call 27; refine HK.out.mono ?_; rintro e w2 ⟨rfl, z0, zok, zs, zF⟩; have HZ := hide zF; have HZS := hide zs; have HCL := hide (clone_bk zok); clear zok zF zs) | (go_at_call 28; refine HCL.out.mono ?_; rintro e w3 ⟨vd, rfl, hfr, hof⟩; have HFR := hide hfr; have HOF := hide hof; clear hfr hof))
  go_ret2
  obtain ⟨F', hT, hB⟩ := HZ.out
  exact ⟨vd, _, F', rfl, HFR.out, HZS.out, hB.lt, hT.quiet HOF.out, hB.quiet HOF.out⟩
end
end Go.Proofs.Ytenpifamklnkmaa
