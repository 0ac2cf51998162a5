/-
  The log (parapet/wlog): where a log lies, with its disk, its group and the one that an operation began with; the calls that only look.
-/
import Derived.Test.YtpajdnjbeplneaaLgGroup
import Derived.Test.YtpajdnjbeplneaaLgHead
import Derived.Test.YtpajdnjbeplneaaDiskDk
namespace Go.Proofs.Ytpajdnjbeplneaa
open Go.ChangeShapes Go.WideShapes Go.ChangeAt Go.RowKit Go.Maps
set_option linter.unusedVariables false

/-- What is kept of the group as it was when the operation began. -/
structure SG where
  h : Nat
  v : Value
  m : Nat
  L : List GB
def bfV : Option SG → Value
  | none => .pointer none
  | some s => .pointer (some ⟨s.h, 0, none⟩)
/-- Is a sector a block? -/
def blkB (N a sz : Nat) (n : Int) : Bool := decide (0 ≤ n ∧ n < N ∧ (n < a ∨ (a : Int) + sz ≤ n))
theorem blkB_yes {N a sz : Nat} {n : Int} : blkB N a sz n = true ↔ 0 ≤ n ∧ n < N ∧ (n < a ∨ (a : Int) + sz ≤ n) := by simp [blkB]
theorem blkB_no {N a sz : Nat} {n : Int} : blkB N a sz n = false ↔ ¬(0 ≤ n ∧ n < N ∧ (n < a ∨ (a : Int) + sz ≤ n)) := by simp [blkB]
/-- The blocks that turn. -/
def footL (g : Nat) (v : Value) (m : Nat) (S : Option SG) : List Nat := g :: m :: (v.ownBlock.toList ++ match S with | none => [] | some s => s.h :: s.m :: s.v.ownBlock.toList)
theorem mem_footL {g : Nat} {v : Value} {m : Nat} {S : Option SG} {q : Nat} : q ∈ footL g v m S ↔ q = g ∨ q = m ∨ v.ownBlock = some q ∨ ∃ s, S = some s ∧ (q = s.h ∨ q = s.m ∨ s.v.ownBlock = some q) := by
  unfold footL
  cases S with
  | none => simp
  | some s => simp
def bytesL (L : List GB) (S : Option SG) : List GB := L ++ match S with | none => [] | some s => s.L
theorem mem_bytesL {L : List GB} {S : Option SG} {x : GB} : x ∈ bytesL L S ↔ x ∈ L ∨ ∃ s, S = some s ∧ x ∈ s.L := by
  unfold bytesL
  cases S with
  | none => simp
  | some s => simp
structure OkG (N a sz : Nat) (L : List GB) : Prop where
  len : L.length + 1 ≤ sz
  num : ∀ x ∈ L, blkB N a sz x.n = true
structure LgI (w : World) (g gd N a sz : Nat) (gen : Int) (v : Value) (m : Nat) (L : List GB) (S : Option SG) (st nx : Int) (plat : List Int) (l : List (Nat × List Int)) (rd wt fl : Int) (k : Nat) (FD : List Nat) : Prop where
  blk : Blk w g 84 #[.pointer (some ⟨gd, 0, none⟩), .int .i64 a, .int .i64 sz, .int .u64 gen, v, .map (some m), bfV S, .int .i64 st, .int .i64 nx]
  gr : IsGr w v m L
  sv : ∀ s, S = some s → Blk w s.h 81 #[s.v, .map (some s.m)] ∧ IsGr w s.v s.m s.L ∧ s.m ≠ m ∧ (∀ q, s.v.ownBlock = some q → v.ownBlock ≠ some q)
  dk : Dk w gd N plat l (-1) rd wt fl k FD
  dis : ∀ q, q ∈ footL g v m S ∨ (∃ x ∈ bytesL L S, x.b = q) → q ∉ FD
  gen_ : 0 ≤ gen ∧ gen < 18446744073709551616
  rng : 2 ≤ sz ∧ sz ≤ 248 ∧ a + sz ≤ N
  ok : OkG N a sz L
  oks : ∀ s, S = some s → OkG N a sz s.L
section
variable {w w' : World} {g gd N a sz : Nat} {gen : Int} {v : Value} {m : Nat} {L : List GB} {S : Option SG} {st nx : Int} {plat : List Int} {l : List (Nat × List Int)} {rd wt fl : Int} {k k' : Nat} {FD T : List Nat}
section
variable (h : LgI w g gd N a sz gen v m L S st nx plat l rd wt fl k FD)
include h
theorem LgI.c0 : w.cell? ⟨g, 0, none⟩ = some (.pointer (some ⟨gd, 0, none⟩)) := h.blk.cell 0
theorem LgI.c1 : w.cell? ⟨g, 1, none⟩ = some (.int .i64 a) := h.blk.cell 1
theorem LgI.c2 : w.cell? ⟨g, 2, none⟩ = some (.int .i64 sz) := h.blk.cell 2
theorem LgI.c3 : w.cell? ⟨g, 3, none⟩ = some (.int .u64 gen) := h.blk.cell 3
theorem LgI.c4 : w.cell? ⟨g, 4, none⟩ = some v := h.blk.cell 4
theorem LgI.c5 : w.cell? ⟨g, 5, none⟩ = some (.map (some m)) := h.blk.cell 5
theorem LgI.c6 : w.cell? ⟨g, 6, none⟩ = some (bfV S) := h.blk.cell 6
theorem LgI.c7 : w.cell? ⟨g, 7, none⟩ = some (.int .i64 st) := h.blk.cell 7
theorem LgI.c8 : w.cell? ⟨g, 8, none⟩ = some (.int .i64 nx) := h.blk.cell 8
theorem LgI.fr (o : Nat) : w.frozen? ⟨g, o, none⟩ = false := h.blk.frozen o
theorem LgI.big : 1 ≤ N ∧ N ≤ 4096 := h.dk.platOk.2.2
theorem LgI.len : L.length ≤ 247 := by have := h.ok.len; have := h.rng; omega
theorem LgI.nums {x : Int} (hx : x ∈ nsG L) : 0 ≤ x ∧ x < N := by
  obtain ⟨y, hy, rfl⟩ := gr_find hx
  have := blkB_yes.1 (h.ok.num y hy)
  omega
theorem LgI.only (ho : Only T w w') (h1 : ∀ q ∈ footL g v m S, q ∉ T) (h2 : ∀ x ∈ bytesL L S, x.b ∉ T) (h3 : ∀ q ∈ FD, q ∉ T) : LgI w' g gd N a sz gen v m L S st nx plat l rd wt fl k FD := by
  refine ⟨h.blk.only ho (h1 _ (mem_footL.2 (.inl rfl))), h.gr.only ho (fun q hq => h1 _ (mem_footL.2 (.inr (.inr (.inl hq))))) (h1 _ (mem_footL.2 (.inr (.inl rfl)))) (fun x hx => h2 x (mem_bytesL.2 (.inl hx))), fun s hs => ?_, h.dk.only ho h3, h.dis, h.gen_, h.rng, h.ok, h.oks⟩
  obtain ⟨k1, k2, k3, k4⟩ := h.sv s hs
  exact ⟨k1.only ho (h1 _ (mem_footL.2 (.inr (.inr (.inr ⟨s, hs, .inl rfl⟩))))), k2.only ho (fun q hq => h1 _ (mem_footL.2 (.inr (.inr (.inr ⟨s, hs, .inr (.inr hq)⟩))))) (h1 _ (mem_footL.2 (.inr (.inr (.inr ⟨s, hs, .inr (.inl rfl)⟩))))) (fun x hx => h2 x (mem_bytesL.2 (.inr ⟨s, hs, hx⟩))), k3, k4⟩
theorem LgI.quiet (ho : Only [] w w') : LgI w' g gd N a sz gen v m L S st nx plat l rd wt fl k FD := h.only ho (by simp) (by simp) (by simp)
theorem LgI.more (hk : k ≤ k') : LgI w g gd N a sz gen v m L S st nx plat l rd wt fl k' FD := ⟨h.blk, h.gr, h.sv, h.dk.more hk, h.dis, h.gen_, h.rng, h.ok, h.oks⟩
theorem LgI.foot_lt {q : Nat} (hq : q ∈ footL g v m S) : q < w.heap.size := by
  rcases mem_footL.1 hq with rfl | rfl | e | ⟨s, hs, e⟩
  · exact h.blk.lt
  · exact h.gr.ltm
  · exact h.gr.ltv e
  · obtain ⟨k1, k2, _⟩ := h.sv s hs
    rcases e with rfl | rfl | e
    · exact k1.lt
    · exact k2.ltm
    · exact k2.ltv e
theorem LgI.byte_ok {x : GB} (hx : x ∈ bytesL L S) : x.ok w := by
  rcases mem_bytesL.1 hx with hx | ⟨s, hs, hx⟩
  · exact h.gr.ok x hx
  · exact (h.sv s hs).2.1.ok x hx
/-- A block of bytes is none that turns. -/
theorem LgI.u8_far {b : Nat} {cs : Array Value} (hb : Blk w b 5 cs) : b ∉ footL g v m S := fun hm => by
  rcases mem_footL.1 hm with e | e | e | ⟨s, hs, e⟩
  · exact hb.ne_ h.blk (by decide) e
  · exact h.gr.blk_m hb e
  · exact h.gr.blk_v hb (by decide) _ e rfl
  · obtain ⟨k1, k2, _⟩ := h.sv s hs
    rcases e with e | e | e
    · exact hb.ne_ k1 (by decide) e
    · exact k2.blk_m hb e
    · exact k2.blk_v hb (by decide) _ e rfl
theorem lgclosed_is : Calls Try.prog 43 #[.pointer (some ⟨g, 0, none⟩)] w fun e w' => e = .returned (.bool false) ∧ w = w' := by
  have c0 := h.c0
  clear h
  go_enter Try.func43, Try.ntmps43
  go_wp2
  go_ret
  exact ⟨rfl, rfl⟩
theorem lgrunning_is : Calls Try.prog 24 #[.pointer (some ⟨g, 0, none⟩)] w fun e w' => e = .returned (.bool (!decide (st = 0))) ∧ w = w' := by
  have HC := hide (lgclosed_is h)
  have c7 := h.c7
  clear h
  by_cases hs : st = 0
  · subst hs
    go_enter Try.func24, Try.ntmps24
    go_wp2_with (go_at_call 43; refine HC.out.mono ?_; rintro e w' ⟨rfl, rfl⟩)
    go_ret
    exact ⟨rfl, rfl⟩
  · have hd : decide (st = 0) = false := by simpa using hs
    go_enter Try.func24, Try.ntmps24
    go_wp2_with (go_at_call 43; refine HC.out.mono ?_; rintro e w' ⟨rfl, rfl⟩)
    go_ret
    exact ⟨by simp [hs], rfl⟩
theorem lggen_is : Calls Try.prog 25 #[.pointer (some ⟨g, 0, none⟩)] w fun e w' => e = .returned (.int .u64 gen) ∧ w = w' := by
  have HC := hide (lgclosed_is h)
  have c3 := h.c3
  clear h
  go_enter Try.func25, Try.ntmps25
  go_wp2_with (go_at_call 43; refine HC.out.mono ?_; rintro e w' ⟨rfl, rfl⟩)
  go_ret
  exact ⟨rfl, rfl⟩
theorem lgdisk_is : Calls Try.prog 26 #[.pointer (some ⟨g, 0, none⟩)] w fun e w' => e = .returned (.pointer (some ⟨gd, 0, none⟩)) ∧ w = w' := by
  have HC := hide (lgclosed_is h)
  have c0 := h.c0
  clear h
  go_enter Try.func26, Try.ntmps26
  go_wp2_with (go_at_call 43; refine HC.out.mono ?_; rintro e w' ⟨rfl, rfl⟩)
  go_ret
  exact ⟨rfl, rfl⟩
theorem lgdirty_is : Calls Try.prog 12 #[.pointer (some ⟨g, 0, none⟩)] w fun e w' => ∃ v', e = .returned v' ∧ IRow w' v' (nsG L) ∧ (∀ q, v'.ownBlock = some q → w.heap.size ≤ q) ∧ Only [] w w' := by
  have HC := hide (lgclosed_is h)
  have c4 := h.c4
  have HK := hide (cloneI_is h.gr.row (by rw [nsG_length]; have := h.len; omega))
  obtain ⟨A, c, rfl, _⟩ := h.gr.row.form2
  clear h
  go_enter Try.func12, Try.ntmps12
  go_wp2_with (first | (go_at_call 43; refine HC.out.mono ?_; rintro e w' ⟨rfl, rfl⟩) | (go_at_call 47; refine HK.out.mono ?_; rintro e w' ⟨v', rfl, hr, hb, ho⟩; have HR := hide hr; have HB := hide hb; have HO := hide ho; clear hr hb ho))
  go_ret
  exact ⟨_, rfl, HR.out, HB.out, HO.out⟩
set_option maxRecDepth 100000 in
theorem lgroom_is : Calls Try.prog 23 #[.pointer (some ⟨g, 0, none⟩)] w fun e w' => e = .returned (.int .i64 ((sz : Int) - 1 - L.length)) ∧ Only [] w w' := by
  have HC := hide (lgclosed_is h)
  have c2 := h.c2
  have c4 := h.c4
  have hlen := h.len
  have hrng := h.rng
  have e1 : IntKind.i64.wrap ((sz : Int) - 1) = (sz : Int) - 1 := IntWalk.i64_in _ (by omega)
  have e2 : IntKind.i64.wrap ((sz : Int) - 1 - (nsG L).length) = (sz : Int) - 1 - (nsG L).length := IntWalk.i64_in _ (by rw [nsG_length]; omega)
  have HN := hide (nsG_length L)
  obtain ⟨A, c, rfl, _⟩ := h.gr.row.form2
  clear h hrng
  go_enter Try.func23, Try.ntmps23
  go_wp2_with (go_at_call 43; refine HC.out.mono ?_; rintro e w' ⟨rfl, rfl⟩)
  go_quiet (fail)
  go_wp2
  go_ret
  exact ⟨by rw [HN.out]; rfl, (Only.refl _ _).drewN _⟩
end
end
set_option maxRecDepth 100000 in
theorem isBlock_yes (N a sz : Nat) (n : Int) (w : World) (ha : a + sz ≤ N) (hN : N ≤ 4096) (h : blkB N a sz n = true) : Calls Try.prog 66 #[.int .i64 n, .int .i64 a, .int .i64 sz, .int .i64 N] w fun e w' => e = .returned (.bool true) ∧ w = w' := by
  obtain ⟨h1, h2, h3⟩ := blkB_yes.1 h
  clear h
  by_cases h4 : n < a
  · go_enter Try.func66, Try.ntmps66
    go_wp2
    go_ret
    exact ⟨rfl, rfl⟩
  · have h5 : (a : Int) + sz ≤ n := by omega
    have h6 : (sz : Int) ≤ n - a := by omega
    go_enter Try.func66, Try.ntmps66
    go_wp2
    go_ret
    exact ⟨rfl, rfl⟩
set_option maxRecDepth 100000 in
theorem isBlock_no (N a sz : Nat) (n : Int) (w : World) (ha : a + sz ≤ N) (hN : N ≤ 4096) (h : blkB N a sz n = false) : Calls Try.prog 66 #[.int .i64 n, .int .i64 a, .int .i64 sz, .int .i64 N] w fun e w' => e = .returned (.bool false) ∧ w = w' := by
  have h0 := blkB_no.1 h
  clear h
  by_cases h1 : n < 0
  · clear h0
    go_enter Try.func66, Try.ntmps66
    go_wp2
    go_ret
    exact ⟨rfl, rfl⟩
  · by_cases h2 : (N : Int) ≤ n
    · clear h0
      go_enter Try.func66, Try.ntmps66
      go_wp2
      go_ret
      exact ⟨rfl, rfl⟩
    · have h4 : (a : Int) ≤ n := by omega
      have h5 : decide ((sz : Int) ≤ n - a) = false := by simp; omega
      have h6 : decide (n < (a : Int)) = false := by simp; omega
      clear h0
      go_enter Try.func66, Try.ntmps66
      go_wp2
      go_ret
      exact ⟨rfl, rfl⟩
end Go.Proofs.Ytpajdnjbeplneaa
