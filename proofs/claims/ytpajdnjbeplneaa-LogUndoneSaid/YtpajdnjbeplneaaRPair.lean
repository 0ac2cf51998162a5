/-
  The document's own disk as one packed fact: 'Rk w g N plat l left stops rd wt fl G'; its calls. The pair of both disks.
-/
import Derived.Test.YtpajdnjbeplneaaRCrash
import Derived.Test.YtpajdnjbeplneaaDiskDk
import Derived.Test.YtpajdnjbeplneaaLooks
namespace Go.Proofs.Ytpajdnjbeplneaa
open Go.ChangeShapes Go.WideShapes Go.ChangeAt Go.RowKit
set_option linter.unusedVariables false

def Rk (w : World) (g N : Nat) (plat : List Int) (l : List (Nat × List Int)) (left : Int) (stops : Bool) (rd wt fl : Int) (G : List Nat) : Prop :=
  ∃ pb pc pr pv ws, IsR2 w g pb pc pr pv N plat ws left stops rd wt fl ∧ ofW ws = l ∧ g ∈ G ∧ pb ∈ G ∧ (∀ k, pv.ownBlock = some k → k ∈ G) ∧ (∀ x ∈ ws, x.blk ∈ G) ∧ ∀ q ∈ G, q < w.heap.size

section
variable {w w' : World} {g N : Nat} {plat : List Int} {l : List (Nat × List Int)} {left : Int} {stops : Bool} {rd wt fl : Int} {G S : List Nat}
theorem Rk.only (h : Rk w g N plat l left stops rd wt fl G) (ho : Only S w w') (hs : ∀ q ∈ G, q ∉ S) : Rk w' g N plat l left stops rd wt fl G := by
  obtain ⟨pb, pc, pr, pv, ws, hd, h1, h2, h3, h4, h5, h6⟩ := h
  exact ⟨pb, pc, pr, pv, ws, hd.only ho (hs _ h2) (hs _ h3) (fun k hk => hs k (h4 k hk)) (fun x hx => hs _ (h5 x hx)), h1, h2, h3, h4, h5, fun q hq => Nat.lt_of_lt_of_le (h6 q hq) ho.size⟩
theorem Rk.quiet (h : Rk w g N plat l left stops rd wt fl G) (ho : Only [] w w') : Rk w' g N plat l left stops rd wt fl G := h.only ho (by simp)
theorem Rk.lt (h : Rk w g N plat l left stops rd wt fl G) : ∀ q ∈ G, q < w.heap.size := by
  obtain ⟨pb, pc, pr, pv, ws, hd, h1, h2, h3, h4, h5, h6⟩ := h
  exact h6

section
variable (h : Rk w g N plat l left stops rd wt fl G)
include h

theorem rk_read_bad (n : Int) (hn : n < 0 ∨ N ≤ n) : Calls Try.prog 63 #[.pointer (some ⟨g, 0, none⟩), .int .i64 n] w fun e w' => e = .returned (.tuple #[.slice none 0 0, .int .i64 20]) ∧ w = w' := by
  obtain ⟨pb, pc, pr, pv, ws, hd, _⟩ := h
  exact rread_bad hd n hn

theorem rk_read (n : Nat) (h1 : n < N) (hr0 : 0 ≤ rd) (hr1 : rd < 9223372036854775807) : Calls Try.prog 63 #[.pointer (some ⟨g, 0, none⟩), .int .i64 n] w fun e w' => ∃ v, e = .returned (.tuple #[v, .int .i64 0]) ∧ Fresh w' w.heap.size v (sect plat l n) ∧ Turned w w' G G ∧ Rk w' g N plat l left stops (rd + 1) wt fl G := by
  obtain ⟨pb, pc, pr, pv, ws, hd, e1, h2, h3, h4, h5, h6⟩ := h
  subst e1
  refine (rread_ok hd n h1 hr0 hr1).mono ?_
  rintro e w' ⟨v, he, hf, ho, hd'⟩
  exact ⟨v, he, hf, .same (ho.mono (by intro k _ hk; simp at hk; subst hk; exact h2)), pb, pc, pr, pv, ws, hd', rfl, h2, h3, h4, h5, fun q hq => Nat.lt_of_lt_of_le (h6 q hq) ho.size⟩

theorem rk_write_sector (n : Int) (A : Option Addr) (m c : Nat) (hn : n < 0 ∨ N ≤ n) : Calls Try.prog 59 #[.pointer (some ⟨g, 0, none⟩), .int .i64 n, .slice A m c] w fun e w' => e = .returned (.int .i64 20) ∧ w = w' := by
  obtain ⟨pb, pc, pr, pv, ws, hd, _⟩ := h
  exact rwrite_sector hd n A m c hn
theorem rk_write_len (n : Int) (A : Option Addr) (m c : Nat) (h0 : 0 ≤ n) (h1 : n < N) (hm : m ≠ 512) : Calls Try.prog 59 #[.pointer (some ⟨g, 0, none⟩), .int .i64 n, .slice A m c] w fun e w' => e = .returned (.int .i64 1) ∧ w = w' := by
  obtain ⟨pb, pc, pr, pv, ws, hd, _⟩ := h
  exact rwrite_len hd n A m c h0 h1 hm
theorem rk_write_off (n : Int) (A : Option Addr) (c : Nat) (h0 : 0 ≤ n) (h1 : n < N) (hs : stops = true) (hl : left = 0) : Calls Try.prog 59 #[.pointer (some ⟨g, 0, none⟩), .int .i64 n, .slice A 512 c] w fun e w' => e = .returned (.int .i64 0) ∧ Only [] w w' := by
  obtain ⟨pb, pc, pr, pv, ws, hd, _⟩ := h
  exact rwrite_off hd n A c h0 h1 hs hl
theorem rk_write (n : Nat) (A : Option Addr) (c : Nat) (zs : List Int) (h1 : n < N) (hl : stops = true → 0 < left) (hm : left ≤ 9223372036854775807) (hs : Sees w A 512 zs) (hu : U8 zs) (hA : ∀ b, A = some b → b.block ∉ G) (hw0 : 0 ≤ wt) (hw1 : wt < 9223372036854775807) (hf : l.length < 4398046511000) :
    Calls Try.prog 59 #[.pointer (some ⟨g, 0, none⟩), .int .i64 n, .slice A 512 c] w fun e w' => ∃ G', e = .returned (.int .i64 0) ∧ Turned w w' G G' ∧ Rk w' g N plat (l ++ [(n, zs)]) (if stops then left - 1 else left) stops rd (wt + 1) fl G' := by
  obtain ⟨pb, pc, pr, pv, ws, hd, e1, h2, h3, h4, h5, h6⟩ := h
  subst e1
  rw [ofW_length] at hf
  refine (rwrite_do hd n A c zs h1 hl hm hs hu (fun b hb e => hA b hb (e ▸ h2)) hw0 hw1 hf).mono ?_
  rintro e w' ⟨he, pv', x, ho, hv, hx, e1, e2, hd'⟩
  refine ⟨g :: pb :: (pv'.ownBlock.toList ++ (ws ++ [x]).map WR.blk), he, ⟨ho.mono (by intro k _ hk; simp at hk; subst hk; exact h2), fun q hq => ?_⟩, pb, pc, pr, pv', ws ++ [x], hd', by rw [ofW_snoc, e1, e2], by simp, by simp, fun k hk => by simp [hk], fun y hy => ?_, fun q hq => ?_⟩
  · simp only [List.mem_cons, List.mem_append, List.map_append, List.mem_map, List.map_cons, List.map_nil, List.not_mem_nil, or_false, Option.mem_toList] at hq
    rcases hq with rfl | rfl | hq | ⟨y, hy, rfl⟩ | rfl
    · exact .inl h2
    · exact .inl h3
    · exact .inr (hv q hq)
    · exact .inl (h5 y hy)
    · exact .inr hx
  · simp only [List.mem_cons, List.mem_append, List.mem_map]
    exact .inr (.inr (.inr ⟨y, by simpa using hy, rfl⟩))
  · simp only [List.mem_cons, List.mem_append, List.mem_map, Option.mem_toList] at hq
    rcases hq with rfl | rfl | hq | ⟨y, hy, rfl⟩
    · exact hd'.str.lt
    · exact hd'.row.lt
    · rcases hd'.own.2 with ⟨e, _⟩ | ⟨b, cp, cur, e, _, hg, _⟩
      · rw [e] at hq; cases hq
      · rw [e] at hq
        simp only [Value.ownBlock, Option.some.injEq] at hq
        subst hq
        exact Blk.lt (t := 112) hg
    · exact (hd'.wok y (by simpa using hy)).row.lt

theorem rk_flush_off (hs : stops = true) (hl : left = 0) : Calls Try.prog 60 #[.pointer (some ⟨g, 0, none⟩)] w fun e w' => e = .returned (.int .i64 0) ∧ Only [] w w' := by
  obtain ⟨pb, pc, pr, pv, ws, hd, _⟩ := h
  exact rflush_off hd hs hl
theorem rk_flush (hl : stops = true → 0 < left) (hm : left ≤ 9223372036854775807) (hf0 : 0 ≤ fl) (hf1 : fl < 9223372036854775807) :
    Calls Try.prog 60 #[.pointer (some ⟨g, 0, none⟩)] w fun e w' => e = .returned (.int .i64 l.length) ∧ Turned w w' G G ∧ Rk w' g N (layAll plat l) [] (if stops then left - 1 else left) stops rd wt (fl + 1) G := by
  obtain ⟨pb, pc, pr, pv, ws, hd, e1, h2, h3, h4, h5, h6⟩ := h
  subst e1
  refine (rflush_do hd hl hm hf0 hf1).mono ?_
  rintro e w' ⟨he, ho, hd'⟩
  refine ⟨by rw [he, ofW_length], .same (ho.mono (by intro k _ hk; simp at hk; rcases hk with rfl | rfl; exact h2; exact h3)), pb, pc, pr, _, [], hd', rfl, h2, h3, by simp [Value.ownBlock], by simp, fun q hq => Nat.lt_of_lt_of_le (h6 q hq) ho.size⟩





end
end

theorem rk_new (n : Int) (w : World) (h1 : 1 ≤ n) (h2 : n ≤ 4096) : Calls Try.prog 28 #[.int .i64 n] w fun e w' => ∃ g G, e = .returned (.tuple #[.pointer (some ⟨g, 0, none⟩), .int .i64 0]) ∧ Only [] w w' ∧ (∀ q ∈ G, w.heap.size ≤ q) ∧ Rk w' g n.toNat (List.replicate (512 * n.toNat) 0) [] 0 false 0 0 0 G := by
  refine (rnew_ok n w h1 h2).mono ?_
  rintro e w' ⟨g, pb, he, hg, hp, ho, hd⟩
  refine ⟨g, [g, pb], he, ho, by simp [hg, hp], pb, _, _, _, [], hd, rfl, by simp, by simp, by simp [Value.ownBlock], by simp, ?_⟩
  intro q hq
  simp at hq
  rcases hq with rfl | rfl
  · exact hd.str.lt
  · exact hd.row.lt
end Go.Proofs.Ytpajdnjbeplneaa
