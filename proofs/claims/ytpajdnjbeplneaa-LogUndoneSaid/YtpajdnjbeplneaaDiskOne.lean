/-
  A disk as one packed fact: 'One w g N plat l left k F': the disk at g holds the platter plat and the pending writes l; its blocks lie in F; at most k writes and flushes were done.
-/
import Derived.Test.YtpajdnjbeplneaaDiskSee
import Derived.Test.YtpajdnjbeplneaaRead
namespace Go.Proofs.Ytpajdnjbeplneaa
open Go.ChangeShapes Go.WideShapes Go.ChangeAt Go.RowKit
set_option linter.unusedVariables false

def One (w : World) (g N : Nat) (plat : List Int) (l : List (Nat × List Int)) (left : Int) (k : Nat) (F : List Nat) : Prop :=
  ∃ pb pc mb pr pv D ws rd wt fl, IsDisk w g pb pc mb pr pv D N plat ws left rd wt fl ∧ ofW ws = l ∧ (0 ≤ wt ∧ wt ≤ k) ∧ (0 ≤ fl ∧ fl ≤ k) ∧ ws.length ≤ k ∧ (∀ x ∈ ws, x.blk ≠ pb) ∧
    (∀ q ∈ foot g pb mb pv, q ∈ F) ∧ (∀ x ∈ ws, x.blk ∈ F) ∧ ∀ q ∈ F, q < w.heap.size

theorem One.only {w w' : World} {g N : Nat} {plat : List Int} {l : List (Nat × List Int)} {left : Int} {k : Nat} {F S : List Nat} (h : One w g N plat l left k F) (ho : Only S w w') (hs : ∀ q ∈ F, q ∉ S) : One w' g N plat l left k F := by
  obtain ⟨pb, pc, mb, pr, pv, D, ws, rd, wt, fl, hd, h1, h2, h3, h4, h5, h6, h7, h8⟩ := h
  exact ⟨pb, pc, mb, pr, pv, D, ws, rd, wt, fl, hd.only ho (fun q hq => hs q (h6 q hq)) (fun x hx => hs _ (h7 x hx)), h1, h2, h3, h4, h5, h6, h7, fun q hq => Nat.lt_of_lt_of_le (h8 q hq) ho.size⟩
theorem One.more {w : World} {g N : Nat} {plat : List Int} {l : List (Nat × List Int)} {left : Int} {k k' : Nat} {F : List Nat} (h : One w g N plat l left k F) (hk : k ≤ k') : One w g N plat l left k' F := by
  obtain ⟨pb, pc, mb, pr, pv, D, ws, rd, wt, fl, hd, h1, h2, h3, h4, h5, h6, h7, h8⟩ := h
  exact ⟨pb, pc, mb, pr, pv, D, ws, rd, wt, fl, hd, h1, ⟨h2.1, by omega⟩, ⟨h3.1, by omega⟩, by omega, h5, h6, h7, h8⟩

/-- A call on a disk has turned only its own blocks; those that it has now are its own or new. -/
def Turned (w w' : World) (F F' : List Nat) : Prop := Only F w w' ∧ ∀ q ∈ F', q ∈ F ∨ w.heap.size ≤ q
theorem Turned.same {w w' : World} {F : List Nat} (h : Only F w w') : Turned w w' F F := ⟨h, fun q hq => .inl hq⟩
theorem Turned.apart {w w' : World} {F F' G : List Nat} (h : Turned w w' F F') (hG : ∀ q ∈ G, q < w.heap.size) (hd : ∀ q ∈ G, q ∉ F) : ∀ q ∈ G, q ∉ F' := fun q hq hf => by
  rcases h.2 q hf with h' | h'
  · exact hd q hq h'
  · exact absurd (hG q hq) (by omega)

theorem One.lt {w : World} {g N : Nat} {plat : List Int} {l : List (Nat × List Int)} {left : Int} {k : Nat} {F : List Nat} (h : One w g N plat l left k F) : ∀ q ∈ F, q < w.heap.size := by
  obtain ⟨pb, pc, mb, pr, pv, D, ws, rd, wt, fl, hd, h1, h2, h3, h4, h5, h6, h7, h8⟩ := h
  exact h8

theorem ofW_length (ws : List WR) : (ofW ws).length = ws.length := by simp [ofW]
theorem ofW_snoc (ws : List WR) (x : WR) : ofW (ws ++ [x]) = ofW ws ++ [(x.sec, x.data)] := by simp [ofW]

section
variable {w : World} {g N : Nat} {plat : List Int} {l : List (Nat × List Int)} {left : Int} {k : Nat} {F : List Nat} (h : One w g N plat l left k F)
include h

theorem one_write_sector (n : Int) (A : Option Addr) (m c : Nat) (hn : n < 0 ∨ N ≤ n) : Calls Try.prog 91 #[.pointer (some ⟨g, 0, none⟩), .int .i64 n, .slice A m c] w fun e w' => e = .returned (.int .i64 20) ∧ w = w' := by
  obtain ⟨pb, pc, mb, pr, pv, D, ws, rd, wt, fl, hd, h1, h2, h3, h4, h5, h6, h7, h8⟩ := h
  exact dwrite_sector hd n A m c hn

theorem one_write_off (n : Int) (A : Option Addr) (c : Nat) (h0 : 0 ≤ n) (h1 : n < N) (hl : left = 0) : Calls Try.prog 91 #[.pointer (some ⟨g, 0, none⟩), .int .i64 n, .slice A 512 c] w fun e w' => e = .returned (.int .i64 0) ∧ w = w' := by
  obtain ⟨pb, pc, mb, pr, pv, D, ws, rd, wt, fl, hd, _⟩ := h
  exact dwrite_off hd n A c h0 h1 hl

theorem one_write_do (n : Nat) (d c : Nat) (zs : List Int) (h1 : n < N) (hl : left ≠ 0) (hm : left ≤ 9223372036854775807) (hz : zs.length = 512) (hu : U8 zs) (hb : Blk w d 5 (u8l zs).toArray) (hdF : d ∉ F) (hk : k < 4398046511000) :
    Calls Try.prog 91 #[.pointer (some ⟨g, 0, none⟩), .int .i64 n, .slice (some ⟨d, 0, none⟩) 512 c] w fun e w' => e = .returned (.int .i64 0) ∧ ∃ F', Turned w w' F F' ∧ One w' g N plat (l ++ [(n, zs)]) (lessv left) (k + 1) F' := by
  obtain ⟨pb, pc, mb, pr, pv, D, ws, rd, wt, fl, hd, e1, e2, e3, e4, e5, e6, e7, e8⟩ := h
  refine (dwrite_do hd n d 0 c zs h1 hl hm hz hu (fun i hi => blk_gb hb i (by omega)) hb.lt (fun e => hdF (e ▸ e6 g (by simp [foot]))) (fun e => hdF (e ▸ e6 mb (by simp [foot]))) e2.1 (by omega) (by omega)).mono ?_
  rintro e w' ⟨he, pv', D', x, ho, hpv, hxb, hxs, hxd, hd'⟩
  have hxl : x.blk < w'.heap.size := (hd'.wok x (by simp)).row.lt
  have hpl := hd'.str.lt
  refine ⟨he, x.blk :: (pv'.ownBlock.toList ++ F), ⟨ho.mono (fun q _ hq => e6 q hq), fun q hq => ?_⟩, pb, pc, mb, pr, pv', D', ws ++ [x], rd, wt + 1, fl, hd', ?_, ?_, ?_, ?_, ?_, ?_, ?_, ?_⟩
  · simp only [List.mem_cons, List.mem_append, Option.mem_toList] at hq
    rcases hq with rfl | hq | hq
    · exact .inr hxb
    · rcases hpv q hq with h | h
      · exact .inl (e6 q (by simp [foot, h]))
      · exact .inr h
    · exact .inl hq
  · rw [ofW_snoc, e1, hxs, hxd]
  · omega
  · omega
  · simp; omega
  · intro y hy
    rcases List.mem_append.1 hy with h | h
    · exact e5 y h
    · rw [List.mem_singleton.1 h]
      have := hd.row.lt
      omega
  · intro q hq
    simp only [foot, List.mem_cons] at hq
    simp only [List.mem_cons, List.mem_append, Option.mem_toList]
    rcases hq with rfl | rfl | rfl | hq
    · exact .inr (.inr (e6 _ (by simp [foot])))
    · exact .inr (.inr (e6 _ (by simp [foot])))
    · exact .inr (.inr (e6 _ (by simp [foot])))
    · revert hq
      cases pv'.ownBlock with
      | none => simp
      | some z => intro hq; simp at hq; exact .inr (.inl (by simp [hq]))
  · intro y hy
    rcases List.mem_append.1 hy with h | h
    · simp [e7 y h]
    · rw [List.mem_singleton.1 h]; simp
  · intro q hq
    simp only [List.mem_cons, List.mem_append, Option.mem_toList] at hq
    rcases hq with rfl | hq | hq
    · exact hxl
    · exact (pv_ne hd' hq).2.2.2.1
    · exact Nat.lt_of_lt_of_le (e8 q hq) ho.size

theorem one_flush_off (hl : left = 0) : Calls Try.prog 84 #[.pointer (some ⟨g, 0, none⟩)] w fun e w' => e = .returned (.int .i64 0) ∧ w = w' := by
  obtain ⟨pb, pc, mb, pr, pv, D, ws, rd, wt, fl, hd, _⟩ := h
  exact dflush_off hd hl

theorem one_flush_do (hl : left ≠ 0) (hm : left ≤ 9223372036854775807) (hk : k < 4398046511000) :
    Calls Try.prog 84 #[.pointer (some ⟨g, 0, none⟩)] w fun e w' => e = .returned (.int .i64 l.length) ∧ Turned w w' F F ∧ One w' g N (layAll plat l) [] (lessv left) (k + 1) F := by
  obtain ⟨pb, pc, mb, pr, pv, D, ws, rd, wt, fl, hd, e1, e2, e3, e4, e5, e6, e7, e8⟩ := h
  refine (dflush_do hd hl hm e3.1 (by omega) e5).mono ?_
  rintro e w' ⟨he, ho, hd'⟩
  have hF : ∀ q ∈ [g, pb, mb], q ∈ F := fun q hq => e6 q (by simp only [foot, List.mem_cons, List.not_mem_nil, or_false] at hq ⊢; rcases hq with h | h | h <;> simp [h])
  refine ⟨by rw [he, ← e1, ofW_length], Turned.same (ho.mono fun q _ hq => hF q hq), pb, pc, mb, pr, .slice none 0 0, .map [], [], rd, wt, fl + 1, e1 ▸ hd', rfl, by omega, by omega, by simp, by simp, fun q hq => hF q (by simpa [foot, Value.ownBlock] using hq), by simp, fun q hq => Nat.lt_of_lt_of_le (e8 q hq) ho.size⟩





theorem one_pending : Calls Try.prog 40 #[.pointer (some ⟨g, 0, none⟩)] w fun e w' => ∃ d, e = .returned (.slice (some ⟨d, 0, none⟩) l.length l.length) ∧ IntsS w' (some ⟨d, 0, none⟩) l.length (l.map fun x => (x.1 : Int)) ∧ Only [] w w' := by
  obtain ⟨pb, pc, mb, pr, pv, D, ws, rd, wt, fl, hd, e1, _⟩ := h
  refine (dpending_is hd).mono ?_
  rintro e w' ⟨d, he, _, hi, ho⟩
  subst e1
  refine ⟨d, by rw [he, ofW_length], ?_, ho⟩
  rw [ofW_length]
  have he : (ofW ws).map (fun x => (x.1 : Int)) = ws.map fun x => (x.sec : Int) := by simp [ofW, Function.comp_def]
  rw [he]
  exact hi.s

theorem one_image : Calls Try.prog 42 #[.pointer (some ⟨g, 0, none⟩)] w fun e w' => ∃ v, e = .returned v ∧ Fresh w' w.heap.size v plat ∧ Only [] w w' := by
  obtain ⟨pb, pc, mb, pr, pv, D, ws, rd, wt, fl, hd, _⟩ := h
  exact dimage_is hd

theorem one_u8 : U8 plat ∧ plat.length = 512 * N ∧ 1 ≤ N ∧ N ≤ 4096 := by
  obtain ⟨pb, pc, mb, pr, pv, D, ws, rd, wt, fl, hd, _⟩ := h
  exact ⟨hd.u8, hd.len, hd.pos, hd.big⟩

end

/-- A new disk, packed. -/
theorem one_new (n : Int) (w : World) (h1 : 1 ≤ n) (h2 : n ≤ 4096) : Calls Try.prog 27 #[.int .i64 n] w fun e w' => ∃ g F, e = .returned (.tuple #[.pointer (some ⟨g, 0, none⟩), .int .i64 0]) ∧ Only [] w w' ∧ (∀ q ∈ F, w.heap.size ≤ q) ∧ One w' g n.toNat (List.replicate (512 * n.toNat) 0) [] (-1) 0 F := by
  refine (dnew_ok n w h1 h2).mono ?_
  rintro e w' ⟨g, pb, pc, mb, pr, he, hg, hpb, hmb, ho, hd⟩
  refine ⟨g, [g, pb, mb], he, ho, ?_, pb, pc, mb, pr, _, _, [], 0, 0, 0, hd, rfl, by omega, by omega, by simp, by simp, by simp [foot, Value.ownBlock], by simp, ?_⟩
  · intro q hq
    simp only [List.mem_cons, List.not_mem_nil, or_false] at hq
    omega
  · intro q hq
    have h1 := hd.str.lt
    have h2 := hd.row.lt
    have h3 := (mb_ne hd).2.2.1
    simp only [List.mem_cons, List.not_mem_nil, or_false] at hq
    omega
end Go.Proofs.Ytpajdnjbeplneaa
