/-
  A disk as one packed fact with its counts in sight: 'Dk w g N plat l left rd wt fl k F': the disk at g holds the platter plat and the pending writes l; rd, wt, fl are its counts; its blocks lie in F; at most k calls were done. What a sector says is 'sect plat l n': how writes, flushes and crashes turn it.
-/
import Derived.Test.YtokdpldmoflnkaaMg08
import Derived.Deep.RegionHeld3
namespace Go.Proofs.Ytokdpldmoflnkaa
open Go.ChangeShapes Go.WideShapes Go.ChangeAt Go.RowKit
set_option linter.unusedVariables false

def Dk (w : World) (g N : Nat) (plat : List Int) (l : List (Nat × List Int)) (left rd wt fl : Int) (k : Nat) (F : List Nat) : Prop :=
  ∃ pb pc mb pr pv D ws, IsDisk w g pb pc mb pr pv D N plat ws left rd wt fl ∧ ofW ws = l ∧ (0 ≤ rd ∧ rd ≤ k) ∧ (0 ≤ wt ∧ wt ≤ k) ∧ (0 ≤ fl ∧ fl ≤ k) ∧ ws.length ≤ k ∧ (∀ x ∈ ws, x.blk ≠ pb) ∧
    (∀ q ∈ foot g pb mb pv, q ∈ F) ∧ (∀ x ∈ ws, x.blk ∈ F) ∧ ∀ q ∈ F, q < w.heap.size

section
variable {w w' : World} {g N : Nat} {plat : List Int} {l : List (Nat × List Int)} {left rd wt fl : Int} {k k' : Nat} {F S : List Nat}
theorem Dk.only (h : Dk w g N plat l left rd wt fl k F) (ho : Only S w w') (hs : ∀ q ∈ F, q ∉ S) : Dk w' g N plat l left rd wt fl k F := by
  obtain ⟨pb, pc, mb, pr, pv, D, ws, hd, h1, h0, h2, h3, h4, h5, h6, h7, h8⟩ := h
  exact ⟨pb, pc, mb, pr, pv, D, ws, hd.only ho (fun q hq => hs q (h6 q hq)) (fun x hx => hs _ (h7 x hx)), h1, h0, h2, h3, h4, h5, h6, h7, fun q hq => Nat.lt_of_lt_of_le (h8 q hq) ho.size⟩
theorem Dk.quiet (h : Dk w g N plat l left rd wt fl k F) (ho : Only [] w w') : Dk w' g N plat l left rd wt fl k F := h.only ho (by simp)
theorem Dk.more (h : Dk w g N plat l left rd wt fl k F) (hk : k ≤ k') : Dk w g N plat l left rd wt fl k' F := by
  obtain ⟨pb, pc, mb, pr, pv, D, ws, hd, h1, h0, h2, h3, h4, h5, h6, h7, h8⟩ := h
  exact ⟨pb, pc, mb, pr, pv, D, ws, hd, h1, ⟨h0.1, by omega⟩, ⟨h2.1, by omega⟩, ⟨h3.1, by omega⟩, by omega, h5, h6, h7, h8⟩
theorem Dk.lt (h : Dk w g N plat l left rd wt fl k F) : ∀ q ∈ F, q < w.heap.size := by
  obtain ⟨pb, pc, mb, pr, pv, D, ws, hd, h1, h0, h2, h3, h4, h5, h6, h7, h8⟩ := h
  exact h8
theorem Dk.gF (h : Dk w g N plat l left rd wt fl k F) : g ∈ F := by
  obtain ⟨pb, pc, mb, pr, pv, D, ws, hd, h1, h0, h2, h3, h4, h5, h6, h7, h8⟩ := h
  exact h6 g (by simp [foot])
theorem Dk.few (h : Dk w g N plat l left rd wt fl k F) : l.length ≤ k := by
  obtain ⟨pb, pc, mb, pr, pv, D, ws, hd, h1, h0, h2, h3, h4, h5, h6, h7, h8⟩ := h
  rw [← h1, ofW_length]
  exact h4
theorem Dk.platOk (h : Dk w g N plat l left rd wt fl k F) : U8 plat ∧ plat.length = 512 * N ∧ 1 ≤ N ∧ N ≤ 4096 := by
  obtain ⟨pb, pc, mb, pr, pv, D, ws, hd, _⟩ := h
  exact ⟨hd.u8, hd.len, hd.pos, hd.big⟩
theorem Dk.writes (h : Dk w g N plat l left rd wt fl k F) : ∀ p ∈ l, p.1 < N ∧ p.2.length = 512 ∧ U8 p.2 := by
  obtain ⟨pb, pc, mb, pr, pv, D, ws, hd, h1, _⟩ := h
  intro p hp
  rw [← h1] at hp
  obtain ⟨x, hx, rfl⟩ := List.mem_map.1 hp
  have := hd.wok x hx
  exact ⟨this.sec, this.len, this.u8⟩
theorem Dk.counts (h : Dk w g N plat l left rd wt fl k F) : (0 ≤ rd ∧ rd ≤ k) ∧ (0 ≤ wt ∧ wt ≤ k) ∧ (0 ≤ fl ∧ fl ≤ k) := by
  obtain ⟨pb, pc, mb, pr, pv, D, ws, hd, h1, h0, h2, h3, _⟩ := h
  exact ⟨h0, h2, h3⟩

section
variable (h : Dk w g N plat l left rd wt fl k F)
include h
theorem dk_closed : Calls Try.prog 62 #[.pointer (some ⟨g, 0, none⟩)] w fun e w' => e = .returned (.bool false) ∧ w = w' := by
  obtain ⟨pb, pc, mb, pr, pv, D, ws, hd, _⟩ := h
  exact dclosed_is hd

theorem dk_count : Calls Try.prog 65 #[.pointer (some ⟨g, 0, none⟩)] w fun e w' => e = .returned (.int .i64 N) ∧ w = w' := by
  obtain ⟨pb, pc, mb, pr, pv, D, ws, hd, _⟩ := h
  exact dcount_is hd





theorem dk_pending : Calls Try.prog 37 #[.pointer (some ⟨g, 0, none⟩)] w fun e w' => ∃ d, e = .returned (.slice (some ⟨d, 0, none⟩) l.length l.length) ∧ w.heap.size ≤ d ∧ IntsAt w' d l.length (l.map fun x => (x.1 : Int)) ∧ Only [] w w' := by
  obtain ⟨pb, pc, mb, pr, pv, D, ws, hd, e1, _⟩ := h
  refine (dpending_is hd).mono ?_
  rintro e w' ⟨d, he, hd', hi, ho⟩
  subst e1
  refine ⟨d, by rw [he, ofW_length], hd', ?_, ho⟩
  rw [ofW_length]
  have he : (ofW ws).map (fun x => (x.1 : Int)) = ws.map fun x => (x.sec : Int) := by simp [ofW, Function.comp_def]
  rw [he]
  exact hi

theorem dk_image : Calls Try.prog 39 #[.pointer (some ⟨g, 0, none⟩)] w fun e w' => ∃ v, e = .returned v ∧ Fresh w' w.heap.size v plat ∧ Only [] w w' := by
  obtain ⟨pb, pc, mb, pr, pv, D, ws, hd, _⟩ := h
  exact dimage_is hd

theorem dk_read_bad (n : Int) (hn : n < 0 ∨ N ≤ n) : Calls Try.prog 41 #[.pointer (some ⟨g, 0, none⟩), .int .i64 n] w fun e w' => e = .returned (.tuple #[.slice none 0 0, .int .i64 20]) ∧ w = w' := by
  obtain ⟨pb, pc, mb, pr, pv, D, ws, hd, _⟩ := h
  exact dread_bad hd n hn

theorem dk_read (n : Nat) (h1 : n < N) (hk : k < 4611686018427387904) : Calls Try.prog 41 #[.pointer (some ⟨g, 0, none⟩), .int .i64 n] w fun e w' => ∃ v, e = .returned (.tuple #[v, .int .i64 0]) ∧ Fresh w' w.heap.size v (sect plat l n) ∧ Turned w w' F F ∧ Dk w' g N plat l left (rd + 1) wt fl (k + 1) F := by
  obtain ⟨pb, pc, mb, pr, pv, D, ws, hd, e1, e0, e2, e3, e4, e5, e6, e7, e8⟩ := h
  refine (dread_ok hd n h1 e0.1 (by omega)).mono ?_
  rintro e w' ⟨v, he, hf, ho, hd'⟩
  subst e1
  exact ⟨v, he, hf, Turned.same (ho.mono fun q _ hq => by rw [List.mem_singleton.1 hq]; exact e6 g (by simp [foot])), pb, pc, mb, pr, pv, D, ws, hd', rfl, by omega, by omega, by omega, by omega, e5, e6, e7, fun q hq => Nat.lt_of_lt_of_le (e8 q hq) ho.size⟩

theorem dk_write_sector (n : Int) (A : Option Addr) (m c : Nat) (hn : n < 0 ∨ N ≤ n) : Calls Try.prog 88 #[.pointer (some ⟨g, 0, none⟩), .int .i64 n, .slice A m c] w fun e w' => e = .returned (.int .i64 20) ∧ w = w' := by
  obtain ⟨pb, pc, mb, pr, pv, D, ws, hd, _⟩ := h
  exact dwrite_sector hd n A m c hn

theorem dk_write_len (n : Int) (A : Option Addr) (m c : Nat) (h0 : 0 ≤ n) (h1 : n < N) (hm : m ≠ 512) : Calls Try.prog 88 #[.pointer (some ⟨g, 0, none⟩), .int .i64 n, .slice A m c] w fun e w' => e = .returned (.int .i64 1) ∧ w = w' := by
  obtain ⟨pb, pc, mb, pr, pv, D, ws, hd, _⟩ := h
  exact dwrite_len hd n A m c h0 h1 hm

theorem dk_write_off (n : Int) (A : Option Addr) (c : Nat) (h0 : 0 ≤ n) (h1 : n < N) (hl : left = 0) : Calls Try.prog 88 #[.pointer (some ⟨g, 0, none⟩), .int .i64 n, .slice A 512 c] w fun e w' => e = .returned (.int .i64 0) ∧ w = w' := by
  obtain ⟨pb, pc, mb, pr, pv, D, ws, hd, _⟩ := h
  exact dwrite_off hd n A c h0 h1 hl

theorem dk_write (n : Nat) (d o c : Nat) (zs : List Int) (h1 : n < N) (hl : left ≠ 0) (hm : left ≤ 9223372036854775807) (hz : zs.length = 512) (hu : U8 zs) (hb : ∀ i, i < 512 → w.cell? ⟨d, o + i, none⟩ = some (.int .u8 (gb zs i))) (hdl : d < w.heap.size) (hdF : d ∉ F) (hk : k < 4398046511000) :
    Calls Try.prog 88 #[.pointer (some ⟨g, 0, none⟩), .int .i64 n, .slice (some ⟨d, o, none⟩) 512 c] w fun e w' => e = .returned (.int .i64 0) ∧ ∃ F', Turned w w' F F' ∧ Dk w' g N plat (l ++ [(n, zs)]) (lessv left) rd (wt + 1) fl (k + 1) F' := by
  obtain ⟨pb, pc, mb, pr, pv, D, ws, hd, e1, e0, e2, e3, e4, e5, e6, e7, e8⟩ := h
  refine (dwrite_do hd n d o c zs h1 hl hm hz hu hb hdl (fun e => hdF (e ▸ e6 g (by simp [foot]))) (fun e => hdF (e ▸ e6 mb (by simp [foot]))) e2.1 (by omega) (by omega)).mono ?_
  rintro e w' ⟨he, pv', D', x, ho, hpv, hxb, hxs, hxd, hd'⟩
  have hxl : x.blk < w'.heap.size := (hd'.wok x (by simp)).row.lt
  refine ⟨he, x.blk :: (pv'.ownBlock.toList ++ F), ⟨ho.mono (fun q _ hq => e6 q hq), fun q hq => ?_⟩, pb, pc, mb, pr, pv', D', ws ++ [x], hd', ?_, ?_, ?_, ?_, ?_, ?_, ?_, ?_, ?_⟩
  · simp only [List.mem_cons, List.mem_append, Option.mem_toList] at hq
    rcases hq with rfl | hq | hq
    · exact .inr hxb
    · rcases hpv q hq with h | h
      · exact .inl (e6 q (by simp [foot, h]))
      · exact .inr h
    · exact .inl hq
  · rw [ofW_snoc, e1, hxs, hxd]
  · omega
  · omega
  · omega
  · simp; omega
  · intro y hy
    rcases List.mem_append.1 hy with h | h
    · exact e5 y h
    · rw [List.mem_singleton.1 h]
      have := hd.row.lt
      omega
  · intro q hq
    simp only [foot, List.mem_cons] at hq
    simp only [List.mem_cons, List.mem_append, Option.mem_toList]
    rcases hq with rfl | rfl | rfl | hq
    · exact .inr (.inr (e6 _ (by simp [foot])))
    · exact .inr (.inr (e6 _ (by simp [foot])))
    · exact .inr (.inr (e6 _ (by simp [foot])))
    · revert hq
      cases pv'.ownBlock with
      | none => simp
      | some z => intro hq; simp at hq; exact .inr (.inl (by simp [hq]))
  · intro y hy
    rcases List.mem_append.1 hy with h | h
    · simp [e7 y h]
    · rw [List.mem_singleton.1 h]; simp
  · intro q hq
    simp only [List.mem_cons, List.mem_append, Option.mem_toList] at hq
    rcases hq with rfl | hq | hq
    · exact hxl
    · exact (pv_ne hd' hq).2.2.2.1
    · exact Nat.lt_of_lt_of_le (e8 q hq) ho.size

theorem dk_flush_off (hl : left = 0) : Calls Try.prog 82 #[.pointer (some ⟨g, 0, none⟩)] w fun e w' => e = .returned (.int .i64 0) ∧ w = w' := by
  obtain ⟨pb, pc, mb, pr, pv, D, ws, hd, _⟩ := h
  exact dflush_off hd hl

theorem dk_flush (hl : left ≠ 0) (hm : left ≤ 9223372036854775807) (hk : k < 4611686018427387904) :
    Calls Try.prog 82 #[.pointer (some ⟨g, 0, none⟩)] w fun e w' => e = .returned (.int .i64 l.length) ∧ Turned w w' F F ∧ Dk w' g N (layAll plat l) [] (lessv left) rd wt (fl + 1) (k + 1) F := by
  obtain ⟨pb, pc, mb, pr, pv, D, ws, hd, e1, e0, e2, e3, e4, e5, e6, e7, e8⟩ := h
  refine (dflush_do hd hl hm e3.1 (by omega) e5).mono ?_
  rintro e w' ⟨he, ho, hd'⟩
  have hF : ∀ q ∈ [g, pb, mb], q ∈ F := fun q hq => e6 q (by simp only [foot, List.mem_cons, List.not_mem_nil, or_false] at hq ⊢; rcases hq with h | h | h <;> simp [h])
  refine ⟨by rw [he, ← e1, ofW_length], Turned.same (ho.mono fun q _ hq => hF q hq), pb, pc, mb, pr, .slice none 0 0, .map [], [], e1 ▸ hd', rfl, by omega, by omega, by omega, by simp, by simp, fun q hq => hF q (by simpa [foot, Value.ownBlock] using hq), by simp, fun q hq => Nat.lt_of_lt_of_le (e8 q hq) ho.size⟩



end
end

/-- A new disk, packed. -/
theorem dk_new (n : Int) (w : World) (h1 : 1 ≤ n) (h2 : n ≤ 4096) : Calls Try.prog 7 #[.int .i64 n] w fun e w' => ∃ g F, e = .returned (.tuple #[.pointer (some ⟨g, 0, none⟩), .int .i64 0]) ∧ Only [] w w' ∧ (∀ q ∈ F, w.heap.size ≤ q) ∧ Dk w' g n.toNat (List.replicate (512 * n.toNat) 0) [] (-1) 0 0 0 0 F := by
  refine (dnew_ok n w h1 h2).mono ?_
  rintro e w' ⟨g, pb, pc, mb, pr, he, hg, hpb, hmb, ho, hd⟩
  refine ⟨g, [g, pb, mb], he, ho, ?_, pb, pc, mb, pr, _, _, [], hd, rfl, by omega, by omega, by omega, by simp, by simp, by simp [foot, Value.ownBlock], by simp, ?_⟩
  · intro q hq
    simp only [List.mem_cons, List.not_mem_nil, or_false] at hq
    omega
  · intro q hq
    have h1 := hd.str.lt
    have h2 := hd.row.lt
    have h3 := (mb_ne hd).2.2.1
    simp only [List.mem_cons, List.not_mem_nil, or_false] at hq
    omega

/-! What sectors say. -/
theorem sect_write (plat : List Int) (l : List (Nat × List Int)) (n m : Nat) (zs : List Int) : sect plat (l ++ [(n, zs)]) m = if n = m then zs else sect plat l m := by
  unfold sect
  rw [List.foldl_append]
  simp
theorem splice_sect {plat zs : List Int} {N n m : Nat} (hp : plat.length = 512 * N) (hz : zs.length = 512) (hn : n < N) : ((Go.splice plat (512 * n) zs).drop (512 * m)).take 512 = if n = m then zs else (plat.drop (512 * m)).take 512 := by
  apply List.ext_getElem?
  intro i
  by_cases hi : i < 512
  · rw [List.getElem?_take_of_lt hi, List.getElem?_drop]
    have e := List.getElem?_append (l₁ := plat.take (512 * n)) (l₂ := zs ++ plat.drop (512 * n + zs.length)) (i := 512 * m + i)
    unfold Go.splice
    rw [e, List.length_take, hp]
    by_cases h1 : n = m
    · subst h1
      rw [if_neg (by omega), if_pos rfl, List.getElem?_append, if_pos (by omega)]
      congr 1
      omega
    · rw [if_neg h1, List.getElem?_take_of_lt hi, List.getElem?_drop]
      by_cases h2 : m < n
      · rw [if_pos (by omega), List.getElem?_take_of_lt (by omega)]
      · rw [if_neg (by omega), List.getElem?_append, if_neg (by omega), List.getElem?_drop]
        congr 1
        omega
  · rw [List.getElem?_eq_none (by rw [List.length_take]; omega)]
    split
    · rw [List.getElem?_eq_none (by omega)]
    · rw [List.getElem?_eq_none (by rw [List.length_take]; omega)]
theorem splice_len {plat zs : List Int} {N n : Nat} (hp : plat.length = 512 * N) (hz : zs.length = 512) (hn : n < N) : (Go.splice plat (512 * n) zs).length = 512 * N := by
  unfold Go.splice
  simp
  omega
theorem sect_flush {N : Nat} (m : Nat) : ∀ (l : List (Nat × List Int)) (plat : List Int), plat.length = 512 * N → (∀ p ∈ l, p.1 < N ∧ p.2.length = 512) → sect (layAll plat l) [] m = sect plat l m
  | [], plat, hp, hl => rfl
  | p :: l, plat, hp, hl => by
    have h1 := hl p (by simp)
    have ih := sect_flush m l (Go.splice plat (512 * p.1) p.2) (splice_len hp h1.2 h1.1) (fun q hq => hl q (by simp [hq]))
    show sect (layAll (Go.splice plat (512 * p.1) p.2) l) [] m = _
    rw [ih]
    unfold sect
    rw [List.foldl_cons, splice_sect hp h1.2 h1.1]
theorem sect_any {N : Nat} (m : Nat) : ∀ (l : List (Nat × List Int)) (plat : List Int), plat.length = 512 * N → U8 plat → m < N → (∀ p ∈ l, p.2.length = 512 ∧ U8 p.2) → (sect plat l m).length = 512 ∧ U8 (sect plat l m) := by
  intro l plat hp hu hm hl
  unfold sect
  have key : ∀ (l : List (Nat × List Int)) (acc : List Int), acc.length = 512 → U8 acc → (∀ p ∈ l, p.2.length = 512 ∧ U8 p.2) → (l.foldl (fun acc p => if p.1 = m then p.2 else acc) acc).length = 512 ∧ U8 (l.foldl (fun acc p => if p.1 = m then p.2 else acc) acc) := by
    intro l
    induction l with
    | nil => exact fun acc h1 h2 _ => ⟨h1, h2⟩
    | cons p l ih =>
      intro acc h1 h2 h3
      rw [List.foldl_cons]
      refine ih _ ?_ ?_ (fun q hq => h3 q (by simp [hq]))
      · split
        · exact (h3 p (by simp)).1
        · exact h1
      · split
        · exact (h3 p (by simp)).2
        · exact h2
  refine key l _ ?_ ((hu.drop _).take _) hl
  simp
  omega
theorem Dk.secOk {w : World} {g N : Nat} {plat : List Int} {l : List (Nat × List Int)} {left rd wt fl : Int} {k : Nat} {F : List Nat} (h : Dk w g N plat l left rd wt fl k F) {m : Nat} (hm : m < N) : (sect plat l m).length = 512 ∧ U8 (sect plat l m) :=
  sect_any m l plat h.platOk.2.1 h.platOk.1 hm (fun p hp => (h.writes p hp).2)
end Go.Proofs.Ytokdpldmoflnkaa
/-
  The log (parapet/wlog): where a log lies, with its disk, its group and the one that an operation began with; the calls that only look.
-/
namespace Go.Proofs.Ytokdpldmoflnkaa
open Go.ChangeShapes Go.WideShapes Go.ChangeAt Go.RowKit Go.Maps
set_option linter.unusedVariables false

/-- What is kept of the group as it was when the operation began. -/
structure SG where
  h : Nat
  v : Value
  m : Nat
  L : List GB
def bfV : Option SG → Value
  | none => .pointer none
  | some s => .pointer (some ⟨s.h, 0, none⟩)
/-- Is a sector a block? -/
def blkB (N a sz : Nat) (n : Int) : Bool := decide (0 ≤ n ∧ n < N ∧ (n < a ∨ (a : Int) + sz ≤ n))
theorem blkB_yes {N a sz : Nat} {n : Int} : blkB N a sz n = true ↔ 0 ≤ n ∧ n < N ∧ (n < a ∨ (a : Int) + sz ≤ n) := by simp [blkB]
theorem blkB_no {N a sz : Nat} {n : Int} : blkB N a sz n = false ↔ ¬(0 ≤ n ∧ n < N ∧ (n < a ∨ (a : Int) + sz ≤ n)) := by simp [blkB]
/-- The blocks that turn. -/
def footL (g : Nat) (v : Value) (m : Nat) (S : Option SG) : List Nat := g :: m :: (v.ownBlock.toList ++ match S with | none => [] | some s => s.h :: s.m :: s.v.ownBlock.toList)
theorem mem_footL {g : Nat} {v : Value} {m : Nat} {S : Option SG} {q : Nat} : q ∈ footL g v m S ↔ q = g ∨ q = m ∨ v.ownBlock = some q ∨ ∃ s, S = some s ∧ (q = s.h ∨ q = s.m ∨ s.v.ownBlock = some q) := by
  unfold footL
  cases S with
  | none => simp
  | some s => simp
def bytesL (L : List GB) (S : Option SG) : List GB := L ++ match S with | none => [] | some s => s.L
theorem mem_bytesL {L : List GB} {S : Option SG} {x : GB} : x ∈ bytesL L S ↔ x ∈ L ∨ ∃ s, S = some s ∧ x ∈ s.L := by
  unfold bytesL
  cases S with
  | none => simp
  | some s => simp
structure OkG (N a sz : Nat) (L : List GB) : Prop where
  len : L.length + 1 ≤ sz
  num : ∀ x ∈ L, blkB N a sz x.n = true
structure LgI (w : World) (g gd N a sz : Nat) (gen : Int) (v : Value) (m : Nat) (L : List GB) (S : Option SG) (st nx : Int) (plat : List Int) (l : List (Nat × List Int)) (rd wt fl : Int) (k : Nat) (FD : List Nat) : Prop where
  blk : Blk w g 83 #[.pointer (some ⟨gd, 0, none⟩), .int .i64 a, .int .i64 sz, .int .u64 gen, v, .map (some m), bfV S, .int .i64 st, .int .i64 nx]
  gr : IsGr w v m L
  sv : ∀ s, S = some s → Blk w s.h 80 #[s.v, .map (some s.m)] ∧ IsGr w s.v s.m s.L ∧ s.m ≠ m ∧ (∀ q, s.v.ownBlock = some q → v.ownBlock ≠ some q)
  dk : Dk w gd N plat l (-1) rd wt fl k FD
  dis : ∀ q, q ∈ footL g v m S ∨ (∃ x ∈ bytesL L S, x.b = q) → q ∉ FD
  gen_ : 0 ≤ gen ∧ gen < 18446744073709551616
  rng : 2 ≤ sz ∧ sz ≤ 248 ∧ a + sz ≤ N
  ok : OkG N a sz L
  oks : ∀ s, S = some s → OkG N a sz s.L
section
variable {w w' : World} {g gd N a sz : Nat} {gen : Int} {v : Value} {m : Nat} {L : List GB} {S : Option SG} {st nx : Int} {plat : List Int} {l : List (Nat × List Int)} {rd wt fl : Int} {k k' : Nat} {FD T : List Nat}
section
variable (h : LgI w g gd N a sz gen v m L S st nx plat l rd wt fl k FD)
include h
theorem LgI.c0 : w.cell? ⟨g, 0, none⟩ = some (.pointer (some ⟨gd, 0, none⟩)) := h.blk.cell 0
theorem LgI.c1 : w.cell? ⟨g, 1, none⟩ = some (.int .i64 a) := h.blk.cell 1
theorem LgI.c2 : w.cell? ⟨g, 2, none⟩ = some (.int .i64 sz) := h.blk.cell 2
theorem LgI.c3 : w.cell? ⟨g, 3, none⟩ = some (.int .u64 gen) := h.blk.cell 3
theorem LgI.c4 : w.cell? ⟨g, 4, none⟩ = some v := h.blk.cell 4
theorem LgI.c5 : w.cell? ⟨g, 5, none⟩ = some (.map (some m)) := h.blk.cell 5
theorem LgI.c6 : w.cell? ⟨g, 6, none⟩ = some (bfV S) := h.blk.cell 6
theorem LgI.c7 : w.cell? ⟨g, 7, none⟩ = some (.int .i64 st) := h.blk.cell 7
theorem LgI.c8 : w.cell? ⟨g, 8, none⟩ = some (.int .i64 nx) := h.blk.cell 8
theorem LgI.fr (o : Nat) : w.frozen? ⟨g, o, none⟩ = false := h.blk.frozen o
theorem LgI.big : 1 ≤ N ∧ N ≤ 4096 := h.dk.platOk.2.2
theorem LgI.len : L.length ≤ 247 := by have := h.ok.len; have := h.rng; omega
theorem LgI.nums {x : Int} (hx : x ∈ nsG L) : 0 ≤ x ∧ x < N := by
  obtain ⟨y, hy, rfl⟩ := gr_find hx
  have := blkB_yes.1 (h.ok.num y hy)
  omega
theorem LgI.only (ho : Only T w w') (h1 : ∀ q ∈ footL g v m S, q ∉ T) (h2 : ∀ x ∈ bytesL L S, x.b ∉ T) (h3 : ∀ q ∈ FD, q ∉ T) : LgI w' g gd N a sz gen v m L S st nx plat l rd wt fl k FD := by
  refine ⟨h.blk.only ho (h1 _ (mem_footL.2 (.inl rfl))), h.gr.only ho (fun q hq => h1 _ (mem_footL.2 (.inr (.inr (.inl hq))))) (h1 _ (mem_footL.2 (.inr (.inl rfl)))) (fun x hx => h2 x (mem_bytesL.2 (.inl hx))), fun s hs => ?_, h.dk.only ho h3, h.dis, h.gen_, h.rng, h.ok, h.oks⟩
  obtain ⟨k1, k2, k3, k4⟩ := h.sv s hs
  exact ⟨k1.only ho (h1 _ (mem_footL.2 (.inr (.inr (.inr ⟨s, hs, .inl rfl⟩))))), k2.only ho (fun q hq => h1 _ (mem_footL.2 (.inr (.inr (.inr ⟨s, hs, .inr (.inr hq)⟩))))) (h1 _ (mem_footL.2 (.inr (.inr (.inr ⟨s, hs, .inr (.inl rfl)⟩))))) (fun x hx => h2 x (mem_bytesL.2 (.inr ⟨s, hs, hx⟩))), k3, k4⟩
theorem LgI.quiet (ho : Only [] w w') : LgI w' g gd N a sz gen v m L S st nx plat l rd wt fl k FD := h.only ho (by simp) (by simp) (by simp)
theorem LgI.more (hk : k ≤ k') : LgI w g gd N a sz gen v m L S st nx plat l rd wt fl k' FD := ⟨h.blk, h.gr, h.sv, h.dk.more hk, h.dis, h.gen_, h.rng, h.ok, h.oks⟩
theorem LgI.foot_lt {q : Nat} (hq : q ∈ footL g v m S) : q < w.heap.size := by
  rcases mem_footL.1 hq with rfl | rfl | e | ⟨s, hs, e⟩
  · exact h.blk.lt
  · exact h.gr.ltm
  · exact h.gr.ltv e
  · obtain ⟨k1, k2, _⟩ := h.sv s hs
    rcases e with rfl | rfl | e
    · exact k1.lt
    · exact k2.ltm
    · exact k2.ltv e
theorem LgI.byte_ok {x : GB} (hx : x ∈ bytesL L S) : x.ok w := by
  rcases mem_bytesL.1 hx with hx | ⟨s, hs, hx⟩
  · exact h.gr.ok x hx
  · exact (h.sv s hs).2.1.ok x hx
/-- A block of bytes is none that turns. -/
theorem LgI.u8_far {b : Nat} {cs : Array Value} (hb : Blk w b 5 cs) : b ∉ footL g v m S := fun hm => by
  rcases mem_footL.1 hm with e | e | e | ⟨s, hs, e⟩
  · exact hb.ne_ h.blk (by decide) e
  · exact h.gr.blk_m hb e
  · exact h.gr.blk_v hb (by decide) _ e rfl
  · obtain ⟨k1, k2, _⟩ := h.sv s hs
    rcases e with e | e | e
    · exact hb.ne_ k1 (by decide) e
    · exact k2.blk_m hb e
    · exact k2.blk_v hb (by decide) _ e rfl
theorem lgclosed_is : Calls Try.prog 49 #[.pointer (some ⟨g, 0, none⟩)] w fun e w' => e = .returned (.bool false) ∧ w = w' := by
  have c0 := h.c0
  clear h
  go_enter Try.func49, Try.ntmps49
  go_wp2
  go_ret
  exact ⟨rfl, rfl⟩
theorem lgrunning_is : Calls Try.prog 34 #[.pointer (some ⟨g, 0, none⟩)] w fun e w' => e = .returned (.bool (!decide (st = 0))) ∧ w = w' := by
  have HC := hide (lgclosed_is h)
  have c7 := h.c7
  clear h
  by_cases hs : st = 0
  · subst hs
    go_enter Try.func34, Try.ntmps34
    go_wp2_with (go_at_call 49; refine HC.out.mono ?_; rintro e w' ⟨rfl, rfl⟩)
    go_ret
    exact ⟨rfl, rfl⟩
  · have hd : decide (st = 0) = false := by simpa using hs
    go_enter Try.func34, Try.ntmps34
    go_wp2_with (go_at_call 49; refine HC.out.mono ?_; rintro e w' ⟨rfl, rfl⟩)
    go_ret
    exact ⟨by simp [hs], rfl⟩
theorem lggen_is : Calls Try.prog 35 #[.pointer (some ⟨g, 0, none⟩)] w fun e w' => e = .returned (.int .u64 gen) ∧ w = w' := by
  have HC := hide (lgclosed_is h)
  have c3 := h.c3
  clear h
  go_enter Try.func35, Try.ntmps35
  go_wp2_with (go_at_call 49; refine HC.out.mono ?_; rintro e w' ⟨rfl, rfl⟩)
  go_ret
  exact ⟨rfl, rfl⟩
theorem lgdisk_is : Calls Try.prog 36 #[.pointer (some ⟨g, 0, none⟩)] w fun e w' => e = .returned (.pointer (some ⟨gd, 0, none⟩)) ∧ w = w' := by
  have HC := hide (lgclosed_is h)
  have c0 := h.c0
  clear h
  go_enter Try.func36, Try.ntmps36
  go_wp2_with (go_at_call 49; refine HC.out.mono ?_; rintro e w' ⟨rfl, rfl⟩)
  go_ret
  exact ⟨rfl, rfl⟩
theorem lgdirty_is : Calls Try.prog 31 #[.pointer (some ⟨g, 0, none⟩)] w fun e w' => ∃ v', e = .returned v' ∧ IRow w' v' (nsG L) ∧ (∀ q, v'.ownBlock = some q → w.heap.size ≤ q) ∧ Only [] w w' := by
  have HC := hide (lgclosed_is h)
  have c4 := h.c4
  have HK := hide (cloneI_is h.gr.row (by rw [nsG_length]; have := h.len; omega))
  obtain ⟨A, c, rfl, _⟩ := h.gr.row.form2
  clear h
  go_enter Try.func31, Try.ntmps31
  go_wp2_with (first | (go_at_call 49; refine HC.out.mono ?_; rintro e w' ⟨rfl, rfl⟩) | (go_at_call 61; refine HK.out.mono ?_; rintro e w' ⟨v', rfl, hr, hb, ho⟩; have HR := hide hr; have HB := hide hb; have HO := hide ho; clear hr hb ho))
  go_ret
  exact ⟨_, rfl, HR.out, HB.out, HO.out⟩
set_option maxRecDepth 100000 in
theorem lgroom_is : Calls Try.prog 33 #[.pointer (some ⟨g, 0, none⟩)] w fun e w' => e = .returned (.int .i64 ((sz : Int) - 1 - L.length)) ∧ Only [] w w' := by
  have HC := hide (lgclosed_is h)
  have c2 := h.c2
  have c4 := h.c4
  have hlen := h.len
  have hrng := h.rng
  have e1 : IntKind.i64.wrap ((sz : Int) - 1) = (sz : Int) - 1 := IntWalk.i64_in _ (by omega)
  have e2 : IntKind.i64.wrap ((sz : Int) - 1 - (nsG L).length) = (sz : Int) - 1 - (nsG L).length := IntWalk.i64_in _ (by rw [nsG_length]; omega)
  have HN := hide (nsG_length L)
  obtain ⟨A, c, rfl, _⟩ := h.gr.row.form2
  clear h hrng
  go_enter Try.func33, Try.ntmps33
  go_wp2_with (go_at_call 49; refine HC.out.mono ?_; rintro e w' ⟨rfl, rfl⟩)
  go_quiet (fail)
  go_wp2
  go_ret
  exact ⟨by rw [HN.out]; rfl, (Only.refl _ _).drewN _⟩
end
end
set_option maxRecDepth 100000 in
theorem isBlock_yes (N a sz : Nat) (n : Int) (w : World) (ha : a + sz ≤ N) (hN : N ≤ 4096) (h : blkB N a sz n = true) : Calls Try.prog 68 #[.int .i64 n, .int .i64 a, .int .i64 sz, .int .i64 N] w fun e w' => e = .returned (.bool true) ∧ w = w' := by
  obtain ⟨h1, h2, h3⟩ := blkB_yes.1 h
  clear h
  by_cases h4 : n < a
  · go_enter Try.func68, Try.ntmps68
    go_wp2
    go_ret
    exact ⟨rfl, rfl⟩
  · have h5 : (a : Int) + sz ≤ n := by omega
    have h6 : (sz : Int) ≤ n - a := by omega
    go_enter Try.func68, Try.ntmps68
    go_wp2
    go_ret
    exact ⟨rfl, rfl⟩
set_option maxRecDepth 100000 in
theorem isBlock_no (N a sz : Nat) (n : Int) (w : World) (ha : a + sz ≤ N) (hN : N ≤ 4096) (h : blkB N a sz n = false) : Calls Try.prog 68 #[.int .i64 n, .int .i64 a, .int .i64 sz, .int .i64 N] w fun e w' => e = .returned (.bool false) ∧ w = w' := by
  have h0 := blkB_no.1 h
  clear h
  by_cases h1 : n < 0
  · clear h0
    go_enter Try.func68, Try.ntmps68
    go_wp2
    go_ret
    exact ⟨rfl, rfl⟩
  · by_cases h2 : (N : Int) ≤ n
    · clear h0
      go_enter Try.func68, Try.ntmps68
      go_wp2
      go_ret
      exact ⟨rfl, rfl⟩
    · have h4 : (a : Int) ≤ n := by omega
      have h5 : decide ((sz : Int) ≤ n - a) = false := by simp; omega
      have h6 : decide (n < (a : Int)) = false := by simp; omega
      clear h0
      go_enter Try.func68, Try.ntmps68
      go_wp2
      go_ret
      exact ⟨rfl, rfl⟩
end Go.Proofs.Ytokdpldmoflnkaa
/-
  The log (parapet/wlog): 'Lg w g gd N a sz gen G S st nx plat l k F': a log at g on the disk at gd holds the group G (S as it was when the operation began); step st of a commit is next, for block nx; its blocks lie in F.
-/
namespace Go.Proofs.Ytokdpldmoflnkaa
open Go.ChangeShapes Go.WideShapes Go.ChangeAt Go.RowKit Go.Maps
set_option linter.unusedVariables false

abbrev PG := List (Int × List Int)
def Lg (w : World) (g gd N a sz : Nat) (gen : Int) (G : PG) (S : Option PG) (st nx : Int) (plat : List Int) (l : List (Nat × List Int)) (k : Nat) (F : List Nat) : Prop :=
  ∃ v m L SS rd wt fl FD, LgI w g gd N a sz gen v m L SS st nx plat l rd wt fl k FD ∧ gvG L = G ∧ SS.map (fun s => gvG s.L) = S ∧ (∀ q, q ∈ footL g v m SS ∨ (∃ x ∈ bytesL L SS, x.b = q) ∨ q ∈ FD → q ∈ F) ∧ ∀ q ∈ F, q < w.heap.size
section
variable {w w' w1 : World} {g gd N a sz : Nat} {gen : Int} {v v' : Value} {m m' : Nat} {L L' : List GB} {SS SS' : Option SG} {st nx : Int} {plat : List Int} {l : List (Nat × List Int)} {rd wt fl : Int} {k k' : Nat} {FD F T : List Nat} {G : PG} {S : Option PG}
theorem Lg.mk2 (h : LgI w' g gd N a sz gen v' m' L' SS' st nx plat l rd wt fl k FD) (ho : Only F w w') (h1 : ∀ q ∈ footL g v' m' SS', q ∈ F ∨ w.heap.size ≤ q) (h2 : ∀ q ∈ FD, q ∈ F ∨ w.heap.size ≤ q) (h3 : ∀ x ∈ bytesL L' SS', x.b ∈ F ∨ w.heap.size ≤ x.b) :
    ∃ F', Turned w w' F F' ∧ Lg w' g gd N a sz gen (gvG L') (SS'.map (fun s => gvG s.L)) st nx plat l k F' := by
  refine ⟨footL g v' m' SS' ++ FD ++ (bytesL L' SS').map (·.b), ⟨ho, fun q hq => ?_⟩, v', m', L', SS', rd, wt, fl, FD, h, rfl, rfl, fun q hq => ?_, fun q hq => ?_⟩
  · simp only [List.mem_append, List.mem_map] at hq
    rcases hq with (hq | hq) | ⟨x, hx, rfl⟩
    · exact h1 q hq
    · exact h2 q hq
    · exact h3 x hx
  · simp only [List.mem_append, List.mem_map]
    rcases hq with hq | ⟨x, hx, rfl⟩ | hq
    · exact .inl (.inl hq)
    · exact .inr ⟨x, hx, rfl⟩
    · exact .inl (.inr hq)
  · simp only [List.mem_append, List.mem_map] at hq
    rcases hq with (hq | hq) | ⟨x, hx, rfl⟩
    · exact h.foot_lt hq
    · exact h.dk.lt q hq
    · exact (h.byte_ok hx).row.lt
theorem Lg.only (h : Lg w g gd N a sz gen G S st nx plat l k F) (ho : Only T w w') (hs : ∀ q ∈ F, q ∉ T) : Lg w' g gd N a sz gen G S st nx plat l k F := by
  obtain ⟨v, m, L, SS, rd, wt, fl, FD, h1, h2, h3, h4, h5⟩ := h
  exact ⟨v, m, L, SS, rd, wt, fl, FD, h1.only ho (fun q hq => hs q (h4 q (.inl hq))) (fun x hx => hs _ (h4 _ (.inr (.inl ⟨x, hx, rfl⟩)))) (fun q hq => hs q (h4 q (.inr (.inr hq)))), h2, h3, h4, fun q hq => Nat.lt_of_lt_of_le (h5 q hq) ho.size⟩
theorem Lg.quiet (h : Lg w g gd N a sz gen G S st nx plat l k F) (ho : Only [] w w') : Lg w' g gd N a sz gen G S st nx plat l k F := h.only ho (by simp)
theorem Lg.more (h : Lg w g gd N a sz gen G S st nx plat l k F) (hk : k ≤ k') : Lg w g gd N a sz gen G S st nx plat l k' F := by
  obtain ⟨v, m, L, SS, rd, wt, fl, FD, h1, h2, h3, h4, h5⟩ := h
  exact ⟨v, m, L, SS, rd, wt, fl, FD, h1.more hk, h2, h3, h4, h5⟩
theorem Lg.lt (h : Lg w g gd N a sz gen G S st nx plat l k F) : ∀ q ∈ F, q < w.heap.size := by
  obtain ⟨v, m, L, SS, rd, wt, fl, FD, h1, h2, h3, h4, h5⟩ := h
  exact h5
theorem Lg.rng (h : Lg w g gd N a sz gen G S st nx plat l k F) : 2 ≤ sz ∧ sz ≤ 248 ∧ a + sz ≤ N ∧ N ≤ 4096 := by
  obtain ⟨v, m, L, SS, rd, wt, fl, FD, h1, _⟩ := h
  have := h1.rng
  have := h1.big
  omega
theorem Lg.gF (h : Lg w g gd N a sz gen G S st nx plat l k F) : g ∈ F := by
  obtain ⟨v, m, L, SS, rd, wt, fl, FD, h1, _, _, h4, _⟩ := h
  exact h4 g (.inl (mem_footL.2 (.inl rfl)))
/-- What is so of each group. -/
def OkP (N a sz : Nat) (G : PG) : Prop := G.length + 1 ≤ sz ∧ (G.map (·.1)).Nodup ∧ ∀ p ∈ G, blkB N a sz p.1 = true ∧ p.2.length = 512 ∧ U8 p.2
theorem LgI.okp (h : LgI w g gd N a sz gen v m L SS st nx plat l rd wt fl k FD) : OkP N a sz (gvG L) := by
  refine ⟨by simpa [gvG] using h.ok.len, by rw [gvG_keys]; exact h.gr.nd, fun p hp => ?_⟩
  obtain ⟨x, hx, rfl⟩ := List.mem_map.1 hp
  exact ⟨h.ok.num x hx, (h.gr.ok x hx).len, (h.gr.ok x hx).u8⟩
theorem Lg.okp (h : Lg w g gd N a sz gen G S st nx plat l k F) : OkP N a sz G := by
  obtain ⟨v, m, L, SS, rd, wt, fl, FD, h1, rfl, _⟩ := h
  exact h1.okp
theorem Lg.oks {G' : PG} (h : Lg w g gd N a sz gen G (some G') st nx plat l k F) : OkP N a sz G' := by
  obtain ⟨v, m, L, SS, rd, wt, fl, FD, h1, rfl, h3, _⟩ := h
  cases SS with
  | none => simp at h3
  | some s =>
    simp at h3
    subst h3
    obtain ⟨_, k2, _⟩ := h1.sv s rfl
    refine ⟨by simpa [gvG] using (h1.oks s rfl).len, by rw [gvG_keys]; exact k2.nd, fun p hp => ?_⟩
    obtain ⟨x, hx, rfl⟩ := List.mem_map.1 hp
    exact ⟨(h1.oks s rfl).num x hx, (k2.ok x hx).len, (k2.ok x hx).u8⟩
theorem Lg.gen_ (h : Lg w g gd N a sz gen G S st nx plat l k F) : 0 ≤ gen ∧ gen < 18446744073709551616 := by
  obtain ⟨v, m, L, SS, rd, wt, fl, FD, h1, _⟩ := h
  exact h1.gen_
theorem Lg.disk (h : Lg w g gd N a sz gen G S st nx plat l k F) : ∃ rd wt fl FD, Dk w gd N plat l (-1) rd wt fl k FD := by
  obtain ⟨v, m, L, SS, rd, wt, fl, FD, h1, _⟩ := h
  exact ⟨rd, wt, fl, FD, h1.dk⟩
section
variable (h : Lg w g gd N a sz gen G S st nx plat l k F)
include h
theorem lg_closed : Calls Try.prog 49 #[.pointer (some ⟨g, 0, none⟩)] w fun e w' => e = .returned (.bool false) ∧ w = w' := by
  obtain ⟨v, m, L, SS, rd, wt, fl, FD, h1, _⟩ := h
  exact lgclosed_is h1
theorem lg_running : Calls Try.prog 34 #[.pointer (some ⟨g, 0, none⟩)] w fun e w' => e = .returned (.bool (!decide (st = 0))) ∧ w = w' := by
  obtain ⟨v, m, L, SS, rd, wt, fl, FD, h1, _⟩ := h
  exact lgrunning_is h1
theorem lg_gen : Calls Try.prog 35 #[.pointer (some ⟨g, 0, none⟩)] w fun e w' => e = .returned (.int .u64 gen) ∧ w = w' := by
  obtain ⟨v, m, L, SS, rd, wt, fl, FD, h1, _⟩ := h
  exact lggen_is h1
theorem lg_disk : Calls Try.prog 36 #[.pointer (some ⟨g, 0, none⟩)] w fun e w' => e = .returned (.pointer (some ⟨gd, 0, none⟩)) ∧ w = w' := by
  obtain ⟨v, m, L, SS, rd, wt, fl, FD, h1, _⟩ := h
  exact lgdisk_is h1
theorem lg_dirty : Calls Try.prog 31 #[.pointer (some ⟨g, 0, none⟩)] w fun e w' => ∃ v', e = .returned v' ∧ IRow w' v' (G.map (·.1)) ∧ (∀ q, v'.ownBlock = some q → w.heap.size ≤ q) ∧ Only [] w w' := by
  obtain ⟨v, m, L, SS, rd, wt, fl, FD, h1, rfl, _⟩ := h
  rw [gvG_keys]
  exact lgdirty_is h1
theorem lg_room : Calls Try.prog 33 #[.pointer (some ⟨g, 0, none⟩)] w fun e w' => e = .returned (.int .i64 ((sz : Int) - 1 - G.length)) ∧ Only [] w w' := by
  obtain ⟨v, m, L, SS, rd, wt, fl, FD, h1, rfl, _⟩ := h
  rw [show (gvG L).length = L.length from by simp [gvG]]
  exact lgroom_is h1
set_option maxRecDepth 100000 in
theorem lg_has (n : Int) : Calls Try.prog 50 #[.pointer (some ⟨g, 0, none⟩), .int .i64 n] w fun e w' => e = .returned (.bool (blkB N a sz n)) ∧ Only [] w w' := by
  obtain ⟨v, m, L, SS, rd, wt, fl, FD, h1, _⟩ := h
  have hr := h1.rng
  have hb := h1.big
  have c0 := h1.c0
  have c1 := h1.c1
  have c2 := h1.c2
  have HC := hide (fun W (ho : Only [] w W) => dk_count (h1.dk.quiet ho))
  have HY := hide (fun (he : blkB N a sz n = true) W => isBlock_yes N a sz n W hr.2.2 hb.2 he)
  have HN := hide (fun (he : blkB N a sz n = false) W => isBlock_no N a sz n W hr.2.2 hb.2 he)
  clear h1 hr hb
  cases he : blkB N a sz n with
  | true =>
    have HF := hide (HY.out he)
    clear he HY HN
    go_enter Try.func50, Try.ntmps50
    go_wp2
    go_quiet ((first | (go_at_call 65; exact Calls.quiet_of_same ((HC.out _ ((Only.refl [] w).drewN _)).mono fun e w' ⟨a, b⟩ => ⟨a, b.symm⟩)) | (go_at_call 65; exact Calls.quiet_of_same ((HC.out _ ((Only.refl [] w))).mono fun e w' ⟨a, b⟩ => ⟨a, b.symm⟩)) | (go_at_call 68; exact Calls.quiet_of_same ((HF.out _).mono fun e w' ⟨a, b⟩ => ⟨a, b.symm⟩))))
    go_wp2
    go_ret
    exact ⟨rfl, (Only.refl _ _).drewN _⟩
  | false =>
    have HF := hide (HN.out he)
    clear he HY HN
    go_enter Try.func50, Try.ntmps50
    go_wp2
    go_quiet ((first | (go_at_call 65; exact Calls.quiet_of_same ((HC.out _ ((Only.refl [] w).drewN _)).mono fun e w' ⟨a, b⟩ => ⟨a, b.symm⟩)) | (go_at_call 65; exact Calls.quiet_of_same ((HC.out _ ((Only.refl [] w))).mono fun e w' ⟨a, b⟩ => ⟨a, b.symm⟩)) | (go_at_call 68; exact Calls.quiet_of_same ((HF.out _).mono fun e w' ⟨a, b⟩ => ⟨a, b.symm⟩))))
    go_wp2
    go_ret
    exact ⟨rfl, (Only.refl _ _).drewN _⟩
end
end
end Go.Proofs.Ytokdpldmoflnkaa
