/-
  A disk as one packed fact with its counts in sight: 'Dk w g N plat l left rd wt fl k F': the disk at g holds the platter plat and the pending writes l; rd, wt, fl are its counts; its blocks lie in F; at most k calls were done. What a sector says is 'sect plat l n': how writes, flushes and crashes turn it.
-/
import Derived.Test.YtpajdnjbeplneaaDiskOne
namespace Go.Proofs.Ytpajdnjbeplneaa
open Go.ChangeShapes Go.WideShapes Go.ChangeAt Go.RowKit
set_option linter.unusedVariables false

def Dk (w : World) (g N : Nat) (plat : List Int) (l : List (Nat × List Int)) (left rd wt fl : Int) (k : Nat) (F : List Nat) : Prop :=
  ∃ pb pc mb pr pv D ws, IsDisk w g pb pc mb pr pv D N plat ws left rd wt fl ∧ ofW ws = l ∧ (0 ≤ rd ∧ rd ≤ k) ∧ (0 ≤ wt ∧ wt ≤ k) ∧ (0 ≤ fl ∧ fl ≤ k) ∧ ws.length ≤ k ∧ (∀ x ∈ ws, x.blk ≠ pb) ∧
    (∀ q ∈ foot g pb mb pv, q ∈ F) ∧ (∀ x ∈ ws, x.blk ∈ F) ∧ ∀ q ∈ F, q < w.heap.size

section
variable {w w' : World} {g N : Nat} {plat : List Int} {l : List (Nat × List Int)} {left rd wt fl : Int} {k k' : Nat} {F S : List Nat}
theorem Dk.only (h : Dk w g N plat l left rd wt fl k F) (ho : Only S w w') (hs : ∀ q ∈ F, q ∉ S) : Dk w' g N plat l left rd wt fl k F := by
  obtain ⟨pb, pc, mb, pr, pv, D, ws, hd, h1, h0, h2, h3, h4, h5, h6, h7, h8⟩ := h
  exact ⟨pb, pc, mb, pr, pv, D, ws, hd.only ho (fun q hq => hs q (h6 q hq)) (fun x hx => hs _ (h7 x hx)), h1, h0, h2, h3, h4, h5, h6, h7, fun q hq => Nat.lt_of_lt_of_le (h8 q hq) ho.size⟩
theorem Dk.quiet (h : Dk w g N plat l left rd wt fl k F) (ho : Only [] w w') : Dk w' g N plat l left rd wt fl k F := h.only ho (by simp)
theorem Dk.more (h : Dk w g N plat l left rd wt fl k F) (hk : k ≤ k') : Dk w g N plat l left rd wt fl k' F := by
  obtain ⟨pb, pc, mb, pr, pv, D, ws, hd, h1, h0, h2, h3, h4, h5, h6, h7, h8⟩ := h
  exact ⟨pb, pc, mb, pr, pv, D, ws, hd, h1, ⟨h0.1, by omega⟩, ⟨h2.1, by omega⟩, ⟨h3.1, by omega⟩, by omega, h5, h6, h7, h8⟩
theorem Dk.lt (h : Dk w g N plat l left rd wt fl k F) : ∀ q ∈ F, q < w.heap.size := by
  obtain ⟨pb, pc, mb, pr, pv, D, ws, hd, h1, h0, h2, h3, h4, h5, h6, h7, h8⟩ := h
  exact h8
theorem Dk.gF (h : Dk w g N plat l left rd wt fl k F) : g ∈ F := by
  obtain ⟨pb, pc, mb, pr, pv, D, ws, hd, h1, h0, h2, h3, h4, h5, h6, h7, h8⟩ := h
  exact h6 g (by simp [foot])
theorem Dk.few (h : Dk w g N plat l left rd wt fl k F) : l.length ≤ k := by
  obtain ⟨pb, pc, mb, pr, pv, D, ws, hd, h1, h0, h2, h3, h4, h5, h6, h7, h8⟩ := h
  rw [← h1, ofW_length]
  exact h4
theorem Dk.platOk (h : Dk w g N plat l left rd wt fl k F) : U8 plat ∧ plat.length = 512 * N ∧ 1 ≤ N ∧ N ≤ 4096 := by
  obtain ⟨pb, pc, mb, pr, pv, D, ws, hd, _⟩ := h
  exact ⟨hd.u8, hd.len, hd.pos, hd.big⟩
theorem Dk.writes (h : Dk w g N plat l left rd wt fl k F) : ∀ p ∈ l, p.1 < N ∧ p.2.length = 512 ∧ U8 p.2 := by
  obtain ⟨pb, pc, mb, pr, pv, D, ws, hd, h1, _⟩ := h
  intro p hp
  rw [← h1] at hp
  obtain ⟨x, hx, rfl⟩ := List.mem_map.1 hp
  have := hd.wok x hx
  exact ⟨this.sec, this.len, this.u8⟩
theorem Dk.counts (h : Dk w g N plat l left rd wt fl k F) : (0 ≤ rd ∧ rd ≤ k) ∧ (0 ≤ wt ∧ wt ≤ k) ∧ (0 ≤ fl ∧ fl ≤ k) := by
  obtain ⟨pb, pc, mb, pr, pv, D, ws, hd, h1, h0, h2, h3, _⟩ := h
  exact ⟨h0, h2, h3⟩

section
variable (h : Dk w g N plat l left rd wt fl k F)
include h
theorem dk_closed : Calls Try.prog 65 #[.pointer (some ⟨g, 0, none⟩)] w fun e w' => e = .returned (.bool false) ∧ w = w' := by
  obtain ⟨pb, pc, mb, pr, pv, D, ws, hd, _⟩ := h
  exact dclosed_is hd

theorem dk_count : Calls Try.prog 67 #[.pointer (some ⟨g, 0, none⟩)] w fun e w' => e = .returned (.int .i64 N) ∧ w = w' := by
  obtain ⟨pb, pc, mb, pr, pv, D, ws, hd, _⟩ := h
  exact dcount_is hd





theorem dk_pending : Calls Try.prog 40 #[.pointer (some ⟨g, 0, none⟩)] w fun e w' => ∃ d, e = .returned (.slice (some ⟨d, 0, none⟩) l.length l.length) ∧ w.heap.size ≤ d ∧ IntsAt w' d l.length (l.map fun x => (x.1 : Int)) ∧ Only [] w w' := by
  obtain ⟨pb, pc, mb, pr, pv, D, ws, hd, e1, _⟩ := h
  refine (dpending_is hd).mono ?_
  rintro e w' ⟨d, he, hd', hi, ho⟩
  subst e1
  refine ⟨d, by rw [he, ofW_length], hd', ?_, ho⟩
  rw [ofW_length]
  have he : (ofW ws).map (fun x => (x.1 : Int)) = ws.map fun x => (x.sec : Int) := by simp [ofW, Function.comp_def]
  rw [he]
  exact hi

theorem dk_image : Calls Try.prog 42 #[.pointer (some ⟨g, 0, none⟩)] w fun e w' => ∃ v, e = .returned v ∧ Fresh w' w.heap.size v plat ∧ Only [] w w' := by
  obtain ⟨pb, pc, mb, pr, pv, D, ws, hd, _⟩ := h
  exact dimage_is hd

theorem dk_read_bad (n : Int) (hn : n < 0 ∨ N ≤ n) : Calls Try.prog 49 #[.pointer (some ⟨g, 0, none⟩), .int .i64 n] w fun e w' => e = .returned (.tuple #[.slice none 0 0, .int .i64 20]) ∧ w = w' := by
  obtain ⟨pb, pc, mb, pr, pv, D, ws, hd, _⟩ := h
  exact dread_bad hd n hn

theorem dk_read (n : Nat) (h1 : n < N) (hk : k < 4611686018427387904) : Calls Try.prog 49 #[.pointer (some ⟨g, 0, none⟩), .int .i64 n] w fun e w' => ∃ v, e = .returned (.tuple #[v, .int .i64 0]) ∧ Fresh w' w.heap.size v (sect plat l n) ∧ Turned w w' F F ∧ Dk w' g N plat l left (rd + 1) wt fl (k + 1) F := by
  obtain ⟨pb, pc, mb, pr, pv, D, ws, hd, e1, e0, e2, e3, e4, e5, e6, e7, e8⟩ := h
  refine (dread_ok hd n h1 e0.1 (by omega)).mono ?_
  rintro e w' ⟨v, he, hf, ho, hd'⟩
  subst e1
  exact ⟨v, he, hf, Turned.same (ho.mono fun q _ hq => by rw [List.mem_singleton.1 hq]; exact e6 g (by simp [foot])), pb, pc, mb, pr, pv, D, ws, hd', rfl, by omega, by omega, by omega, by omega, e5, e6, e7, fun q hq => Nat.lt_of_lt_of_le (e8 q hq) ho.size⟩

theorem dk_write_sector (n : Int) (A : Option Addr) (m c : Nat) (hn : n < 0 ∨ N ≤ n) : Calls Try.prog 91 #[.pointer (some ⟨g, 0, none⟩), .int .i64 n, .slice A m c] w fun e w' => e = .returned (.int .i64 20) ∧ w = w' := by
  obtain ⟨pb, pc, mb, pr, pv, D, ws, hd, _⟩ := h
  exact dwrite_sector hd n A m c hn

theorem dk_write_len (n : Int) (A : Option Addr) (m c : Nat) (h0 : 0 ≤ n) (h1 : n < N) (hm : m ≠ 512) : Calls Try.prog 91 #[.pointer (some ⟨g, 0, none⟩), .int .i64 n, .slice A m c] w fun e w' => e = .returned (.int .i64 1) ∧ w = w' := by
  obtain ⟨pb, pc, mb, pr, pv, D, ws, hd, _⟩ := h
  exact dwrite_len hd n A m c h0 h1 hm

theorem dk_write_off (n : Int) (A : Option Addr) (c : Nat) (h0 : 0 ≤ n) (h1 : n < N) (hl : left = 0) : Calls Try.prog 91 #[.pointer (some ⟨g, 0, none⟩), .int .i64 n, .slice A 512 c] w fun e w' => e = .returned (.int .i64 0) ∧ w = w' := by
  obtain ⟨pb, pc, mb, pr, pv, D, ws, hd, _⟩ := h
  exact dwrite_off hd n A c h0 h1 hl

theorem dk_write (n : Nat) (d o c : Nat) (zs : List Int) (h1 : n < N) (hl : left ≠ 0) (hm : left ≤ 9223372036854775807) (hz : zs.length = 512) (hu : U8 zs) (hb : ∀ i, i < 512 → w.cell? ⟨d, o + i, none⟩ = some (.int .u8 (gb zs i))) (hdl : d < w.heap.size) (hdF : d ∉ F) (hk : k < 4398046511000) :
    Calls Try.prog 91 #[.pointer (some ⟨g, 0, none⟩), .int .i64 n, .slice (some ⟨d, o, none⟩) 512 c] w fun e w' => e = .returned (.int .i64 0) ∧ ∃ F', Turned w w' F F' ∧ Dk w' g N plat (l ++ [(n, zs)]) (lessv left) rd (wt + 1) fl (k + 1) F' := by
  obtain ⟨pb, pc, mb, pr, pv, D, ws, hd, e1, e0, e2, e3, e4, e5, e6, e7, e8⟩ := h
  refine (dwrite_do hd n d o c zs h1 hl hm hz hu hb hdl (fun e => hdF (e ▸ e6 g (by simp [foot]))) (fun e => hdF (e ▸ e6 mb (by simp [foot]))) e2.1 (by omega) (by omega)).mono ?_
  rintro e w' ⟨he, pv', D', x, ho, hpv, hxb, hxs, hxd, hd'⟩
  have hxl : x.blk < w'.heap.size := (hd'.wok x (by simp)).row.lt
  refine ⟨he, x.blk :: (pv'.ownBlock.toList ++ F), ⟨ho.mono (fun q _ hq => e6 q hq), fun q hq => ?_⟩, pb, pc, mb, pr, pv', D', ws ++ [x], hd', ?_, ?_, ?_, ?_, ?_, ?_, ?_, ?_, ?_⟩
  · simp only [List.mem_cons, List.mem_append, Option.mem_toList] at hq
    rcases hq with rfl | hq | hq
    · exact .inr hxb
    · rcases hpv q hq with h | h
      · exact .inl (e6 q (by simp [foot, h]))
      · exact .inr h
    · exact .inl hq
  · rw [ofW_snoc, e1, hxs, hxd]
  · omega
  · omega
  · omega
  · simp; omega
  · intro y hy
    rcases List.mem_append.1 hy with h | h
    · exact e5 y h
    · rw [List.mem_singleton.1 h]
      have := hd.row.lt
      omega
  · intro q hq
    simp only [foot, List.mem_cons] at hq
    simp only [List.mem_cons, List.mem_append, Option.mem_toList]
    rcases hq with rfl | rfl | rfl | hq
    · exact .inr (.inr (e6 _ (by simp [foot])))
    · exact .inr (.inr (e6 _ (by simp [foot])))
    · exact .inr (.inr (e6 _ (by simp [foot])))
    · revert hq
      cases pv'.ownBlock with
      | none => simp
      | some z => intro hq; simp at hq; exact .inr (.inl (by simp [hq]))
  · intro y hy
    rcases List.mem_append.1 hy with h | h
    · simp [e7 y h]
    · rw [List.mem_singleton.1 h]; simp
  · intro q hq
    simp only [List.mem_cons, List.mem_append, Option.mem_toList] at hq
    rcases hq with rfl | hq | hq
    · exact hxl
    · exact (pv_ne hd' hq).2.2.2.1
    · exact Nat.lt_of_lt_of_le (e8 q hq) ho.size

theorem dk_flush_off (hl : left = 0) : Calls Try.prog 84 #[.pointer (some ⟨g, 0, none⟩)] w fun e w' => e = .returned (.int .i64 0) ∧ w = w' := by
  obtain ⟨pb, pc, mb, pr, pv, D, ws, hd, _⟩ := h
  exact dflush_off hd hl

theorem dk_flush (hl : left ≠ 0) (hm : left ≤ 9223372036854775807) (hk : k < 4611686018427387904) :
    Calls Try.prog 84 #[.pointer (some ⟨g, 0, none⟩)] w fun e w' => e = .returned (.int .i64 l.length) ∧ Turned w w' F F ∧ Dk w' g N (layAll plat l) [] (lessv left) rd wt (fl + 1) (k + 1) F := by
  obtain ⟨pb, pc, mb, pr, pv, D, ws, hd, e1, e0, e2, e3, e4, e5, e6, e7, e8⟩ := h
  refine (dflush_do hd hl hm e3.1 (by omega) e5).mono ?_
  rintro e w' ⟨he, ho, hd'⟩
  have hF : ∀ q ∈ [g, pb, mb], q ∈ F := fun q hq => e6 q (by simp only [foot, List.mem_cons, List.not_mem_nil, or_false] at hq ⊢; rcases hq with h | h | h <;> simp [h])
  refine ⟨by rw [he, ← e1, ofW_length], Turned.same (ho.mono fun q _ hq => hF q hq), pb, pc, mb, pr, .slice none 0 0, .map [], [], e1 ▸ hd', rfl, by omega, by omega, by omega, by simp, by simp, fun q hq => hF q (by simpa [foot, Value.ownBlock] using hq), by simp, fun q hq => Nat.lt_of_lt_of_le (e8 q hq) ho.size⟩



end
end

/-- A new disk, packed. -/
theorem dk_new (n : Int) (w : World) (h1 : 1 ≤ n) (h2 : n ≤ 4096) : Calls Try.prog 27 #[.int .i64 n] w fun e w' => ∃ g F, e = .returned (.tuple #[.pointer (some ⟨g, 0, none⟩), .int .i64 0]) ∧ Only [] w w' ∧ (∀ q ∈ F, w.heap.size ≤ q) ∧ Dk w' g n.toNat (List.replicate (512 * n.toNat) 0) [] (-1) 0 0 0 0 F := by
  refine (dnew_ok n w h1 h2).mono ?_
  rintro e w' ⟨g, pb, pc, mb, pr, he, hg, hpb, hmb, ho, hd⟩
  refine ⟨g, [g, pb, mb], he, ho, ?_, pb, pc, mb, pr, _, _, [], hd, rfl, by omega, by omega, by omega, by simp, by simp, by simp [foot, Value.ownBlock], by simp, ?_⟩
  · intro q hq
    simp only [List.mem_cons, List.not_mem_nil, or_false] at hq
    omega
  · intro q hq
    have h1 := hd.str.lt
    have h2 := hd.row.lt
    have h3 := (mb_ne hd).2.2.1
    simp only [List.mem_cons, List.not_mem_nil, or_false] at hq
    omega

/-! What sectors say. -/
theorem sect_write (plat : List Int) (l : List (Nat × List Int)) (n m : Nat) (zs : List Int) : sect plat (l ++ [(n, zs)]) m = if n = m then zs else sect plat l m := by
  unfold sect
  rw [List.foldl_append]
  simp
theorem splice_sect {plat zs : List Int} {N n m : Nat} (hp : plat.length = 512 * N) (hz : zs.length = 512) (hn : n < N) : ((Go.splice plat (512 * n) zs).drop (512 * m)).take 512 = if n = m then zs else (plat.drop (512 * m)).take 512 := by
  apply List.ext_getElem?
  intro i
  by_cases hi : i < 512
  · rw [List.getElem?_take_of_lt hi, List.getElem?_drop]
    have e := List.getElem?_append (l₁ := plat.take (512 * n)) (l₂ := zs ++ plat.drop (512 * n + zs.length)) (i := 512 * m + i)
    unfold Go.splice
    rw [e, List.length_take, hp]
    by_cases h1 : n = m
    · subst h1
      rw [if_neg (by omega), if_pos rfl, List.getElem?_append, if_pos (by omega)]
      congr 1
      omega
    · rw [if_neg h1, List.getElem?_take_of_lt hi, List.getElem?_drop]
      by_cases h2 : m < n
      · rw [if_pos (by omega), List.getElem?_take_of_lt (by omega)]
      · rw [if_neg (by omega), List.getElem?_append, if_neg (by omega), List.getElem?_drop]
        congr 1
        omega
  · rw [List.getElem?_eq_none (by rw [List.length_take]; omega)]
    split
    · rw [List.getElem?_eq_none (by omega)]
    · rw [List.getElem?_eq_none (by rw [List.length_take]; omega)]
theorem splice_len {plat zs : List Int} {N n : Nat} (hp : plat.length = 512 * N) (hz : zs.length = 512) (hn : n < N) : (Go.splice plat (512 * n) zs).length = 512 * N := by
  unfold Go.splice
  simp
  omega
theorem sect_flush {N : Nat} (m : Nat) : ∀ (l : List (Nat × List Int)) (plat : List Int), plat.length = 512 * N → (∀ p ∈ l, p.1 < N ∧ p.2.length = 512) → sect (layAll plat l) [] m = sect plat l m
  | [], plat, hp, hl => rfl
  | p :: l, plat, hp, hl => by
    have h1 := hl p (by simp)
    have ih := sect_flush m l (Go.splice plat (512 * p.1) p.2) (splice_len hp h1.2 h1.1) (fun q hq => hl q (by simp [hq]))
    show sect (layAll (Go.splice plat (512 * p.1) p.2) l) [] m = _
    rw [ih]
    unfold sect
    rw [List.foldl_cons, splice_sect hp h1.2 h1.1]
theorem sect_any {N : Nat} (m : Nat) : ∀ (l : List (Nat × List Int)) (plat : List Int), plat.length = 512 * N → U8 plat → m < N → (∀ p ∈ l, p.2.length = 512 ∧ U8 p.2) → (sect plat l m).length = 512 ∧ U8 (sect plat l m) := by
  intro l plat hp hu hm hl
  unfold sect
  have key : ∀ (l : List (Nat × List Int)) (acc : List Int), acc.length = 512 → U8 acc → (∀ p ∈ l, p.2.length = 512 ∧ U8 p.2) → (l.foldl (fun acc p => if p.1 = m then p.2 else acc) acc).length = 512 ∧ U8 (l.foldl (fun acc p => if p.1 = m then p.2 else acc) acc) := by
    intro l
    induction l with
    | nil => exact fun acc h1 h2 _ => ⟨h1, h2⟩
    | cons p l ih =>
      intro acc h1 h2 h3
      rw [List.foldl_cons]
      refine ih _ ?_ ?_ (fun q hq => h3 q (by simp [hq]))
      · split
        · exact (h3 p (by simp)).1
        · exact h1
      · split
        · exact (h3 p (by simp)).2
        · exact h2
  refine key l _ ?_ ((hu.drop _).take _) hl
  simp
  omega
theorem Dk.secOk {w : World} {g N : Nat} {plat : List Int} {l : List (Nat × List Int)} {left rd wt fl : Int} {k : Nat} {F : List Nat} (h : Dk w g N plat l left rd wt fl k F) {m : Nat} (hm : m < N) : (sect plat l m).length = 512 ∧ U8 (sect plat l m) :=
  sect_any m l plat h.platOk.2.1 h.platOk.1 hm (fun p hp => (h.writes p hp).2)
end Go.Proofs.Ytpajdnjbeplneaa
