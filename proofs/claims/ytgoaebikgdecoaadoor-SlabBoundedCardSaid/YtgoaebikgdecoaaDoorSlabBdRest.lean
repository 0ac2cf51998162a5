/-
  'SlabBounded' behind its first loop: the rooms, the objects that are made and freed again.
-/
import Derived.Test.YtgoaebikgdecoaaDoorSlabKeep
namespace Go.Proofs.YtgoaebikgdecoaaDoor
open Go.ChangeShapes Go.WideShapes Go.ChangeAt Go.RowKit Go.Maps
set_option linter.unusedVariables false

def rowI (f : Nat → Int) (N : Nat) : Array Value := ((List.range N).map fun (i : Nat) => Value.int .i64 (f i)).toArray
theorem rowI_get (f : Nat → Int) {N i : Nat} (h : i < N) : (rowI f N)[i]? = some (.int .i64 (f i)) := by
  simp [rowI, List.getElem?_map, List.getElem?_range h]
theorem rowI_set (f f' : Nat → Int) {N i : Nat} (h : ∀ j, j < N → f' j = if j = i then f' i else f j) : (rowI f N).setIfInBounds i (.int .i64 (f' i)) = rowI f' N := by
  unfold rowI
  rw [List.setIfInBounds_toArray]
  congr 1
  apply List.ext_getElem
  · simp
  · intro j h1 h2
    have hj : j < N := by simpa using h2
    rw [List.getElem_set]
    have := h j hj
    by_cases e : i = j
    · subst e; simp
    · rw [if_neg e]
      rw [if_neg (by omega)] at this
      simp [this]
theorem rowI_congr {f f' : Nat → Int} {N : Nat} (h : ∀ j, j < N → f j = f' j) : rowI f N = rowI f' N := by
  unfold rowI
  congr 1
  exact List.map_congr_left fun j hj => by rw [h j (List.mem_range.1 hj)]
theorem BackS.congr {ss0 ss : List SL} {O0 O : List (Int × Int)} {M M' : Int → Prop} (h : BackS ss0 O0 ss O M) (e : ∀ x, M x ↔ M' x) : BackS ss0 O0 ss O M' := by
  have : M = M' := funext fun x => propext (e x)
  rw [← this]; exact h
theorem KRow.keepB {k : IntKind} {e : TypeId} {w w' : World} {B : Nat} {v : Value} {ns : List Int} (h : KRow k e w B v ns) (hk : ∀ (q : Nat) (cs : Array Value), Blk w q e cs → Blk w' q e cs) : KRow k e w' B v ns := by
  obtain ⟨h1, h2⟩ := h
  refine ⟨h1, h2.imp id ?_⟩
  rintro ⟨b, cap, cur, e1, hb, hg, r⟩
  exact ⟨b, cap, cur, e1, hb, hk b cur hg, r⟩
theorem KRow.blkOf {k : IntKind} {e : TypeId} {w : World} {B : Nat} {v : Value} {ns : List Int} (h : KRow k e w B v ns) {q : Nat} (hq : v.ownBlock = some q) : B ≤ q ∧ ∃ cs, Blk w q e cs := by
  rcases h.2 with ⟨e', _⟩ | ⟨b, cap, cur, e1, hb, hg, r⟩
  · rw [e'] at hq; simp [Value.ownBlock] at hq
  · rw [e1] at hq
    simp only [Value.ownBlock, Option.some.injEq] at hq
    subst hq
    exact ⟨hb, cur, hg⟩
section
variable {w1 wr W : World} {g m rb : Nat} {L : Int} {ss : List SL} {O : List (Int × Int)} {v : Value} {ids : List Int}
def Bd2 (w1 : World) (g m : Nat) (L : Int) (ss : List SL) (O : List (Int × Int)) (rb k : Nat) (wr : World) : Prop :=
  Hp8 w1 wr g m L ss O ∧ Blk wr rb 46 (rowI (fun i => if i < k then roomF L ss i else 0) 12) ∧ w1.heap.size ≤ rb
theorem bd2_start (h : Hp8 w1 wr g m L ss O) : Bd2 w1 g m L ss O wr.heap.size 0 (wr.alloc (.cells #[.int .i64 0, .int .i64 0, .int .i64 0, .int .i64 0, .int .i64 0, .int .i64 0, .int .i64 0, .int .i64 0, .int .i64 0, .int .i64 0, .int .i64 0, .int .i64 0] 46)) := by
  refine ⟨h.only ((Only.refl [] wr).alloc _), ?_, h.out.size⟩
  have e : (#[.int .i64 0, .int .i64 0, .int .i64 0, .int .i64 0, .int .i64 0, .int .i64 0, .int .i64 0, .int .i64 0, .int .i64 0, .int .i64 0, .int .i64 0, .int .i64 0] : Array Value) = rowI (fun i => if i < 0 then roomF L ss i else 0) 12 := by rfl
  rw [e]
  exact Blk.new _ _ _
theorem bd2_room {k : Nat} (P : Bd2 w1 g m L ss O rb k wr) (hT : TabS w1) (hk : k < 12) : Calls Tryd.prog 20 #[.pointer (some ⟨g, 0, none⟩), .int .i64 k] wr fun e w' => e = .returned (.int .i64 (roomF L ss k)) ∧ w'.cell? ⟨rb, k, none⟩ = some (.int .i64 0) ∧ w'.frozen? ⟨rb, k, none⟩ = false ∧ Bd2 w1 g m L ss O rb (k + 1) (w'.setCell ⟨rb, k, none⟩ (.int .i64 (roomF L ss k))) := by
  obtain ⟨h1, h2, h3⟩ := P
  refine (hp_room hT h1 k).mono ?_
  rintro e w' ⟨rfl, h4, ho⟩
  have hb := h2.only ho (by simp)
  have hc : w'.cell? ⟨rb, k, none⟩ = some (.int .i64 0) := by rw [hb.cell, rowI_get _ hk]; simp
  refine ⟨rfl, hc, hb.frozen _, h4.otherC (S := [rb]) ((Only.refl _ _).setCell _ (by simp)) (fun q hq => ?_), ?_, h3⟩
  · obtain rfl := List.mem_singleton.1 hq
    exact ⟨h3, _, _, hb, by decide, by decide⟩
  · have h5 := hb.set_ k (.int .i64 (roomF L ss k))
    have e := rowI_set (fun i => if i < k then roomF L ss i else 0) (fun i => if i < k + 1 then roomF L ss i else 0) (N := 12) (i := k) (fun j _ => by
      by_cases e : j = k
      · subst e; simp
      · rw [if_neg e]
        by_cases hj : j < k
        · simp [hj, show j < k + 1 by omega]
        · simp [hj, show ¬ j < k + 1 by omega])
    simp only [Nat.lt_succ_self, if_true] at e
    rw [e] at h5
    exact h5

def Bd3 (w1 : World) (g m : Nat) (L : Int) (ss : List SL) (O : List (Int × Int)) (rb : Nat) (v : Value) (ids : List Int) (wr : World) : Prop :=
  ∃ ss' O', Hp8 w1 wr g m L ss' O' ∧ FullL ss' ∧ BackS ss O ss' O' (fun x => x ∈ ids) ∧ ids.Nodup ∧ Blk wr rb 46 (rowI (fun i => roomF L ss i) 12) ∧ KRow .i64 3 wr w1.heap.size v ids ∧ w1.heap.size ≤ rb
theorem bd3_start (P : Bd2 w1 g m L ss O rb 12 wr) (hF : FullL ss) : Bd3 w1 g m L ss O rb (.slice none 0 0) [] wr := by
  obtain ⟨h1, h2, h3⟩ := P
  refine ⟨ss, O, h1, hF, (BackS.refl ss O).congr (fun x => by simp), List.nodup_nil, ?_, KRow.nil _ _ _ _, h3⟩
  rw [rowI_congr (f' := fun i => if i < 12 then roomF L ss i else 0) (fun j hj => by simp [hj])]
  exact h2
/-- Behind an Alloc that came to id: it has yet to be noted. -/
def Bd3M (w1 : World) (g m : Nat) (L : Int) (ss : List SL) (O : List (Int × Int)) (rb : Nat) (v : Value) (ids : List Int) (id : Int) (w' : World) : Prop :=
  KRow .i64 3 (w'.alloc (.cells #[.int .i64 id] 3)) w1.heap.size v ids ∧ ids.length < 4000000000000 ∧ w1.heap.size ≤ (w'.alloc (.cells #[.int .i64 id] 3)).heap.size ∧
  ∀ v' w4, KRow .i64 3 w4 w1.heap.size v' (ids ++ [id]) → (w'.alloc (.cells #[.int .i64 id] 3)).grownBy w4 v.ownBlock → Bd3 w1 g m L ss O rb v' (ids ++ [id]) w4
theorem bd3_alloc (P : Bd3 w1 g m L ss O rb v ids wr) (hT : TabS w1) (k : Int) :
    (∃ id, Calls Tryd.prog 11 #[.pointer (some ⟨g, 0, none⟩), .int .i64 k, .int .i64 3] wr fun e w' => e = .returned (tupA id 0) ∧ Bd3M w1 g m L ss O rb v ids id w') ∨
    ∃ y x, x ≠ 0 ∧ Calls Tryd.prog 11 #[.pointer (some ⟨g, 0, none⟩), .int .i64 k, .int .i64 3] wr fun e w' => e = .returned (tupA y x) ∧ Bd3 w1 g m L ss O rb v ids w' := by
  obtain ⟨ss', O', h1, h2, h3, h4, h5, h6, h7⟩ := P
  by_cases he : (allocF L ss' O' k 3).2.2 = 0
  · refine .inl ⟨(allocF L ss' O' k 3).2.1, (hp_alloc_m hT h1 k 3 (by decide)).mono ?_⟩
    obtain ⟨hB, hnew⟩ := BackS.alloc h1.ok h3 k 3 he
    rw [he]
    rintro e w' ⟨rfl, hp, hk⟩
    have hr := h6.keepB (w' := w') (fun q cs hb => hk.cells q _ cs hb (by decide) (by decide))
    have hrA := KRow.only hr ((Only.refl [] w').alloc (.cells #[.int .i64 (allocF L ss' O' k 3).2.1] 3)) (by simp)
    have hlen : ids.length ≤ 32768 := by
      have h9 := keys_len ids (O'.map (·.1)) h4 fun x hx => (h3.keys x).2 (.inr hx)
      have := h1.ok.olen h1.nd
      simp only [List.length_map] at h9
      omega
    refine ⟨rfl, hrA, by omega, Nat.le_trans hp.out.size ((Only.refl [] w').alloc _).size, fun v' w4 hr4 hg => ?_⟩
    have hpA := hp.only ((Only.refl [] w').alloc (.cells #[.int .i64 (allocF L ss' O' k 3).2.1] 3))
    have hoG : Only v.ownBlock.toList _ w4 := only_grown' hg
    have hbA := (hk.cells _ _ _ h5 (by decide) (by decide)).alloc (.cells #[.int .i64 (allocF L ss' O' k 3).2.1] 3)
    refine ⟨_, _, hpA.otherC hoG (fun q hq => ?_), alloc_full h1.ok h2 k 3, hB.congr (fun x => by simp), ?_, hbA.only hoG (fun hm => ?_), hr4, h7⟩
    · obtain ⟨k1, cs, k2⟩ := hrA.blkOf (Option.mem_toList.1 hq)
      exact ⟨k1, _, _, k2, by decide, by decide⟩
    · rw [List.nodup_append]
      exact ⟨h4, by simp, fun a ha b hb e => hnew (by rw [← List.mem_singleton.1 hb, ← e]; exact ha)⟩
    · obtain ⟨_, cs, k2⟩ := hrA.blkOf (Option.mem_toList.1 hm)
      exact (Blk.ne_ hbA k2 (by decide)) rfl
  · refine .inr ⟨(allocF L ss' O' k 3).2.1, _, he, (hp_alloc_m hT h1 k 3 (by decide)).mono ?_⟩
    have hsame := alloc_fail he
    rw [hsame]
    rintro e w' ⟨rfl, hp, hk⟩
    exact ⟨rfl, ss', O', hp, h2, h3, h4, hk.cells _ _ _ h5 (by decide) (by decide), h6.keepB (fun q cs hb => hk.cells q _ cs hb (by decide) (by decide)), h7⟩

/-- Those that are there yet, i of them being freed, from both ends. -/
def leftI (ids : List Int) (i : Nat) (x : Int) : Prop := ∃ j, (i + 1) / 2 ≤ j ∧ j < ids.length - i / 2 ∧ ids[j]? = some x
def idxI (n i : Nat) : Nat := if i % 2 = 1 then n - 1 - i / 2 else i / 2
theorem leftI_step {ids : List Int} (hd : ids.Nodup) {i : Nat} (hi : i < ids.length) : leftI ids i (gb ids (idxI ids.length i)) ∧ ∀ x, leftI ids (i + 1) x ↔ leftI ids i x ∧ x ≠ gb ids (idxI ids.length i) := by
  have hx : idxI ids.length i < ids.length := by unfold idxI; split <;> omega
  have hg : ids[idxI ids.length i]? = some (gb ids (idxI ids.length i)) := by simp [gb, List.getD, List.getElem?_eq_getElem hx]
  have hu : ∀ j x, ids[j]? = some x → x = gb ids (idxI ids.length i) → j = idxI ids.length i := fun j x h e => by
    obtain ⟨hj, ej⟩ := List.getElem?_eq_some_iff.1 h
    obtain ⟨hj2, ej2⟩ := List.getElem?_eq_some_iff.1 hg
    exact (List.getElem_inj hd).1 (by rw [ej, ej2, e])
  refine ⟨⟨_, ?_, ?_, hg⟩, fun x => ⟨?_, ?_⟩⟩
  · unfold idxI; split <;> omega
  · unfold idxI; split <;> omega
  · rintro ⟨j, h1, h2, h3⟩
    refine ⟨⟨j, by omega, by omega, h3⟩, fun e => ?_⟩
    have := hu j x h3 e
    unfold idxI at this
    split at this <;> omega
  · rintro ⟨⟨j, h1, h2, h3⟩, hne⟩
    have hj : j ≠ idxI ids.length i := by
      rintro rfl
      rw [hg] at h3
      injection h3 with h3
      exact hne h3.symm
    refine ⟨j, ?_, ?_, h3⟩
    · unfold idxI at hj; split at hj <;> omega
    · unfold idxI at hj; split at hj <;> omega
def Bd4 (w1 : World) (g m : Nat) (L : Int) (ss : List SL) (O : List (Int × Int)) (rb : Nat) (v : Value) (ids : List Int) (i : Nat) (wr : World) : Prop :=
  ∃ ss' O', Hp8 w1 wr g m L ss' O' ∧ FullL ss' ∧ BackS ss O ss' O' (leftI ids i) ∧ ids.Nodup ∧ Blk wr rb 46 (rowI (fun i => roomF L ss i) 12) ∧ KRow .i64 3 wr w1.heap.size v ids ∧ w1.heap.size ≤ rb
theorem bd4_start (P : Bd3 w1 g m L ss O rb v ids wr) : Bd4 w1 g m L ss O rb v ids 0 wr := by
  obtain ⟨ss', O', h1, h2, h3, h4, h5, h6, h7⟩ := P
  refine ⟨ss', O', h1, h2, h3.congr (fun x => ?_), h4, h5, h6, h7⟩
  unfold leftI
  rw [List.mem_iff_getElem?]
  constructor
  · rintro ⟨j, hj⟩
    have := (List.getElem?_eq_some_iff.1 hj).1
    exact ⟨j, by omega, by omega, hj⟩
  · rintro ⟨j, _, _, hj⟩
    exact ⟨j, hj⟩
theorem bd4_free {i : Nat} (P : Bd4 w1 g m L ss O rb v ids i wr) (hT : TabS w1) (h0 : OkH L ss O) (hF0 : FullL ss) (hi : i < ids.length) :
    Calls Tryd.prog 14 #[.pointer (some ⟨g, 0, none⟩), .int .i64 (gb ids (idxI ids.length i))] wr fun e w' => e = .returned (.int .i64 0) ∧ Bd4 w1 g m L ss O rb v ids (i + 1) w' := by
  obtain ⟨ss', O', h1, h2, h3, h4, h5, h6, h7⟩ := P
  obtain ⟨k1, k2⟩ := leftI_step h4 hi
  have hw : iW (gb ids (idxI ids.length i)) := h1.kw ((h3.keys _).2 (.inr k1))
  obtain ⟨e0, hB⟩ := BackS.free h0 hF0 h1.ok h3 _ k1
  refine (hp_free_m hT h1 _ hw).mono ?_
  rw [e0]
  rintro e w' ⟨rfl, hp, hk⟩
  exact ⟨rfl, _, _, hp, free_full h1.ok h2 _, hB.congr (fun x => (k2 x).symm), h4, hk.cells _ _ _ h5 (by decide) (by decide), h6.keepB (fun q cs hb => hk.cells q _ cs hb (by decide) (by decide)), h7⟩
def Bd5 (w1 : World) (g m : Nat) (L : Int) (ss : List SL) (rb : Nat) (wr : World) : Prop :=
  ∃ ss' O', Hp8 w1 wr g m L ss' O' ∧ ToldS ss ss' ∧ Blk wr rb 46 (rowI (fun i => roomF L ss i) 12)
theorem bd5_start (P : Bd4 w1 g m L ss O rb v ids ids.length wr) (h0 : OkH L ss O) (hF0 : FullL ss) : Bd5 w1 g m L ss rb wr := by
  obtain ⟨ss', O', h1, h2, h3, h4, h5, h6, h7⟩ := P
  refine ⟨ss', O', h1, BackS.told h0 h1.ok hF0 h2 h3 (fun id hm => ?_), h5⟩
  obtain ⟨j, k1, k2, _⟩ := hm
  omega
theorem Bd5.quiet (P : Bd5 w1 g m L ss rb wr) (ho : Only [] wr W) : Bd5 w1 g m L ss rb W := by
  obtain ⟨ss', O', h1, h2, h3⟩ := P
  exact ⟨ss', O', h1.only ho, h2, h3.only ho (by simp)⟩
theorem bd5_base (P : Bd5 w1 g m L ss rb wr) : Only [] w1 wr := by
  obtain ⟨ss', O', h1, _⟩ := P
  exact h1.out
theorem bd5_cell (P : Bd5 w1 g m L ss rb wr) {k : Nat} (hk : k < 12) : wr.cell? ⟨rb, k, none⟩ = some (.int .i64 (roomF L ss k)) := by
  obtain ⟨ss', O', h1, h2, h3⟩ := P
  rw [h3.cell, rowI_get _ hk]
theorem bd5_room (P : Bd5 w1 g m L ss rb wr) (hT : TabS w1) (k : Int) : Calls Tryd.prog 20 #[.pointer (some ⟨g, 0, none⟩), .int .i64 k] wr fun e w' => e = .returned (.int .i64 (roomF L ss k)) ∧ Only [] wr w' := by
  obtain ⟨ss', O', h1, h2, h3⟩ := P
  refine (hp_room hT h1 k).mono ?_
  rintro e w' ⟨rfl, h4, ho⟩
  rw [h2.room L k]
  exact ⟨rfl, ho⟩
theorem bd5_used (P : Bd5 w1 g m L ss rb wr) (hT : TabS w1) : Calls Tryd.prog 17 #[.pointer (some ⟨g, 0, none⟩)] wr fun e w' => e = .returned (.int .i64 (usedL ss)) ∧ Bd5 w1 g m L ss rb w' := by
  obtain ⟨ss', O', ⟨v, k1, k2, k3, k4, k5, k6⟩, h2, h3⟩ := P
  refine (hUsed_is k1 k2 (hT.only k6 (by simp))).mono ?_
  rintro e w' ⟨rfl, ho⟩
  rw [← h2.used]
  exact ⟨rfl, ss', O', Hp8.only ⟨v, k1, k2, k3, k4, k5, k6⟩ ho, h2, h3.only ho (by simp)⟩
theorem bd5_bytes (P : Bd5 w1 g m L ss rb wr) : Calls Tryd.prog 18 #[.pointer (some ⟨g, 0, none⟩)] wr fun e w' => e = .returned (.int .i64 (2048 * (cntK ss : Nat))) ∧ Bd5 w1 g m L ss rb w' := by
  obtain ⟨ss', O', ⟨v, k1, k2, k3, k4, k5, k6⟩, h2, h3⟩ := P
  refine (hBytes_is k1 (by have := k2.few; omega)).mono ?_
  rintro e w' ⟨rfl, ho⟩
  rw [← h2.cnt]
  exact ⟨rfl, ss', O', Hp8.only ⟨v, k1, k2, k3, k4, k5, k6⟩ ho, h2, h3.only ho (by simp)⟩
end
end Go.Proofs.YtgoaebikgdecoaaDoor
