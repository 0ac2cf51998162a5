/-
  Slabs: a heap beside the law's own map and rows: what Alloc and Free leave alone ('KeepsA': other blocks of cells, other maps).
-/
import Derived.Test.YtgoaebikgdecoaaDoorSlabOps2
namespace Go.Proofs.YtgoaebikgdecoaaDoor
open Go.ChangeShapes Go.WideShapes Go.ChangeAt Go.RowKit Go.Maps
set_option linter.unusedVariables false

/-- Other blocks of cells stay, and other maps. -/
structure KeepsA (m : Nat) (w w' : World) : Prop where
  cells : KeepsB w w'
  maps : ∀ (q : Nat) es cl, q ≠ m → w.heap[q]? = some (.map es cl) → w'.heap[q]? = some (.map es cl)
section
variable {w0 w w' : World} {g m : Nat} {L : Int} {v : Value} {ss : List SL} {O : List (Int × Int)} {S : List Nat}
theorem KeepsA.of_only (ho : Only [] w w') : KeepsA m w w' := ⟨KeepsB.of_only ho, fun q es cl _ h => (ho.block q (Array.getElem?_eq_some_iff.1 h).1 (by simp)).trans h⟩
theorem KeepsA.of_heap (h1 : IsHp w g L v ss m O) (ho : Only (g :: m :: v.ownBlock.toList) w w') : KeepsA m w w' := ⟨KeepsB.of_heap h1 ho, fun q es cl hne h => by
  refine (ho.block q (Array.getElem?_eq_some_iff.1 h).1 (fun hm => ?_)).trans h
  simp only [List.mem_cons, Option.mem_toList] at hm
  rcases hm with rfl | rfl | hm
  · have := h1.blk
    unfold Blk at this
    rw [h] at this
    cases this
  · exact hne rfl
  · rcases h1.row.2 with ⟨e, _⟩ | ⟨b, cap, cur, e, _, hg, _⟩
    · rw [e] at hm; simp [Value.ownBlock] at hm
    · rw [e] at hm
      simp only [Value.ownBlock, Option.some.injEq] at hm
      subst hm
      rw [hg] at h
      cases h⟩
theorem hp_alloc_m (hT : TabS w0) (h : Hp8 w0 w g m L ss O) (kind owner : Int) (how : iW owner) :
    Calls Tryd.prog 11 #[.pointer (some ⟨g, 0, none⟩), .int .i64 kind, .int .i64 owner] w fun e w' => e = .returned (tupA (allocF L ss O kind owner).2.1 (allocF L ss O kind owner).2.2) ∧ Hp8 w0 w' g m L (allocF L ss O kind owner).1.1 (allocF L ss O kind owner).1.2 ∧ KeepsA m w w' := by
  obtain ⟨v, h1, h2, h3, h4, h5, h6⟩ := h
  have hlt := hT.lt
  have hTw := hT.only h6 (by simp)
  have hA : ∀ (ss1 : List SL) (n : Nat) (s1 : SL), OkH L ss1 O → ss1[n]? = some s1 → s1.free ≠ 0 → ∀ e w', AllocH w g L v m O owner ss1 n s1 e w' →
      e = .returned (tupA (takeAt ss1 O n owner).2.1 (takeAt ss1 O n owner).2.2) ∧ Hp8 w0 w' g m L (takeAt ss1 O n owner).1.1 (takeAt ss1 O n owner).1.2 ∧ KeepsA m w w' := by
    rintro ss1 n s1 k1 k2 k3 e w' ⟨v', rfl, k4, k5, k6⟩
    unfold takeAt
    rw [getD_of k2]
    refine ⟨rfl, ⟨v', k4, k1.take k2 k3 owner, h3, h4, fun q hq => ?_, h6.trans' k5 (fun q hq hm => ?_)⟩, KeepsA.of_heap h1 k5⟩
    · rcases k6 q hq with k | k
      · exact h5 q k
      · have := h6.size; omega
    · simp only [List.mem_cons, Option.mem_toList] at hm
      rcases hm with rfl | rfl | hm
      · omega
      · omega
      · have := h5 q hm; omega
  by_cases hk : szF kind = 0
  · refine (hAlloc_kind h1 hTw kind owner hk).mono ?_
    rintro e w' ⟨rfl, ho⟩
    unfold allocF
    rw [if_pos hk]
    exact ⟨rfl, Hp8.only ⟨v, h1, h2, h3, h4, h5, h6⟩ ho, KeepsA.of_only ho⟩
  · rcases firstI_cases (hasK kind) ss with ⟨e1, _⟩ | ⟨i, s, hs, hp, e1, _⟩
    · by_cases hm : moreF L ss = 0
      · refine (hAlloc_full h1 h2 hTw kind owner hk e1 hm).mono ?_
        rintro e w' ⟨rfl, ho⟩
        unfold allocF
        rw [if_neg hk, e1, if_neg (by decide), if_pos hm]
        exact ⟨rfl, Hp8.only ⟨v, h1, h2, h3, h4, h5, h6⟩ ho, KeepsA.of_only ho⟩
      · obtain ⟨k1, k2⟩ := h2.build hk hm
        refine (hAlloc_built h1 h2 hTw (fun q hq => ?_) kind owner how hk e1 hm).mono fun e w' he => ?_
        · rcases List.mem_cons.1 hq with rfl | hq
          · omega
          · have := h5 q (by simpa using hq); omega
        · unfold allocF
          rw [if_neg hk, e1, if_neg (by decide), if_neg hm]
          exact hA _ _ _ k1 k2 (newS_pos hk) e w' he
    · have hf0 : s.free ≠ 0 := by
        simp only [hasK, Bool.and_eq_true, decide_eq_true_eq] at hp
        exact hp.2
      refine (hAlloc_found h1 h2 hTw kind owner how hk hs hf0 e1).mono fun e w' he => ?_
      unfold allocF
      rw [if_neg hk, e1, if_pos (by omega)]
      exact hA _ _ _ h2 hs hf0 e w' he
theorem hp_free_m (hT : TabS w0) (h : Hp8 w0 w g m L ss O) (id : Int) (hid : iW id) :
    Calls Tryd.prog 14 #[.pointer (some ⟨g, 0, none⟩), .int .i64 id] w fun e w' => e = .returned (.int .i64 (freeF ss O id).2) ∧ Hp8 w0 w' g m L (freeF ss O id).1.1 (freeF ss O id).1.2 ∧ KeepsA m w w' := by
  obtain ⟨v, h1, h2, h3, h4, h5, h6⟩ := h
  have hlt := hT.lt
  have hTw := hT.only h6 (by simp)
  unfold freeF
  by_cases hm : id ∈ O.map (·.1)
  · rw [if_pos hm]
    obtain ⟨n, s, p, k1, k2, k3, k4, k5⟩ := liveAt_low ((h2.keys id).1 hm)
    obtain ⟨x, hx, hx1⟩ := List.mem_map.1 hm
    have e1 : (id / 64).toNat = n := by omega
    have e2 : (id % 64).toNat = p := by omega
    have hx2 : (id, x.2) ∈ O := by rw [← hx1]; exact hx
    rw [e1, e2, getD_of k1]
    refine (hFree_ok h1 h2 hTw (fun q hq => ?_) k1 k2 k3 k5 hx2).mono ?_
    · rcases List.mem_cons.1 hq with rfl | hq
      · omega
      · have := h5 q (by simpa using hq); omega
    · rintro e w' ⟨rfl, j1, j2⟩
      refine ⟨rfl, ⟨v, j1, ?_, h3, h4, h5, h6.trans' j2 (fun q hq hm => ?_)⟩, KeepsA.of_heap h1 (j2.mono (fun q _ hq => List.mem_cons_of_mem _ hq))⟩
      · have := h2.give k1 k2 k3
        rwa [← k5] at this
      · rcases List.mem_cons.1 hm with rfl | hm
        · omega
        · have := h5 q (by simpa using hm); omega
  · rw [if_neg hm]
    refine (hFree_no h1 hid hm).mono ?_
    rintro e w' ⟨rfl, rfl⟩
    exact ⟨rfl, ⟨v, h1, h2, h3, h4, h5, h6⟩, KeepsA.of_only (Only.refl _ _)⟩

theorem Hp8.mlt (h : Hp8 w0 w g m L ss O) : m < w.heap.size := by obtain ⟨v, h1, _⟩ := h; exact h1.lt
theorem Hp8.kw (h : Hp8 w0 w g m L ss O) {id : Int} (hm : id ∈ O.map (·.1)) : iW id := by
  obtain ⟨v, h1, _⟩ := h
  obtain ⟨D, _, hh⟩ := h1.own
  obtain ⟨p, hp, e⟩ := List.mem_map.1 hm
  exact e ▸ hh.wf p hp
theorem Hp8.nd (h : Hp8 w0 w g m L ss O) : (O.map (·.1)).Nodup := by
  obtain ⟨v, h1, _⟩ := h
  obtain ⟨D, _, hh⟩ := h1.own
  exact hh.nd
/-- A map of the law's own turns. -/
theorem Hp8.otherM (h : Hp8 w0 w g m L ss O) {q : Nat} (ho : Only [q] w w') (hq : q ≠ m) {es cl} (hb : w.heap[q]? = some (.map es cl)) (h0 : w0.heap.size ≤ q) : Hp8 w0 w' g m L ss O := by
  obtain ⟨v, h1, h2, h3, h4, h5, h6⟩ := h
  refine ⟨v, h1.only ho ?_ ?_ ?_, h2, h3, h4, h5, h6.trans' ho (fun k hk hm => by simp at hm; omega)⟩
  · simp only [List.mem_singleton]
    rintro rfl
    have := h1.blk
    unfold Blk at this
    rw [hb] at this
    cases this
  · simpa using Ne.symm hq
  · intro k hk hm
    simp only [List.mem_singleton] at hm
    subst hm
    rcases h1.row.2 with ⟨e, _⟩ | ⟨b, cap, cur, e, _, hg, _⟩
    · rw [e] at hk; simp [Value.ownBlock] at hk
    · rw [e] at hk
      simp only [Value.ownBlock, Option.some.injEq] at hk
      subst hk
      rw [hg] at hb
      cases hb
/-- A block of cells of the law's own turns, or none. -/
theorem Hp8.otherC (h : Hp8 w0 w g m L ss O) (ho : Only S w w') (hS : ∀ q ∈ S, w0.heap.size ≤ q ∧ ∃ T cs, Blk w q T cs ∧ T ≠ 50 ∧ T ≠ 62) : Hp8 w0 w' g m L ss O := by
  obtain ⟨v, h1, h2, h3, h4, h5, h6⟩ := h
  refine ⟨v, h1.only ho (fun hm => ?_) (fun hm => ?_) (fun k hk hm => ?_), h2, h3, h4, h5, h6.trans' ho (fun k hk hm => by have := (hS k hm).1; omega)⟩
  · obtain ⟨_, T, cs, hb, t1, t2⟩ := hS g hm
    exact (Blk.ne_ hb h1.blk t1) rfl
  · obtain ⟨_, T, cs, hb, t1, t2⟩ := hS m hm
    obtain ⟨D, hD, _⟩ := h1.own
    obtain ⟨es, clock, hbm, _⟩ := hD
    unfold Blk at hb
    rw [hb] at hbm
    cases hbm
  · obtain ⟨_, T, cs, hb, t1, t2⟩ := hS k hm
    exact t2 ((h1.row.at_ hk).2 _ _ hb)
end
theorem keys_len : ∀ (l m : List Int), l.Nodup → (∀ x ∈ l, x ∈ m) → l.length ≤ m.length
  | [], m, _, _ => by simp
  | x :: l, m, hd, hs => by
    rw [List.nodup_cons] at hd
    have h1 := keys_len l (m.erase x) hd.2 fun y hy => by
      refine (List.mem_erase_of_ne ?_).2 (hs y (by simp [hy]))
      rintro rfl
      exact hd.1 hy
    have hm := hs x (by simp)
    have h2 := List.length_erase_of_mem hm
    have h3 := List.length_pos_of_mem hm
    simp only [List.length_cons]
    omega
/-- The law's map: true for each id that the heap has. -/
def LiveAt (w : World) (ml : Nat) (Ob : List (Int × Bool)) (O : List (Int × Int)) : Prop :=
  (∃ D, w.ownsMap Tryd.prog 3 elemB ml Ob.length D ∧ MHolds encB D Ob) ∧ (∀ id, id ∈ Ob.map (·.1) ↔ id ∈ O.map (·.1)) ∧ ∀ p ∈ Ob, p.2 = true
section
variable {w w' : World} {ml m : Nat} {Ob : List (Int × Bool)} {O : List (Int × Int)} {id : Int}
theorem LiveAt.blk (h : LiveAt w ml Ob O) : ∃ es cl, w.heap[ml]? = some (.map es cl) := by
  obtain ⟨⟨D, ⟨es, cl, hb, _⟩, _⟩, _⟩ := h
  exact ⟨es, cl, hb⟩
theorem LiveAt.keep (h : LiveAt w ml Ob O) (hk : w'.heap[ml]? = w.heap[ml]?) : LiveAt w' ml Ob O := by
  obtain ⟨⟨D, ⟨es, cl, hb, r⟩, hh⟩, h2, h3⟩ := h
  exact ⟨⟨D, ⟨es, cl, hk.trans hb, r⟩, hh⟩, h2, h3⟩
theorem LiveAt.only (h : LiveAt w ml Ob O) (ho : Only [] w w') : LiveAt w' ml Ob O := by
  obtain ⟨es, cl, hb⟩ := h.blk
  exact h.keep (ho.block ml (Array.getElem?_eq_some_iff.1 hb).1 (by simp))
theorem LiveAt.keepA (h : LiveAt w ml Ob O) (hk : KeepsA m w w') (hne : ml ≠ m) : LiveAt w' ml Ob O := by
  obtain ⟨es, cl, hb⟩ := h.blk
  exact h.keep ((hk.maps _ _ _ hne hb).trans hb.symm)
theorem LiveAt.len (h : LiveAt w ml Ob O) (hnd : (O.map (·.1)).Nodup) : Ob.length = O.length := by
  obtain ⟨⟨D, _, hh⟩, h2, _⟩ := h
  have h1 := keys_len _ _ hh.nd fun x hx => (h2 x).1 hx
  have h3 := keys_len _ _ hnd fun x hx => (h2 x).2 hx
  simp only [List.length_map] at h1 h3
  omega
theorem LiveAt.yes (h : LiveAt w ml Ob O) (hm : id ∈ O.map (·.1)) : (Instr.lookup 45 (.map (some ml)) (.int .i64 id) false).run Tryd.prog w = .ok (.bool true) w := by
  obtain ⟨⟨D, ho, hh⟩, h2, h3⟩ := h
  obtain ⟨p, hp, e⟩ := List.mem_map.1 ((h2 id).2 hm)
  have hp2 : (id, true) ∈ Ob := by
    have := h3 p hp
    rw [← e, ← this]; exact hp
  have := lookB hh ho hp2 false
  simpa using this
theorem LiveAt.no (h : LiveAt w ml Ob O) (hw : iW id) (hm : id ∉ O.map (·.1)) : (Instr.lookup 45 (.map (some ml)) (.int .i64 id) false).run Tryd.prog w = .ok (.bool false) w := by
  obtain ⟨⟨D, ho, hh⟩, h2, h3⟩ := h
  exact lookB_out hh ho hw (fun hx => hm ((h2 id).1 hx))
theorem LiveAt.lenRun (h : LiveAt w ml Ob O) (ty : TypeId) : (Builtin.len_ #[45] ty #[.map (some ml)]).run Tryd.prog w = .ok (.int .i64 Ob.length) w := by
  obtain ⟨⟨D, ho, hh⟩, h2, h3⟩ := h
  exact lenB hh ho ty
theorem LiveAt.store (h : LiveAt w ml Ob O) {O' : List (Int × Int)} (hl : Ob.length < maxLen) (hw : iW id) (hm : id ∉ O.map (·.1)) (hk : ∀ x, x ∈ O'.map (·.1) ↔ x ∈ O.map (·.1) ∨ x = id) :
    ∃ w2 Ob2, (Instr.mapUpdate 45 (.map (some ml)) (.int .i64 id) (.bool true)).run Tryd.prog w = .ok () w2 ∧ LiveAt w2 ml Ob2 O' ∧ Only [ml] w w2 := by
  obtain ⟨⟨D, ho, hh⟩, h2, h3⟩ := h
  have hn : id ∉ Ob.map (·.1) := fun hx => hm ((h2 id).1 hx)
  obtain ⟨w2, e1, e2, e3⟩ := storeB_new (f := true) hh ho hl hw hn
  refine ⟨w2, _, e1, ⟨⟨_, e2, hh.new hw hn⟩, fun x => ?_, fun p hp => ?_⟩, e3⟩
  · rw [hk, ← h2, List.map_append, List.mem_append]
    simp
  · rcases List.mem_append.1 hp with hp | hp
    · exact h3 p hp
    · rw [List.mem_singleton.1 hp]
theorem LiveAt.drop (h : LiveAt w ml Ob O) {O' : List (Int × Int)} (hm : id ∈ O.map (·.1)) (hk : ∀ x, x ∈ O'.map (·.1) ↔ x ∈ O.map (·.1) ∧ x ≠ id) :
    ∃ w2 Ob2, (∀ ty, (Builtin.delete_ #[45, 3] ty #[.map (some ml), .int .i64 id]).run Tryd.prog w = .ok (.tuple #[]) w2) ∧ LiveAt w2 ml Ob2 O' ∧ Only [ml] w w2 := by
  obtain ⟨⟨D, ho, hh⟩, h2, h3⟩ := h
  obtain ⟨p, hp, e⟩ := List.mem_map.1 ((h2 id).2 hm)
  have hp2 : (id, p.2) ∈ Ob := by rw [← e]; exact hp
  obtain ⟨w2, e1, e2, e3⟩ := dropB hh ho hp2 0
  refine ⟨w2, _, fun ty => by rw [← e1]; rfl, ⟨⟨_, e2, hh.del hp2⟩, fun x => ?_, fun p hp => ?_⟩, e3⟩
  · rw [hk, ← h2]
    constructor
    · intro hx
      obtain ⟨y, hy, ey⟩ := List.mem_map.1 hx
      have : y ∈ Ob ∧ y.1 ≠ id := by simpa [outV] using hy
      exact ⟨List.mem_map.2 ⟨y, this.1, ey⟩, ey ▸ this.2⟩
    · rintro ⟨hx, hne⟩
      obtain ⟨y, hy, ey⟩ := List.mem_map.1 hx
      exact List.mem_map.2 ⟨y, by simp [outV, hy, ey, hne], ey⟩
  · have : p ∈ Ob ∧ p.1 ≠ id := by simpa [outV] using hp
    exact h3 p this.1
theorem LiveAt.dropNo (h : LiveAt w ml Ob O) (hw : iW id) (hm : id ∉ O.map (·.1)) :
    ∃ w2 Ob2, (∀ ty, (Builtin.delete_ #[45, 3] ty #[.map (some ml), .int .i64 id]).run Tryd.prog w = .ok (.tuple #[]) w2) ∧ LiveAt w2 ml Ob2 O ∧ Only [ml] w w2 := by
  obtain ⟨⟨D, ho, hh⟩, h2, h3⟩ := h
  obtain ⟨w2, e1, e2, e3⟩ := dropB_no hh ho hw (fun hx => hm ((h2 id).1 hx)) 0
  exact ⟨w2, _, fun ty => by rw [← e1]; rfl, ⟨⟨_, e2, hh⟩, h2, h3⟩, e3⟩
end
/-- The heap, full as it may be, and the law's map. -/
def Bd1 (w1 : World) (g m : Nat) (L : Int) (ml : Nat) (wr : World) : Prop := ∃ ss O Ob, Hp8 w1 wr g m L ss O ∧ FullL ss ∧ LiveAt wr ml Ob O ∧ ml ≠ m ∧ w1.heap.size ≤ ml
section
variable {w1 wr W : World} {g m ml : Nat} {L : Int}
theorem Bd1.quiet (P : Bd1 w1 g m L ml wr) (ho : Only [] wr W) : Bd1 w1 g m L ml W := by
  obtain ⟨ss, O, Ob, h1, h2, h3, h4, h5⟩ := P
  exact ⟨ss, O, Ob, h1.only ho, h2, h3.only ho, h4, h5⟩
theorem cells_far {w w2 : World} (ho : Only [ml] w w2) {es cl} (hm : w.heap[ml]? = some (.map es cl)) : ∀ (q : Nat) (T : TypeId) (cs : Array Value), Blk w q T cs → Blk w2 q T cs := fun q T cs hb => hb.only ho (by
  simp only [List.mem_singleton]
  rintro rfl
  unfold Blk at hb
  rw [hb] at hm
  cases hm)
/-- What is so behind an Alloc that came to id: the law's map is one behind. -/
def Bd1A (w1 : World) (g m : Nat) (L : Int) (ml : Nat) (id : Int) (w' : World) : Prop :=
  (Instr.lookup 45 (.map (some ml)) (.int .i64 id) false).run Tryd.prog w' = .ok (.bool false) w' ∧
  ∃ w2, (Instr.mapUpdate 45 (.map (some ml)) (.int .i64 id) (.bool true)).run Tryd.prog w' = .ok () w2 ∧ Bd1 w1 g m L ml w2 ∧ ∀ (q : Nat) (T : TypeId) (cs : Array Value), Blk w' q T cs → Blk w2 q T cs
theorem bd_alloc (P : Bd1 w1 g m L ml wr) (hT : TabS w1) (k owner : Int) (how : iW owner) :
    (∃ id, ∀ W, Only [] wr W → Calls Tryd.prog 11 #[.pointer (some ⟨g, 0, none⟩), .int .i64 k, .int .i64 owner] W fun e w' => e = .returned (tupA id 0) ∧ Bd1A w1 g m L ml id w' ∧ KeepsB W w') ∨
    ∃ y x, x ≠ 0 ∧ ∀ W, Only [] wr W → Calls Tryd.prog 11 #[.pointer (some ⟨g, 0, none⟩), .int .i64 k, .int .i64 owner] W fun e w' => e = .returned (tupA y x) ∧ Bd1 w1 g m L ml w' ∧ KeepsB W w' := by
  obtain ⟨ss, O, Ob, h1, h2, h3, h4, h5⟩ := P
  by_cases he : (allocF L ss O k owner).2.2 = 0
  · refine .inl ⟨(allocF L ss O k owner).2.1, fun W hW => (hp_alloc_m hT (h1.only hW) k owner how).mono ?_⟩
    obtain ⟨hB, _⟩ := BackS.alloc h1.ok (BackS.refl ss O) k owner he
    have hkeys : ∀ x, x ∈ (allocF L ss O k owner).1.2.map (·.1) ↔ x ∈ O.map (·.1) ∨ x = (allocF L ss O k owner).2.1 := fun x => by rw [hB.keys]; simp
    have hfr := hB.disj _ (.inr rfl)
    rw [he]
    rintro e w' ⟨rfl, hp, hk⟩
    have hL := (h3.only hW).keepA hk h4
    have hid : iW (allocF L ss O k owner).2.1 := hp.kw ((hkeys _).2 (.inr rfl))
    have hlen := hL.len h1.nd
    have hO := h1.ok.olen h1.nd
    obtain ⟨es, cl, hb⟩ := hL.blk
    obtain ⟨w2, Ob2, e1, e2, e3⟩ := hL.store (by rw [hlen]; exact Nat.lt_of_le_of_lt hO (by decide)) hid hfr hkeys
    exact ⟨rfl, ⟨hL.no hid hfr, w2, e1, ⟨_, _, Ob2, hp.otherM e3 h4 hb h5, alloc_full h1.ok h2 k owner, e2, h4, h5⟩, cells_far e3 hb⟩, hk.cells⟩
  · refine .inr ⟨(allocF L ss O k owner).2.1, _, he, fun W hW => (hp_alloc_m hT (h1.only hW) k owner how).mono ?_⟩
    have hsame := alloc_fail he
    rw [hsame]
    rintro e w' ⟨rfl, hp, hk⟩
    exact ⟨rfl, ⟨ss, O, Ob, hp, h2, (h3.only hW).keepA hk h4, h4, h5⟩, hk.cells⟩
/-- What is so behind a Free: the law's map has yet to let go. -/
def Bd1F (w1 : World) (g m : Nat) (L : Int) (ml : Nat) (id : Int) (b : Bool) (w' : World) : Prop :=
  (Instr.lookup 45 (.map (some ml)) (.int .i64 id) false).run Tryd.prog w' = .ok (.bool b) w' ∧
  ∃ w2, (∀ ty, (Builtin.delete_ #[45, 3] ty #[.map (some ml), .int .i64 id]).run Tryd.prog w' = .ok (.tuple #[]) w2) ∧ Bd1 w1 g m L ml w2
theorem bd_free (P : Bd1 w1 g m L ml wr) (hT : TabS w1) (id : Int) (hid : iW id) :
    ∃ (b : Bool) (x : Int), (x == 0) = b ∧ ∀ W, Only [] wr W → (Instr.lookup 45 (.map (some ml)) (.int .i64 id) false).run Tryd.prog W = .ok (.bool b) W ∧ Calls Tryd.prog 14 #[.pointer (some ⟨g, 0, none⟩), .int .i64 id] W fun e w' => e = .returned (.int .i64 x) ∧ (∀ w3, Only [] w' w3 → Bd1F w1 g m L ml id b w3) ∧ KeepsB W w' := by
  obtain ⟨ss, O, Ob, h1, h2, h3, h4, h5⟩ := P
  by_cases hm : id ∈ O.map (·.1)
  · have hx : (freeF ss O id).2 = 0 := by unfold freeF; rw [if_pos hm]
    have hO : (freeF ss O id).1.2 = outV O id := by unfold freeF; rw [if_pos hm]
    have hkeys : ∀ x, x ∈ (outV O id).map (·.1) ↔ x ∈ O.map (·.1) ∧ x ≠ id := fun x => by
      constructor
      · intro hx
        obtain ⟨y, hy, ey⟩ := List.mem_map.1 hx
        have : y ∈ O ∧ y.1 ≠ id := by simpa [outV] using hy
        exact ⟨List.mem_map.2 ⟨y, this.1, ey⟩, ey ▸ this.2⟩
      · rintro ⟨hx, hne⟩
        obtain ⟨y, hy, ey⟩ := List.mem_map.1 hx
        exact List.mem_map.2 ⟨y, by simp [outV, hy, ey, hne], ey⟩
    refine ⟨true, 0, rfl, fun W hW => ⟨(h3.only hW).yes hm, (hp_free_m hT (h1.only hW) id hid).mono ?_⟩⟩
    rw [hx, hO]
    rintro e w' ⟨rfl, hp, hk⟩
    have hL := (h3.only hW).keepA hk h4
    refine ⟨rfl, fun w3 h3w => ?_, hk.cells⟩
    have hL3 := hL.only h3w
    obtain ⟨es, cl, hb⟩ := hL3.blk
    obtain ⟨w2, Ob2, e1, e2, e3⟩ := hL3.drop hm hkeys
    exact ⟨hL3.yes hm, w2, e1, _, _, Ob2, (hp.only h3w).otherM e3 h4 hb h5, free_full h1.ok h2 id, e2, h4, h5⟩
  · have hx : freeF ss O id = ((ss, O), 4) := by unfold freeF; rw [if_neg hm]
    refine ⟨false, 4, rfl, fun W hW => ⟨(h3.only hW).no hid hm, (hp_free_m hT (h1.only hW) id hid).mono ?_⟩⟩
    rw [hx]
    rintro e w' ⟨rfl, hp, hk⟩
    have hL := (h3.only hW).keepA hk h4
    refine ⟨rfl, fun w3 h3w => ?_, hk.cells⟩
    have hL3 := hL.only h3w
    obtain ⟨es, cl, hb⟩ := hL3.blk
    obtain ⟨w2, Ob2, e1, e2, e3⟩ := hL3.dropNo hid hm
    exact ⟨hL3.no hid hm, w2, e1, _, _, Ob2, (hp.only h3w).otherM e3 h4 hb h5, h2, e2, h4, h5⟩
/-- The checks of a round. -/
theorem bd_check (P : Bd1 w1 g m L ml wr) (hT : TabS w1) : ∃ (u b : Int) (n : Nat), ¬ L < b ∧ ¬ b < u ∧ ∀ W, Only [] wr W →
    (Calls Tryd.prog 18 #[.pointer (some ⟨g, 0, none⟩)] W fun e w' => e = .returned (.int .i64 b) ∧ Only [] wr w') ∧ (Calls Tryd.prog 17 #[.pointer (some ⟨g, 0, none⟩)] W fun e w' => e = .returned (.int .i64 u) ∧ Only [] wr w') ∧
    (Calls Tryd.prog 19 #[.pointer (some ⟨g, 0, none⟩)] W fun e w' => e = .returned (.int .i64 n) ∧ W = w') ∧ ∀ ty, (Builtin.len_ #[45] ty #[.map (some ml)]).run Tryd.prog W = .ok (.int .i64 n) W := by
  obtain ⟨ss, O, Ob, h1, h2, h3, h4, h5⟩ := P
  have hft := h1.ok.fit
  have hub := used_bytes h1.ok.good
  refine ⟨usedL ss, 2048 * (cntK ss : Nat), O.length, by omega, by omega, fun W hW => ?_⟩
  have hpW := h1.only hW
  refine ⟨?_, ?_, hp_live hpW, fun ty => by rw [(h3.only hW).lenRun ty, h3.len h1.nd]⟩
  · obtain ⟨v, k1, k2, k3, k4, k5, k6⟩ := hpW
    refine (hBytes_is k1 (by have := k2.few; omega)).mono ?_
    rintro e w' ⟨rfl, ho⟩
    exact ⟨rfl, hW.trans ho⟩
  · obtain ⟨v, k1, k2, k3, k4, k5, k6⟩ := hpW
    refine (hUsed_is k1 k2 (hT.only k6 (by simp))).mono ?_
    rintro e w' ⟨rfl, ho⟩
    exact ⟨rfl, hW.trans ho⟩
end
end Go.Proofs.YtgoaebikgdecoaaDoor
