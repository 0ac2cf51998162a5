/-
  Slabs (parapet/slab): a heap made behind world w0: 'Hp8 w0 w g m L ss O'; New, Alloc, Free, Used, Bytes as functions of its state.
-/
import Derived.Test.YtgoaebikgdecoaaDoorSlabFree
namespace Go.Proofs.YtgoaebikgdecoaaDoor
open Go.ChangeShapes Go.WideShapes Go.ChangeAt Go.RowKit Go.Maps
set_option linter.unusedVariables false

def Hp8 (w0 w : World) (g m : Nat) (L : Int) (ss : List SL) (O : List (Int × Int)) : Prop :=
  ∃ v, IsHp w g L v ss m O ∧ OkH L ss O ∧ w0.heap.size ≤ g ∧ w0.heap.size ≤ m ∧ (∀ q, v.ownBlock = some q → w0.heap.size ≤ q) ∧ Only [] w0 w
abbrev St8 := List SL × List (Int × Int)
def takeAt (ss : List SL) (O : List (Int × Int)) (n : Nat) (owner : Int) : St8 × Int × Int :=
  ((ss.set n (takeS (ss.getD n ⟨0, 0⟩)), O ++ [((n : Int) * 64 + (Lib.ctz 64 (ss.getD n ⟨0, 0⟩).free : Nat), owner)]), (n : Int) * 64 + (Lib.ctz 64 (ss.getD n ⟨0, 0⟩).free : Nat), 0)
def allocF (L : Int) (ss : List SL) (O : List (Int × Int)) (kind owner : Int) : St8 × Int × Int :=
  if szF kind = 0 then ((ss, O), 0, 80)
  else if 0 ≤ firstI (hasK kind) ss then takeAt ss O (firstI (hasK kind) ss).toNat owner
  else if moreF L ss = 0 then ((ss, O), 0, 2)
  else takeAt (buildL ss kind) O (buildN ss) owner
def freeF (ss : List SL) (O : List (Int × Int)) (id : Int) : St8 × Int :=
  if id ∈ O.map (·.1) then ((ss.set (id / 64).toNat (giveS (ss.getD (id / 64).toNat ⟨0, 0⟩) (id % 64).toNat), outV O id), 0) else ((ss, O), 4)
section
variable {w0 w w' : World} {g m : Nat} {L : Int} {v : Value} {ss : List SL} {O : List (Int × Int)} {S : List Nat}
theorem Hp8.only (h : Hp8 w0 w g m L ss O) (ho : Only [] w w') : Hp8 w0 w' g m L ss O := by
  obtain ⟨v, h1, h2, h3, h4, h5, h6⟩ := h
  exact ⟨v, h1.only ho (by simp) (by simp) (by simp), h2, h3, h4, h5, h6.trans ho⟩
theorem hp_new (n : Int) (h : 0 ≤ n ∧ n ≤ 1048576) : Calls Tryd.prog 8 #[.int .i64 n] w fun e w' => ∃ g m, e = .returned (.tuple #[.pointer (some ⟨g, 0, none⟩), .int .i64 0]) ∧ Hp8 w w' g m n [] [] := by
  refine (hNew_ok n h).mono ?_
  rintro e w' ⟨g, m, rfl, h1, h2, h3, h4⟩
  exact ⟨g, m, rfl, _, h1, OkH.new h, h2, h3, by simp [Value.ownBlock], h4⟩
/-- All other blocks of cells stay. -/
def KeepsB (w w' : World) : Prop := ∀ (q : Nat) (T : TypeId) (cs : Array Value), Blk w q T cs → T ≠ 50 → T ≠ 62 → Blk w' q T cs
theorem KeepsB.of_only (ho : Only [] w w') : KeepsB w w' := fun q T cs hb _ _ => hb.only ho (by simp)
theorem KeepsB.of_heap (h1 : IsHp w g L v ss m O) (ho : Only (g :: m :: v.ownBlock.toList) w w') : KeepsB w w' := fun q T cs hb t1 t2 => hb.only ho (fun hm => by
  simp only [List.mem_cons, Option.mem_toList] at hm
  rcases hm with rfl | rfl | hm
  · have := h1.blk
    unfold Blk at this hb
    rw [hb] at this
    injection this with this
    injection this with _ this
    exact t1 this
  · obtain ⟨D, hD, _⟩ := h1.own
    obtain ⟨es, clock, hbm, _⟩ := hD
    unfold Blk at hb
    rw [hb] at hbm
    cases hbm
  · exact t2 ((h1.row.at_ hm).2 _ _ hb))
theorem getD_of {n : Nat} {s : SL} (hs : ss[n]? = some s) : ss.getD n ⟨0, 0⟩ = s := by simp [List.getD, hs]
theorem hp_alloc_k (hT : TabS w0) (h : Hp8 w0 w g m L ss O) (kind owner : Int) (how : iW owner) :
    Calls Tryd.prog 11 #[.pointer (some ⟨g, 0, none⟩), .int .i64 kind, .int .i64 owner] w fun e w' => e = .returned (tupA (allocF L ss O kind owner).2.1 (allocF L ss O kind owner).2.2) ∧ Hp8 w0 w' g m L (allocF L ss O kind owner).1.1 (allocF L ss O kind owner).1.2 ∧ KeepsB w w' := by
  obtain ⟨v, h1, h2, h3, h4, h5, h6⟩ := h
  have hlt := hT.lt
  have hTw := hT.only h6 (by simp)
  have hA : ∀ (ss1 : List SL) (n : Nat) (s1 : SL), OkH L ss1 O → ss1[n]? = some s1 → s1.free ≠ 0 → ∀ e w', AllocH w g L v m O owner ss1 n s1 e w' →
      e = .returned (tupA (takeAt ss1 O n owner).2.1 (takeAt ss1 O n owner).2.2) ∧ Hp8 w0 w' g m L (takeAt ss1 O n owner).1.1 (takeAt ss1 O n owner).1.2 ∧ KeepsB w w' := by
    rintro ss1 n s1 k1 k2 k3 e w' ⟨v', rfl, k4, k5, k6⟩
    unfold takeAt
    rw [getD_of k2]
    refine ⟨rfl, ⟨v', k4, k1.take k2 k3 owner, h3, h4, fun q hq => ?_, h6.trans' k5 (fun q hq hm => ?_)⟩, KeepsB.of_heap h1 k5⟩
    · rcases k6 q hq with k | k
      · exact h5 q k
      · have := h6.size; omega
    · simp only [List.mem_cons, Option.mem_toList] at hm
      rcases hm with rfl | rfl | hm
      · omega
      · omega
      · have := h5 q hm; omega
  by_cases hk : szF kind = 0
  · refine (hAlloc_kind h1 hTw kind owner hk).mono ?_
    rintro e w' ⟨rfl, ho⟩
    unfold allocF
    rw [if_pos hk]
    exact ⟨rfl, Hp8.only ⟨v, h1, h2, h3, h4, h5, h6⟩ ho, KeepsB.of_only ho⟩
  · rcases firstI_cases (hasK kind) ss with ⟨e1, _⟩ | ⟨i, s, hs, hp, e1, _⟩
    · by_cases hm : moreF L ss = 0
      · refine (hAlloc_full h1 h2 hTw kind owner hk e1 hm).mono ?_
        rintro e w' ⟨rfl, ho⟩
        unfold allocF
        rw [if_neg hk, e1, if_neg (by decide), if_pos hm]
        exact ⟨rfl, Hp8.only ⟨v, h1, h2, h3, h4, h5, h6⟩ ho, KeepsB.of_only ho⟩
      · obtain ⟨k1, k2⟩ := h2.build hk hm
        refine (hAlloc_built h1 h2 hTw (fun q hq => ?_) kind owner how hk e1 hm).mono fun e w' he => ?_
        · rcases List.mem_cons.1 hq with rfl | hq
          · omega
          · have := h5 q (by simpa using hq); omega
        · unfold allocF
          rw [if_neg hk, e1, if_neg (by decide), if_neg hm]
          exact hA _ _ _ k1 k2 (newS_pos hk) e w' he
    · have hf0 : s.free ≠ 0 := by
        simp only [hasK, Bool.and_eq_true, decide_eq_true_eq] at hp
        exact hp.2
      refine (hAlloc_found h1 h2 hTw kind owner how hk hs hf0 e1).mono fun e w' he => ?_
      unfold allocF
      rw [if_neg hk, e1, if_pos (by omega)]
      exact hA _ _ _ h2 hs hf0 e w' he
theorem hp_alloc (hT : TabS w0) (h : Hp8 w0 w g m L ss O) (kind owner : Int) (how : iW owner) :
    Calls Tryd.prog 11 #[.pointer (some ⟨g, 0, none⟩), .int .i64 kind, .int .i64 owner] w fun e w' => e = .returned (tupA (allocF L ss O kind owner).2.1 (allocF L ss O kind owner).2.2) ∧ Hp8 w0 w' g m L (allocF L ss O kind owner).1.1 (allocF L ss O kind owner).1.2 :=
  (hp_alloc_k hT h kind owner how).mono fun e w' h => ⟨h.1, h.2.1⟩
theorem hp_free_k (hT : TabS w0) (h : Hp8 w0 w g m L ss O) (id : Int) (hid : iW id) :
    Calls Tryd.prog 14 #[.pointer (some ⟨g, 0, none⟩), .int .i64 id] w fun e w' => e = .returned (.int .i64 (freeF ss O id).2) ∧ Hp8 w0 w' g m L (freeF ss O id).1.1 (freeF ss O id).1.2 ∧ KeepsB w w' := by
  obtain ⟨v, h1, h2, h3, h4, h5, h6⟩ := h
  have hlt := hT.lt
  have hTw := hT.only h6 (by simp)
  unfold freeF
  by_cases hm : id ∈ O.map (·.1)
  · rw [if_pos hm]
    obtain ⟨n, s, p, k1, k2, k3, k4, k5⟩ := liveAt_low ((h2.keys id).1 hm)
    obtain ⟨x, hx, hx1⟩ := List.mem_map.1 hm
    have e1 : (id / 64).toNat = n := by omega
    have e2 : (id % 64).toNat = p := by omega
    have hx2 : (id, x.2) ∈ O := by rw [← hx1]; exact hx
    rw [e1, e2, getD_of k1]
    refine (hFree_ok h1 h2 hTw (fun q hq => ?_) k1 k2 k3 k5 hx2).mono ?_
    · rcases List.mem_cons.1 hq with rfl | hq
      · omega
      · have := h5 q (by simpa using hq); omega
    · rintro e w' ⟨rfl, j1, j2⟩
      refine ⟨rfl, ⟨v, j1, ?_, h3, h4, h5, h6.trans' j2 (fun q hq hm => ?_)⟩, KeepsB.of_heap h1 (j2.mono (fun q _ hq => List.mem_cons_of_mem _ hq))⟩
      · have := h2.give k1 k2 k3
        rwa [← k5] at this
      · rcases List.mem_cons.1 hm with rfl | hm
        · omega
        · have := h5 q (by simpa using hm); omega
  · rw [if_neg hm]
    refine (hFree_no h1 hid hm).mono ?_
    rintro e w' ⟨rfl, rfl⟩
    exact ⟨rfl, ⟨v, h1, h2, h3, h4, h5, h6⟩, KeepsB.of_only (Only.refl _ _)⟩
theorem hp_free (hT : TabS w0) (h : Hp8 w0 w g m L ss O) (id : Int) (hid : iW id) :
    Calls Tryd.prog 14 #[.pointer (some ⟨g, 0, none⟩), .int .i64 id] w fun e w' => e = .returned (.int .i64 (freeF ss O id).2) ∧ Hp8 w0 w' g m L (freeF ss O id).1.1 (freeF ss O id).1.2 :=
  (hp_free_k hT h id hid).mono fun e w' h => ⟨h.1, h.2.1⟩
theorem hp_used (hT : TabS w0) (h : Hp8 w0 w g m L ss O) : Calls Tryd.prog 17 #[.pointer (some ⟨g, 0, none⟩)] w fun e w' => e = .returned (.int .i64 (usedL ss)) ∧ Hp8 w0 w' g m L ss O := by
  have h' := h
  obtain ⟨v, h1, h2, h3, h4, h5, h6⟩ := h
  refine (hUsed_is h1 h2 (hT.only h6 (by simp))).mono ?_
  rintro e w' ⟨rfl, ho⟩
  exact ⟨rfl, h'.only ho⟩
theorem hp_bytes (h : Hp8 w0 w g m L ss O) : Calls Tryd.prog 18 #[.pointer (some ⟨g, 0, none⟩)] w fun e w' => e = .returned (.int .i64 (2048 * (cntK ss : Nat))) ∧ Hp8 w0 w' g m L ss O := by
  have h' := h
  obtain ⟨v, h1, h2, h3, h4, h5, h6⟩ := h
  refine (hBytes_is h1 (by have := h2.few; omega)).mono ?_
  rintro e w' ⟨rfl, ho⟩
  exact ⟨rfl, h'.only ho⟩
end
end Go.Proofs.YtgoaebikgdecoaaDoor
