/-
  'RunqOnce', plainly and beside memory: a row of 65 numbers, 1 for each thread that is there, 0 for the others.
-/
import Derived.Test.YtjamanahgkagjaaRqAllWalk
namespace Go.Proofs.Ytjamanahgkagjaa
open Go.ChangeShapes Go.WideShapes Go.ChangeAt Go.RowKit Go.Deep
set_option linter.unusedVariables false

open Classical in
noncomputable def ind (K : Nat → Prop) (i : Nat) : Int := if K i then 1 else 0
theorem ind_yes {K : Nat → Prop} {i : Nat} (h : K i) : ind K i = 1 := by unfold ind; rw [if_pos h]
theorem ind_no {K : Nat → Prop} {i : Nat} (h : ¬ K i) : ind K i = 0 := by unfold ind; rw [if_neg h]
theorem ind_01 (K : Nat → Prop) (i : Nat) : ind K i = 0 ∨ ind K i = 1 := by
  by_cases h : K i
  · exact .inr (ind_yes h)
  · exact .inl (ind_no h)
noncomputable def rowK (K : Nat → Prop) : Array Value := rowG (fun i => .int .i64 (ind K i)) 65
theorem rowK_get (K : Nat → Prop) {i : Nat} (h : i < 65) : (rowK K)[i]? = some (.int .i64 (ind K i)) := rowG_get _ h
theorem rowK_eq {K K' : Nat → Prop} (h : ∀ i, K i ↔ K' i) : rowK K = rowK K' := by
  have : K = K' := funext fun i => propext (h i)
  rw [this]
theorem rowK_one (K : Nat → Prop) (p : Nat) : (rowK K).setIfInBounds p (.int .i64 1) = rowK fun i => K i ∨ i = p := by
  unfold rowK
  rw [rowG_set]
  congr 1
  funext i
  by_cases h : i = p
  · subst h; rw [upd_same, ind_yes (.inr rfl)]
  · rw [upd_far _ _ h]
    by_cases hk : K i
    · rw [ind_yes hk, ind_yes (.inl hk)]
    · rw [ind_no hk, ind_no (by simp [hk, h])]
theorem rowK_nil (K : Nat → Prop) (p : Nat) : (rowK K).setIfInBounds p (.int .i64 0) = rowK fun i => K i ∧ i ≠ p := by
  unfold rowK
  rw [rowG_set]
  congr 1
  funext i
  by_cases h : i = p
  · subst h; rw [upd_same, ind_no (by simp)]
  · rw [upd_far _ _ h]
    by_cases hk : K i
    · rw [ind_yes hk, ind_yes ⟨hk, h⟩]
    · rw [ind_no hk, ind_no (by simp [hk])]

/-- The threads that are there. -/
abbrev thereQ (s : RQ) : Nat → Prop := fun i => (i : Int) ∈ keysQ s
def OnceIn (w : World) (g H b : Nat) (wr : World) : Prop := ∃ s, RqL w wr g s [b] ∧ s.H = H ∧ (∀ t ∈ keysQ s, 1 ≤ t ∧ t ≤ 63) ∧ Blk wr b 3 (rowK (thereQ s))
def OnceY (w : World) (g H b tn : Nat) (y : Int) (wr : World) : Prop := OnceIn w g H b wr ∧ wr.cell? ⟨b, tn, none⟩ = some (.int .i64 y)
def OnceAdd (w : World) (g H b tn : Nat) (wr : World) : Prop := wr.cell? ⟨b, tn, none⟩ = some (.int .i64 0) ∧ wr.frozen? ⟨b, tn, none⟩ = false ∧ OnceY w g H b tn 1 (wr.setCell ⟨b, tn, none⟩ (.int .i64 1))
def OnceSub (w : World) (g H b p tn : Nat) (y : Int) (wr : World) : Prop := wr.cell? ⟨b, p, none⟩ = some (.int .i64 1) ∧ wr.frozen? ⟨b, p, none⟩ = false ∧ OnceY w g H b tn y (wr.setCell ⟨b, p, none⟩ (.int .i64 0))
section
variable {w wr W : World} {g H b tn : Nat} {s s' : RQ}
theorem onceY (R : RqL w wr g s [b]) (hH : s.H = H) (hk : ∀ t ∈ keysQ s, 1 ≤ t ∧ t ≤ 63) (hb : Blk wr b 3 (rowK (thereQ s))) (ht : tn ≤ 63) : OnceY w g H b tn (ind (thereQ s) tn) wr :=
  ⟨⟨s, R, hH, hk, hb⟩, by rw [hb.cell, rowK_get _ (by omega)]⟩
theorem onceAdd (R : RqL w wr g s' [b]) (hH : s'.H = H) (ht : tn ≤ 63) (ht1 : 1 ≤ tn) (hn : (tn : Int) ∉ keysQ s) (hk : ∀ t ∈ keysQ s, 1 ≤ t ∧ t ≤ 63) (hk' : ∀ t, t ∈ keysQ s' ↔ t ∈ keysQ s ∨ t = tn) (hb : Blk wr b 3 (rowK (thereQ s))) : OnceAdd w g H b tn wr := by
  have h0 : ind (thereQ s) tn = 0 := ind_no hn
  have hb2 := hb.set_ tn (.int .i64 1)
  rw [rowK_one, rowK_eq (K' := thereQ s') (fun i => by show _ ↔ (i : Int) ∈ keysQ s'; rw [hk']; simp only [Int.natCast_inj])] at hb2
  refine ⟨by rw [hb.cell, rowK_get _ (by omega), h0], hb.frozen _, ?_⟩
  have h1 : ind (thereQ s') tn = 1 := ind_yes ((hk' _).2 (.inr rfl))
  have := onceY (tn := tn) (R.other ((Only.refl [b] wr).setCell (p := ⟨b, tn, none⟩) (.int .i64 1) (by simp)) (fun q hq => hq)) hH (fun t h => by
    rcases (hk' t).1 h with h | h
    · exact hk t h
    · omega) hb2 ht
  rwa [h1] at this
theorem onceSub {p : Nat} (R : RqL w wr g s' [b]) (hH : s'.H = H) (ht : tn ≤ 63) (hp : p ≤ 63) (hn : (p : Int) ∈ keysQ s) (hk : ∀ t ∈ keysQ s, 1 ≤ t ∧ t ≤ 63) (hk' : ∀ t, t ∈ keysQ s' ↔ t ∈ keysQ s ∧ t ≠ p) (hb : Blk wr b 3 (rowK (thereQ s))) : OnceSub w g H b p tn (ind (thereQ s') tn) wr := by
  have h0 : ind (thereQ s) p = 1 := ind_yes hn
  have hb2 := hb.set_ p (.int .i64 0)
  rw [rowK_nil, rowK_eq (K' := thereQ s') (fun i => by show _ ↔ (i : Int) ∈ keysQ s'; rw [hk']; simp only [ne_eq, Int.natCast_inj])] at hb2
  refine ⟨by rw [hb.cell, rowK_get _ (by omega), h0], hb.frozen _, ?_⟩
  exact onceY (tn := tn) (R.other ((Only.refl [b] wr).setCell (p := ⟨b, p, none⟩) (.int .i64 0) (by simp)) (fun q hq => hq)) hH (fun t h => hk t ((hk' t).1 h).1) hb2 ht

theorem putF_cases (s : RQ) (h t : Int) : ((putF s h t).2 = 0 ∧ 1 ≤ t ∧ t ∉ keysQ s ∧ ∀ x, x ∈ keysQ (putF s h t).1 ↔ x ∈ keysQ s ∨ x = t) ∨ ((putF s h t).2 ≠ 0 ∧ (putF s h t).1 = s) := by
  unfold putF
  by_cases h1 : hasQ s h = false ∨ t < 1
  · rw [if_pos h1]; exact .inr ⟨by simp, rfl⟩
  · rw [if_neg h1]
    by_cases h2 : t ∈ keysQ s
    · rw [if_pos h2]; exact .inr ⟨by simp, rfl⟩
    · rw [if_neg h2]
      by_cases h3 : s.O.length = 64
      · rw [if_pos h3]; exact .inr ⟨by simp, rfl⟩
      · rw [if_neg h3]
        refine .inl ⟨rfl, by have := fun e => h1 (.inr e); omega, h2, fun x => ?_⟩
        show x ∈ (s.O ++ [(t, ((h.toNat : Nat) : Int))]).map (fun p : Int × Int => p.1) ↔ _
        rw [List.map_append, List.mem_append]
        simp
theorem nextF_keys (s : RQ) (h : Int) : keysQ (nextF s h).1 = keysQ s := by
  unfold nextF
  split
  · rfl
  · split
    · exact runS_keys _ _ _ _
    · split
      · rfl
      · exact runS_keys _ _ _ _
theorem tickF_keys (s : RQ) (h : Int) : keysQ (tickF s h).1 = keysQ s := by
  unfold tickF
  split <;> rfl
theorem dropS_keys (s : RQ) (h : Nat) (t x : Int) : x ∈ keysQ (dropS s h t) ↔ x ∈ keysQ s ∧ x ≠ t := by
  show x ∈ (dropS s h t).O.map (fun p : Int × Int => p.1) ↔ _
  rw [(drop_parts s h t).2.1, outV_keys]
  simp

theorem once_put (P : OnceIn w g H b wr) (ht : tn ≤ 63) (h : Int) :
    (∀ W, Only [] wr W → Calls Try.prog 14 #[.pointer (some ⟨g, 0, none⟩), .int .i64 h, .int .i64 tn] W fun e w' => e = .returned (.int .i64 0) ∧ OnceAdd w g H b tn w') ∨
    ∃ x y, x ≠ 0 ∧ (y = 0 ∨ y = 1) ∧ ∀ W, Only [] wr W → Calls Try.prog 14 #[.pointer (some ⟨g, 0, none⟩), .int .i64 h, .int .i64 tn] W fun e w' => e = .returned (.int .i64 x) ∧ OnceY w g H b tn y w' := by
  obtain ⟨s, R, h1, h2, h3⟩ := P
  have hw : iW (tn : Int) := iW_le (by omega) (by omega)
  rcases putF_cases s h tn with ⟨e1, k1, k2, k3⟩ | ⟨e1, k1⟩
  · refine .inl fun W hW => (lq_put (R.quiet hW) h tn hw).mono ?_
    rw [e1]
    rintro e w' ⟨rfl, hd, hk⟩
    exact ⟨rfl, onceAdd hd (by rw [putF_H, h1]) ht (by omega) k2 h2 k3 ((hk b (by simp)).trans (h3.only hW (by simp)))⟩
  · refine .inr ⟨(putF s h tn).2, ind (thereQ s) tn, e1, ind_01 (thereQ s) tn, fun W hW => (lq_put (R.quiet hW) h tn hw).mono ?_⟩
    rw [k1]
    rintro e w' ⟨rfl, hd, hk⟩
    exact ⟨rfl, onceY hd h1 h2 ((hk b (by simp)).trans (h3.only hW (by simp))) ht⟩
theorem once_wake (P : OnceIn w g H b wr) (ht : tn ≤ 63) :
    (∃ z, ∀ W, Only [] wr W → Calls Try.prog 15 #[.pointer (some ⟨g, 0, none⟩), .int .i64 tn] W fun e w' => e = .returned (.tuple #[.int .i64 z, .int .i64 0]) ∧ OnceAdd w g H b tn w') ∨
    ∃ z x y, x ≠ 0 ∧ (y = 0 ∨ y = 1) ∧ ∀ W, Only [] wr W → Calls Try.prog 15 #[.pointer (some ⟨g, 0, none⟩), .int .i64 tn] W fun e w' => e = .returned (.tuple #[.int .i64 z, .int .i64 x]) ∧ OnceY w g H b tn y w' := by
  obtain ⟨s, R, h1, h2, h3⟩ := P
  have hw : iW (tn : Int) := iW_le (by omega) (by omega)
  rcases putF_cases s (idleQ s s.H) tn with ⟨e1, k1, k2, k3⟩ | ⟨e1, k1⟩
  · have ew : wakeF s tn = ((putF s (idleQ s s.H) tn).1, (idleQ s s.H : Int), 0) := by unfold wakeF; rw [if_pos e1]
    refine .inl ⟨(idleQ s s.H : Int), fun W hW => (lq_wake (R.quiet hW) tn hw).mono ?_⟩
    rw [ew]
    rintro e w' ⟨rfl, hd, hk⟩
    exact ⟨rfl, onceAdd hd (by rw [putF_H, h1]) ht (by omega) k2 h2 k3 ((hk b (by simp)).trans (h3.only hW (by simp)))⟩
  · have ew : wakeF s tn = (s, 0, (putF s (idleQ s s.H) tn).2) := by unfold wakeF; rw [if_neg e1]
    refine .inr ⟨0, (putF s (idleQ s s.H) tn).2, ind (thereQ s) tn, e1, ind_01 (thereQ s) tn, fun W hW => (lq_wake (R.quiet hW) tn hw).mono ?_⟩
    rw [ew]
    rintro e w' ⟨rfl, hd, hk⟩
    exact ⟨rfl, onceY hd h1 h2 ((hk b (by simp)).trans (h3.only hW (by simp))) ht⟩
theorem once_next (P : OnceIn w g H b wr) (ht : tn ≤ 63) (h : Int) :
    ∃ z x y, (y = 0 ∨ y = 1) ∧ ∀ W, Only [] wr W → Calls Try.prog 16 #[.pointer (some ⟨g, 0, none⟩), .int .i64 h] W fun e w' => e = .returned (.tuple #[.int .i64 z, .bool x]) ∧ OnceY w g H b tn y w' := by
  obtain ⟨s, R, h1, h2, h3⟩ := P
  refine ⟨(nextF s h).2.1, (nextF s h).2.2, ind (thereQ s) tn, ind_01 (thereQ s) tn, fun W hW => (lq_next (R.quiet hW) h).mono ?_⟩
  rintro e w' ⟨rfl, hd, hk⟩
  have hks := nextF_keys s h
  have e1 : thereQ (nextF s h).1 = thereQ s := by unfold thereQ; rw [hks]
  refine ⟨rfl, ?_⟩
  rw [← e1]
  exact onceY hd (by rw [nextF_H, h1]) (hks ▸ h2) (by rw [e1]; exact (hk b (by simp)).trans (h3.only hW (by simp))) ht
theorem once_tick (P : OnceIn w g H b wr) (ht : tn ≤ 63) (h : Int) :
    ∃ x y, (y = 0 ∨ y = 1) ∧ ∀ W, Only [] wr W → Calls Try.prog 17 #[.pointer (some ⟨g, 0, none⟩), .int .i64 h] W fun e w' => e = .returned (.bool x) ∧ OnceY w g H b tn y w' := by
  obtain ⟨s, R, h1, h2, h3⟩ := P
  refine ⟨(tickF s h).2, ind (thereQ s) tn, ind_01 (thereQ s) tn, fun W hW => (lq_tick (R.quiet hW) h).mono ?_⟩
  rintro e w' ⟨rfl, hd, hk⟩
  have hks := tickF_keys s h
  have e1 : thereQ (tickF s h).1 = thereQ s := by unfold thereQ; rw [hks]
  refine ⟨rfl, ?_⟩
  rw [← e1]
  exact onceY hd (by rw [tickF_H, h1]) (hks ▸ h2) (by rw [e1]; exact (hk b (by simp)).trans (h3.only hW (by simp))) ht
theorem once_sleep (P : OnceIn w g H b wr) (ht : tn ≤ 63) (h : Int) :
    (∃ (p : Nat) (y : Int), 1 ≤ p ∧ p ≤ 63 ∧ (y = 0 ∨ y = 1) ∧ ∀ W, Only [] wr W → Calls Try.prog 18 #[.pointer (some ⟨g, 0, none⟩), .int .i64 h] W fun e w' => e = .returned (.tuple #[.int .i64 p, .int .i64 0]) ∧ OnceSub w g H b p tn y w') ∨
    ∃ y, (y = 0 ∨ y = 1) ∧ ∀ W, Only [] wr W → Calls Try.prog 18 #[.pointer (some ⟨g, 0, none⟩), .int .i64 h] W fun e w' => e = .returned (.tuple #[.int .i64 0, .int .i64 4]) ∧ OnceY w g H b tn y w' := by
  obtain ⟨s, R, h1, h2, h3⟩ := P
  have o := R.ok
  by_cases hr : runningF s h = 0
  · have es : sleepF s h = (s, 0, 4) := by unfold sleepF; rw [if_pos hr]
    refine .inr ⟨ind (thereQ s) tn, ind_01 (thereQ s) tn, fun W hW => (lq_sleep (R.quiet hW) h).mono ?_⟩
    rw [es]
    rintro e w' ⟨rfl, hd, hk⟩
    exact ⟨rfl, onceY hd h1 h2 ((hk b (by simp)).trans (h3.only hW (by simp))) ht⟩
  · obtain ⟨k, rfl, hk, e1, ha⟩ := running_at o hr
    have hkey := h2 _ (o.key.2 ⟨k, ha⟩)
    obtain ⟨p, hp⟩ : ∃ p : Nat, s.r k = p := ⟨(s.r k).toNat, by omega⟩
    have es : sleepF s k = (dropS s k p, (p : Int), 0) := by unfold sleepF; rw [if_neg hr, Int.toNat_natCast, hp]
    refine .inl ⟨p, ind (thereQ (dropS s k p)) tn, by omega, by omega, ind_01 (thereQ (dropS s k p)) tn, fun W hW => (lq_sleep (R.quiet hW) k).mono ?_⟩
    rw [es]
    rintro e w' ⟨rfl, hd, hk⟩
    exact ⟨rfl, onceSub hd (by rw [(drop_parts s k p).1, h1]) ht (by omega) (by rw [← hp]; exact o.key.2 ⟨k, ha⟩) h2 (fun t => dropS_keys s k p t) ((hk b (by simp)).trans (h3.only hW (by simp)))⟩
theorem once_remove (P : OnceIn w g H b wr) (ht : tn ≤ 63) :
    (∀ W, Only [] wr W → Calls Try.prog 19 #[.pointer (some ⟨g, 0, none⟩), .int .i64 tn] W fun e w' => e = .returned (.bool true) ∧ OnceSub w g H b tn tn 0 w') ∨
    ∀ W, Only [] wr W → Calls Try.prog 19 #[.pointer (some ⟨g, 0, none⟩), .int .i64 tn] W fun e w' => e = .returned (.bool false) ∧ OnceY w g H b tn 0 w' := by
  obtain ⟨s, R, h1, h2, h3⟩ := P
  have o := R.ok
  have hw : iW (tn : Int) := iW_le (by omega) (by omega)
  by_cases hm : (tn : Int) ∈ keysQ s
  · have er : removeF s tn = (dropS s (whereQ s tn) tn, true) := by unfold removeF; rw [if_pos hm]
    refine .inl fun W hW => (lq_remove (R.quiet hW) tn hw).mono ?_
    rw [er]
    rintro e w' ⟨rfl, hd, hk⟩
    have h0 : ind (thereQ (dropS s (whereQ s tn) tn)) tn = 0 := ind_no (fun h => ((dropS_keys _ _ _ _).1 h).2 rfl)
    refine ⟨rfl, ?_⟩
    rw [← h0]
    exact onceSub hd (by rw [(drop_parts s _ _).1, h1]) ht ht hm h2 (fun t => dropS_keys s _ _ t) ((hk b (by simp)).trans (h3.only hW (by simp)))
  · have er : removeF s tn = (s, false) := by unfold removeF; rw [if_neg hm]
    refine .inr fun W hW => (lq_remove (R.quiet hW) tn hw).mono ?_
    rw [er]
    rintro e w' ⟨rfl, hd, hk⟩
    have h0 : ind (thereQ s) tn = 0 := ind_no hm
    refine ⟨rfl, ?_⟩
    rw [← h0]
    exact onceY hd h1 h2 ((hk b (by simp)).trans (h3.only hW (by simp))) ht
theorem once_else (P : OnceIn w g H b wr) (ht : tn ≤ 63) : ∃ y, (y = 0 ∨ y = 1) ∧ ∀ W, Only [] wr W → OnceY w g H b tn y W := by
  obtain ⟨s, R, h1, h2, h3⟩ := P
  exact ⟨ind (thereQ s) tn, ind_01 (thereQ s) tn, fun W hW => onceY (R.quiet hW) h1 h2 (h3.only hW (by simp)) ht⟩

/-- What was found in the first harts, and, of hart h, in what it runs and in the first i of its queue. -/
def PQ (s : RQ) (h : Nat) (ph : Bool) (i : Nat) : Nat → Prop := fun t => 1 ≤ t ∧ ((∃ k, k < h ∧ atQ s t k) ∨ (ph = true ∧ s.r h = t) ∨ (t : Int) ∈ (s.n h).take i)
def FoundIn (w : World) (g b b2 : Nat) (s : RQ) (h : Nat) (ph : Bool) (i : Nat) (wq : World) : Prop :=
  RqL w wq g s [b2, b] ∧ (∀ t ∈ keysQ s, 1 ≤ t ∧ t ≤ 63) ∧ Blk wq b 3 (rowK (thereQ s)) ∧ Blk wq b2 3 (rowK (PQ s h ph i))
theorem FoundIn.quiet {wq wq' : World} {b2 h i : Nat} {ph : Bool} (P : FoundIn w g b b2 s h ph i wq) (ho : Only [] wq wq') : FoundIn w g b b2 s h ph i wq' :=
  ⟨P.1.quiet ho, P.2.1, P.2.2.1.only ho (by simp), P.2.2.2.only ho (by simp)⟩
theorem FoundIn.of {wq : World} {b2 h i h' i' : Nat} {ph ph' : Bool} (P : FoundIn w g b b2 s h ph i wq) (e : ∀ t, PQ s h ph i t ↔ PQ s h' ph' i' t) : FoundIn w g b b2 s h' ph' i' wq :=
  ⟨P.1, P.2.1, P.2.2.1, by rw [← rowK_eq e]; exact P.2.2.2⟩
theorem found_start (P : OnceIn w g H b wr) : ∃ s, s.H = H ∧ FoundIn w g b wr.heap.size s 0 false 0 (wr.alloc (.cells (madeCells #[.int .i64 0] 65) 3)) := by
  obtain ⟨s, R, h1, h2, h3⟩ := P
  refine ⟨s, h1, R.add _, h2, h3.alloc _, ?_⟩
  have e : madeCells #[.int .i64 0] 65 = rowK (PQ s 0 false 0) := by
    rw [made_row]
    unfold rowK
    congr 1
    funext i
    rw [ind_no]
    rintro ⟨_, ⟨k, hk, _⟩ | ⟨hf, _⟩ | h⟩
    · omega
    · cases hf
    · simp at h
  rw [e]
  exact Blk.new _ _ _
/-- One more was found. -/
theorem FoundIn.one {wq : World} {b2 h i h' i' p : Nat} {ph ph' : Bool} (P : FoundIn w g b b2 s h ph i wq) (hp : p ≤ 63) (hn : ¬ PQ s h ph i p) (e : ∀ t, PQ s h' ph' i' t ↔ PQ s h ph i t ∨ t = p) (hbb : b ≠ b2) :
    wq.cell? ⟨b2, p, none⟩ = some (.int .i64 0) ∧ wq.frozen? ⟨b2, p, none⟩ = false ∧ FoundIn w g b b2 s h' ph' i' (wq.setCell ⟨b2, p, none⟩ (.int .i64 1)) := by
  obtain ⟨R, h2, h3, h4⟩ := P
  have ho : Only [b2] wq (wq.setCell ⟨b2, p, none⟩ (.int .i64 1)) := (Only.refl [b2] wq).setCell _ (by simp)
  have hb2 := h4.set_ p (.int .i64 1)
  rw [rowK_one, ← rowK_eq e] at hb2
  refine ⟨by rw [h4.cell, rowK_get _ (by omega), ind_no hn], h4.frozen _, R.other ho (by simp), h2, h3.only ho (by simpa using hbb), hb2⟩
theorem found_run {wq : World} {b2 h : Nat} (P : FoundIn w g b b2 s h false 0 wq) (hr : 1 ≤ s.r h) (hbb : b ≠ b2) : ∃ p : Nat, s.r h = p ∧ 1 ≤ p ∧ p ≤ 63 ∧
    wq.cell? ⟨b2, p, none⟩ = some (.int .i64 0) ∧ wq.frozen? ⟨b2, p, none⟩ = false ∧ FoundIn w g b b2 s h true 0 (wq.setCell ⟨b2, p, none⟩ (.int .i64 1)) := by
  have o := P.1.ok
  have ha : atQ s (s.r h) h := ⟨hr, .inl rfl⟩
  have hkey := P.2.1 _ (o.key.2 ⟨h, ha⟩)
  obtain ⟨p, hp⟩ : ∃ p : Nat, s.r h = p := ⟨(s.r h).toNat, by omega⟩
  refine ⟨p, hp, by omega, by omega, P.one (by omega) ?_ (fun t => ?_) hbb⟩
  · rintro ⟨_, ⟨k, hk, h2⟩ | ⟨hf, _⟩ | h2⟩
    · rw [← hp] at h2
      have := o.uniq _ _ _ h2 ha
      omega
    · cases hf
    · simp at h2
  · unfold PQ
    rw [hp]
    simp only [List.take_zero, List.not_mem_nil, or_false, Bool.false_eq_true, false_and]
    constructor
    · rintro ⟨h1, h2 | ⟨_, h2⟩⟩
      · exact .inl ⟨h1, h2⟩
      · right; omega
    · rintro (⟨h1, h2⟩ | h2)
      · exact ⟨h1, .inl h2⟩
      · exact ⟨by omega, .inr ⟨trivial, by omega⟩⟩
theorem found_idle {wq : World} {b2 h : Nat} (P : FoundIn w g b b2 s h false 0 wq) (hr : s.r h = 0) : FoundIn w g b b2 s h true 0 wq := by
  refine P.of fun t => ?_
  unfold PQ
  rw [hr]
  simp only [List.take_zero, List.not_mem_nil, or_false, Bool.false_eq_true, false_and]
  constructor
  · rintro ⟨h1, h2⟩; exact ⟨h1, .inl h2⟩
  · rintro ⟨h1, h2 | ⟨_, h2⟩⟩
    · exact ⟨h1, h2⟩
    · omega
theorem found_next {wq : World} {b2 h i : Nat} (P : FoundIn w g b b2 s h true i wq) (hi : i < (s.n h).length) (hbb : b ≠ b2) : ∃ p : Nat, gb (s.n h) i = p ∧ 1 ≤ p ∧ p ≤ 63 ∧
    wq.cell? ⟨b2, p, none⟩ = some (.int .i64 0) ∧ wq.frozen? ⟨b2, p, none⟩ = false ∧ FoundIn w g b b2 s h true (i + 1) (wq.setCell ⟨b2, p, none⟩ (.int .i64 1)) := by
  have o := P.1.ok
  have hm := gb_mem hi
  have hy := o.wn h _ hm
  have ha : atQ s (gb (s.n h) i) h := ⟨hy.1, .inr hm⟩
  have hkey := P.2.1 _ (o.key.2 ⟨h, ha⟩)
  have hg : (s.n h)[i] = gb (s.n h) i := by simp [gb, List.getD, List.getElem?_eq_getElem hi]
  have htk : (s.n h).take (i + 1) = (s.n h).take i ++ [gb (s.n h) i] := by rw [List.take_add_one]; simp [List.getElem?_eq_getElem hi, hg]
  obtain ⟨p, hp⟩ : ∃ p : Nat, gb (s.n h) i = p := ⟨(gb (s.n h) i).toNat, by omega⟩
  refine ⟨p, hp, by omega, by omega, P.one (by omega) ?_ (fun t => ?_) hbb⟩
  · rintro ⟨_, ⟨k, hk, h2⟩ | ⟨_, h2⟩ | h2⟩
    · rw [← hp] at h2
      have := o.uniq _ _ _ h2 ha
      omega
    · exact o.dis h (by rw [h2, ← hp]; exact hm)
    · have hd := o.nd h
      have hs : s.n h = (s.n h).take i ++ (s.n h)[i] :: (s.n h).drop (i + 1) := by rw [List.getElem_cons_drop, List.take_append_drop]
      rw [hs, List.nodup_append] at hd
      exact hd.2.2 _ h2 (s.n h)[i] List.mem_cons_self (by rw [hg, hp])
  · unfold PQ
    rw [htk, hp]
    simp only [List.mem_append, List.mem_singleton, Int.natCast_inj]
    constructor
    · rintro ⟨h1, h2 | h2 | h2 | h2⟩
      · exact .inl ⟨h1, .inl h2⟩
      · exact .inl ⟨h1, .inr (.inl h2)⟩
      · exact .inl ⟨h1, .inr (.inr h2)⟩
      · exact .inr h2
    · rintro (⟨h1, h2 | h2 | h2⟩ | h2)
      · exact ⟨h1, .inl h2⟩
      · exact ⟨h1, .inr (.inl h2)⟩
      · exact ⟨h1, .inr (.inr (.inl h2))⟩
      · exact ⟨by omega, .inr (.inr (.inr h2))⟩
theorem found_hart {wq : World} {b2 h : Nat} (P : FoundIn w g b b2 s h true (s.n h).length wq) : FoundIn w g b b2 s (h + 1) false 0 wq := by
  refine P.of fun t => ?_
  unfold PQ
  rw [List.take_of_length_le (Nat.le_refl _)]
  simp only [List.take_zero, List.not_mem_nil, or_false, Bool.false_eq_true, false_and, true_and]
  constructor
  · rintro ⟨h1, ⟨k, hk, h2⟩ | h2 | h2⟩
    · exact ⟨h1, k, by omega, h2⟩
    · exact ⟨h1, h, by omega, by omega, .inl h2⟩
    · exact ⟨h1, h, by omega, by omega, .inr h2⟩
  · rintro ⟨h1, k, hk, h2⟩
    by_cases e : k = h
    · subst e
      rcases h2.2 with h3 | h3
      · exact ⟨h1, .inr (.inl h3)⟩
      · exact ⟨h1, .inr (.inr h3)⟩
    · exact ⟨h1, .inl ⟨k, by omega, h2⟩⟩
theorem found_all {wq : World} {b2 : Nat} (P : FoundIn w g b b2 s s.H false 0 wq) : Only [] w wq ∧ ∀ t, t < 65 → ∃ y, wq.cell? ⟨b, t, none⟩ = some (.int .i64 y) ∧ wq.cell? ⟨b2, t, none⟩ = some (.int .i64 y) := by
  obtain ⟨R, h2, h3, h4⟩ := P
  refine ⟨R.base, fun t ht => ⟨_, by rw [h3.cell, rowK_get _ ht], ?_⟩⟩
  have o := R.ok
  rw [h4.cell, rowK_eq (K' := thereQ s), rowK_get _ ht]
  intro i
  show _ ↔ (i : Int) ∈ keysQ s
  rw [o.key]
  unfold PQ
  simp only [List.take_zero, List.not_mem_nil, or_false, Bool.false_eq_true, false_and]
  constructor
  · rintro ⟨_, k, _, h⟩; exact ⟨k, h⟩
  · rintro ⟨k, h⟩; exact ⟨by have := h.1; omega, k, o.lt h, h⟩
end
end Go.Proofs.Ytjamanahgkagjaa
