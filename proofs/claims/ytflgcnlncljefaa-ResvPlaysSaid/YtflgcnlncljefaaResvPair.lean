/-
  A gate and the document's own in one world; the law's sameInts and looks.
-/
import Derived.Test.YtflgcnlncljefaaResvRefLeave
namespace Go.Proofs.Ytflgcnlncljefaa
open Go.ChangeShapes Go.WideShapes Go.ChangeAt Go.RowKit
set_option linter.unusedVariables false

/-- Both, in blocks of one's own from w on; none of them in bs. -/
def P9 (w W : World) (g x : Nat) (H : Int) (s1 s2 : GS) (bs : List Nat) : Prop :=
  ∃ F1 F2, Gt W g H s1 F1 ∧ Rf W x H s2 F2 ∧ (∀ q ∈ F1, q ∉ F2) ∧ (∀ q ∈ F1 ++ F2, w.heap.size ≤ q) ∧ Only [] w W ∧ ∀ b ∈ bs, b ∉ F1 ∧ b ∉ F2 ∧ b < W.heap.size
def Kept (bs : List Nat) (W W' : World) : Prop := ∀ b ∈ bs, ∀ o, W'.cell? ⟨b, o, none⟩ = W.cell? ⟨b, o, none⟩
/-- A slice of ints whose block is one of bs. -/
def Ints9 (W : World) (A : Option Addr) (ids : List Int) (bs : List Nat) : Prop := 0 < ids.length → ∃ b, A = some ⟨b, 0, none⟩ ∧ b ∈ bs ∧ ∀ i, i < ids.length → W.cell? ⟨b, i, none⟩ = some (.int .i64 (gb ids i))

section
variable {w W W' : World} {g x : Nat} {H : Int} {s1 s2 s1' s2' : GS} {bs F1 F2 F1' F2' : List Nat}
theorem Ints9.kept {A : Option Addr} {ids : List Int} (h : Ints9 W A ids bs) (hk : Kept bs W W') : Ints9 W' A ids bs := fun hp => by
  obtain ⟨b, hA, hb, hc⟩ := h hp
  exact ⟨b, hA, hb, fun i hi => (hk b hb i).trans (hc i hi)⟩
theorem Ints9.more {A : Option Addr} {ids : List Int} {bs' : List Nat} (h : Ints9 W A ids bs) (hb : ∀ b ∈ bs, b ∈ bs') : Ints9 W A ids bs' := fun hp => by
  obtain ⟨b, hA, hm, hc⟩ := h hp
  exact ⟨b, hA, hb b hm, hc⟩
theorem P9.base (h : P9 w W g x H s1 s2 bs) : Only [] w W := by obtain ⟨_, _, _, _, _, _, h, _⟩ := h; exact h
theorem P9.only (h : P9 w W g x H s1 s2 bs) (ho : Only [] W W') : P9 w W' g x H s1 s2 bs := by
  obtain ⟨F1, F2, h1, h2, h3, h4, h5, h6⟩ := h
  exact ⟨F1, F2, h1.only ho (by simp), h2.only ho (by simp), h3, h4, h5.trans ho, fun b hb => ⟨(h6 b hb).1, (h6 b hb).2.1, Nat.lt_of_lt_of_le (h6 b hb).2.2 ho.size⟩⟩
theorem P9.kept (h : P9 w W g x H s1 s2 bs) (ho : Only [] W W') : Kept bs W W' := fun b hb o => by
  obtain ⟨F1, F2, h1, h2, h3, h4, h5, h6⟩ := h
  exact ho.cell (h6 b hb).2.2 (by simp)
theorem P9.box (h : P9 w W g x H s1 s2 bs) (ho : Only [] W W') {b : Nat} (hb : W.heap.size ≤ b) (hl : b < W'.heap.size) : P9 w W' g x H s1 s2 (b :: bs) := by
  obtain ⟨F1, F2, h1, h2, h3, h4, h5, h6⟩ := h
  refine ⟨F1, F2, h1.only ho (by simp), h2.only ho (by simp), h3, h4, h5.trans ho, fun c hc => ?_⟩
  rcases List.mem_cons.1 hc with rfl | hc
  · exact ⟨fun hm => by have := h1.lt _ hm; omega, fun hm => by have := h2.lt _ hm; omega, hl⟩
  · exact ⟨(h6 c hc).1, (h6 c hc).2.1, Nat.lt_of_lt_of_le (h6 c hc).2.2 ho.size⟩
theorem P9.less {bs' : List Nat} (h : P9 w W g x H s1 s2 bs) (hb : ∀ b ∈ bs', b ∈ bs) : P9 w W g x H s1 s2 bs' := by
  obtain ⟨F1, F2, h1, h2, h3, h4, h5, h6⟩ := h
  exact ⟨F1, F2, h1, h2, h3, h4, h5, fun b h => h6 b (hb b h)⟩
theorem P9.mkG (h2 : Rf W x H s2 F2) (h3 : ∀ q ∈ F1, q ∉ F2) (h4 : ∀ q ∈ F1 ++ F2, w.heap.size ≤ q) (h5 : Only [] w W) (h6 : ∀ b ∈ bs, b ∉ F1 ∧ b ∉ F2 ∧ b < W.heap.size) (ht : TurnedG W W' F1 F1') (hg : Gt W' g H s1' F1') :
    P9 w W' g x H s1' s2 bs ∧ Kept bs W W' := by
  have hs := h5.size
  refine ⟨⟨F1', F2, hg, h2.only ht.1 (fun q hq hm => h3 q hm hq), fun q hq hm => ?_, fun q hq => ?_, h5.trans' ht.1 (fun k hk hm => by have := h4 k (List.mem_append_left _ hm); omega), fun b hb => ⟨fun hm => ?_, (h6 b hb).2.1, Nat.lt_of_lt_of_le (h6 b hb).2.2 ht.1.size⟩⟩, fun b hb o => ht.1.cell (h6 b hb).2.2 (h6 b hb).1⟩
  · rcases ht.2 q hq with h | h
    · exact h3 q h hm
    · have := h2.lt q hm; omega
  · rcases List.mem_append.1 hq with hq | hq
    · rcases ht.2 q hq with h | h
      · exact h4 q (List.mem_append_left _ h)
      · omega
    · exact h4 q (List.mem_append_right _ hq)
  · rcases ht.2 b hm with h | h
    · exact (h6 b hb).1 h
    · have := (h6 b hb).2.2; omega
theorem P9.mkR (h1 : Gt W g H s1 F1) (h3 : ∀ q ∈ F1, q ∉ F2) (h4 : ∀ q ∈ F1 ++ F2, w.heap.size ≤ q) (h5 : Only [] w W) (h6 : ∀ b ∈ bs, b ∉ F1 ∧ b ∉ F2 ∧ b < W.heap.size) (ht : TurnedG W W' F2 F2') (hr : Rf W' x H s2' F2') :
    P9 w W' g x H s1 s2' bs ∧ Kept bs W W' := by
  have hs := h5.size
  refine ⟨⟨F1, F2', h1.only ht.1 h3, hr, fun q hq hm => ?_, fun q hq => ?_, h5.trans' ht.1 (fun k hk hm => by have := h4 k (List.mem_append_right _ hm); omega), fun b hb => ⟨(h6 b hb).1, fun hm => ?_, Nat.lt_of_lt_of_le (h6 b hb).2.2 ht.1.size⟩⟩, fun b hb o => ht.1.cell (h6 b hb).2.2 (h6 b hb).2.1⟩
  · rcases ht.2 q hm with h | h
    · exact h3 q hq h
    · have := h1.lt q hq; omega
  · rcases List.mem_append.1 hq with hq | hq
    · exact h4 q (List.mem_append_left _ hq)
    · rcases ht.2 q hq with h | h
      · exact h4 q (List.mem_append_right _ h)
      · omega
  · rcases ht.2 b hm with h | h
    · exact (h6 b hb).2.1 h
    · have := (h6 b hb).2.2; omega

/-- A new row of ints is no block of a gate. -/
theorem krow_blk {v : Value} {ids : List Int} {B q : Nat} (h : KRow .i64 3 W B v ids) (hq : v.ownBlock = some q) : ∃ cs, Blk W q 3 cs := by
  rcases h.2 with ⟨e', h0⟩ | ⟨b, cap, cur, e', hB, hg, _⟩
  · rw [e'] at hq; simp [Value.ownBlock] at hq
  · rw [e'] at hq
    simp only [Value.ownBlock, Option.some.injEq] at hq
    subst hq
    exact ⟨cur, hg⟩
theorem srw_blk {v : Value} {ss : List ST} {q : Nat} (h : SRw W v ss) (hq : v.ownBlock = some q) : ∃ cs, Blk W q 48 cs := by
  rcases h.2 with ⟨e', h0⟩ | ⟨b, cap, cur, e', hB, hg, _⟩
  · rw [e'] at hq; simp [Value.ownBlock] at hq
  · rw [e'] at hq
    simp only [Value.ownBlock, Option.some.injEq] at hq
    subst hq
    exact ⟨cur, hg⟩
theorem P9.row (h : P9 w W g x H s1 s2 bs) {v : Value} {ids : List Int} {B : Nat} (hk : KRow .i64 3 W B v ids) : P9 w W g x H s1 s2 (v.ownBlock.toList ++ bs) := by
  obtain ⟨F1, F2, h1, h2, h3, h4, h5, h6⟩ := h
  refine ⟨F1, F2, h1, h2, h3, h4, h5, fun b hb => ?_⟩
  rcases List.mem_append.1 hb with hb | hb
  · obtain ⟨cs, hbk⟩ := krow_blk hk (Option.mem_toList.1 hb)
    obtain ⟨v1, i1, _, rfl⟩ := h1
    obtain ⟨v2, i2, _, rfl⟩ := h2
    refine ⟨fun hm => ?_, fun hm => ?_, hbk.lt⟩
    · rcases List.mem_cons.1 hm with e | hm
      · exact hbk.ne_ i1.blk (by decide) e
      · obtain ⟨cs', hb'⟩ := srw_blk i1.row (Option.mem_toList.1 hm)
        exact hbk.ne_ hb' (by decide) rfl
    · rcases List.mem_cons.1 hm with e | hm
      · exact hbk.ne_ i2.blk (by decide) e
      · obtain ⟨cs', hb'⟩ := srw_blk i2.row (Option.mem_toList.1 hm)
        exact hbk.ne_ hb' (by decide) rfl
  · exact h6 b hb
theorem KRow.ints9 {A : Option Addr} {n c B : Nat} {ids : List Int} (hk : KRow .i64 3 W B (.slice A n c) ids) : Ints9 W A ids (Value.slice A n c).ownBlock.toList := fun hp => by
  obtain ⟨A', cap, e, hA⟩ := hk.form
  obtain ⟨b, hb, _, _, hc⟩ := hA hp
  injection e with e1 e2 e3
  refine ⟨b, by rw [e1, hb], ?_, hc⟩
  rcases hk.2 with ⟨e', h0⟩ | ⟨q, cap', cur, e', _⟩
  · exact absurd h0 (by simp; intro h; rw [h] at hp; simp at hp)
  · rw [e']
    rw [e1, hb] at e'
    injection e' with e'
    injection e' with e'
    injection e' with e'
    rw [e']
    simp [Value.ownBlock]

theorem enterP (h : P9 w W g x H s1 s2 bs) (id b : Int) : Calls Try.prog 14 #[.pointer (some ⟨g, 0, none⟩), .int .i64 id, .int .i64 b] W fun e w' => e = .returned (.tuple #[.bool (enterF H s1 id b).1, .int .i64 (enterF H s1 id b).2.1]) ∧ P9 w w' g x H (enterF H s1 id b).2.2 s2 bs ∧ Kept bs W w' := by
  obtain ⟨F1, F2, h1, h2, h3, h4, h5, h6⟩ := h
  refine (gEnter_is h1 id b).mono ?_
  rintro e w' ⟨he, F', ht, hg⟩
  exact ⟨he, P9.mkG h2 h3 h4 h5 h6 ht hg⟩
theorem enterP9 (h : P9 w W g x H s1 s2 bs) (id b : Int) : Calls Try.prog 24 #[.pointer (some ⟨x, 0, none⟩), .int .i64 id, .int .i64 b] W fun e w' => e = .returned (.tuple #[.bool (enterF H s2 id b).1, .int .i64 (enterF H s2 id b).2.1]) ∧ P9 w w' g x H s1 (enterF H s2 id b).2.2 bs ∧ Kept bs W w' := by
  obtain ⟨F1, F2, h1, h2, h3, h4, h5, h6⟩ := h
  refine (r9Enter_is h2 id b).mono ?_
  rintro e w' ⟨he, F', ht, hg⟩
  exact ⟨he, P9.mkR h1 h3 h4 h5 h6 ht hg⟩
theorem takeP (h : P9 w W g x H s1 s2 bs) (id b : Int) : Calls Try.prog 15 #[.pointer (some ⟨g, 0, none⟩), .int .i64 id, .int .i64 b] W fun e w' => e = .returned (.int .i64 (takeF s1 id b).1) ∧ P9 w w' g x H (takeF s1 id b).2 s2 bs ∧ Kept bs W w' := by
  obtain ⟨F1, F2, h1, h2, h3, h4, h5, h6⟩ := h
  refine (gTake_is h1 id b).mono ?_
  rintro e w' ⟨he, F', ht, hg⟩
  exact ⟨he, P9.mkG h2 h3 h4 h5 h6 ht hg⟩
theorem takeP9 (h : P9 w W g x H s1 s2 bs) (id b : Int) : Calls Try.prog 25 #[.pointer (some ⟨x, 0, none⟩), .int .i64 id, .int .i64 b] W fun e w' => e = .returned (.int .i64 (takeF s2 id b).1) ∧ P9 w w' g x H s1 (takeF s2 id b).2 bs ∧ Kept bs W w' := by
  obtain ⟨F1, F2, h1, h2, h3, h4, h5, h6⟩ := h
  refine (r9Take_is h2 id b).mono ?_
  rintro e w' ⟨he, F', ht, hg⟩
  exact ⟨he, P9.mkR h1 h3 h4 h5 h6 ht hg⟩
/-- What Give and Leave tell: a row of its own. -/
def Told9 (w W : World) (g x : Nat) (H : Int) (s1 s2 : GS) (bs : List Nat) (ids : List Int) (er : Int) (e : Ending) (w' : World) : Prop :=
  ∃ A c bs', e = .returned (.tuple #[.slice A ids.length c, .int .i64 er]) ∧ (∀ b ∈ bs, b ∈ bs') ∧ Ints9 w' A ids bs' ∧ P9 w w' g x H s1 s2 bs' ∧ Kept bs W w'
theorem told {r : List Int × Int × GS} {v' : Value} (he : P9 w W' g x H s1 s2 bs ∧ Kept bs W W') (hk : KRow .i64 3 W' W.heap.size v' r.1) : Told9 w W g x H s1 s2 bs r.1 r.2.1 (.returned (.tuple #[v', .int .i64 r.2.1])) W' := by
  obtain ⟨A, c, rfl, _⟩ := hk.form
  exact ⟨A, c, (Value.slice A r.1.length c).ownBlock.toList ++ bs, rfl, fun b hb => List.mem_append_right _ hb, hk.ints9.more (fun b hb => List.mem_append_left _ hb), he.1.row hk, he.2⟩
theorem giveP (h : P9 w W g x H s1 s2 bs) (b : Int) : Calls Try.prog 16 #[.pointer (some ⟨g, 0, none⟩), .int .i64 b] W fun e w' => Told9 w W g x H (giveF H s1 b).2.2 s2 bs (giveF H s1 b).1 (giveF H s1 b).2.1 e w' := by
  obtain ⟨F1, F2, h1, h2, h3, h4, h5, h6⟩ := h
  refine (gGive_is h1 b).mono ?_
  rintro e w' ⟨v', rfl, hk, F', ht, hg⟩
  exact told (P9.mkG h2 h3 h4 h5 h6 ht hg) hk
theorem giveP9 (h : P9 w W g x H s1 s2 bs) (b : Int) : Calls Try.prog 26 #[.pointer (some ⟨x, 0, none⟩), .int .i64 b] W fun e w' => Told9 w W g x H s1 (giveF H s2 b).2.2 bs (giveF H s2 b).1 (giveF H s2 b).2.1 e w' := by
  obtain ⟨F1, F2, h1, h2, h3, h4, h5, h6⟩ := h
  refine (r9Give_is h2 b).mono ?_
  rintro e w' ⟨v', rfl, hk, F', ht, hg⟩
  exact told (P9.mkR h1 h3 h4 h5 h6 ht hg) hk
theorem leaveP (h : P9 w W g x H s1 s2 bs) (b : Int) : Calls Try.prog 17 #[.pointer (some ⟨g, 0, none⟩), .int .i64 b] W fun e w' => Told9 w W g x H (leaveF H s1 b).2.2 s2 bs (leaveF H s1 b).1 (leaveF H s1 b).2.1 e w' := by
  obtain ⟨F1, F2, h1, h2, h3, h4, h5, h6⟩ := h
  refine (gLeave_is h1 b).mono ?_
  rintro e w' ⟨v', rfl, hk, F', ht, hg⟩
  exact told (P9.mkG h2 h3 h4 h5 h6 ht hg) hk
theorem leaveP9 (h : P9 w W g x H s1 s2 bs) (b : Int) : Calls Try.prog 28 #[.pointer (some ⟨x, 0, none⟩), .int .i64 b] W fun e w' => Told9 w W g x H s1 (leaveF H s2 b).2.2 bs (leaveF H s2 b).1 (leaveF H s2 b).2.1 e w' := by
  obtain ⟨F1, F2, h1, h2, h3, h4, h5, h6⟩ := h
  refine (r9Leave_is h2 b).mono ?_
  rintro e w' ⟨v', rfl, hk, F', ht, hg⟩
  exact told (P9.mkR h1 h3 h4 h5 h6 ht hg) hk

set_option maxHeartbeats 1500000 in
theorem same9 {A B : Option Addr} {ids : List Int} {bs' : List Nat} (ha : Ints9 W A ids bs) (hb : Ints9 W B ids bs') (hn : ids.length ≤ 1000) (c c2 : Nat) :
    Calls Try.prog 27 #[.slice A ids.length c, .slice B ids.length c2] W fun e w' => e = .returned (.bool true) ∧ Only [] W w' := by
  have HA := hide ha
  have HB := hide hb
  clear ha hb
  go_enter Try.func27, Try.ntmps27
  go_wp2
  go_loopw [5] (fun iv wr => ∃ k m : Nat, k ≤ ids.length ∧ iv = .int .i64 k ∧ wr = W.drewN m) (fun iv _ => ids.length - (intOf iv).toNat)
  case atStart => exact ⟨0, 0, Nat.zero_le _, rfl, rfl⟩
  case round =>
    obtain ⟨k, m, hk, rfl, rfl⟩ := hrel
    by_cases hlt : k < ids.length
    · obtain ⟨q, rfl, _, hc⟩ := HA.out (by omega)
      obtain ⟨q2, rfl, _, hc2⟩ := HB.out (by omega)
      have c1 : (W.drewN m).cell? ⟨q, k, none⟩ = some (.int .i64 (gb ids k)) := hc k hlt
      have c3 : (W.drewN m).cell? ⟨q2, k, none⟩ = some (.int .i64 (gb ids k)) := hc2 k hlt
      clear hc hc2
      generalize gb ids k = y at c1 c3
      have HM := hide (show ∀ j, (W.drewN m).drewN j = W.drewN (m + j) from fun j => World.drewN_drewN _ _ _)
      revert c1 c3 HM
      generalize W.drewN m = wq
      intro c1 c3 HM
      go_wp2_with fail
      go_quiet (fail)
      go_wp2
      go_roundw
      case rel => exact ⟨k + 1, _, hlt, by go_num, HM.out _⟩
      case measure => simp [intOf]; omega
    · obtain rfl : k = ids.length := by omega
      go_wp2
      go_ret
      exact ⟨rfl, (Only.refl [] W).drewN _⟩
end
end Go.Proofs.Ytflgcnlncljefaa
