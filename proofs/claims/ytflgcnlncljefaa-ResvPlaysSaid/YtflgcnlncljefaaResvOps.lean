/-
  The laws of the gate: what is read of their arguments, and words for their loops.
-/
import Derived.Test.YtflgcnlncljefaaResvLives
import Derived.Test.YtflgcnlncljefaaRead
namespace Go.Proofs.Ytflgcnlncljefaa
open Go.ChangeShapes Go.WideShapes Go.ChangeAt Go.RowKit Go.Deep
set_option linter.unusedVariables false

theorem cells_op9 : Try.prog.cellsOf 33 = 3 := by kernel_rfl
def I64p (x : Int) : Prop := -9223372036854775808 ≤ x ∧ x ≤ 9223372036854775807
theorem wf_i64p {x : Int} (h : (Lit.int .i64 x).wf = true) : I64p x := by
  have : -9223372036854775808 ≤ x ∧ x ≤ 9223372036854775807 := by simpa [Lit.wf, IntKind.min, IntKind.max, IntKind.signed, IntKind.bits] using h
  exact this

/-- What is known of call i of the list. -/
def OpAt9 (w : World) (A : Option Addr) (i : Nat) : Prop :=
  ∃ (q o : Nat) (k b c : Int), A = some ⟨q, o, none⟩ ∧ q < w.heap.size ∧ w.cell? ⟨q, o + i * 3, none⟩ = some (.int .i64 k) ∧ w.cell? ⟨q, o + i * 3 + 1, none⟩ = some (.int .i64 b) ∧ w.cell? ⟨q, o + i * 3 + 2, none⟩ = some (.int .i64 c) ∧ I64p b ∧ I64p c

set_option maxRecDepth 100000 in
theorem Rd.ops9 {H : Type} {enc : TypeId × Value → H} {w : World} {A : Option Addr} {n c : Nat} {d : DataW H} (h : Rd enc Try.prog w 22 [.slice A n c] d) : n < 5900000000000 ∧ ∀ i, i < n → OpAt9 w A i := by
  obtain ⟨A', n', c', hv, hl, hm, hb, _, hf⟩ := h.structs Try.underlying22 Try.underlying33
  injection hv with hv _
  injection hv with e1 e2 e3
  subst e1 e2 e3
  have hby : Try.prog.bytesOf 33 = 24 := by kernel_rfl
  rw [hby] at hb
  refine ⟨by unfold reachBytes at hb; omega, fun i hi => ?_⟩
  rw [cells_op9] at hf
  obtain ⟨q, o, v0, y0, hA, hq, c0, r0⟩ := hf i hi 0 _ rfl (by kernel_rfl) (by decide)
  obtain ⟨q1, o1, v1, y1, hA1, _, c1, r1⟩ := hf i hi 1 _ rfl (by kernel_rfl) (by decide)
  obtain ⟨q2, o2, v2, y2, hA2, _, c2, r2⟩ := hf i hi 2 _ rfl (by kernel_rfl) (by decide)
  have a1 : q1 = q ∧ o1 = o := by rw [hA] at hA1; injection hA1 with h; injection h with h1 h2; exact ⟨h1.symm, h2.symm⟩
  have a2 : q2 = q ∧ o2 = o := by rw [hA] at hA2; injection hA2 with h; injection h with h1 h2; exact ⟨h1.symm, h2.symm⟩
  obtain ⟨rfl, rfl⟩ := a1
  obtain ⟨rfl, rfl⟩ := a2
  obtain ⟨k, e0, _⟩ := r0.int (k := .i64) Try.underlying3
  obtain ⟨b, e1, wb⟩ := r1.int (k := .i64) Try.underlying3
  obtain ⟨c, e2, wc⟩ := r2.int (k := .i64) Try.underlying3
  injection e0 with e0 _; injection e1 with e1 _; injection e2 with e2 _
  subst e0 e1 e2
  exact ⟨_, _, k, b, c, hA, hq, c0, c1, c2, wf_i64p wb, wf_i64p wc⟩

/-- A gate in blocks of one's own from w on. -/
def GtI (w wr : World) (g : Nat) (H : Int) (s : GS) : Prop := ∃ F, Gt wr g H s F ∧ (∀ q ∈ F, w.heap.size ≤ q) ∧ Only [] w wr
theorem GtI.only {w wr wr' : World} {g : Nat} {H : Int} {s : GS} (h : GtI w wr g H s) (ho : Only [] wr wr') : GtI w wr' g H s := by
  obtain ⟨F, h1, h2, h3⟩ := h
  exact ⟨F, h1.only ho (by simp), h2, h3.trans ho⟩
theorem GtI.turn {w wr wr' : World} {g : Nat} {H : Int} {s s' : GS} (h : GtI w wr g H s) : (∀ F, Gt wr g H s F → ∃ F', TurnedG wr wr' F F' ∧ Gt wr' g H s' F') → GtI w wr' g H s' := by
  intro hd
  obtain ⟨F, h1, h2, h3⟩ := h
  obtain ⟨F', ht, hg⟩ := hd F h1
  obtain ⟨h4, h5⟩ := ht.new h3 h2
  exact ⟨F', hg, h5, h4⟩
theorem GtI.ok {w wr : World} {g : Nat} {H : Int} {s : GS} (h : GtI w wr g H s) : s.ok H := by obtain ⟨F, h1, _⟩ := h; exact h1.ok
theorem GtI.base {w wr : World} {g : Nat} {H : Int} {s : GS} (h : GtI w wr g H s) : Only [] w wr := by obtain ⟨F, _, _, h3⟩ := h; exact h3

section
variable {w wr : World} {g : Nat} {H : Int} {s : GS}
theorem enterI (h : GtI w wr g H s) (id b : Int) : Calls Try.prog 14 #[.pointer (some ⟨g, 0, none⟩), .int .i64 id, .int .i64 b] wr fun e w' => e = .returned (.tuple #[.bool (enterF H s id b).1, .int .i64 (enterF H s id b).2.1]) ∧ GtI w w' g H (enterF H s id b).2.2 := by
  obtain ⟨F, h1, h2, h3⟩ := h
  refine (gEnter_is h1 id b).mono ?_
  rintro e w' ⟨he, F', ht, hg⟩
  obtain ⟨h4, h5⟩ := ht.new h3 h2
  exact ⟨he, F', hg, h5, h4⟩
theorem takeI (h : GtI w wr g H s) (id b : Int) : Calls Try.prog 15 #[.pointer (some ⟨g, 0, none⟩), .int .i64 id, .int .i64 b] wr fun e w' => e = .returned (.int .i64 (takeF s id b).1) ∧ GtI w w' g H (takeF s id b).2 := by
  obtain ⟨F, h1, h2, h3⟩ := h
  refine (gTake_is h1 id b).mono ?_
  rintro e w' ⟨he, F', ht, hg⟩
  obtain ⟨h4, h5⟩ := ht.new h3 h2
  exact ⟨he, F', hg, h5, h4⟩
theorem giveI (h : GtI w wr g H s) (b : Int) : Calls Try.prog 16 #[.pointer (some ⟨g, 0, none⟩), .int .i64 b] wr fun e w' => ∃ A c, e = .returned (.tuple #[.slice A (giveF H s b).1.length c, .int .i64 (giveF H s b).2.1]) ∧ KRow .i64 3 w' wr.heap.size (.slice A (giveF H s b).1.length c) (giveF H s b).1 ∧ GtI w w' g H (giveF H s b).2.2 := by
  obtain ⟨F, h1, h2, h3⟩ := h
  refine (gGive_is h1 b).mono ?_
  rintro e w' ⟨v', he, hk, F', ht, hg⟩
  obtain ⟨h4, h5⟩ := ht.new h3 h2
  obtain ⟨A, c, rfl, _⟩ := hk.form
  exact ⟨A, c, he, hk, F', hg, h5, h4⟩
theorem leaveI (h : GtI w wr g H s) (b : Int) : Calls Try.prog 17 #[.pointer (some ⟨g, 0, none⟩), .int .i64 b] wr fun e w' => ∃ A c, e = .returned (.tuple #[.slice A (leaveF H s b).1.length c, .int .i64 (leaveF H s b).2.1]) ∧ KRow .i64 3 w' wr.heap.size (.slice A (leaveF H s b).1.length c) (leaveF H s b).1 ∧ GtI w w' g H (leaveF H s b).2.2 := by
  obtain ⟨F, h1, h2, h3⟩ := h
  refine (gLeave_is h1 b).mono ?_
  rintro e w' ⟨v', he, hk, F', ht, hg⟩
  obtain ⟨h4, h5⟩ := ht.new h3 h2
  obtain ⟨A, c, rfl, _⟩ := hk.form
  exact ⟨A, c, he, hk, F', hg, h5, h4⟩
theorem heapI (h : GtI w wr g H s) : Calls Try.prog 18 #[.pointer (some ⟨g, 0, none⟩)] wr fun e w' => e = .returned (.agg #[.int .i64 H, .int .i64 s.L, .int .i64 (resvL s.ss)]) ∧ Only [] wr w' := by
  obtain ⟨F, ⟨v, h1, _⟩, _⟩ := h
  exact gHeap_is h1
theorem stallI (h : GtI w wr g H s) : Calls Try.prog 20 #[.pointer (some ⟨g, 0, none⟩)] wr fun e w' => e = .returned (.bool (stallB s.ss)) ∧ wr = w' := by
  obtain ⟨F, ⟨v, h1, _⟩, _⟩ := h
  exact gStalled_is h1
theorem insideI (h : GtI w wr g H s) (id : Int) : Calls Try.prog 23 #[.pointer (some ⟨g, 0, none⟩), .int .i64 id] wr fun e w' => e = .returned (.bool (inB s.ss id)) ∧ Only [] wr w' := by
  obtain ⟨F, ⟨v, h1, _⟩, _⟩ := h
  exact gInside_is h1 id
/-- The seats, copied: where they stand. -/
def SeatsS (w : World) (A : Option Addr) (ss : List ST) : Prop := 0 < ss.length → ∃ b, A = some ⟨b, 0, none⟩ ∧ b < w.heap.size ∧ ∀ (i : Nat) (s : ST), ss[i]? = some s →
  w.cell? ⟨b, i * 4, none⟩ = some (.int .i64 s.id) ∧ w.cell? ⟨b, i * 4 + 1, none⟩ = some (.int .i64 s.bound) ∧ w.cell? ⟨b, i * 4 + 2, none⟩ = some (.int .i64 s.taken) ∧ w.cell? ⟨b, i * 4 + 3, none⟩ = some (.bool s.waits)
theorem SeatsS.only {w w' : World} {A : Option Addr} {ss : List ST} {S : List Nat} (h : SeatsS w A ss) (ho : Only S w w') (hs : ∀ b o, A = some ⟨b, o, none⟩ → b < w.heap.size → b ∉ S) : SeatsS w' A ss := by
  intro hp
  obtain ⟨b, rfl, hb, hc⟩ := h hp
  have hn := hs b 0 rfl hb
  refine ⟨b, rfl, Nat.lt_of_lt_of_le hb ho.size, fun i s hi => ?_⟩
  obtain ⟨c0, c1, c2, c3⟩ := hc i s hi
  exact ⟨(ho.cell hb hn).trans c0, (ho.cell hb hn).trans c1, (ho.cell hb hn).trans c2, (ho.cell hb hn).trans c3⟩
theorem seatsI (h : GtI w wr g H s) : Calls Try.prog 19 #[.pointer (some ⟨g, 0, none⟩)] wr fun e w' => ∃ A c, e = .returned (.slice A s.ss.length c) ∧ SeatsS w' A s.ss ∧ (∀ b o, A = some ⟨b, o, none⟩ → wr.heap.size ≤ b) ∧ Only [] wr w' := by
  obtain ⟨F, ⟨v, h1, _⟩, _⟩ := h
  refine (gSeats_is h1).mono ?_
  rintro e w' ⟨v', he, hr, hq, ho⟩
  obtain ⟨A, c, rfl, hA⟩ := hr.form
  refine ⟨A, c, he, fun hp => ?_, fun b o hb => ?_, ho⟩
  · obtain ⟨b, rfl, hb⟩ := hA hp
    exact ⟨b, rfl, hb, fun i s hi => hr.cell rfl rfl hi⟩
  · rcases hr.2 with ⟨e, h0⟩ | ⟨q, cap, cur, e, _⟩
    · injection e with e; rw [hb] at e; cases e
    · injection e with e e2 e3
      rw [hb] at e
      injection e with e
      injection e with e e4
      exact hq b (by rw [hb, e4]; rfl)

/-- .. and a block that is none of the gate's. -/
def GtX (w wr : World) (g : Nat) (H : Int) (s : GS) (b : Nat) : Prop := ∃ F, Gt wr g H s F ∧ (∀ q ∈ F, w.heap.size ≤ q) ∧ Only [] w wr ∧ b ∉ F ∧ b < wr.heap.size
theorem GtX.gi {b : Nat} (h : GtX w wr g H s b) : GtI w wr g H s := by obtain ⟨F, h1, h2, h3, _⟩ := h; exact ⟨F, h1, h2, h3⟩
theorem GtX.only {wr' : World} {b : Nat} (h : GtX w wr g H s b) (ho : Only [] wr wr') : GtX w wr' g H s b := by
  obtain ⟨F, h1, h2, h3, h4, h5⟩ := h
  exact ⟨F, h1.only ho (by simp), h2, h3.trans ho, h4, Nat.lt_of_lt_of_le h5 ho.size⟩
theorem GtI.box (h : GtI w wr g H s) {wr' : World} {b : Nat} (ho : Only [] wr wr') (hb : wr.heap.size ≤ b) (hl : b < wr'.heap.size) : GtX w wr' g H s b := by
  obtain ⟨F, h1, h2, h3⟩ := h
  exact ⟨F, h1.only ho (by simp), h2, h3.trans ho, fun hm => by have := h1.lt b hm; omega, hl⟩
theorem GtX.turn {wr' : World} {b : Nat} {s' : GS} {F F' : List Nat} (h1 : Gt wr g H s F) (h2 : ∀ q ∈ F, w.heap.size ≤ q) (h3 : Only [] w wr) (h4 : b ∉ F) (h5 : b < wr.heap.size) (ht : TurnedG wr wr' F F') (hg : Gt wr' g H s' F') :
    GtX w wr' g H s' b ∧ ∀ o, wr'.cell? ⟨b, o, none⟩ = wr.cell? ⟨b, o, none⟩ := by
  obtain ⟨h6, h7⟩ := ht.new h3 h2
  refine ⟨⟨F', hg, h7, h6, fun hm => ?_, Nat.lt_of_lt_of_le h5 ht.1.size⟩, fun o => ht.1.cell h5 h4⟩
  rcases ht.2 b hm with h | h
  · exact h4 h
  · omega
theorem takeX {b : Nat} (h : GtX w wr g H s b) (id n : Int) : Calls Try.prog 15 #[.pointer (some ⟨g, 0, none⟩), .int .i64 id, .int .i64 n] wr fun e w' => e = .returned (.int .i64 (takeF s id n).1) ∧ GtX w w' g H (takeF s id n).2 b ∧ ∀ o, w'.cell? ⟨b, o, none⟩ = wr.cell? ⟨b, o, none⟩ := by
  obtain ⟨F, h1, h2, h3, h4, h5⟩ := h
  refine (gTake_is h1 id n).mono ?_
  rintro e w' ⟨he, F', ht, hg⟩
  exact ⟨he, GtX.turn h1 h2 h3 h4 h5 ht hg⟩
theorem giveX {b : Nat} (h : GtX w wr g H s b) (n : Int) : Calls Try.prog 16 #[.pointer (some ⟨g, 0, none⟩), .int .i64 n] wr fun e w' => ∃ A c, e = .returned (.tuple #[.slice A (giveF H s n).1.length c, .int .i64 (giveF H s n).2.1]) ∧ GtX w w' g H (giveF H s n).2.2 b ∧ ∀ o, w'.cell? ⟨b, o, none⟩ = wr.cell? ⟨b, o, none⟩ := by
  obtain ⟨F, h1, h2, h3, h4, h5⟩ := h
  refine (gGive_is h1 n).mono ?_
  rintro e w' ⟨v', he, hk, F', ht, hg⟩
  obtain ⟨A, c, rfl, _⟩ := hk.form
  exact ⟨A, c, he, GtX.turn h1 h2 h3 h4 h5 ht hg⟩
end
end Go.Proofs.Ytflgcnlncljefaa
