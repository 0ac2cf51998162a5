/-
  The laws of the run queues: what is read of their arguments; queues made behind world w0, beside other blocks bs of the law's own ('RqL'); what must come of every program (lives).
-/
import Derived.Test.YtdinndpeoankdaaRqOps
import Derived.Test.YtdinndpeoankdaaRead
namespace Go.Proofs.Ytdinndpeoankdaa
open Go.ChangeShapes Go.WideShapes Go.ChangeAt Go.RowKit Go.Maps Go.Deep
set_option linter.unusedVariables false

theorem cells_op11 : Try.prog.cellsOf 33 = 3 := by kernel_rfl
/-- What is known of call i of the list. -/
def OpAt11 (w : World) (A : Option Addr) (i : Nat) : Prop :=
  ∃ (q o : Nat) (k b c : Int), A = some ⟨q, o, none⟩ ∧ q < w.heap.size ∧ w.cell? ⟨q, o + i * 3, none⟩ = some (.int .i64 k) ∧ w.cell? ⟨q, o + i * 3 + 1, none⟩ = some (.int .i64 b) ∧ w.cell? ⟨q, o + i * 3 + 2, none⟩ = some (.int .i64 c) ∧ iW b ∧ iW c
set_option maxRecDepth 100000 in
theorem Rd.ops11 {H : Type} {enc : TypeId × Value → H} {w : World} {A : Option Addr} {n c : Nat} {d : DataW H} (h : Rd enc Try.prog w 22 [.slice A n c] d) : n < 5900000000000 ∧ ∀ i, i < n → OpAt11 w A i := by
  obtain ⟨A', n', c', hv, hl, hm, hb, _, hf⟩ := h.structs Try.underlying22 Try.underlying33
  injection hv with hv _
  injection hv with e1 e2 e3
  subst e1 e2 e3
  have hby : Try.prog.bytesOf 33 = 24 := by kernel_rfl
  rw [hby] at hb
  refine ⟨by unfold reachBytes at hb; omega, fun i hi => ?_⟩
  rw [cells_op11] at hf
  obtain ⟨q, o, v0, y0, hA, hq, c0, r0⟩ := hf i hi 0 _ rfl (by kernel_rfl) (by decide)
  obtain ⟨q1, o1, v1, y1, hA1, _, c1, r1⟩ := hf i hi 1 _ rfl (by kernel_rfl) (by decide)
  obtain ⟨q2, o2, v2, y2, hA2, _, c2, r2⟩ := hf i hi 2 _ rfl (by kernel_rfl) (by decide)
  have a1 : q1 = q ∧ o1 = o := by rw [hA] at hA1; injection hA1 with h; injection h with h1 h2; exact ⟨h1.symm, h2.symm⟩
  have a2 : q2 = q ∧ o2 = o := by rw [hA] at hA2; injection hA2 with h; injection h with h1 h2; exact ⟨h1.symm, h2.symm⟩
  obtain ⟨rfl, rfl⟩ := a1
  obtain ⟨rfl, rfl⟩ := a2
  obtain ⟨k, e0, _⟩ := r0.int (k := .i64) Try.underlying3
  obtain ⟨b, e1, wb⟩ := r1.int (k := .i64) Try.underlying3
  obtain ⟨c, e2, wc⟩ := r2.int (k := .i64) Try.underlying3
  injection e0 with e0 _; injection e1 with e1 _; injection e2 with e2 _
  subst e0 e1 e2
  exact ⟨_, _, k, b, c, hA, hq, c0, c1, c2, wb, wc⟩

def RqL (w0 w : World) (g : Nat) (s : RQ) (bs : List Nat) : Prop := ∃ F, Rq w g s F ∧ (∀ q ∈ F, w0.heap.size ≤ q ∧ q ∉ bs) ∧ Only [] w0 w ∧ ∀ b ∈ bs, w0.heap.size ≤ b ∧ b < w.heap.size
/-- A call came to s'; the law's own blocks are as they were. -/
def DidL (w0 w w' : World) (g : Nat) (s' : RQ) (bs : List Nat) : Prop := RqL w0 w' g s' bs ∧ ∀ b ∈ bs, w'.heap[b]? = w.heap[b]?
section
variable {w0 w w' : World} {g : Nat} {s s' : RQ} {bs S F : List Nat}
theorem RqL.ok (h : RqL w0 w g s bs) : OkQ s := by obtain ⟨F, h1, _⟩ := h; exact h1.1
theorem RqL.base (h : RqL w0 w g s bs) : Only [] w0 w := by obtain ⟨F, _, _, h3, _⟩ := h; exact h3
theorem RqL.lt (h : RqL w0 w g s bs) {b : Nat} (hb : b ∈ bs) : b < w.heap.size := by obtain ⟨F, _, _, _, h4⟩ := h; exact (h4 b hb).2
theorem RqL.did (h : RqL w0 w g s bs) (hd : ∀ F, Rq w g s F → DidR w w' g F s') : DidL w0 w w' g s' bs := by
  obtain ⟨F, h1, h2, h3, h4⟩ := h
  obtain ⟨F', k1, k2⟩ := hd F h1
  have hsz := h3.size
  refine ⟨⟨F', k1, fun q hq => ?_, h3.trans' k2.only (fun k hk hm => by have := (h2 k hm).1; omega), fun b hb => ⟨(h4 b hb).1, Nat.lt_of_lt_of_le (h4 b hb).2 k2.only.size⟩⟩, fun b hb => k2.only.block b (h4 b hb).2 (fun hm => (h2 b hm).2 hb)⟩
  rcases k2.foot q hq with h | h
  · exact h2 q h
  · refine ⟨by omega, fun hb => ?_⟩
    have := (h4 q hb).2
    omega
/-- Blocks of the law's own turn. -/
theorem RqL.other (h : RqL w0 w g s bs) (ho : Only S w w') (hs : ∀ q ∈ S, q ∈ bs) : RqL w0 w' g s bs := by
  obtain ⟨F, h1, h2, h3, h4⟩ := h
  have hsz := h3.size
  exact ⟨F, h1.only ho (fun k hk hm => (h2 k hk).2 (hs k hm)), h2, h3.trans' ho (fun k hk hm => by have := (h4 k (hs k hm)).1; omega), fun b hb => ⟨(h4 b hb).1, Nat.lt_of_lt_of_le (h4 b hb).2 ho.size⟩⟩
theorem RqL.quiet (h : RqL w0 w g s bs) (ho : Only [] w w') : RqL w0 w' g s bs := h.other ho (by simp)
theorem RqL.add (h : RqL w0 w g s bs) (o : Obj) : RqL w0 (w.alloc o) g s (w.heap.size :: bs) := by
  obtain ⟨F, h1, h2, h3, h4⟩ := h
  have ho := (Only.refl [] w).alloc o
  have hsz := h3.size
  refine ⟨F, h1.only ho (by simp), fun q hq => ⟨(h2 q hq).1, fun hm => ?_⟩, h3.trans ho, fun b hb => ?_⟩
  · rcases List.mem_cons.1 hm with e | hm
    · have := h1.ltF hq; omega
    · exact (h2 q hq).2 hm
  · rcases List.mem_cons.1 hb with e | hb
    · subst e; exact ⟨hsz, by simp⟩
    · have := h4 b hb
      have := ho.size
      exact ⟨by omega, by omega⟩
/-- A block that was there, and is none of the queues', becomes the law's. -/
theorem RqL.less (h : RqL w0 w g s bs) {bs' : List Nat} (hs : ∀ q ∈ bs', q ∈ bs) : RqL w0 w g s bs' := by
  obtain ⟨F, h1, h2, h3, h4⟩ := h
  exact ⟨F, h1, fun q hq => ⟨(h2 q hq).1, fun hm => (h2 q hq).2 (hs q hm)⟩, h3, fun b hb => h4 b (hs b hb)⟩
theorem lq_new (n : Nat) (h : 1 ≤ n ∧ n ≤ 8) : Calls Try.prog 4 #[.int .i64 n] w fun e w' => ∃ g, e = .returned (.tuple #[.pointer (some ⟨g, 0, none⟩), .int .i64 0]) ∧ RqL w w' g (emptyQ n) [] := by
  refine (rq_new n h).mono ?_
  rintro e w' ⟨g, F, rfl, h1, h2, h3⟩
  exact ⟨g, rfl, F, h1, fun q hq => ⟨h2 q hq, by simp⟩, h3, by simp⟩
/-- What a call of contract C over the queues' own blocks does beside others. -/
theorem RqL.call {f : Nat} {args : Array Value} {v : Value} (h : RqL w0 w g s bs) (hc : ∀ F, Rq w g s F → Calls Try.prog f args w fun e w' => e = .returned v ∧ DidR w w' g F s') :
    Calls Try.prog f args w fun e w' => e = .returned v ∧ DidL w0 w w' g s' bs := by
  have h0 := h
  obtain ⟨F, h1, h2, h3, h4⟩ := h
  refine (hc F h1).mono ?_
  rintro e w' ⟨rfl, hd⟩
  refine ⟨rfl, ?_⟩
  obtain ⟨F', k1, k2⟩ := hd
  have hsz := h3.size
  refine ⟨⟨F', k1, fun q hq => ?_, h3.trans' k2.only (fun k hk hm => by have := (h2 k hm).1; omega), fun b hb => ⟨(h4 b hb).1, Nat.lt_of_lt_of_le (h4 b hb).2 k2.only.size⟩⟩, fun b hb => k2.only.block b (h4 b hb).2 (fun hm => (h2 b hm).2 hb)⟩
  rcases k2.foot q hq with h | h
  · exact h2 q h
  · refine ⟨by omega, fun hb => ?_⟩
    have := (h4 q hb).2
    omega
theorem lq_put (R : RqL w0 w g s bs) (h t : Int) (hw : iW t) : Calls Try.prog 9 #[.pointer (some ⟨g, 0, none⟩), .int .i64 h, .int .i64 t] w fun e w' => e = .returned (.int .i64 (putF s h t).2) ∧ DidL w0 w w' g (putF s h t).1 bs := R.call fun F hF => rq_put hF h t hw
theorem lq_next (R : RqL w0 w g s bs) (h : Int) : Calls Try.prog 10 #[.pointer (some ⟨g, 0, none⟩), .int .i64 h] w fun e w' => e = .returned (.tuple #[.int .i64 (nextF s h).2.1, .bool (nextF s h).2.2]) ∧ DidL w0 w w' g (nextF s h).1 bs := R.call fun F hF => rq_next hF h
theorem lq_tick (R : RqL w0 w g s bs) (h : Int) : Calls Try.prog 11 #[.pointer (some ⟨g, 0, none⟩), .int .i64 h] w fun e w' => e = .returned (.bool (tickF s h).2) ∧ DidL w0 w w' g (tickF s h).1 bs := R.call fun F hF => rq_tick hF h
theorem lq_remove (R : RqL w0 w g s bs) (t : Int) (hw : iW t) : Calls Try.prog 20 #[.pointer (some ⟨g, 0, none⟩), .int .i64 t] w fun e w' => e = .returned (.bool (removeF s t).2) ∧ DidL w0 w w' g (removeF s t).1 bs := R.call fun F hF => rq_remove hF t hw
theorem lq_sleep (R : RqL w0 w g s bs) (h : Int) : Calls Try.prog 18 #[.pointer (some ⟨g, 0, none⟩), .int .i64 h] w fun e w' => e = .returned (.tuple #[.int .i64 (sleepF s h).2.1, .int .i64 (sleepF s h).2.2]) ∧ DidL w0 w w' g (sleepF s h).1 bs := R.call fun F hF => rq_sleep hF h
theorem lq_wake (R : RqL w0 w g s bs) (t : Int) (hw : iW t) : Calls Try.prog 14 #[.pointer (some ⟨g, 0, none⟩), .int .i64 t] w fun e w' => e = .returned (.tuple #[.int .i64 (wakeF s t).2.1, .int .i64 (wakeF s t).2.2]) ∧ DidL w0 w w' g (wakeF s t).1 bs := R.call fun F hF => rq_wake hF t hw
theorem lq_running (R : RqL w0 w g s bs) (h : Int) : Calls Try.prog 27 #[.pointer (some ⟨g, 0, none⟩), .int .i64 h] w fun e w' => e = .returned (.int .i64 (runningF s h)) ∧ w = w' := by
  obtain ⟨F, h1, _⟩ := R
  exact rq_running h1 h
theorem lq_queue (R : RqL w0 w g s bs) (h : Int) : Calls Try.prog 12 #[.pointer (some ⟨g, 0, none⟩), .int .i64 h] w fun e w' => ∃ v', e = .returned v' ∧ IRow w' v' (queueQ s h) ∧ (∀ q, v'.ownBlock = some q → w.heap.size ≤ q) ∧ Only [] w w' := by
  obtain ⟨F, h1, _⟩ := R
  exact rq_queue h1 h
theorem lq_idle (R : RqL w0 w g s bs) : Calls Try.prog 24 #[.pointer (some ⟨g, 0, none⟩)] w fun e w' => e = .returned (.bool ((s.O.length : Int) == 0)) ∧ w = w' := by
  obtain ⟨F, h1, _⟩ := R
  exact rq_idle h1
theorem lq_where (R : RqL w0 w g s bs) (t : Int) (hw : iW t) : Calls Try.prog 22 #[.pointer (some ⟨g, 0, none⟩), .int .i64 t] w fun e w' => e = .returned (.tuple #[.int .i64 (whereF s t).1, .bool (whereF s t).2]) ∧ w = w' := by
  obtain ⟨F, h1, _⟩ := R
  exact rq_where h1 t hw
end

def lv1 : RQ := (putF (emptyQ 2) 0 1).1
def lv2 : RQ := (putF lv1 0 2).1
def lv3 : RQ := (putF lv2 0 3).1
def lv4 : RQ := (nextF lv3 1).1
def lv5 : RQ := (nextF lv4 0).1
def lv6 : RQ := (tickF lv5 0).1
theorem lvn1 : (nextF lv3 1).2 = (3, true) := by decide
theorem lvn2 : (nextF lv4 0).2 = (1, true) := by decide
theorem lvt : (tickF lv5 0).2 = true := by decide
theorem lvq : queueQ lv6 0 = [2, 1] := by decide
set_option maxHeartbeats 1500000 in
set_option maxRecDepth 100000 in
theorem lives11 (w : World) : Calls Try.prog 6 #[] w fun e w' => e = .returned (.bool true) ∧ Only [] w w' := by
  have i1 : iW 1 := by decide
  have i2 : iW 2 := by decide
  have i3 : iW 3 := by decide
  go_enter Try.func6, Try.ntmps6
  go_wp2_with fail
  refine (lq_new 2 (by decide)).mono ?_
  rintro e w1 ⟨g, rfl, h1⟩
  go_wp2_with fail
  refine (lq_put h1 0 1 i1).mono ?_
  rintro e w2 ⟨rfl, h2, -⟩
  rw [show (putF (emptyQ 2) 0 1).1 = lv1 from rfl] at h2
  generalize (putF (emptyQ 2) 0 1).2 = e2
  clear h1
  go_wp2_with fail
  refine (lq_put h2 0 2 i2).mono ?_
  rintro e w3 ⟨rfl, h3, -⟩
  rw [show (putF lv1 0 2).1 = lv2 from rfl] at h3
  generalize (putF lv1 0 2).2 = e3
  clear h2
  go_wp2_with fail
  refine (lq_put h3 0 3 i3).mono ?_
  rintro e w4 ⟨rfl, h4, -⟩
  rw [show (putF lv2 0 3).1 = lv3 from rfl] at h4
  generalize (putF lv2 0 3).2 = e4
  clear h3
  go_wp2_with fail
  refine (lq_next h4 1).mono ?_
  rw [lvn1]
  rintro e w5 ⟨rfl, h5, -⟩
  rw [show (nextF lv3 1).1 = lv4 from rfl] at h5
  clear h4
  go_wp2_with fail
  refine (lq_next h5 0).mono ?_
  rw [lvn2]
  rintro e w6 ⟨rfl, h6, -⟩
  rw [show (nextF lv4 0).1 = lv5 from rfl] at h6
  clear h5
  have HT := hide (lq_tick h6 0)
  rw [lvt, show (tickF lv5 0).1 = lv6 from rfl] at HT
  clear h6
  have HQ := hide (fun (wr : World) (R : RqL w wr g lv6 []) => lq_queue R 0)
  rw [lvq] at HQ
  go_wp2_with (first | (go_at_call 11; refine HT.out.mono ?_; rintro e w7 ⟨rfl, h7, -⟩; have H7 := hide h7; clear h7) | (go_at_call 12; have hg := H8; refine (HQ.out _ H8.out.1).mono ?_; rintro e w9 ⟨v9, rfl, r9, -, o9⟩; obtain ⟨A9, c9, rfl, hA9⟩ := r9.form; obtain ⟨b9, rfl, _, _, q9⟩ := hA9 (by decide); have z9 : w9.cell? ⟨b9, 1, none⟩ = some (.int .i64 1) := q9 1 (by decide); have H9 := hide (H8.out.1.quiet o9).base; clear q9 hA9 r9 o9) | (go_at_call 12; refine (HQ.out _ H7.out).mono ?_; rintro e w8 ⟨v8, rfl, r8, -, o8⟩; obtain ⟨A8, c8, rfl, _⟩ := r8.form; have H8 := hide (And.intro (H7.out.quiet o8) True.intro); clear r8 o8))
  go_ret
  exact ⟨rfl, H9.out⟩
end Go.Proofs.Ytdinndpeoankdaa
