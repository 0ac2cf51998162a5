/-
  The pipe's laws: a call of both (parapetlaw21: step).
-/
import Derived.Test.YteljjngmhldfbaaPiSpoil
import Derived.Test.YteljjngmhldfbaaPiOps
import Derived.Deep.Cut
namespace Go.Proofs.Yteljjngmhldfbaa
open Go.ChangeShapes Go.WideShapes Go.ChangeAt Go.RowKit
set_option linter.unusedVariables false
set_option linter.unusedSimpArgs false
/-- A pipe and the document's, in one world, made behind w0. -/
structure Bo (w0 w : World) (p x : Nat) (v : Value) (B : List Int) (r q : Int) : Prop where
  pi : Pi w p B r q
  xp : XP w x w0.heap.size v B r q
  lp : w0.heap.size ≤ p
  lx : w0.heap.size ≤ x
  ne : p ≠ x
  nv : v.ownBlock ≠ some p
  only : Only [] w0 w
def Did (w0 w' : World) (e : Ending) (p x : Nat) (r q : Int) : Prop := e = .returned (.bool true) ∧ ∃ v' B' r' q', Bo w0 w' p x v' B' r' q' ∧ r' ≤ r + 1 ∧ q' ≤ q + 1
section
variable {w0 w w' w1 w2 w3 : World} {p x : Nat} {v v2 : Value} {B B' : List Int} {r q r' q' : Int}
theorem Bo.quiet (h : Bo w0 w p x v B r q) (ho : Only [] w w') : Bo w0 w' p x v B r q := ⟨h.pi.only ho (by simp), h.xp.quiet ho, h.lp, h.lx, h.ne, h.nv, h.only.trans ho⟩
/-- Behind the first call. -/
theorem Bo.xof (h : Bo w0 w p x v B r q) (ho : Only [p] w w1) : XP w1 x w0.heap.size v B r q := h.xp.only ho (by simpa using h.ne.symm) (fun k hk hm => h.nv (by simp at hm; rw [hk, hm]))
theorem Bo.size (h : Bo w0 w p x v B r q) (ho : Only [p] w w1) : w0.heap.size ≤ w1.heap.size := Nat.le_trans h.only.size ho.size
/-- Behind both. -/
theorem Bo.both (h : Bo w0 w p x v B r q) (ho1 : Only [p] w w1) (hp : Pi w1 p B' r' q') (hq : Only [] w1 w2) (ho2 : Only (x :: v.ownBlock.toList) w2 w3) (hx : XP w3 x w0.heap.size v2 B' r' q')
    (hv : ∀ k, v2.ownBlock = some k → v.ownBlock = some k ∨ w2.heap.size ≤ k) : Bo w0 w3 p x v2 B' r' q' := by
  refine ⟨(hp.only hq (by simp)).only ho2 (fun hm => ?_), hx, h.lp, h.lx, h.ne, fun e => ?_, ((h.only.trans' ho1 (fun k hk hm => ?_)).trans hq).trans' ho2 (fun k hk hm => ?_)⟩
  · simp at hm
    rcases hm with e | e
    · exact h.ne e
    · exact h.nv e
  · rcases hv p e with e | e
    · exact h.nv e
    · have := (hp.only hq (by simp)).lt; omega
  · simp at hm; have := h.lp; omega
  · simp at hm
    rcases hm with e | e
    · have := h.lx; omega
    · have := (h.xp.row.at_ e).1; omega
theorem only_cons {S : List Nat} (h : Only [x] w w') : Only (x :: S) w w' := h.mono (fun k _ hk => by simp at hk; simp [hk])
theorem own_slice {A : Option Addr} {n c k : Nat} (h : (Value.slice A n c).ownBlock = some k) : ∃ ad, A = some ad ∧ ad.block = k := by
  cases A with
  | none => simp [Value.ownBlock] at h
  | some ad => exact ⟨ad, rfl, by simpa [Value.ownBlock] using h⟩
/-- Bytes elsewhere are turned. -/
theorem Bo.spoiled {S : List Nat} (h : Bo w0 w p x v B r q) (ho : Only S w w') (h1 : p ∉ S) (h2 : x ∉ S) (h3 : ∀ k, v.ownBlock = some k → k ∉ S) (h4 : ∀ k ∈ S, w0.heap.size ≤ k) : Bo w0 w' p x v B r q :=
  ⟨h.pi.only ho h1, h.xp.only ho h2 h3, h.lp, h.lx, h.ne, h.nv, h.only.trans' ho (fun k hk hm => by have := h4 k hm; omega)⟩
theorem openP_le (r q : Int) (b : Bool) : (openP r q b).2.1 ≤ r + 1 ∧ (openP r q b).2.2 ≤ q + 1 := by
  unfold openP
  cases b
  · by_cases h : r = 2147483647
    · simp [h]; omega
    · simp [h]; omega
  · by_cases h : q = 2147483647
    · simp [h]; omega
    · simp [h]; omega
theorem closeP_le (r q : Int) (b : Bool) : (closeP r q b).2.2.1 ≤ r + 1 ∧ (closeP r q b).2.2.2 ≤ q + 1 := by
  unfold closeP
  cases b
  · by_cases h : r = 0
    · simp [h]; omega
    · simp [h]; omega
  · by_cases h : q = 0
    · simp [h]; omega
    · simp [h]; omega
/-- An op, as a value. -/
abbrev opV (k : Int) (b : Bool) (n : Int) (A : Option Addr) (m c : Nat) : Value := .agg #[.int .i64 k, .bool b, .int .i64 n, .slice A m c]
abbrev opC (k : Int) (b : Bool) (n : Int) (A : Option Addr) (m c : Nat) : Array Value := #[.int .i64 k, .bool b, .int .i64 n, .slice A m c]
set_option maxRecDepth 100000 in
set_option maxHeartbeats 1000000 in
theorem step_open (h : Bo w0 w p x v B r q) (hr : r < 2147483647) (hq : q < 2147483647) (b : Bool) (n : Int) (A : Option Addr) (m c : Nat) :
    Calls Try.prog 12 #[.pointer (some ⟨p, 0, none⟩), .pointer (some ⟨x, 0, none⟩), opV 1 b n A m c] w fun e w' => Did w0 w' e p x r q := by
  have H1 := hide (h.quiet ((Only.refl [] w).alloc (.cells (opC 1 b n A m c) 31)))
  have HX := hide (Blk.new w 31 (opC 1 b n A m c))
  have HLE := hide (openP_le r q b)
  have HO1 := hide (show (openP r q b).1 = 0 by unfold openP; cases b; simp only [Bool.false_eq_true, if_false]; rw [if_neg (by omega)]; simp only [if_true]; rw [if_neg (by omega)])
  have HRQ := hide (And.intro hr hq)
  have HLT := hide h.pi.lt
  clear h
  go_enter Try.func12, Try.ntmps12
  go_wp2_with fail
  have c1 := HX.out.cell 1
  have HG := hide HX.out.lt
  have HNE := hide (show p ≠ w.heap.size from fun e => by have := HLT.out; omega)
  generalize w.alloc (.cells (opC 1 b n A m c) 31) = W1 at *
  generalize w.heap.size = g at *
  go_region_law (first | (go_simp; go_at_call 25; refine (piOpen_is (H1.out.quiet (show Only [] W1 _ from ?_)).pi b).mono ?_; (· repeat (first | (with_reducible exact Only.refl _ _) | (with_reducible apply Only.drew) | (with_reducible apply Only.drewN))); rintro e w5 ⟨rfl, ho5, hp5⟩; have k5 := (ho5.cell (b := g) (o := 1) (s := none) HG.out (by simpa using HNE.out.symm)).trans c1; have HO5 := hide (show Only [p] W1 w5 from (show Only [p] W1 _ from (by repeat (first | (with_reducible exact Only.refl _ _) | (with_reducible apply Only.drew) | (with_reducible apply Only.drewN)))).trans ho5); have HP5 := hide hp5; clear ho5 hp5) | (go_simp; go_at_call 30; refine (x21Open_is ((H1.out.xof HO5.out).quiet (show Only [] w5 _ from ?_)) b HRQ.out.1 HRQ.out.2).mono ?_; (· repeat (first | (with_reducible exact Only.refl _ _) | (with_reducible apply Only.drew) | (with_reducible apply Only.drewN))); rintro e w6 ⟨rfl, ho6, hx6⟩; have HB := hide (H1.out.both HO5.out HP5.out (show Only [] w5 _ from (by repeat (first | (with_reducible exact Only.refl _ _) | (with_reducible apply Only.drew) | (with_reducible apply Only.drewN)))) (only_cons ho6) hx6 (fun k hk => .inl hk)); clear ho6 hx6))
  all_goals
    rw [HO1.out]
    go_wp2
    go_ret
    exact ⟨rfl, _, _, _, _, HB.out, HLE.out.1, HLE.out.2⟩
set_option maxRecDepth 100000 in
set_option maxHeartbeats 1000000 in
theorem step_close (h : Bo w0 w p x v B r q) (b : Bool) (n : Int) (A : Option Addr) (m c : Nat) :
    Calls Try.prog 12 #[.pointer (some ⟨p, 0, none⟩), .pointer (some ⟨x, 0, none⟩), opV 2 b n A m c] w fun e w' => Did w0 w' e p x r q := by
  have H1 := hide (h.quiet ((Only.refl [] w).alloc (.cells (opC 2 b n A m c) 31)))
  have HX := hide (Blk.new w 31 (opC 2 b n A m c))
  have HLT := hide h.pi.lt
  have HLX := hide h.xp.blk.lt
  have HLE := hide (closeP_le r q b)
  clear h
  go_enter Try.func12, Try.ntmps12
  go_upto_region 5 with fail
  have c1 := HX.out.cell 1
  have HG := hide HX.out.lt
  have HNE := hide (show p ≠ w.heap.size from fun e => by have := HLT.out; omega)
  have HNX := hide (show x ≠ w.heap.size from fun e => by have := HLX.out; omega)
  generalize w.alloc (.cells (opC 2 b n A m c) 31) = W1 at *
  generalize w.heap.size = g at *
  go_wp2_with (go_at_call 19; refine (piClose_is H1.out.pi b).mono ?_; rintro e w5 ⟨rfl, ho5, hp5⟩; have k5 := (ho5.cell (b := g) (o := 1) (s := none) HG.out (by simpa using HNE.out.symm)).trans c1; have HO5 := hide ho5; have HP5 := hide hp5; clear ho5 hp5)
  refine (x21Close_is (H1.out.xof HO5.out) b).mono ?_
  rintro e w6 ⟨rfl, ho6, hx6⟩
  have HB := hide (H1.out.both HO5.out HP5.out (Only.refl [] w5) (only_cons ho6) hx6 (fun k hk => .inl hk))
  clear ho6 hx6
  go_wp2
  go_ret
  exact ⟨by simp, _, _, _, _, HB.out, HLE.out.1, HLE.out.2⟩
set_option maxRecDepth 100000 in
set_option maxHeartbeats 1000000 in
theorem step_ready (h : Bo w0 w p x v B r q) (b : Bool) (n : Int) (A : Option Addr) (m c : Nat) :
    Calls Try.prog 12 #[.pointer (some ⟨p, 0, none⟩), .pointer (some ⟨x, 0, none⟩), opV 5 b n A m c] w fun e w' => Did w0 w' e p x r q := by
  have H1 := hide (h.quiet ((Only.refl [] w).alloc (.cells (opC 5 b n A m c) 31)))
  have HX := hide (Blk.new w 31 (opC 5 b n A m c))
  have HLT := hide h.pi.lt
  have HLX := hide h.xp.blk.lt
  clear h
  go_enter Try.func12, Try.ntmps12
  go_upto_region 22 with fail
  have c1 := HX.out.cell 1
  have HG := hide HX.out.lt
  have HNE := hide (show p ≠ w.heap.size from fun e => by have := HLT.out; omega)
  have HNX := hide (show x ≠ w.heap.size from fun e => by have := HLX.out; omega)
  generalize w.alloc (.cells (opC 5 b n A m c) 31) = W1 at *
  generalize w.heap.size = g at *
  have HC1 := hide (fun W (hW : Only [] W1 W) => (piReady_is (H1.out.quiet hW).pi b).mono (R' := fun e w' => e = .returned (.bool (readyP B r q b)) ∧ w' = W) fun _ _ h => ⟨h.1, h.2.symm⟩)
  have HC2 := hide (fun W (hW : Only [] W1 W) => (x21Ready_is (H1.out.quiet hW).xp b).mono (R' := fun e w' => e = .returned (.bool (readyP B r q b)) ∧ w' = W) fun _ _ h => ⟨h.1, h.2.symm⟩)
  go_quiet (first | (go_at_call 20; exact Calls.quiet_of_same (HC1.out _ (by repeat (first | (with_reducible exact Only.refl _ _) | (with_reducible apply Only.drew) | (with_reducible apply Only.drewN)))))  | (go_at_call 35; exact Calls.quiet_of_same (HC2.out _ (by repeat (first | (with_reducible exact Only.refl _ _) | (with_reducible apply Only.drew) | (with_reducible apply Only.drewN))))))
  go_wp2
  go_ret
  exact ⟨by simp, _, _, _, _, H1.out.quiet (by repeat (first | (with_reducible exact Only.refl _ _) | (with_reducible apply Only.drew) | (with_reducible apply Only.drewN))), by omega, by omega⟩
set_option maxRecDepth 100000 in
set_option maxHeartbeats 1000000 in
theorem step_read (h : Bo w0 w p x v B r q) (b : Bool) (n : Int) (A : Option Addr) (m c : Nat) :
    Calls Try.prog 12 #[.pointer (some ⟨p, 0, none⟩), .pointer (some ⟨x, 0, none⟩), opV 3 b n A m c] w fun e w' => Did w0 w' e p x r q := by
  have H1 := hide (h.quiet ((Only.refl [] w).alloc (.cells (opC 3 b n A m c) 31)))
  have HX := hide (Blk.new w 31 (opC 3 b n A m c))
  have HLT := hide h.pi.lt
  have HLX := hide h.xp.blk.lt
  have HU := hide (show U8 (readP B (decide (0 < q)) n).1 from by
    have hu := h.pi.u8
    unfold readP
    split
    · intro y hy; simp at hy
    · split
      · intro y hy; simp at hy
      · split
        · intro y hy; simp at hy
        · exact hu.take _)
  have HFEW := hide (show (readP B (decide (0 < q)) n).1.length ≤ 512 from by
    have hf := h.pi.few
    unfold readP
    split
    · simp
    · split
      · simp
      · split
        · simp
        · rw [List.length_take]; omega)
  clear h
  go_enter Try.func12, Try.ntmps12
  go_upto_region 9 with fail
  have c2 := HX.out.cell 2
  have HG := hide HX.out.lt
  have HNE := hide (show p ≠ w.heap.size from fun e => by have := HLT.out; omega)
  have HNX := hide (show x ≠ w.heap.size from fun e => by have := HLX.out; omega)
  generalize w.alloc (.cells (opC 3 b n A m c) 31) = W1 at *
  generalize w.heap.size = g at *
  go_wp2_with fail
  refine (piRead_is H1.out.pi n).mono ?_
  rintro e w5 ⟨v5, rfl, hv5, ho5, hp5⟩
  have k5 := (ho5.cell (b := g) (o := 2) (s := none) HG.out (by simpa using HNE.out.symm)).trans c2
  obtain ⟨A5, c5, rfl, hs5, hA5, hb5⟩ := hv5.form
  have HO5 := hide ho5
  have HP5 := hide hp5
  have HV5 := hide hv5
  clear ho5 hp5 hv5 hs5 hA5 hb5
  go_wp2_with fail
  refine (x21Read_is (H1.out.xof HO5.out) n (H1.out.size HO5.out)).mono ?_
  rintro e w6 ⟨v6, v7, rfl, hv6, ho6, hx6, hd6⟩
  obtain ⟨A6, c6, rfl, hs6, hA6, hb6⟩ := hv6.form
  have HB := hide (H1.out.both HO5.out HP5.out (Only.refl [] w5) (only_cons ho6) hx6 (fun k hk => by
    rcases hd6 with e | e
    · subst e; exact .inl hk
    · exact .inr (e k hk).1))
  have hxlt : x < w5.heap.size := (H1.out.xof HO5.out).blk.lt
  have hv5' : New w6 W1.heap.size (.slice A5 (readP B (decide (0 < q)) n).1.length c5) (readP B (decide (0 < q)) n).1 := by
    rcases HV5.out with h | h
    · exact .inl h
    · refine .inr (h.only ho6 (fun d hd hm => ?_))
      obtain ⟨d', e1, h1, h2⟩ := h.own
      rw [hd] at e1; injection e1 with e1
      have := H1.out.xp.blk.lt
      simp at hm
      omega
  obtain ⟨A5', c5', e5, hs5, hA5, hb5⟩ := hv5'.form
  injection e5 with e1 e2 e3
  subst e1 e3
  have HSA := hide (same21_is (c := c5) (c' := c6) hs5 (fun e => (hA5 e).1) hs6 (fun e => (hA6 e).1) HU.out)
  have HSP := hide (spoils_is hv5' (by have := HFEW.out; omega))
  have HFAR := hide (show ∀ d, A5 = some d → W1.heap.size ≤ d.block ∧ d.block < w5.heap.size from fun d e => by
    obtain ⟨A5', c5', e5, _, _, hb⟩ := HV5.out.form
    injection e5 with e1 e2 e3
    exact hb d (by rw [← e1]; exact e))
  have HD6 := hide hd6
  clear hv6 ho6 hx6 hs6 hA6 hb6 hd6 hv5' hs5 hA5 hb5 e2 hxlt
  generalize readP B (decide (0 < q)) n = R at *
  obtain ⟨X, er, B'⟩ := R
  go_wp2_with (first | (go_at_call 18; refine HSA.out.mono ?_; rintro e w' ⟨rfl, rfl⟩) | (go_at_call 33; refine HSP.out.mono ?_; rintro e w8 ⟨rfl, ho8⟩; have HO8 := hide ho8; clear ho8))
  go_ret
  have key : ∀ k ∈ (Value.slice A5 X.length c5).ownBlock.toList, W1.heap.size ≤ k ∧ k < w5.heap.size := fun k hk => by
    obtain ⟨ad, e1, e2⟩ := own_slice (show (Value.slice A5 X.length c5).ownBlock = some k by simpa using hk)
    have := HFAR.out ad e1
    omega
  refine ⟨by simp, v7, B', r, q, HB.out.spoiled HO8.out (fun hm => ?_) (fun hm => ?_) (fun k hk hm => ?_) (fun k hm => ?_), by omega, by omega⟩
  · have := key _ hm; have := H1.out.pi.lt; omega
  · have := key _ hm; have := H1.out.xp.blk.lt; omega
  · have h1 := key _ hm
    rcases HD6.out with e | e
    · rw [e] at hk; have := (H1.out.xp.row.at_ hk).2.1; omega
    · have := (e k hk).1; omega
  · have := key _ hm; have := H1.out.only.size; omega
set_option maxRecDepth 100000 in
set_option maxHeartbeats 2000000 in
theorem step_write (h : Bo w0 w p x v B r q) (b : Bool) (n : Int) {A : Option Addr} {m c : Nat} {zs : List Int} (hs : Sees w A m zs) (hu : U8 zs) (hA : A = none → m = 0 ∧ c = 0) (hmc : m ≤ c) (hbig : c ≤ 140737488355328)
    (hlt : ∀ ad, 0 < m → A = some ad → ad.block < w0.heap.size) :
    Calls Try.prog 12 #[.pointer (some ⟨p, 0, none⟩), .pointer (some ⟨x, 0, none⟩), opV 4 b n A m c] w fun e w' => Did w0 w' e p x r q := by
  have H1 := hide (h.quiet ((Only.refl [] w).alloc (.cells (opC 4 b n A m c) 31)))
  have HX := hide (Blk.new w 31 (opC 4 b n A m c))
  have HLT := hide h.pi.lt
  have HLX := hide h.xp.blk.lt
  have HS1 := hide (hs.only ((Only.refl [] w).alloc (.cells (opC 4 b n A m c) 31)) (by simp))
  have HU := hide hu
  have HA := hide hA
  have HMC := hide hmc
  have HBIG := hide hbig
  have HALT := hide hlt
  have HZL := hide (show zs.length = m from hs.1)
  clear h hs hu hA hmc hbig hlt
  go_enter Try.func12, Try.ntmps12
  go_upto_region 15 with fail
  have c3 := HX.out.cell 3
  have c3a : ∀ o, ((w.alloc (.cells (opC 4 b n A m c) 31)).alloc o).cell? ⟨w.heap.size, 3, none⟩ = some (.slice A m c) := fun o => (HX.out.alloc o).cell 3
  have HG := hide HX.out.lt
  have HNE := hide (show p ≠ w.heap.size from fun e => by have := HLT.out; omega)
  have HNX := hide (show x ≠ w.heap.size from fun e => by have := HLX.out; omega)
  generalize w.alloc (.cells (opC 4 b n A m c) 31) = W1 at *
  generalize w.heap.size = g at *
  have HK := hide (Blk.new W1 5 #[])
  have HMB := hide (show m ≤ 140737488355328 by have := HMC.out; have := HBIG.out; omega)
  have HS1b := hide (fun o => HS1.out.only ((Only.refl [] W1).alloc o) (by simp))
  go_wp2_with (at_builtin; refine wpList_append_new rfl _ _ rfl _ W1.heap.size W1.heap.size rfl (Nat.le_refl _) HK.out A m c rfl HA.out zs (HS1b.out _) HMB.out ?_; intro v5 w5 hf5 ho5; have HF5 := hide hf5; have HO5 := hide (((Only.refl [] W1).alloc _).trans' ho5 (fun k hk hm => by simp at hm; omega)); clear hf5 ho5)
  obtain ⟨d5, c5, r5, e5, hd5, hb5, hl5⟩ := HF5.out
  subst e5
  have H2 := hide (H1.out.quiet HO5.out)
  have k3 := (HO5.out.cell (b := g) (o := 3) (s := none) HG.out (by simp)).trans c3
  have HF := hide (And.intro hd5 (And.intro hb5 hl5))
  have hs5 : Sees w5 (some ⟨d5, 0, none⟩) zs.length zs := ⟨rfl, fun _ => ⟨d5, 0, rfl, hb5.lt, fun i hi => by rw [Nat.zero_add, hb5.cell]; exact u8l_get zs r5 i hi⟩⟩
  have hpl := H1.out.pi.lt
  have hxl := H1.out.xp.blk.lt
  refine (piWrite_is H2.out.pi hs5 (fun _ ad e => by injection e with e; subst e; show d5 ≠ p; omega) HU.out (by omega) (by have := HZL.out; have := HMB.out; omega)).mono ?_
  rintro e w6 ⟨rfl, ho6, hp6⟩
  have k6 := (ho6.cell (b := g) (o := 3) (s := none) (Nat.lt_of_lt_of_le HG.out HO5.out.size) (by simpa using HNE.out.symm)).trans k3
  have HO6 := hide ho6
  have HP6 := hide hp6
  have HS6 := hide ((HS1.out.only HO5.out (by simp)).only ho6 (fun h0 ad e hb hm => by have := HALT.out ad h0 e; have := H1.out.lp; simp at hm; omega))
  clear ho6 hp6 hs5 hb5 hd5 hl5 hpl hxl
  go_wp2_with fail
  refine (x21Write_is (H2.out.xof HO6.out) (H2.out.size HO6.out) HS6.out HA.out HMC.out HMB.out).mono ?_
  rintro e w7 ⟨v7, rfl, ho7, hx7, hd7⟩
  have HB := hide (H2.out.both HO6.out HP6.out (Only.refl [] w6) ho7 hx7 hd7)
  have hpl := H1.out.pi.lt
  have hxl := H1.out.xp.blk.lt
  have hvl : ∀ k, v.ownBlock = some k → k < W1.heap.size ∧ w0.heap.size ≤ k := fun k hk => ⟨(H1.out.xp.row.at_ hk).2.1, (H1.out.xp.row.at_ hk).1⟩
  have hxg : x ≠ g := HNX.out
  have hb7 : Blk w7 d5 5 (u8l zs ++ r5).toArray := (HF.out.2.1.only HO6.out (by have := HF.out.1; simp; omega)).only ho7 (fun hm => by
    have := HF.out.1
    simp at hm
    rcases hm with e | e
    · omega
    · have := (hvl _ e).1; omega)
  have hs7 : Sees w7 (some ⟨d5, 0, none⟩) zs.length zs := ⟨rfl, fun _ => ⟨d5, 0, rfl, hb7.lt, fun i hi => by rw [Nat.zero_add, hb7.cell]; exact u8l_get zs r5 i hi⟩⟩
  have HS7 := hide (HS6.out.only ho7 (fun h0 ad e hb hm => by
    have h1 := HALT.out ad h0 e
    have := H1.out.lx
    simp at hm
    rcases hm with e | e
    · omega
    · have := (hvl _ e).2; omega))
  have HSA := hide (fun W (hW : Only [] w7 W) => (same21_is (c := c5) (c' := c) (hs7.only hW (by simp)) (by simp) (HS7.out.only hW (by simp)) (fun e => (HA.out e).1) HU.out).mono (R' := fun e w' => e = .returned (.bool true) ∧ w' = W) fun _ _ h => ⟨h.1, h.2.symm⟩)
  have HSP := hide (spoils_fresh (c := c5) hb7 rfl (by have := HF.out.2.2; omega) (by have := HZL.out; have := HMB.out; omega))
  have k7 : w7.cell? ⟨g, 3, none⟩ = some (.slice A m c) := (ho7.cell (b := g) (o := 3) (s := none) (Nat.lt_of_lt_of_le (Nat.lt_of_lt_of_le HG.out HO5.out.size) HO6.out.size) (fun hm => by
    simp at hm
    rcases hm with e | e
    · exact hxg e.symm
    · exact (H1.out.xp.row.apart HX.out (by decide)) g e rfl)).trans k6
  have HD7 := hide hd7
  have HVL := hide hvl
  have HPX := hide (And.intro hpl hxl)
  clear ho7 hx7 hd7 hb7 hs7 hvl hpl hxl hxg
  generalize writeP B r zs = R at *
  obtain ⟨mm, er, B'⟩ := R
  go_wp2_with (first | (go_at_call 18; refine (HSA.out _ (by repeat (first | (with_reducible exact Only.refl _ _) | (with_reducible apply Only.drew) | (with_reducible apply Only.drewN)))).mono ?_; rintro e w' ⟨rfl, rfl⟩) | (go_at_call 33; refine HSP.out.mono ?_; rintro e w8 ⟨rfl, ho8⟩; have HO8 := hide ho8; clear ho8))
  go_ret
  refine ⟨by simp, v7, B', r, q, HB.out.spoiled HO8.out (fun hm => ?_) (fun hm => ?_) (fun k hk hm => ?_) (fun k hm => ?_), by omega, by omega⟩
  · have := HF.out.1; have := HPX.out; simp at hm; omega
  · have := HF.out.1; have := HPX.out; simp at hm; omega
  · simp at hm
    subst hm
    have h1 := HF.out.1
    rcases HD7.out _ hk with e | e
    · have := (HVL.out _ e).1; omega
    · have := HF.out.2.1.lt; have := HO6.out.size; omega
  · have := HF.out.1; have := H1.out.only.size; simp at hm; omega
set_option maxRecDepth 100000 in
set_option maxHeartbeats 1000000 in
theorem step_look (h : Bo w0 w p x v B r q) (k : Int) (hk : k ≠ 1 ∧ k ≠ 2 ∧ k ≠ 3 ∧ k ≠ 4 ∧ k ≠ 5) (b : Bool) (n : Int) (A : Option Addr) (m c : Nat) :
    Calls Try.prog 12 #[.pointer (some ⟨p, 0, none⟩), .pointer (some ⟨x, 0, none⟩), opV k b n A m c] w fun e w' => Did w0 w' e p x r q := by
  have H1 := hide (h.quiet ((Only.refl [] w).alloc (.cells (opC k b n A m c) 31)))
  obtain ⟨h1, h2, h3, h4, h5⟩ := hk
  have k1 : (k == 1) = false := by simp [h1]
  have k2 : (k == 2) = false := by simp [h2]
  have k3 : (k == 3) = false := by simp [h3]
  have k4 : (k == 4) = false := by simp [h4]
  have k5 : (k == 5) = false := by simp [h5]
  obtain ⟨A1, d1, e1, -⟩ := h.xp.row.form
  subst e1
  clear h h1 h2 h3 h4 h5
  go_enter Try.func12, Try.ntmps12
  go_upto_region 23 with fail
  generalize w.alloc (.cells (opC k b n A m c) 31) = W1 at *
  go_wp2_with fail
  refine (piEnds_is H1.out.pi).mono ?_
  rintro e w5 ⟨rfl, ho5⟩
  have H2 := hide (H1.out.quiet ho5)
  clear ho5
  have x0 := H2.out.xp.blk.cell 0
  have x1 := H2.out.xp.blk.cell 1
  have x2 := H2.out.xp.blk.cell 2
  have HL := hide (fun W (hW : Only [] w5 W) => (piLen_is (H2.out.quiet hW).pi).mono (R' := fun e w' => e = .returned (.int .i64 (B.length : Nat)) ∧ w' = W) fun _ _ h => ⟨h.1, h.2.symm⟩)
  go_wp2_with fail
  go_quiet (first | (go_at_call 17; exact Calls.quiet_of_same (HL.out _ (by repeat (first | (with_reducible exact Only.refl _ _) | (with_reducible apply Only.drew) | (with_reducible apply Only.drewN))))))
  go_wp2
  go_ret
  exact ⟨by simp, _, _, _, _, H2.out.quiet (by repeat (first | (with_reducible exact Only.refl _ _) | (with_reducible apply Only.drew) | (with_reducible apply Only.drewN))), by omega, by omega⟩
end
end Go.Proofs.Yteljjngmhldfbaa
