/-
  The walk of 'PipeEnds': pipes that have lost an end.
-/
import Derived.Test.YteljjngmhldfbaaPiLives
import Derived.Test.YteljjngmhldfbaaRead
namespace Go.Proofs.Yteljjngmhldfbaa
open Go.ChangeShapes Go.WideShapes Go.ChangeAt Go.RowKit
set_option linter.unusedVariables false
set_option linter.unusedSimpArgs false
/-- Two pipes made behind w. -/
structure Pi2 (w wr : World) (p q : Nat) (B : List Int) (r1 q1 : Int) (C : List Int) (r2 q2 : Int) : Prop where
  one : Pi wr p B r1 q1
  two : Pi wr q C r2 q2
  ne : p ≠ q
  lp : w.heap.size ≤ p
  lq : w.heap.size ≤ q
  only : Only [] w wr
section
variable {w wr w' : World} {p q : Nat} {B C B' C' : List Int} {r1 q1 r2 q2 r1' q1' r2' q2' : Int}
theorem Pi2.quiet (h : Pi2 w wr p q B r1 q1 C r2 q2) (ho : Only [] wr w') : Pi2 w w' p q B r1 q1 C r2 q2 := ⟨h.one.only ho (by simp), h.two.only ho (by simp), h.ne, h.lp, h.lq, h.only.trans ho⟩
theorem Pi2.first (h : Pi2 w wr p q B r1 q1 C r2 q2) (ho : Only [p] wr w') (hp : Pi w' p B' r1' q1') : Pi2 w w' p q B' r1' q1' C r2 q2 :=
  ⟨hp, h.two.only ho (by simpa using h.ne.symm), h.ne, h.lp, h.lq, h.only.trans' ho (fun k hk hm => by simp at hm; have := h.lp; omega)⟩
theorem Pi2.second (h : Pi2 w wr p q B r1 q1 C r2 q2) (ho : Only [q] wr w') (hp : Pi w' q C' r2' q2') : Pi2 w w' p q B r1 q1 C' r2' q2' :=
  ⟨h.one.only ho (by simpa using h.ne), hp, h.ne, h.lp, h.lq, h.only.trans' ho (fun k hk hm => by simp at hm; have := h.lq; omega)⟩
theorem IsRow.sees {A : Option Addr} {len cap : Nat} {zs : List Int} (h : IsRow .u8 w A len cap zs) : Sees w A len (zs.take len) ∧ U8 (zs.take len) ∧ len ≤ cap ∧ cap ≤ maxLen := by
  rcases h with ⟨rfl, rfl, rfl, rfl⟩ | ⟨x, rfl, hl, hm, hz, hc, hw⟩
  · exact ⟨sees_nil, (by intro x hx; simp at hx), Nat.le_refl _, Nat.zero_le _⟩
  · refine ⟨⟨by rw [List.length_take]; omega, fun hp => ?_⟩, ?_, hl, hm⟩
    · obtain ⟨b, off, rfl, hc'⟩ := ints_at hc (by omega)
      have h0 := hc' 0 (by omega)
      refine ⟨b, off, rfl, World.block_lt_of_cell? w _ h0, fun i hi => ?_⟩
      rw [hc' i (by omega), gb_take hi]
      rfl
    · refine U8.take (fun x hx => ?_) _
      have := hw x hx
      exact bounds_u8 this
theorem readP_all {B : List Int} (h : B.length ≤ 512) : readP B (decide ((0 : Int) < 0)) 512 = (B, 0, []) := by
  unfold readP
  by_cases hB : B = []
  · subst hB; rfl
  · rw [if_neg (by omega), if_neg (by omega), if_neg hB]
    simp only [show (512 : Int).toNat = 512 from rfl, List.take_of_length_le h, List.drop_of_length_le h]
end
set_option maxRecDepth 100000 in
set_option maxHeartbeats 2000000 in
theorem pipeEnds_walk' (n : Int) (A : Option Addr) (m c : Nat) (xs : List Int) (w : World) (hs : Sees w A m xs) (hA : A = none → m = 0) (hu : U8 xs) (hmc : m ≤ c) (hc : c ≤ maxLen) :
    Calls Try.prog 6 #[.slice A m c, .int .i64 n] w fun e w' => e = .returned (.bool true) ∧ Below w.heap.size w w' := by
  have hm64 : m ≤ 9223372036854775807 := by unfold maxLen at hc; omega
  have HS := hide hs
  have HU := hide hu
  have HMC := hide hmc
  have HM := hide hm64
  clear hs hu hmc hc hm64 hA
  go_enter Try.func6, Try.ntmps6
  go_wp2_with fail
  refine (piNew_is _).mono ?_
  rintro e w1 ⟨rfl, ho1, hp1⟩
  have HO1 := hide ho1
  have HP1 := hide hp1
  clear ho1 hp1
  go_wp2_with fail
  refine (piNew_is _).mono ?_
  rintro e w2 ⟨rfl, ho2, hp2⟩
  have H2 := hide (show Pi2 w w2 w.heap.size w1.heap.size [] 1 1 [] 1 1 from ⟨HP1.out.only ho2 (by simp), hp2, Nat.ne_of_lt HP1.out.lt, Nat.le_refl _, HO1.out.size, HO1.out.trans ho2⟩)
  generalize w1.heap.size = q at *
  generalize hp : w.heap.size = p at *
  have HPE := hide hp
  clear ho2 hp2 HO1 HP1 hp
  go_wp2_with fail
  refine (lives_is _).mono ?_
  rintro e w3 ⟨rfl, ho3⟩
  have H3 := hide (H2.out.quiet ho3)
  clear ho3 H2
  go_wp2_with fail
  refine (piWrite_is H3.out.one (HS.out.only H3.out.only (by simp)) (fun h0 ad e => by
    subst e
    have h1 := H3.out.lp
    obtain ⟨b, o, e, hb, -⟩ := HS.out.2 h0
    injection e with e
    subst e
    show b ≠ p
    omega) HU.out HMC.out HM.out).mono ?_
  rintro e w4 ⟨rfl, ho4, hp4⟩
  generalize writeP [] 1 xs = wp at *
  obtain ⟨a4, b4, B⟩ := wp
  have H4 := hide (H3.out.first ho4 hp4)
  clear ho4 hp4 H3
  go_wp2_with fail
  refine (piLen_is H4.out.one).mono ?_
  rintro e w' ⟨rfl, rfl⟩
  go_wp2_with fail
  refine (piClose_is H4.out.one true).mono ?_
  rintro e w5 ⟨rfl, ho5, hp5⟩
  have H5 := hide (show Pi2 w w5 p q B 1 0 [] 1 1 from H4.out.first ho5 hp5)
  clear ho5 hp5 H4
  have e5 : closeP 1 1 true = (false, 0, 1, 0) := by decide
  rw [e5]
  clear e5
  have r5 : readyP B 1 0 false = true := by simp [readyP]
  have HR5 := hide r5
  clear r5
  go_wp2_with (go_at_call 20; refine (piReady_is H5.out.one false).mono ?_; rw [HR5.out]; rintro e w' ⟨rfl, rfl⟩)
  refine (piRead_is H5.out.one 512).mono ?_
  rw [readP_all H5.out.one.few]
  rintro e w6 ⟨v6, rfl, hv6, ho6, hp6⟩
  obtain ⟨A6, c6, rfl, -⟩ := hv6.form
  have H6 := hide (H5.out.first ho6 hp6)
  clear ho6 hp6 hv6 H5
  go_wp2_with fail
  refine (piRead_is H6.out.one 1).mono ?_
  have e7 : readP [] (decide ((0 : Int) < 0)) 1 = ([], 0, []) := by decide
  rw [e7]
  rintro e w7 ⟨v7, rfl, hv7, ho7, hp7⟩
  obtain ⟨A7, c7, rfl, -⟩ := hv7.form
  have H7 := hide (H6.out.first ho7 hp7)
  clear ho7 hp7 hv7 H6 e7
  go_wp2_with fail
  refine (piClose_is H7.out.two false).mono ?_
  have e8 : closeP 1 1 false = (false, 0, 0, 1) := by decide
  rw [e8]
  rintro e w8 ⟨rfl, ho8, hp8⟩
  have H8 := hide (H7.out.second ho8 hp8)
  clear ho8 hp8 H7 e8
  have r8 : readyP [] 0 1 true = true := by decide
  have HR8 := hide r8
  clear r8
  go_wp2_with (go_at_call 20; refine (piReady_is H8.out.two true).mono ?_; rw [HR8.out]; rintro e w' ⟨rfl, rfl⟩)
  refine (piWrite_is H8.out.two (HS.out.only H8.out.only (by simp)) (fun h0 ad e => by
    subst e
    have h1 := H8.out.lq
    obtain ⟨b, o, e, hb, -⟩ := HS.out.2 h0
    injection e with e
    subst e
    show b ≠ q
    omega) HU.out HMC.out HM.out).mono ?_
  have e9 : writeP [] 0 xs = (0, 210, []) := by simp [writeP]
  rw [e9]
  rintro e w9 ⟨rfl, ho9, hp9⟩
  have H9 := hide (H8.out.second ho9 hp9)
  clear ho9 hp9 H8 e9
  go_wp2_with fail
  refine (piClose_is H9.out.two true).mono ?_
  have e10 : closeP 0 1 true = (true, 0, 0, 0) := by decide
  rw [e10]
  rintro e w10 ⟨rfl, ho10, hp10⟩
  have H10 := hide (H9.out.second ho10 hp10)
  clear ho10 hp10 H9 e10
  go_wp2
  go_ret
  refine ⟨by simp, H10.out.only.below (Nat.le_refl _) (by simp)⟩
theorem pipeEnds_walk {H : Type} {enc : TypeId × Value → H} (n : Int) (A : Option Addr) (m c : Nat) {w : World} {d : DataW H} (r : Rd enc Try.prog w 29 [.slice A m c] d) :
    Calls Try.prog 6 #[.slice A m c, .int .i64 n] w fun e w' => e = .returned (.bool true) ∧ Below w.heap.size w w' := by
  obtain ⟨A', n', c', zs, e, hr, -⟩ := r.ints Try.underlying29 Try.underlying5 (by kernel_rfl)
  simp only [List.cons.injEq, Value.slice.injEq, and_true] at e
  obtain ⟨rfl, rfl, rfl⟩ := e
  obtain ⟨h1, h2, h3, h4⟩ := IsRow.sees hr
  exact pipeEnds_walk' n A m c _ w h1 (fun e => by rcases hr with ⟨_, h0, _⟩ | ⟨x, h0, _⟩; exact h0; rw [h0] at e; cases e) h2 h3 h4
end Go.Proofs.Yteljjngmhldfbaa
