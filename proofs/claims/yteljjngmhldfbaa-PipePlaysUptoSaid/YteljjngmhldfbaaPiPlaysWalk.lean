/-
  The walk of 'PipePlays': every call of a pipe.
-/
import Derived.Test.YteljjngmhldfbaaPiStep
namespace Go.Proofs.Yteljjngmhldfbaa
open Go.ChangeShapes Go.WideShapes Go.ChangeAt Go.RowKit
set_option linter.unusedVariables false
set_option linter.unusedSimpArgs false
theorem step21_is {w0 w : World} {p x : Nat} {v : Value} {B : List Int} {r q : Int} (h : Bo w0 w p x v B r q) (hr : r < 2147483647) (hq : q < 2147483647) (k : Int) (b : Bool) (n : Int) {A : Option Addr} {m c : Nat} {zs : List Int} (hs : Sees w A m zs) (hu : U8 zs) (hA : A = none → m = 0 ∧ c = 0) (hmc : m ≤ c) (hbig : c ≤ 140737488355328)
    (hlt : ∀ ad, 0 < m → A = some ad → ad.block < w0.heap.size) :
    Calls Try.prog 12 #[.pointer (some ⟨p, 0, none⟩), .pointer (some ⟨x, 0, none⟩), opV k b n A m c] w fun e w' => Did w0 w' e p x r q := by
  by_cases h1 : k = 1
  · subst h1; exact step_open h hr hq b n A m c
  by_cases h2 : k = 2
  · subst h2; exact step_close h b n A m c
  by_cases h3 : k = 3
  · subst h3; exact step_read h b n A m c
  by_cases h4 : k = 4
  · subst h4; exact step_write h b n hs hu hA hmc hbig hlt
  by_cases h5 : k = 5
  · subst h5; exact step_ready h b n A m c
  exact step_look h k ⟨h1, h2, h3, h4, h5⟩ b n A m c
def PlL (w : World) (p x : Nat) (iv : Value) (wr : World) (m : Nat) : Prop := ∃ (i : Nat) (v : Value) (B : List Int) (r q : Int), iv = .int .i64 i ∧ i ≤ m ∧ Bo w wr p x v B r q ∧ r ≤ 1 + i ∧ q ≤ 1 + i
set_option maxRecDepth 100000 in
set_option maxHeartbeats 1000000 in
theorem pipePlays_walk' (A : Option Addr) (m c : Nat) (w : World) (hm : m ≤ 1048576) (hops : ∀ i, i < m → OpAt21 w A i) :
    Calls Try.prog 3 #[.slice A m c] w fun e w' => e = .returned (.bool true) ∧ Below w.heap.size w w' := by
  have HOP := hide hops
  clear hops
  go_enter Try.func3, Try.ntmps3
  go_wp2_with fail
  refine (piNew_is _).mono ?_
  rintro e w1 ⟨rfl, ho1, hp1⟩
  have HO1 := hide ho1
  have HP1 := hide hp1
  clear ho1 hp1
  go_wp2_with fail
  refine (x21New_is _).mono ?_
  rintro e w2 ⟨rfl, ho2, hx2⟩
  have HB2 := hide (show Bo w w2 w.heap.size w1.heap.size (.slice none 0 0) [] 1 1 from ⟨HP1.out.only ho2 (by simp), ⟨hx2.blk, KRow.nil _ _ _ _, hx2.few, hx2.rd, hx2.wr⟩, Nat.le_refl _, HO1.out.size, Nat.ne_of_lt HP1.out.lt, by simp [Value.ownBlock], HO1.out.trans ho2⟩)
  clear ho2 hx2 HO1 HP1
  generalize w1.heap.size = x at *
  go_wp2_with fail
  refine (lives_is _).mono ?_
  rintro e w3 ⟨rfl, ho3⟩
  have HB3 := hide (HB2.out.quiet ho3)
  clear ho3 HB2
  go_wp2_with fail
  go_loopw [5] (fun iv wr => PlL w w.heap.size x iv wr m) (fun iv _ => m - (intOf iv).toNat)
  case atStart => exact ⟨0, _, _, _, _, rfl, Nat.zero_le _, HB3.out, by decide, by decide⟩
  case round =>
    obtain ⟨i, v, B, r, q, rfl, hi, hB, hr, hq⟩ := hrel
    by_cases hlt : i < m
    · obtain ⟨qb, o, k, wrb, n, BA, bn, bc, zs, rfl, hqb, c0, c1, c2, c3, hsz, huz, hBA, hbc, hbc2, hbl⟩ := HOP.out i hlt
      have x0 := (hB.only.cell hqb (by simp)).trans c0
      have x1 := (hB.only.cell hqb (by simp)).trans c1
      have x2 := (hB.only.cell hqb (by simp)).trans c2
      have x3 := (hB.only.cell hqb (by simp)).trans c3
      have hl64 : (i : Int) + 1 ≤ 9223372036854775807 := by omega
      have HRQ := hide (And.intro hr hq)
      have HST := hide (step21_is hB (by omega) (by omega) k wrb n (hsz.only hB.only (by simp)) huz hBA hbc hbc2 (fun ad h0 e => hbl h0 ad e))
      clear c0 c1 c2 c3 hsz huz hBA hbc hbc2 hbl hr hq hB
      go_wp2_with (go_at_call 12; refine HST.out.mono ?_; rintro e w5 ⟨rfl, v', B', r', q', hB', hr', hq'⟩; have HB' := hide hB'; have HLE := hide (And.intro hr' hq'); clear hB' hr' hq')
      go_roundw
      case rel => exact ⟨i + 1, v', B', r', q', by go_num, hlt, HB'.out, by have := HRQ.out; have := HLE.out; omega, by have := HRQ.out; have := HLE.out; omega⟩
      case measure => simp [intOf]; omega
    · obtain rfl : i = m := by omega
      have HST := hide (step21_is (A := none) (m := 0) (c := 0) (zs := []) hB (by omega) (by omega) 8 false 0 sees_nil (by intro y hy; simp at hy) (fun _ => ⟨rfl, rfl⟩) (Nat.le_refl _) (by omega) (fun _ h => absurd h (by omega)))
      clear hB
      go_wp2_with (go_at_call 12; refine HST.out.mono ?_; rintro e w5 ⟨rfl, v', B', r', q', hB', hr', hq'⟩; have HB' := hide hB'; clear hB' hr' hq')
      go_ret
      exact ⟨rfl, HB'.out.only.below (Nat.le_refl _) (by simp)⟩
theorem pipePlays_walk {H : Type} {enc : TypeId × Value → H} (A : Option Addr) (m c : Nat) {w : World} {d : DataW H} (r : Rd enc Try.prog w 22 [.slice A m c] d) (hk : Rows.uptoSmall H [d] = true) :
    Calls Try.prog 3 #[.slice A m c] w fun e w' => e = .returned (.bool true) ∧ Below w.heap.size w w' :=
  pipePlays_walk' A m c w (r.few21 hk) r.ops21.2
end Go.Proofs.Yteljjngmhldfbaa
