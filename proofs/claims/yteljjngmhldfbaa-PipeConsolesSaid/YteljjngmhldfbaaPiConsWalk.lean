/-
  The walk of 'PipeConsoles': every call of a console.
-/
import Derived.Test.YteljjngmhldfbaaPiCStep2
namespace Go.Proofs.Yteljjngmhldfbaa
open Go.ChangeShapes Go.WideShapes Go.ChangeAt Go.RowKit
set_option linter.unusedVariables false
set_option linter.unusedSimpArgs false
theorem con_is {w0 w : World} {g x : Nat} {F G : List Nat} {I O : List Int} {en : Bool} (h : CB w0 w g x F G I en O) (k : Int) (b : Bool) (n : Int) {A : Option Addr} {m c : Nat} {zs : List Int} (hs : Sees w A m zs) (hu : U8 zs) (hA : A = none → m = 0 ∧ c = 0) (hmc : m ≤ c) (hbig : c ≤ 140737488355328)
    (hlt : ∀ ad, 0 < m → A = some ad → ad.block < w0.heap.size) :
    Calls Try.prog 14 #[.pointer (some ⟨g, 0, none⟩), .pointer (some ⟨x, 0, none⟩), opV k b n A m c] w fun e w' => DidC w0 w' e g x := by
  by_cases h3 : k = 3
  · subst h3; exact con_read h b n A m c
  by_cases h4 : k = 4
  · subst h4; exact con_write h b n hs hu hA hmc hbig hlt
  by_cases h6 : k = 6
  · subst h6; exact con_type h b n hs hu hA hmc hbig hlt
  by_cases h5 : k = 5
  · subst h5; exact con_ready h b n A m c
  by_cases h7 : k = 7
  · subst h7; exact con_end h b n A m c
  exact con_look h k ⟨h3, h4, h6, h5, h7⟩ b n A m c
def CnL (w : World) (g x : Nat) (iv : Value) (wr : World) (m : Nat) : Prop := ∃ (i : Nat) (F G : List Nat) (I : List Int) (en : Bool) (O : List Int), iv = .int .i64 i ∧ i ≤ m ∧ CB w wr g x F G I en O
set_option maxRecDepth 100000 in
set_option maxHeartbeats 1000000 in
theorem pipeConsoles_walk' (A : Option Addr) (m c : Nat) (w : World) (hm : m ≤ 9223372036854775000) (hops : ∀ i, i < m → OpAt21 w A i) :
    Calls Try.prog 4 #[.slice A m c] w fun e w' => e = .returned (.bool true) ∧ Below w.heap.size w w' := by
  have HOP := hide hops
  clear hops
  go_enter Try.func4, Try.ntmps4
  go_wp2_with fail
  refine (coNewP_is _).mono ?_
  rintro e w1 ⟨rfl, ho1, hc1⟩
  have hx : IsXc (w1.alloc (.cells #[.slice none 0 0, .bool false, .slice none 0 0] 37)) w1.heap.size w.heap.size (.slice none 0 0) (.slice none 0 0) [] false [] :=
    ⟨Blk.new _ _ _, KRow.nil _ _ _ _, KRow.nil _ _ _ _, (fun q h => by simp [Value.ownBlock] at h), ⟨Nat.zero_le _, Nat.zero_le _⟩, (fun y hy => absurd hy (by simp)), (fun y hy => absurd hy (by simp))⟩
  have hoa := (Only.refl [] w1).alloc (.cells #[.slice none 0 0, .bool false, .slice none 0 0] 37)
  have HB2 := hide (show CB w (w1.alloc (.cells #[.slice none 0 0, .bool false, .slice none 0 0] 37)) w.heap.size w1.heap.size [w.heap.size] [w1.heap.size] [] false [] from
    ⟨hc1.quiet hoa, ⟨_, _, hx, by simp [coF, Value.ownBlock], fun q hq => by simp at hq; subst hq; exact ⟨ho1.size, by simp⟩⟩, fun q hq hm => by simp at hq hm; have := (hc1.lt q (by simp [hq])).2; omega, ho1.trans hoa⟩)
  clear ho1 hc1 hx hoa
  go_wp2_with fail
  generalize w1.alloc (.cells #[.slice none 0 0, .bool false, .slice none 0 0] 37) = w2 at *
  generalize w1.heap.size = x at *
  refine (lives_is _).mono ?_
  rintro e w3 ⟨rfl, ho3⟩
  have HB3 := hide (HB2.out.quiet (show Only [] w2 w3 from ho3))
  clear ho3 HB2
  go_wp2_with fail
  go_loopw [5] (fun iv wr => CnL w w.heap.size x iv wr m) (fun iv _ => m - (intOf iv).toNat)
  case atStart => exact ⟨0, _, _, _, _, _, rfl, Nat.zero_le _, HB3.out⟩
  case round =>
    obtain ⟨i, F, G, I, en, O, rfl, hi, hB⟩ := hrel
    by_cases hlt : i < m
    · obtain ⟨qb, o, k, wrb, n, BA, bn, bc, zs, rfl, hqb, c0, c1, c2, c3, hsz, huz, hBA, hbc, hbc2, hbl⟩ := HOP.out i hlt
      have x0 := (hB.only.cell hqb (by simp)).trans c0
      have x1 := (hB.only.cell hqb (by simp)).trans c1
      have x2 := (hB.only.cell hqb (by simp)).trans c2
      have x3 := (hB.only.cell hqb (by simp)).trans c3
      have hl64 : (i : Int) + 1 ≤ 9223372036854775807 := by omega
      have HST := hide (con_is hB k wrb n (hsz.only hB.only (by simp)) huz hBA hbc hbc2 (fun ad h0 e => hbl h0 ad e))
      clear c0 c1 c2 c3 hsz huz hBA hbc hbc2 hbl hB
      go_wp2_with (go_at_call 14; refine HST.out.mono ?_; rintro e w5 ⟨rfl, F', G', I', en', O', hB'⟩; have HB' := hide hB'; clear hB')
      go_roundw
      case rel => exact ⟨i + 1, F', G', I', en', O', by go_num, hlt, HB'.out⟩
      case measure => simp [intOf]; omega
    · obtain rfl : i = m := by omega
      have HST := hide (con_is (A := none) (m := 0) (c := 0) (zs := []) hB 8 false 0 sees_nil (by intro y hy; simp at hy) (fun _ => ⟨rfl, rfl⟩) (Nat.le_refl _) (by omega) (fun _ h => absurd h (by omega)))
      clear hB
      go_wp2_with (go_at_call 14; refine HST.out.mono ?_; rintro e w5 ⟨rfl, F', G', I', en', O', hB'⟩; have HB' := hide hB'; clear hB')
      go_ret
      exact ⟨rfl, HB'.out.only.below (Nat.le_refl _) (by simp)⟩
theorem pipeConsoles_walk {H : Type} {enc : TypeId × Value → H} (A : Option Addr) (m c : Nat) {w : World} {d : DataW H} (r : Rd enc Try.prog w 22 [.slice A m c] d) :
    Calls Try.prog 4 #[.slice A m c] w fun e w' => e = .returned (.bool true) ∧ Below w.heap.size w w' :=
  pipeConsoles_walk' A m c w (by have := r.ops21.1; omega) r.ops21.2
end Go.Proofs.Yteljjngmhldfbaa
