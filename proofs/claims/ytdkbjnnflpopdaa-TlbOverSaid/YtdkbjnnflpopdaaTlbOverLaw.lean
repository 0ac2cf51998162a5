/-
  'TlbOver', its arguments read.
-/
import Derived.Test.YtdkbjnnflpopdaaTlbOverWalk
namespace Go.Proofs.Ytdkbjnnflpopdaa
open Go.ChangeShapes Go.WideShapes Go.ChangeAt Go.RowKit
set_option linter.unusedVariables false
theorem Rd.ts {H : Type} {enc : TypeId × Value → H} {D : DataW H} {w : World} {A : Option Addr} {n c : Nat} (h : Rd enc Try.prog w 35 [.slice A n c] D) : ∃ ts : List Int, ts.length = n ∧ TsAt w A ts ∧ (A = none → ts.length = 0 ∧ c = 0) ∧ n < 40000000000000 := by
  obtain ⟨A', n', c', zs, hv, hr, hb⟩ := h.ints Try.underlying35 Try.underlying3 (by kernel_rfl)
  injection hv with hv _
  injection hv with e1 e2 e3
  subst e1 e2 e3
  have hby : Try.prog.bytesOf 3 = 8 := by kernel_rfl
  rw [hby] at hb
  have hbig : c < 40000000000000 := by unfold reachBytes at hb; omega
  by_cases h0 : 0 < n
  · obtain ⟨b, o, rfl, hbl, hl, hm, hz, hc, _⟩ := hr.at_ h0
    have hlen : (zs.take n).length = n := by rw [List.length_take]; omega
    refine ⟨zs.take n, hlen, fun _ => ⟨b, o, rfl, hbl, fun i x hx => ?_⟩, (fun e => by cases e), by omega⟩
    have hi : i < n := by have := (List.getElem?_eq_some_iff.1 hx).1; omega
    rw [List.getElem?_take, if_pos hi] at hx
    rw [hc i (by omega)]
    simp [gb, List.getD, hx]
  · have hn : n = 0 := by omega
    subst hn
    refine ⟨[], rfl, fun hp => by simp at hp, fun e => ⟨rfl, ?_⟩, by omega⟩
    rcases hr with ⟨_, _, h2, _⟩ | ⟨x, h1, _⟩
    · exact h2
    · rw [e] at h1; cases h1
theorem tlbOver_law {H : Type} {enc : TypeId × Value → H} {D D2 D3 : DataW H} (sp : Int) (A A2 A3 : Option Addr) (n cp n2 c2 n3 c3 : Nat) (w : World) (h : Rd enc Try.prog w 22 [.slice A n cp] D) (h2 : Rd enc Try.prog w 35 [.slice A2 n2 c2] D2) (h3 : Rd enc Try.prog w 35 [.slice A3 n3 c3] D3) :
    Calls Try.prog 4 #[.slice A n cp, .int .i64 sp, .slice A2 n2 c2, .slice A3 n3 c3] w fun e w' => e = .returned (.bool true) ∧ Below w.heap.size w w' := by
  obtain ⟨hn, hops⟩ := Rd.ops7 h
  obtain ⟨ts, rfl, t1, t2, t3⟩ := Rd.ts h2
  obtain ⟨od, rfl, o1, _, o3⟩ := Rd.ts h3
  exact over_walk A A2 A3 n cp c2 c3 sp ts od w hn hops ⟨t1, t2⟩ t3 o1 o3
end Go.Proofs.Ytdkbjnnflpopdaa
