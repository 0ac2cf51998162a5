/-
  The cache of names (parapet/parapetlaw19): a new cache; lives.
-/
import Derived.Test.YtjpojoflbjhjjaaNcPut
import Derived.Test.YtjpojoflbjhjjaaNcSplit
import Derived.Test.YtjpojoflbjhjjaaNcRcNew
namespace Go.Proofs.Ytjpojoflbjhjjaa
open Go.ChangeShapes Go.WideShapes Go.ChangeAt Go.RowKit Go.Maps
set_option linter.unusedVariables false
set_option linter.unusedSimpArgs false
section
variable {w w' w1 : World} {c d mm : Nat} {S F FD T G : List Nat} {s : RS} {p : CS} {k : NM}
/-- A new cache over a domain in which nothing waits. -/
def NewCa (w : World) (d : Nat) (n : Int) (s : RS) (FD : List Nat) (e : Ending) (w' : World) : Prop := ∃ c G, e = .returned (.tuple #[.pointer (some ⟨c, 0, none⟩), .int .i64 0]) ∧ Ca w' c d ⟨n, [], 0, s⟩ G ∧ Only [] w w' ∧ ∀ q ∈ G, q ∈ FD ∨ w.heap.size ≤ q
theorem ca_new (hr : Rc w d s FD) (hs : s.L = []) (n : Int) (h0 : 1 ≤ n) (h1 : n ≤ 4096) : Calls Try.prog 11 #[.pointer (some ⟨d, 0, none⟩), .int .i64 n] w fun e w' => NewCa w d n s FD e w' := by
  refine (ncNew_ok (d := d) n h0 h1 w).mono (fun e w' ⟨c, mm, e1, hi, hc, hm, ho⟩ => ?_)
  have hlt := hr.lt
  have hil := hi.lt
  refine ⟨c, c :: mm :: ((Value.slice none 0 0).ownBlock.toList ++ FD), e1, ⟨mm, .slice none 0 0, FD, hi, hr.quiet ho, ⟨fun hx => ?_, fun hx => ?_, fun q hq => ?_⟩, ?_, fun q hq => hq, fun q hq => ?_⟩, ho, fun q hq => ?_⟩
  · have := hlt c hx; omega
  · have := hlt mm hx; omega
  · simp [Value.ownBlock] at hq
  · exact ⟨h0, h1, by simp; omega, by simp, by simp, by simp, by simp, by simp, by simp [hs], by simp [hs], by show (0 : Int) < 3900000000000; decide⟩
  · rcases List.mem_cons.1 hq with e | hq
    · subst e; exact hil.1
    rcases List.mem_cons.1 hq with e | hq
    · subst e; exact hil.2.1
    · exact Nat.lt_of_lt_of_le (hlt q (by simpa [Value.ownBlock] using hq)) ho.size
  · rcases List.mem_cons.1 hq with e | hq
    · subst e; exact .inr hc
    rcases List.mem_cons.1 hq with e | hq
    · subst e; exact .inr hm
    · exact .inl (by simpa [Value.ownBlock] using hq)
theorem ca_dom (h : Ca w c d p G) : ∃ FD, Rc w d p.s FD := by
  obtain ⟨mm, v, FD, h1, h2, h3, h4, h5, h6⟩ := h
  exact ⟨FD, h2⟩
def kx : NM := ⟨1, ⟨#[120]⟩⟩
theorem kx_wf : kx.wf := by refine ⟨by decide, ?_⟩; show (1 : Nat) ≤ 2 ^ 63 - 1; decide
theorem put_kx (s : RS) : (⟨4, [], 0, s⟩ : CS).put kx 5 = ⟨4, [⟨kx, 5, 1⟩], 1, s⟩ := by simp [CS.put, CS.forget, CS.at, CS.evict]
theorem at_kx (s : RS) : (⟨4, [⟨kx, 5, 1⟩], 1, s⟩ : CS).at kx = some 0 := by simp [CS.at]
theorem forget_kx (s : RS) : (⟨4, [⟨kx, 5, 1⟩], 1, s⟩ : CS).forget kx = ⟨4, [], 1, { s with L := s.L ++ [(1, s.ep)] }⟩ := by unfold CS.forget; rw [at_kx]; rfl
theorem split_ab : splitP ⟨#[47, 47, 97, 47, 98, 47]⟩ = some [⟨#[97]⟩, ⟨#[98]⟩] := by kernel_rfl
set_option maxRecDepth 100000 in
set_option maxHeartbeats 2000000 in
theorem lives_is (w : World) : Calls Try.prog 8 #[] w fun e w' => e = .returned (.bool true) ∧ Only [] w w' := by
  have HSP := hide (ncSplit_is ⟨#[47, 47, 97, 47, 98, 47]⟩ w)
  go_enter Try.func8, Try.ntmps8
  go_upto_region 2 with (go_at_call 6; refine HSP.out.mono ?_; rintro e w1 hs; unfold SplitR at hs; rw [split_ab] at hs; obtain ⟨v, rfl, hv, ho1⟩ := hs; have HV := hide hv; have HO1 := hide ho1; clear hv ho1)
  obtain ⟨A, cap, rfl, hA⟩ := HV.out.form
  obtain ⟨b, rfl, hb0, hb1, hcell⟩ := hA (by decide)
  have HCE := hide (fun (W : World) (ho : Only [] w1 W) => show W.cell? ⟨b, 1, none⟩ = some (.string ⟨#[98]⟩) from (ho.cell hb1 (by simp)).trans (hcell 1 ⟨#[98]⟩ rfl))
  clear hA hcell HSP
  have HRC := hide (fun W : World => show Calls Try.prog 10 #[.int .i64 2] W fun e w' => ∃ d F, e = .returned (.tuple #[.pointer (some ⟨d, 0, none⟩), .int .i64 0]) ∧ Only [] W w' ∧ (∀ q ∈ F, W.heap.size ≤ q) ∧ Rc w' d ⟨List.replicate 2 0, List.replicate 2 true, 0, []⟩ F from rcNew_ok 2 ⟨by decide, by decide⟩ W)
  go_upto_region 3 with (go_at_call 10; refine (HRC.out _).mono ?_; rintro e w2 ⟨d, FD, rfl, ho2, hf2, hr2⟩; have HO2 := hide ho2; have HF2 := hide hf2; have HR2 := hide hr2; clear ho2 hf2 hr2)
  generalize hs0 : (⟨List.replicate 2 0, List.replicate 2 true, 0, []⟩ : RS) = s0 at *
  have hsL : s0.L = [] := by rw [← hs0]
  have HNC := hide (ca_new HR2.out hsL 4 (by decide) (by decide))
  go_upto_region 4 with (go_at_call 11; refine HNC.out.mono ?_; rintro e w3 ⟨c, G, rfl, hc3, ho3, hg3⟩; have HC3 := hide hc3; have HO3 := hide ho3; have HG3 := hide hg3; clear hc3 ho3 hg3)
  have cb := HCE.out w3 (HO2.out.trans HO3.out)
  have ho13 : Only [] w1 w3 := HO2.out.trans HO3.out
  have HPU := hide (show Calls Try.prog 14 #[.pointer (some ⟨c, 0, none⟩), .agg #[.int .i64 1, .string ⟨#[120]⟩], .int .i64 5] w3 fun e w' => e = .returned (.int .i64 0) ∧ DidC w3 w' c d ⟨4, [⟨kx, 5, 1⟩], 1, s0⟩ G from by
    have h := ca_put (k := kx) HC3.out kx_wf (by show (1 : Nat) ≤ _; decide) 5 (by decide) (by show (0 : Int) + 1 < _; decide)
    rw [put_kx] at h
    exact h)
  go_upto_region 7 with (go_at_call 14; refine HPU.out.mono ?_; rintro e w4 ⟨rfl, G4, ht4, hc4⟩; have HC4 := hide hc4; have HT4 := hide ht4; clear hc4 ht4)
  have HLK := hide (show Calls Try.prog 12 #[.pointer (some ⟨c, 0, none⟩), .agg #[.int .i64 1, .string ⟨#[120]⟩]] w4 fun e w' => e = .returned (.tuple #[.int .i64 5, .bool true]) ∧ Only [] w4 w' from
    (ca_look_yes (k := kx) HC4.out (at_kx s0)).mono (fun e w' ⟨⟨x, h1, h2⟩, h3⟩ => ⟨by simp at h1; subst h1; exact h2, h3⟩))
  go_upto_region 8 with (go_at_call 12; refine HLK.out.mono ?_; rintro e w5 ⟨rfl, ho5⟩; have HO5 := hide ho5; clear ho5)
  have HFO := hide (show Calls Try.prog 16 #[.pointer (some ⟨c, 0, none⟩), .agg #[.int .i64 1, .string ⟨#[120]⟩]] w5 fun e w' => e = .returned (.bool true) ∧ DidC w5 w' c d ⟨4, [], 1, { s0 with L := s0.L ++ [(1, s0.ep)] }⟩ G4 from by
    have h := ca_forget (k := kx) (HC4.out.quiet HO5.out) kx_wf
    rw [at_kx, forget_kx] at h
    exact h)
  have HWA := hide (fun (W : World) (G' : List Nat) (h : Ca W c d ⟨4, [], 1, { s0 with L := s0.L ++ [(1, s0.ep)] }⟩ G') => (show Calls Try.prog 20 #[.pointer (some ⟨d, 0, none⟩)] W fun e w' => ∃ A cap, e = .returned (.slice A 1 cap) ∧ Only [] W w' from by
    obtain ⟨FD', hr'⟩ := ca_dom h
    refine (rWaiting_is hr').mono (fun e w' ⟨v', e1, h1, h2, h3⟩ => ?_)
    obtain ⟨A, cap, rfl, -⟩ := IRow.form2 h1
    refine ⟨A, cap, ?_, h3⟩
    rw [e1]
    simp [hsL]))
  go_wp2_with (first | (go_at_call 16; refine HFO.out.mono ?_; rintro e w6 ⟨rfl, G6, ht6, hc6⟩; have HC6 := hide hc6; have HT6 := hide ht6; clear hc6 ht6) | (go_at_call 20; refine (HWA.out _ _ HC6.out).mono ?_; rintro e w7 ⟨A7, c7, rfl, ho7⟩; have HO7 := hide ho7; clear ho7))
  go_ret
  refine ⟨rfl, ?_⟩
  have hall : Tn w3 w7 G G6 := (HT4.out.quiet HO5.out).trans (HT6.out.quiet HO7.out)
  have h03 : Only [] w w3 := HO1.out.trans (HO2.out.trans HO3.out)
  refine h03.trans' hall.1 (fun q hq hm => ?_)
  have h1 := HO1.out.size
  have h2 := HO2.out.size
  rcases HG3.out q hm with e | e
  · have := HF2.out q e; omega
  · omega
end
end Go.Proofs.Ytjpojoflbjhjjaa
