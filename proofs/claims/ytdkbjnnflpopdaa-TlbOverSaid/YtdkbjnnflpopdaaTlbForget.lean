/-
  Translations (parapet/tlb): what a hart forgets.
-/
import Derived.Test.YtdkbjnnflpopdaaTlbFill
namespace Go.Proofs.Ytdkbjnnflpopdaa
open Go.ChangeShapes Go.WideShapes Go.ChangeAt Go.RowKit Go.Maps
set_option linter.unusedVariables false

/-- What is kept of other spaces. -/
def notSp (sp : Int) (l : List (K2 × K2)) : List (K2 × K2) := l.filter fun p => decide (p.1.1 ≠ sp)
/-- .. and what is still to come. -/
def keepF (sp : Int) (left : Lit → Bool) (p : K2 × K2) : Bool := decide (p.1.1 ≠ sp) || left (kL p.1)
theorem outF_len {D : DataW Unit} {l : List (K2 × K2)} {k f : K2} (H : Holds D l) (hp : (k, f) ∈ l) : (outF l k).length + 1 = l.length := by
  have := Maps.size_del (k := kL k) H.tidy
  rwa [H.some_ hp, if_pos rfl, H.size, (H.del hp).size] at this
def ForgetR (w : World) (b : Nat) (l : List (K2 × K2)) (sp : Int) (nv : Value) (wr : World) : Prop :=
  ∃ (left : Lit → Bool) (cnt : Nat) (D : DataW Unit) (m : Nat), nv = .int .i64 m ∧ wr.ranges Try.prog 33 elemF b w.heap.size l.length D left cnt ∧ Holds D (l.filter (keepF sp left)) ∧ m + (l.filter (keepF sp left)).length = l.length ∧ Only [b] w wr

section
variable {w : World} {hb o b : Nat} {cs : Array Value} {l : List (K2 × K2)} {next : Int}
set_option maxRecDepth 100000 in
theorem forget_is (hB : Blk w hb 61 cs) (h0 : cs[o]? = some (.map (some b))) (hA : HartAt w b l next) (hlen : l.length ≤ 64) (sp : Int) :
    Calls Try.prog 36 #[.pointer (some ⟨hb, o, none⟩), .int .i64 sp] w fun r w' => r = .returned (.int .i64 ((l.length : Int) - (notSp sp l).length)) ∧ HartAt w' b (notSp sp l) next ∧ Only [b] w w' := by
  obtain ⟨D0, hown, H⟩ := hA.own
  have hbl := hown.lt
  have hbh : b ≠ hb := fun e => by
    obtain ⟨es, clock, h, _⟩ := hown
    unfold Blk at hB
    rw [e, hB] at h
    cases h
  have HH := hide H
  have HA := hide hA
  have HB := hide hB
  have HC0 := hide h0
  have HBH := hide hbh
  have hc0 : w.cell? ⟨hb, o, none⟩ = some (.map (some b)) := (hB.cell o).trans h0
  clear H hA hB h0
  go_enter Try.func36, Try.ntmps36
  go_wp2_with (first | (at_range; refine wpList_range_own _ rfl _ 59 rfl 33 81 lawKey Try.underlying59 _ b _ _ rfl hown ?_; intro w0 hrg0 hg0 hs0) | go_in)
  go_frame
  have hA0 : ForgetR w b l sp (.int .i64 (0 : Nat)) w0 := by
    have hf : l.filter (keepF sp (Maps.has D0)) = l := by
      rw [List.filter_eq_self]
      intro p hp
      unfold keepF
      rw [HH.out.some_ (k := p.1) (f := p.2) hp, Bool.or_true]
    exact ⟨_, _, D0, 0, rfl, hrg0, by rw [hf]; exact HH.out, by rw [hf]; omega, Only.of_grown hg0 (by simp)⟩
  have HA0 := hide hA0
  clear hA0 hrg0 hg0 hs0 hc0 hown
  go_loopw [5] (fun nv wr => ForgetR w b l sp nv wr) (fun _ wr => wr.rangeLeft b w.heap.size)
  case atStart => exact HA0.out
  case round =>
    clear HA0
    obtain ⟨left, cnt, D, m, rfl, hrg, hH, hm, ho⟩ := hrel
    go_wp2_with (first | (at_next; refine wpList_next_ranges _ rfl _ rfl 33 lawKey elemF kV fV (fun key kl h => let ⟨k, e, _⟩ := keyOf_inv h; ⟨k, e⟩) (fun v y h => let ⟨f, e, _⟩ := elemF_inv h; ⟨f, e⟩) b w.heap.size _ D left cnt rfl hrg ?_ ?_) | go_in)
    · intro _ hl0
      have hf : l.filter (keepF sp left) = notSp sp l := by
        unfold notSp
        refine List.filter_congr fun p _ => ?_
        unfold keepF
        rw [hl0, Bool.or_false]
      rw [hf] at hH hm
      have hown := own_tight hrg.owns
      rw [hH.size] at hown
      have HE := hide (show HartAt wr b (notSp sp l) next ∧ Only [b] w wr from ⟨⟨⟨D, hown, hH⟩, List.Pairwise.sublist List.filter_sublist HA.out.turns, fun q hq => HA.out.lt q (List.mem_filter.1 hq).1⟩, ho⟩)
      have hme : (m : Int) = (l.length : Int) - (notSp sp l).length := by omega
      clear hrg hH hm ho hown hf hl0
      go_wp2
      exact bodyPost_ret (v := .int .i64 ((l.length : Int) - (notSp sp l).length)) (by simp [results, Try.f36, go_sem]; omega) rfl ⟨rfl, HE.out⟩
    · intro k1 k2 f1 f2 kl y1 y2 w1 cnt1 hkx hlx hRy hat hrg1 hlt hg1 hs1 hen
      obtain ⟨rfl, hkw, hkl⟩ := hH.come (k := (k1, k2)) (f := (f1, f2)) hkx hRy hat
      have hwf : ∀ p ∈ l, p.1.wf := HH.out.wf
      have hsk : ∀ p ∈ l, (kL p.1).sameKey (kL (k1, k2)) = decide (p.1 = (k1, k2)) := fun p hp => by
        by_cases e : p.1 = (k1, k2)
        · rw [e, decide_eq_true rfl]; exact WideAt.sameKey_self (kL_key _)
        · rw [decide_eq_false e]
          exact Maps.sameKey_ne (fun e' => e (kL_inj (hwf p hp) hkw e'))
      have ho1 : Only [b] w w1 := by
        have h2 : Only [w.heap.size] wr w1 := Only.of_grown hg1 (fun q hq _ => by injection hq with hq; simp [hq])
        exact ho.trans' h2 (fun q h3 h4 => by simp at h4; omega)
      have hrgk := hrg1.alloc (.cells #[.int .i64 k1, .int .i64 k2] 33)
      have hc : ∀ o1, (w1.alloc o1).cell? ⟨hb, o, none⟩ = some (.map (some b)) := fun o1 => (((HB.out.only ho1 (by simpa using Ne.symm HBH.out)).alloc o1).cell o).trans HC0.out
      have HLE := hide hrg.left_eq
      have hm64 : m ≤ 64 := by omega
      have hwm : IntKind.i64.wrap ((m : Int) + 1) = (m : Int) + 1 := by rw [IntKind.wrap_i64]; omega
      by_cases e1 : k1 = sp
      · subst e1
        obtain ⟨w6, hw6⟩ : ∃ w6 : World, (w1.alloc (.cells #[.int .i64 k1, .int .i64 k2] 33)).drew = w6 := ⟨_, rfl⟩
        have hrg6 : w6.ranges Try.prog 33 elemF b w.heap.size l.length D (fun z => left z && !z.sameKey (kL (k1, k2))) cnt1 := by rw [← hw6]; exact hrgk
        obtain ⟨w2, cnt2, hrun2, hrg2, hle2, hturn2⟩ := hrg6.drop lawKey Try.underlying59 (keyOf_kV hkw) 0
        rw [Maps.strike_twice] at hrg2
        have hll := outF_len hH hkl
        have hff : outF (l.filter (keepF k1 left)) (k1, k2) = l.filter (keepF k1 fun z => left z && !z.sameKey (kL (k1, k2))) := by
          unfold outF
          rw [List.filter_filter]
          refine List.filter_congr fun p hp => ?_
          unfold keepF
          dsimp only
          rw [hsk p hp]
          by_cases e : p.1 = (k1, k2)
          · simp [e]
          · simp [e]
        have hd := hH.del hkl
        rw [hff] at hll hd
        have hrge := hrg2.left_eq
        have ho2 : Only [b] w w2 := by
          have h3 : Only [b] w w6 := by rw [← hw6]; exact (ho1.alloc _).drew
          exact h3.trans (Only.of_grown hturn2.grown (fun q hq _ => by injection hq with hq; simp [hq]))
        have HE := hide (show ForgetR w b l k1 (.int .i64 ((m + 1 : Nat) : Int)) w2 ∧ w2.rangeLeft b w.heap.size < wr.rangeLeft b w.heap.size from
          ⟨⟨_, cnt2, _, m + 1, rfl, hrg2, hd, by omega, ho2⟩, by rw [hrge, HLE.out]; omega⟩)
        rw [← hw6] at hrun2
        clear hrg hH hm ho hkx hlx hRy hat hrg1 hlt hg1 hs1 hkl hwf hsk ho1 hrgk hw6 hrg6 hrg2 hle2 hturn2 hll hff hd hrge ho2
        go_wp2_with fail
        go_region
        go_wp2
        go_roundw
        case rel => exact HE.out.1
        case measure => exact HE.out.2
      · have hbe : (k1 == sp) = false := by simpa using e1
        have hff : l.filter (keepF sp fun z => left z && !z.sameKey (kL (k1, k2))) = l.filter (keepF sp left) := by
          refine List.filter_congr fun p hp => ?_
          unfold keepF
          dsimp only
          rw [hsk p hp]
          by_cases e : p.1 = (k1, k2)
          · simp [e, e1]
          · simp [e]
        have HE := hide (show ForgetR w b l sp (.int .i64 (m : Int)) (w1.alloc (.cells #[.int .i64 k1, .int .i64 k2] 33)) ∧ (w1.alloc (.cells #[.int .i64 k1, .int .i64 k2] 33)).rangeLeft b w.heap.size < wr.rangeLeft b w.heap.size from
          ⟨⟨_, cnt1, D, m, rfl, hrgk, by rw [hff]; exact hH, by rw [hff]; exact hm, ho1.alloc _⟩, by rw [hrgk.left_eq, HLE.out]; exact hlt⟩)
        clear hrg hH hm ho hkx hlx hRy hat hrg1 hlt hg1 hs1 hkl hwf hsk ho1 hrgk hff
        go_wp2
        exact HE.out
end
end Go.Proofs.Ytdkbjnnflpopdaa
