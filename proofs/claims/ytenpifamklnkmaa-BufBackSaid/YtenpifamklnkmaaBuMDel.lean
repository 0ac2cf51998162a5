/-
  Buffers (parapet/buf): maps.DeleteFunc with the closure of Forget: what is dirty stays.
-/
import Derived.Test.YtenpifamklnkmaaBuWrite
import Derived.Maps.RangeWalk
namespace Go.Proofs.Ytenpifamklnkmaa
open Go.ChangeShapes Go.WideShapes Go.ChangeAt Go.RowKit Go.Maps
set_option linter.unusedVariables false

theorem ranges_onlyB {P : Program} {k : TypeId} {Rr : Value → Option (DataW Unit × List MemPlace)} {w w' : World} {b r n : Nat} {D : DataW Unit} {left : Lit → Bool} {cnt : Nat} {S : List Nat} (h : w.ranges P k Rr b r n D left cnt) (ho : Only S w w') (hb : b ∉ S) (hr : r ∉ S) : w'.ranges P k Rr b r n D left cnt := by
  have h1 := h.lt
  obtain ⟨es, clock, since, seen, c0, e1, e2, e3, e4, e5, rest⟩ := h
  have h2 : b < w.heap.size := (Array.getElem?_eq_some_iff.1 e1).1
  exact ⟨es, clock, since, seen, c0, (ho.block b h2 hb).trans e1, e2, e3, e4, (ho.block r h1 hr).trans e5, rest⟩
/-- What is left: the dirty ones, and those that are still to come. -/
def remL (O : List (Int × BV)) (left : Lit → Bool) : List (Int × BV) := O.filter fun p => p.2.2 || left (encBV.kl p.1)
theorem sameKl {a b : Int} : (encBV.kl a).sameKey (encBV.kl b) = decide (a = b) := by
  by_cases h : a = b
  · subst h
    simp [WideAt.sameKey_self (encBV.key a)]
  · rw [Maps.sameKey_ne (fun e => h (by injection e))]
    simp [h]
theorem rem_start {O : List (Int × BV)} {D : DataW Unit} (h : MHolds encBV D O) : remL O (Maps.has D) = O := by
  unfold remL
  rw [List.filter_eq_self]
  intro p hp
  rw [h.some_ (k := p.1) (f := p.2) hp]
  simp
theorem rem_stay {O : List (Int × BV)} (hn : (O.map (·.1)).Nodup) {left : Lit → Bool} {t : Int} {f : BV} (hp : (t, f) ∈ O) (hf : f.2 = true) : remL O (fun z => left z && !z.sameKey (encBV.kl t)) = remL O left := by
  unfold remL
  refine List.filter_congr fun p hq => ?_
  dsimp only
  rw [sameKl]
  by_cases e : p.1 = t
  · have : p = (t, f) := nodup_keys hn hq hp e
    subst this
    simp [hf]
  · simp [e]
where
  nodup_keys {O : List (Int × BV)} (hn : (O.map (·.1)).Nodup) {p q : Int × BV} (hp : p ∈ O) (hq : q ∈ O) (e : p.1 = q.1) : p = q := by
    obtain ⟨i, hi, rfl⟩ := List.getElem_of_mem hp
    obtain ⟨j, hj, rfl⟩ := List.getElem_of_mem hq
    have : i = j := (List.getElem_inj (xs := O.map (·.1)) (h₀ := by simpa using hi) (h₁ := by simpa using hj) hn).1 (by simpa using e)
    subst this
    rfl
theorem rem_drop {O : List (Int × BV)} (hn : (O.map (·.1)).Nodup) {left : Lit → Bool} {t : Int} {f : BV} (hp : (t, f) ∈ O) (hf : f.2 = false) : remL O (fun z => left z && !z.sameKey (encBV.kl t)) = outV (remL O left) t := by
  unfold remL outV
  rw [List.filter_filter]
  refine List.filter_congr fun p hq => ?_
  dsimp only
  rw [sameKl]
  by_cases e : p.1 = t
  · have : p = (t, f) := rem_stay.nodup_keys hn hq hp e
    subst this
    simp [hf]
  · simp [e]
theorem rem_end {O : List (Int × BV)} {left : Lit → Bool} (hl : ∀ z, left z = false) : remL O left = O.filter fun p => p.2.2 := by
  unfold remL
  refine List.filter_congr fun p _ => ?_
  rw [hl]
  simp
theorem comeB {D : DataW Unit} {O : List (Int × BV)} (H : MHolds encBV D O) {x : Value} {f : BV} {kl : Lit} {y : DataW Unit × List MemPlace} (hk : keyOf Try.prog 3 x = some kl) (hy : elemB (bvV f) = some y) (hat : ∀ zd, D.atKey kl zd = y.1) : ∃ t, (t, f) ∈ O ∧ x = .int .i64 t ∧ kl = encBV.kl t := by
  obtain ⟨p, hp, hpk⟩ := (H.has kl).1 (has_true_of_atKey hat)
  have hf := H.at_ _ hp .nil
  rw [hpk, hat] at hf
  rw [elemB_mk] at hy
  injection hy with hy
  rw [← hy] at hf
  have e : f = p.2 := fdB_inj hf
  exact ⟨p.1, by rw [e]; exact hp, lawInt.inj hk (by rw [← hpk]; exact keyB (H.wf _ hp)), hpk.symm⟩
theorem forget1_is (w : World) (t : Int) (A : Option Addr) (a c : Nat) (d : Bool) : Calls Try.prog 34 #[.int .i64 t, .agg #[.slice A a c, .bool d]] w fun e w' => e = .returned (.bool (!d)) ∧ Only [] w w' := by
  have HO := hide (fun o => (Only.refl [] w).alloc o)
  go_enter Try.func34, Try.ntmps34
  go_wp2
  go_ret
  exact ⟨rfl, HO.out _⟩
section
variable {w w' w1 : World} {g m gd : Nat} {room : Int} {v : Value} {ns : List Int} {O : List (Int × BV)} {hi mi ev wr : Int}
set_option maxRecDepth 100000 in
set_option maxHeartbeats 1500000 in
theorem mdel_is (h : IsBu w g m gd room v ns O hi mi ev wr) : Calls Try.prog 33 #[.map (some m), .func (.func 34) #[] #[]] w fun e w' => e = .returned (.tuple #[]) ∧ IsBu w' g m gd room v ns (O.filter fun p => p.2.2) hi mi ev wr ∧ Only [m] w w' := by
  obtain ⟨D, hown, hM⟩ := h.own
  have hmlt := h.ltm
  have hnd := h.nd
  have H := hide h
  have HM := hide hM
  have HR0 := hide (rem_start hM)
  clear h hM
  go_enter Try.func33, Try.ntmps33
  go_wp2_with (at_range; refine wpList_range_own _ rfl _ 53 rfl 3 57 lawInt Try.underlying53 elemB m _ D rfl hown ?_; intro w0 hrg0 hg0 hs0)
  go_frame
  have HO0 := hide (show Only [m] w w0 from Only.of_grown hg0 (by simp))
  have HRG0 := hide hrg0
  have HSZ := hide (show m ≠ w.heap.size by omega)
  clear hrg0 hg0 hs0 hown
  obtain ⟨it, hit⟩ : ∃ it, w.heap.size = it := ⟨_, rfl⟩
  have HIT := hide hit
  rw [hit] at HRG0 HSZ
  rw [hit]
  clear hit
  go_loopw [4] (fun _ wr => ∃ left cnt D', wr.ranges Try.prog 3 elemB m it O.length D' left cnt ∧ MHolds encBV D' (remL O left) ∧ Only [m] w wr) (fun _ wr => wr.rangeLeft m it)
  case atStart => exact ⟨_, _, D, HRG0.out, by rw [HR0.out]; exact HM.out, HO0.out⟩
  case round =>
    obtain ⟨left, cnt, D', hrg, hM', hO⟩ := hrel
    have HRG := hide hrg
    have HMM := hide hM'
    have HOO := hide hO
    clear hM' hO
    go_wp2_with (at_next; refine wpList_next_ranges _ rfl _ rfl 3 lawInt elemB (fun v => v) (fun v => v) (fun key kl h => ⟨key, rfl⟩) (fun v y h => ⟨v, rfl⟩) m it _ D' left cnt rfl hrg ?_ ?_)
    · intro _ hl0
      have HL0 := hide hl0
      clear hl0 hrg
      go_wp2
      go_end0
      have hown' := own_tightB HRG.out.owns
      have hm2 := HMM.out
      rw [rem_end HL0.out] at hm2
      rw [hm2.size] at hown'
      exact ⟨rfl, H.out.putM HOO.out ⟨D', hown', hm2⟩, HOO.out⟩
    · intro x fv kl y1 y2 w1 cnt1 hkx hlx hRy hat hrg1 hlt hg1 hs1 hen
      obtain ⟨f, rfl, -⟩ := elemB_inv hRy
      obtain ⟨t, ht, rfl, rfl⟩ := comeB HMM.out hkx hRy hat
      have htO : (t, f) ∈ O := (List.mem_filter.1 ht).1
      have HT := hide ht
      have HTO := hide htO
      obtain ⟨fs, dd⟩ := f
      obtain ⟨A1, n1, c1, hsv⟩ := svO_form fs
      have hen' : (Instr.entry (.pointer (some ⟨it, 0, none⟩))).run Try.prog w1 = .ok (.tuple #[.int .i64 t, .agg #[.slice A1 n1 c1, .bool dd]]) w1 := by
        rw [← hsv]; exact hen
      have hlt1 : it < w1.heap.size := hrg1.lt
      have ho1 : Only [it] wr w1 := ⟨hg1.os, hg1.tape, hg1.output, hg1.size, fun i hi hn => hg1.block i hi (fun e => hn (by injection e with e; simp [e]))⟩
      have HOW := hide (show Only [m] w w1 from HOO.out.trans' ho1 (fun q hq hm => by simp at hm; have := HIT.out; omega))
      have HRG1 := hide hrg1
      have HLT := hide hlt
      have HSV := hide hsv
      clear hrg hrg1 hlt hg1 hs1 hen hkx hRy hat ht htO ho1 hlx hsv
      rw [show bvV (fs, dd) = .agg #[.slice A1 n1 c1, .bool dd] from by show Value.agg #[svO fs, .bool dd] = _; rw [HSV.out]]
      have HFG := hide (fun W (hW : Only [] w1 W) => (forget1_is W t A1 n1 c1 dd).mono (R' := fun e w' => e = .returned (.bool (!dd)) ∧ Only [] w1 w') (fun e w' ⟨a, b⟩ => ⟨a, hW.trans b⟩))
      cases dd with
      | true =>
        go_wp2_with (go_at_call 34; refine (HFG.out _ (by repeat (first | exact Only.refl _ _ | apply Only.alloc))).mono ?_; rintro e w2 ⟨rfl, ho2⟩; have HO2 := hide ho2; clear ho2)
        have hr2 := ranges_onlyB HRG1.out HO2.out (by simp) (by simp)
        go_roundw
        case rel => exact ⟨_, cnt1, D', hr2, by rw [rem_stay hnd HTO.out rfl]; exact HMM.out, HOW.out.trans (HO2.out.mono (by simp))⟩
        case measure => rw [hr2.left_eq, HRG.out.left_eq]; exact HLT.out
      | false =>
        go_wp2_with (first | (go_at_call 34; refine (HFG.out _ (by repeat (first | exact Only.refl _ _ | apply Only.alloc))).mono ?_; rintro e w2 ⟨rfl, ho2⟩; have HO2 := hide ho2; have hr2 := ranges_onlyB HRG1.out ho2 (by simp) (by simp); clear ho2) | (at_delete; refine wpList_delete_ranges _ rfl _ _ 53 3 rfl 57 lawInt Try.underlying53 elemB m it _ D' _ _ rfl hr2 _ _ rfl (keyB (k := t) (HMM.out.wf _ HT.out)) ?_; intro w3 cnt2 hrg2 hle hturn; go_frame))
        rw [strike_twice] at hrg2
        have hO3 : Only [m] w w3 := (HOW.out.trans (HO2.out.mono (by simp))).trans (Only.of_grown hturn.grown (fun k hk _ => by injection hk with hk; simp [hk]))
        go_roundw
        case rel => exact ⟨_, cnt2, _, hrg2, by rw [rem_drop hnd HTO.out rfl]; exact HMM.out.del HT.out, hO3⟩
        case measure => rw [hrg2.left_eq, HRG.out.left_eq]; have := HLT.out; omega
end
end Go.Proofs.Ytenpifamklnkmaa
