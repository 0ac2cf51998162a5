/-
  Open files (parapet/fdtab): On (a range over the map), Move.
-/
import Derived.Test.YtfplfpfnlffnjaaFdDup
import Derived.Maps.RangeWalk
namespace Go.Proofs.Ytfplfpfnlffnjaa
open Go.ChangeShapes Go.WideShapes Go.ChangeAt Go.RowKit Go.Maps
set_option linter.unusedVariables false
set_option linter.unusedSimpArgs false
theorem ranges_onlyF {P : Program} {k : TypeId} {Rr : Value → Option (DataW Unit × List MemPlace)} {w w' : World} {b r n : Nat} {D : DataW Unit} {left : Lit → Bool} {cnt : Nat} {S : List Nat} (h : w.ranges P k Rr b r n D left cnt) (ho : Only S w w') (hb : b ∉ S) (hr : r ∉ S) : w'.ranges P k Rr b r n D left cnt := by
  have h1 := h.lt
  obtain ⟨es, clock, since, seen, c0, e1, e2, e3, e4, e5, rest⟩ := h
  have h2 : b < w.heap.size := (Array.getElem?_eq_some_iff.1 e1).1
  exact ⟨es, clock, since, seen, c0, (ho.block b h2 hb).trans e1, e2, e3, e4, (ho.block r h1 hr).trans e5, rest⟩
theorem sameKl {a b : Int} : (encF.kl a).sameKey (encF.kl b) = decide (a = b) := by
  by_cases h : a = b
  · subst h
    simp [WideAt.sameKey_self (encF.key a)]
  · rw [Maps.sameKey_ne (fun e => h (by injection e))]
    simp [h]
theorem comeF {D : DataW Unit} {O : List (Int × F5)} (H : MHolds encF D O) {x : Value} {f : F5} {kl : Lit} {y : DataW Unit × List MemPlace} (hk : keyOf Try.prog 3 x = some kl) (hy : elemF (fV f) = some y) (hat : ∀ zd, D.atKey kl zd = y.1) : ∃ t, (t, f) ∈ O ∧ x = .int .i64 t ∧ kl = encF.kl t := by
  obtain ⟨p, hp, hpk⟩ := (H.has kl).1 (has_true_of_atKey hat)
  have hf := H.at_ _ hp .nil
  rw [hpk, hat] at hf
  rw [elemF_mk] at hy
  injection hy with hy
  rw [← hy] at hf
  have e : f = p.2 := fD_inj hf
  exact ⟨p.1, by rw [e]; exact hp, lawInt.inj hk (by rw [← hpk]; exact keyI (H.wf _ hp)), hpk.symm⟩
/-- How many of those that came are so. -/
def cntL (O : List (Int × F5)) (left : Lit → Bool) (q : F5 → Bool) : Nat := O.countP fun p => !left (encF.kl p.1) && q p.2
theorem cnt_start {O : List (Int × F5)} {D : DataW Unit} (h : MHolds encF D O) (q : F5 → Bool) : cntL O (Maps.has D) q = 0 := by
  unfold cntL
  rw [List.countP_eq_zero]
  intro p hp
  rw [h.some_ (k := p.1) (f := p.2) hp]
  simp
theorem cnt_end {O : List (Int × F5)} {left : Lit → Bool} (q : F5 → Bool) (hl : ∀ z, left z = false) : cntL O left q = O.countP fun p => q p.2 := by
  unfold cntL
  refine List.countP_congr fun p _ => ?_
  rw [hl]
  simp
theorem cnt_step {O : List (Int × F5)} (q : F5 → Bool) (hn : (O.map (·.1)).Nodup) {left : Lit → Bool} {t : Int} {f : F5} (hp : (t, f) ∈ O) (hl : left (encF.kl t) = true) :
    cntL O (fun z => left z && !z.sameKey (encF.kl t)) q = cntL O left q + if q f then 1 else 0 := by
  unfold cntL
  simp only [sameKl]
  induction O with
  | nil => cases hp
  | cons a r ih =>
    rw [List.map_cons, List.nodup_cons] at hn
    rcases List.mem_cons.1 hp with e | e
    · subst e
      rw [List.countP_cons, List.countP_cons]
      have : (r.countP fun p => !(left (encF.kl p.1) && !decide (p.1 = t)) && q p.2) = r.countP fun p => !left (encF.kl p.1) && q p.2 := by
        refine List.countP_congr fun p hp => ?_
        have : ¬ p.1 = t := fun e => hn.1 (List.mem_map.2 ⟨p, hp, e⟩)
        simp [this]
      rw [this]
      simp [hl]
    · rw [List.countP_cons, List.countP_cons, ih hn.2 e]
      have : ¬ a.1 = t := fun e1 => hn.1 (List.mem_map.2 ⟨_, e, e1.symm⟩)
      simp only [this, decide_false, Bool.not_false, Bool.and_true]
      omega
/-- How many are open on this. -/
def isOn (kd wh : Int) (f : F5) : Bool := f.kind == kd && f.what == wh
def onP (O : List (Int × F5)) (kd wh : Int) : Nat := O.countP fun p => isOn kd wh p.2
section
variable {w w' w1 : World} {t f m : Nat} {O : List (Int × F5)} {T : List Int} {S : List Nat} {k : Int} {x : F5}
set_option maxRecDepth 100000 in
set_option maxHeartbeats 1500000 in
theorem on_is (h : IsFi w f m O) (kd wh : Int) : Calls Try.prog 22 #[.pointer (some ⟨f, 0, none⟩), .int .i64 kd, .int .i64 wh] w fun e w' => e = .returned (.int .i64 (onP O kd wh)) ∧ IsFi w' f m O ∧ Only [m] w w' := by
  obtain ⟨D, hown, hM⟩ := h.own
  have hml := h.lt.2
  have hnd := hM.nd
  have c0 := h.c0
  have HC := hide (fdclosed_is h)
  have H := hide h
  have HM := hide hM
  have HR0 := hide (cnt_start hM (isOn kd wh))
  clear h hM
  go_enter Try.func22, Try.ntmps22
  go_wp2_with (first | (go_at_call 38; refine HC.out.mono ?_; rintro e w' ⟨rfl, rfl⟩) | (at_range; refine wpList_range_own _ rfl _ 50 rfl 3 42 lawInt Try.underlying50 elemF m _ D rfl hown ?_; intro w0 hrg0 hg0 hs0))
  go_frame
  have HO0 := hide (show Only [m] w w0 from Only.of_grown hg0 (by simp))
  have HRG0 := hide hrg0
  have HSZ := hide (show m ≠ w.heap.size by omega)
  clear hrg0 hg0 hs0 hown
  obtain ⟨it, hit⟩ : ∃ it, w.heap.size = it := ⟨_, rfl⟩
  have HIT := hide hit
  rw [hit] at HRG0 HSZ
  rw [hit]
  clear hit
  go_loopw [7] (fun nv wr => ∃ left cnt, wr.ranges Try.prog 3 elemF m it O.length D left cnt ∧ nv = .int .i64 (cntL O left (isOn kd wh) : Nat) ∧ Only [m] w wr) (fun _ wr => wr.rangeLeft m it)
  case atStart => exact ⟨_, _, HRG0.out, by rw [HR0.out]; rfl, HO0.out⟩
  case round =>
    obtain ⟨left, cnt, hrg, rfl, hO⟩ := hrel
    have HRG := hide hrg
    have HOO := hide hO
    clear hO
    go_wp2_with (at_next; refine wpList_next_ranges _ rfl _ rfl 3 lawInt elemF (fun v => v) (fun v => v) (fun key kl h => ⟨key, rfl⟩) (fun v y h => ⟨v, rfl⟩) m it _ D left cnt rfl hrg ?_ ?_)
    · intro _ hl0
      have HL0 := hide hl0
      clear hl0 hrg
      go_wp2
      go_ret
      have hown' := own_tightF HRG.out.owns
      rw [HM.out.size] at hown'
      exact ⟨by rw [cnt_end _ HL0.out]; rfl, ⟨H.out.blk.only HOO.out (by simpa using H.out.ne.symm), ⟨D, hown', HM.out⟩, H.out.ids, H.out.few⟩, HOO.out⟩
    · intro x fv kl y1 y2 w1 cnt1 hkx hlx hRy hat hrg1 hlt hg1 hs1 hen
      obtain ⟨x, rfl, -⟩ := elemF_inv hRy
      obtain ⟨t, ht, rfl, rfl⟩ := comeF HM.out hkx hRy hat
      have hlt1 : it < w1.heap.size := hrg1.lt
      have ho1 : Only [it] wr w1 := ⟨hg1.os, hg1.tape, hg1.output, hg1.size, fun i hi hn => hg1.block i hi (fun e => hn (by injection e with e; simp [e]))⟩
      have HOW := hide (show Only [m] w w1 from HOO.out.trans' ho1 (fun q hq hm => by simp at hm; have := HIT.out; omega))
      have HRG1 := hide hrg1
      have HLT := hide hlt
      have hcl : cntL O left (isOn kd wh) ≤ O.length := List.countP_le_length
      have hf := H.out.few
      have HST := hide (cnt_step (isOn kd wh) hnd ht hlx)
      clear hrg hrg1 hlt hg1 hs1 hkx hRy hat ht ho1 hlx
      obtain ⟨x1, x2, x3, x4, x5⟩ := x
      dsimp only [fV, fC] at hen
      have HQ := hide (show isOn kd wh ⟨x1, x2, x3, x4, x5⟩ = (x1 == kd && x2 == wh) from rfl)
      cases e1 : (x1 == kd)
      · rw [e1, Bool.false_and] at HQ
        rw [HQ.out, if_neg (by decide), Nat.add_zero] at HST
        generalize hc : cntL O left (isOn kd wh) = c at *
        go_wp2
        have hr2 := ranges_onlyF HRG1.out ((Only.refl [] w1).alloc (.cells #[.int .i64 x1, .int .i64 x2, .int .i64 x3, .int .i64 x4, .int .i64 x5] 42)) (by simp) (by simp)
        go_roundw
        case rel => exact ⟨_, cnt1, hr2, by rw [HST.out], HOW.out.trans (((Only.refl [] w1).alloc _).mono (by simp))⟩
        case measure => rw [hr2.left_eq, HRG.out.left_eq]; exact HLT.out
      · rw [e1, Bool.true_and] at HQ
        cases e2 : (x2 == wh)
        · rw [e2] at HQ
          rw [HQ.out, if_neg (by decide), Nat.add_zero] at HST
          generalize hc : cntL O left (isOn kd wh) = c at *
          go_wp2
          have hr2 := ranges_onlyF HRG1.out ((Only.refl [] w1).alloc (.cells #[.int .i64 x1, .int .i64 x2, .int .i64 x3, .int .i64 x4, .int .i64 x5] 42)) (by simp) (by simp)
          go_roundw
          case rel => exact ⟨_, cnt1, hr2, by rw [HST.out], HOW.out.trans (((Only.refl [] w1).alloc _).mono (by simp))⟩
          case measure => rw [hr2.left_eq, HRG.out.left_eq]; exact HLT.out
        · rw [e2] at HQ
          rw [HQ.out, if_pos rfl] at HST
          generalize hc : cntL O left (isOn kd wh) = c at *
          go_wp2
          have hr2 := ranges_onlyF HRG1.out ((Only.refl [] w1).alloc (.cells #[.int .i64 x1, .int .i64 x2, .int .i64 x3, .int .i64 x4, .int .i64 x5] 42)) (by simp) (by simp)
          go_roundw
          case rel => exact ⟨_, cnt1, hr2, by rw [HST.out]; go_num, HOW.out.trans (((Only.refl [] w1).alloc _).mono (by simp))⟩
          case measure => rw [hr2.left_eq, HRG.out.left_eq]; exact HLT.out
end
end Go.Proofs.Ytfplfpfnlffnjaa
