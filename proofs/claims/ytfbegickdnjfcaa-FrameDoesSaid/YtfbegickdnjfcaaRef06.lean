/-
  The document's own frames (parapetref06): where they lie, and the small calls.
-/
import Derived.Test.YtfbegickdnjfcaaFrGive
import Derived.Test.YtfbegickdnjfcaaFrAwake
namespace Go.Proofs.Ytfbegickdnjfcaa
open Go.ChangeShapes Go.WideShapes Go.ChangeAt Go.RowKit
set_option linter.unusedVariables false

/-- A slice of these numbers in one of the blocks Z. -/
def SeesZ (w : World) (v : Value) (zs : List Int) (Z : List Nat) : Prop :=
  ∃ A c, v = .slice A zs.length c ∧ zs.length ≤ c ∧ c ≤ maxLen ∧ (A = none → zs.length = 0 ∧ c = 0) ∧ (0 < zs.length → ∃ b o, A = some ⟨b, o, none⟩ ∧ b ∈ Z ∧ b < w.heap.size ∧ ∀ i, i < zs.length → w.cell? ⟨b, o + i, none⟩ = some (.int .i64 (gb zs i)))
theorem SeesZ.only {w w' : World} {v : Value} {zs : List Int} {Z S : List Nat} (h : SeesZ w v zs Z) (ho : Only S w w') (hs : ∀ k, k ∈ Z → k ∉ S) : SeesZ w' v zs Z := by
  obtain ⟨A, c, e, h1, h2, h3, hA⟩ := h
  refine ⟨A, c, e, h1, h2, h3, fun hp => ?_⟩
  obtain ⟨b, o, e, hz, hb, hc⟩ := hA hp
  exact ⟨b, o, e, hz, Nat.lt_of_lt_of_le hb ho.size, fun i hi => (ho.cell hb (hs b hz)).trans (hc i hi)⟩
theorem SeesZ.more {w : World} {v : Value} {zs : List Int} {Z Z' : List Nat} (h : SeesZ w v zs Z) (hz : ∀ k, k ∈ Z → k ∈ Z') : SeesZ w v zs Z' := by
  obtain ⟨A, c, e, h1, h2, h3, hA⟩ := h
  refine ⟨A, c, e, h1, h2, h3, fun hp => ?_⟩
  obtain ⟨b, o, e, hzb, hb, hc⟩ := hA hp
  exact ⟨b, o, e, hz b hzb, hb, hc⟩
theorem SeesZ.sees {w : World} {v : Value} {zs : List Int} {Z : List Nat} (h : SeesZ w v zs Z) : SeesI w v zs := by
  obtain ⟨A, c, e, h1, h2, h3, hA⟩ := h
  refine ⟨A, c, e, fun hp => ?_⟩
  obtain ⟨b, o, e, _, hb, hc⟩ := hA hp
  exact ⟨b, o, e, hb, hc⟩
theorem SeesZ.of_row {w : World} {v : Value} {zs : List Int} (h : IRow w v zs) : SeesZ w v zs v.ownBlock.toList := by
  obtain ⟨A, c, e, h1, h2, h3⟩ := h.form2
  refine ⟨A, c, e, h2, h3, h1, fun hp => ?_⟩
  obtain ⟨A', c', e', hA⟩ := h.form
  obtain ⟨b, eb, _, hb, hc⟩ := hA hp
  rw [e] at e'
  injection e' with e1 e2 e3
  refine ⟨b, 0, e1.trans eb, ?_, hb, fun i hi => by rw [Nat.zero_add]; exact hc i hi⟩
  rw [e, e1, eb]
  simp [Value.ownBlock]
/-- What append copies out of such a slice. -/
theorem SeesZ.news {w : World} {A : Option Addr} {n c : Nat} {zs : List Int} {Z : List Nat} (h : SeesZ w (.slice A n c) zs Z) : ∀ ad, A = some ad → ∀ j u, (i64l zs)[j]? = some u → w.cell? (ad.add j) = some u := by
  rintro ad rfl j u hu
  obtain ⟨A', c', e, h1, h2, h3, hA⟩ := h
  injection e with e1 e2 e3
  have hj : j < zs.length := by
    have := (List.getElem?_eq_some_iff.1 hu).1
    rwa [i64l_length] at this
  obtain ⟨b, o, eb, _, _, hc⟩ := hA (by omega)
  rw [← e1] at eb
  injection eb with eb
  subst eb
  rw [add_at, hc j hj, ← hu]
  simp [i64l, gb, List.getD, List.getElem?_eq_getElem hj]

def RSlot (harts o : Nat) : Prop := o = 12 ∨ (4 ≤ o ∧ o < 4 + harts)

structure R6 (w : World) (a cC bL : Nat) (vs : Nat → Value) (Z : List Nat) (first harts : Nat) (ns : Nat → List Int) : Prop where
  blk : Blk w a 64 #[.int .i64 first, .slice (some ⟨cC, 0, none⟩) (ns 2).length (ns 2).length, .slice (some ⟨bL, 0, none⟩) harts harts, vs 12]
  cnt : Blk w cC 3 (i64l (ns 2)).toArray
  lst : Blk w bL 46 (((List.range harts).map fun h => vs (4 + h)).toArray)
  see : ∀ o, RSlot harts o → SeesZ w (vs o) (ns o) Z
  az : a ∉ Z
  cz : cC ∉ Z
  bz : bL ∉ Z
  hh : 1 ≤ harts ∧ harts ≤ 8
  emp : ∀ o, 4 + harts ≤ o → o ≤ 11 → ns o = []
  small : first + (ns 2).length ≤ 4096
  few : ∀ o, (ns o).length ≤ 4096
  zlt : ∀ k, k ∈ Z → k < w.heap.size

/-- Behind a call: other rows, some new blocks. -/
def DidR (w w' : World) (a cC bL : Nat) (Z : List Nat) (first harts : Nat) (ns' : Nat → List Int) : Prop :=
  ∃ vs' Z', R6 w' a cC bL vs' Z' first harts ns' ∧ Turn w w' (a :: cC :: bL :: Z) (a :: cC :: bL :: Z') ∧ Only [a, cC, bL] w w'

section
variable {w w' w1 : World} {a cC bL : Nat} {vs : Nat → Value} {Z : List Nat} {first harts : Nat} {ns : Nat → List Int} {S : List Nat}
theorem R6.ac (R : R6 w a cC bL vs Z first harts ns) : a ≠ cC := R.blk.ne_ R.cnt (by decide)
theorem R6.ab (R : R6 w a cC bL vs Z first harts ns) : a ≠ bL := R.blk.ne_ R.lst (by decide)
theorem R6.cb (R : R6 w a cC bL vs Z first harts ns) : cC ≠ bL := R.cnt.ne_ R.lst (by decide)
theorem R6.only (R : R6 w a cC bL vs Z first harts ns) (ho : Only S w w') (hs : ∀ k, k ∈ a :: cC :: bL :: Z → k ∉ S) : R6 w' a cC bL vs Z first harts ns :=
  ⟨R.blk.only ho (hs a (by simp)), R.cnt.only ho (hs cC (by simp)), R.lst.only ho (hs bL (by simp)), fun o h => (R.see o h).only ho (fun k hk => hs k (by simp [hk])), R.az, R.cz, R.bz, R.hh, R.emp, R.small, R.few, fun k hk => Nat.lt_of_lt_of_le (R.zlt k hk) ho.size⟩
theorem R6.drewN (R : R6 w a cC bL vs Z first harts ns) (n : Nat) : R6 (w.drewN n) a cC bL vs Z first harts ns := R.only ((Only.refl [] w).drewN n) (by simp)
theorem R6.c0 (R : R6 w a cC bL vs Z first harts ns) : w.cell? ⟨a, 0, none⟩ = some (.int .i64 first) := R.blk.cell 0
theorem R6.c1 (R : R6 w a cC bL vs Z first harts ns) : w.cell? ⟨a, 1, none⟩ = some (.slice (some ⟨cC, 0, none⟩) (ns 2).length (ns 2).length) := R.blk.cell 1
theorem R6.c2 (R : R6 w a cC bL vs Z first harts ns) : w.cell? ⟨a, 2, none⟩ = some (.slice (some ⟨bL, 0, none⟩) harts harts) := R.blk.cell 2
theorem R6.c3 (R : R6 w a cC bL vs Z first harts ns) : w.cell? ⟨a, 3, none⟩ = some (vs 12) := R.blk.cell 3
theorem R6.cl (R : R6 w a cC bL vs Z first harts ns) (h : Nat) (hh : h < harts) : w.cell? ⟨bL, h, none⟩ = some (vs (4 + h)) := by
  rw [R.lst.cell]
  simp [List.getElem?_map, List.getElem?_range hh]
theorem R6.cc (R : R6 w a cC bL vs Z first harts ns) (k : Nat) (hk : k < (ns 2).length) : w.cell? ⟨cC, k, none⟩ = some (.int .i64 (gb (ns 2) k)) := by
  rw [R.cnt.cell]
  have := i64l_get (ns 2) [] k hk
  rwa [List.append_nil] at this
theorem R6.alt (R : R6 w a cC bL vs Z first harts ns) : ∀ k, k ∈ a :: cC :: bL :: Z → k < w.heap.size := fun k hk => by
  simp at hk
  rcases hk with rfl | rfl | rfl | hk
  · exact R.blk.lt
  · exact R.cnt.lt
  · exact R.lst.lt
  · exact R.zlt k hk

/-- A list is set. -/
theorem R6.setList (R : R6 w a cC bL vs Z first harts ns) {h : Nat} (hh : h < harts) {v' : Value} {zs : List Int} {Z' : List Nat} (ho : Only [] w w1) (hr : SeesZ w1 v' zs Z') (hz : ∀ k, k ∈ Z → k ∈ Z') (hn : ∀ k, k ∈ Z' → k ∈ Z ∨ w.heap.size ≤ k) (hl : ∀ k, k ∈ Z' → k < w1.heap.size) (hf : zs.length ≤ 4096) :
    R6 (w1.setCell ⟨bL, h, none⟩ v') a cC bL (upd vs (4 + h) v') Z' first harts (upd ns (4 + h) zs) ∧ Turn w (w1.setCell ⟨bL, h, none⟩ v') (a :: cC :: bL :: Z) (a :: cC :: bL :: Z') := by
  have hh8 := R.hh
  have R1 := R.only ho (by simp)
  have hlt := R.alt
  have hset : Only [bL] w1 (w1.setCell ⟨bL, h, none⟩ v') := (Only.refl _ _).setCell _ (by simp)
  have hnz : ∀ k, k ∈ Z' → k ≠ a ∧ k ≠ cC ∧ k ≠ bL := fun k hk => by
    rcases hn k hk with h1 | h1
    · exact ⟨fun e => R.az (e ▸ h1), fun e => R.cz (e ▸ h1), fun e => R.bz (e ▸ h1)⟩
    · have h2 := hlt a (by simp)
      have h3 := hlt cC (by simp)
      have h4 := hlt bL (by simp)
      omega
  refine ⟨⟨?_, ?_, ?_, fun o hs => ?_, fun hm => (hnz a hm).1 rfl, fun hm => (hnz cC hm).2.1 rfl, fun hm => (hnz bL hm).2.2 rfl, R.hh, fun o h1 h2 => ?_, ?_, fun o => ?_, fun k hk => by rw [show (w1.setCell ⟨bL, h, none⟩ v').heap.size = w1.heap.size by simp [World.setCell]]; exact hl k hk⟩, ?_, fun k hk => ?_⟩
  · have := R1.blk.only hset (by simp; exact R.ab)
    rw [upd_far _ _ (show (2 : Nat) ≠ 4 + h by omega), upd_far _ _ (show (12 : Nat) ≠ 4 + h by omega)]
    exact this
  · rw [upd_far _ _ (show (2 : Nat) ≠ 4 + h by omega)]
    exact R1.cnt.only hset (by simp; exact R.cb)
  · have := R1.lst.set_ h v'
    rw [List.setIfInBounds_toArray] at this
    have e : ((List.range harts).map fun h => vs (4 + h)).set h v' = (List.range harts).map fun q => upd vs (4 + h) v' (4 + q) := by
      refine List.ext_getElem (by simp) fun j h1 h2 => ?_
      rw [List.getElem_set]
      by_cases ej : h = j
      · subst ej; simp [upd]
      · rw [if_neg ej]; simp [upd, Ne.symm ej]
    rw [e] at this
    exact this
  · by_cases e : o = 4 + h
    · subst e
      rw [upd_same, upd_same]
      exact hr.only hset (fun k hk => by simp; exact (hnz k hk).2.2)
    · rw [upd_far _ _ e, upd_far _ _ e]
      exact ((R1.see o hs).more hz).only hset (fun k hk => by simp; exact (hnz k hk).2.2)
  · rw [upd_far _ _ (by omega)]
    exact R.emp o h1 h2
  · rw [upd_far _ _ (show (2 : Nat) ≠ 4 + h by omega)]
    exact R.small
  · by_cases e : o = 4 + h
    · subst e; rw [upd_same]; exact hf
    · rw [upd_far _ _ e]; exact R.few o
  · exact (ho.mono (by simp)).trans (hset.mono (fun k _ hk => by simp at hk; simp [hk]))
  · simp only [List.mem_cons] at hk ⊢
    rcases hk with rfl | rfl | rfl | hk
    · simp
    · simp
    · simp
    · rcases hn k hk with h1 | h1
      · simp [h1]
      · exact .inr h1

/-- The common ones are set. -/
theorem R6.setCommon (R : R6 w a cC bL vs Z first harts ns) {v' : Value} {zs : List Int} {Z' : List Nat} (ho : Only [] w w1) (hr : SeesZ w1 v' zs Z') (hz : ∀ k, k ∈ Z → k ∈ Z') (hn : ∀ k, k ∈ Z' → k ∈ Z ∨ w.heap.size ≤ k) (hl : ∀ k, k ∈ Z' → k < w1.heap.size) (hf : zs.length ≤ 4096) :
    R6 (w1.setCell ⟨a, 3, none⟩ v') a cC bL (upd vs 12 v') Z' first harts (upd ns 12 zs) ∧ Turn w (w1.setCell ⟨a, 3, none⟩ v') (a :: cC :: bL :: Z) (a :: cC :: bL :: Z') := by
  have hh8 := R.hh
  have R1 := R.only ho (by simp)
  have hlt := R.alt
  have hset : Only [a] w1 (w1.setCell ⟨a, 3, none⟩ v') := (Only.refl _ _).setCell _ (by simp)
  have hnz : ∀ k, k ∈ Z' → k ≠ a ∧ k ≠ cC ∧ k ≠ bL := fun k hk => by
    rcases hn k hk with h1 | h1
    · exact ⟨fun e => R.az (e ▸ h1), fun e => R.cz (e ▸ h1), fun e => R.bz (e ▸ h1)⟩
    · have h2 := hlt a (by simp)
      have h3 := hlt cC (by simp)
      have h4 := hlt bL (by simp)
      omega
  refine ⟨⟨?_, ?_, ?_, fun o hs => ?_, fun hm => (hnz a hm).1 rfl, fun hm => (hnz cC hm).2.1 rfl, fun hm => (hnz bL hm).2.2 rfl, R.hh, fun o h1 h2 => ?_, ?_, fun o => ?_, fun k hk => by rw [show (w1.setCell ⟨a, 3, none⟩ v').heap.size = w1.heap.size by simp [World.setCell]]; exact hl k hk⟩, ?_, fun k hk => ?_⟩
  · have := R1.blk.set_ 3 v'
    rw [upd_far ns _ (show (2 : Nat) ≠ 12 by decide), upd_same]
    exact this
  · rw [upd_far _ _ (show (2 : Nat) ≠ 12 by decide)]
    exact R1.cnt.only hset (by simp; exact Ne.symm R.ac)
  · have h1 := R1.lst.only hset (by simp; exact Ne.symm R.ab)
    have e : ((List.range harts).map fun h => vs (4 + h)) = (List.range harts).map fun q => upd vs 12 v' (4 + q) := by
      refine List.map_congr_left fun q hq => ?_
      have := List.mem_range.1 hq
      rw [upd_far _ _ (by omega)]
    rw [e] at h1
    exact h1
  · by_cases e : o = 12
    · subst e
      rw [upd_same, upd_same]
      exact hr.only hset (fun k hk => by simp; exact (hnz k hk).1)
    · rw [upd_far _ _ e, upd_far _ _ e]
      exact ((R1.see o hs).more hz).only hset (fun k hk => by simp; exact (hnz k hk).1)
  · rw [upd_far _ _ (by omega)]
    exact R.emp o h1 h2
  · rw [upd_far _ _ (show (2 : Nat) ≠ 12 by decide)]
    exact R.small
  · by_cases e : o = 12
    · subst e; rw [upd_same]; exact hf
    · rw [upd_far _ _ e]; exact R.few o
  · exact (ho.mono (by simp)).trans (hset.mono (fun k _ hk => by simp at hk; simp [hk]))
  · simp only [List.mem_cons] at hk ⊢
    rcases hk with rfl | rfl | rfl | hk
    · simp
    · simp
    · simp
    · rcases hn k hk with h1 | h1
      · simp [h1]
      · exact .inr h1

/-- A count is set. -/
theorem R6.setCount (R : R6 w a cC bL vs Z first harts ns) {k : Nat} (hk : k < (ns 2).length) (x : Int) (ho : Only [] w w1) :
    R6 (w1.setCell ⟨cC, k, none⟩ (.int .i64 x)) a cC bL vs Z first harts (upd ns 2 ((ns 2).set k x)) ∧ Turn w (w1.setCell ⟨cC, k, none⟩ (.int .i64 x)) (a :: cC :: bL :: Z) (a :: cC :: bL :: Z) := by
  have hh8 := R.hh
  have R1 := R.only ho (by simp)
  have hset : Only [cC] w1 (w1.setCell ⟨cC, k, none⟩ (.int .i64 x)) := (Only.refl _ _).setCell _ (by simp)
  refine ⟨⟨?_, ?_, R1.lst.only hset (by simp; exact Ne.symm R.cb), fun o hs => ?_, R.az, R.cz, R.bz, R.hh, fun o h1 h2 => ?_, ?_, fun o => ?_, fun q hq => Nat.lt_of_lt_of_le (R1.zlt q hq) hset.size⟩, (ho.mono (by simp)).trans (hset.mono (fun q _ hq => by simp at hq; simp [hq])), fun q hq => .inl hq⟩
  · rw [upd_same, List.length_set]
    exact R1.blk.only hset (by simp; exact R.ac)
  · rw [upd_same]
    have := R1.cnt.set_ k (.int .i64 x)
    rw [List.setIfInBounds_toArray, show (i64l (ns 2)).set k (Value.int .i64 x) = i64l ((ns 2).set k x) by simp [i64l, List.map_set]] at this
    exact this
  · have h2 : o ≠ 2 := by unfold RSlot at hs; omega
    rw [upd_far _ _ h2]
    exact (R1.see o hs).only hset (fun q hq => by simp; exact fun e => R.cz (e ▸ hq))
  · rw [upd_far _ _ (by omega)]
    exact R.emp o h1 h2
  · rw [upd_same, List.length_set]; exact R.small
  · by_cases e : o = 2
    · subst e; rw [upd_same, List.length_set]; exact R.few 2
    · rw [upd_far _ _ e]; exact R.few o

theorem rcount_is (R : R6 w a cC bL vs Z first harts ns) (x : Int) (hx : x ≤ 9223372036854775807) : Calls Try.prog 27 #[.pointer (some ⟨a, 0, none⟩), .int .i64 x] w fun e w' => e = .returned (.int .i64 (cntF first ns x)) ∧ ∃ n, w' = w.drewN n := by
  have hc0 := R.c0
  have hc1 := R.c1
  have hbig := R.small
  by_cases h0 : x < first
  · have HE := hide (show cntF first ns x = 0 by unfold cntF; rw [if_neg (by omega)])
    clear R
    go_enter Try.func27, Try.ntmps27
    go_wp2_with fail
    go_quiet (fail)
    go_wp2
    go_ret
    exact ⟨by rw [HE.out]; rfl, _, rfl⟩
  · have hw : IntKind.i64.wrap (x - (first : Int)) = x - first := by rw [IntKind.wrap_i64]; omega
    have h00 : decide (x < (first : Int)) = false := by simp; omega
    by_cases h1 : x - first < (ns 2).length
    · have hi0 : 0 ≤ x - (first : Int) := by omega
      have HE := hide (show cntF first ns x = gb (ns 2) (x - first).toNat by unfold cntF; rw [if_pos (by omega)])
      have hb := R.cc (x - first).toNat (by omega)
      have h11 : decide (((ns 2).length : Int) ≤ x - first) = false := by simp; omega
      rw [show (x - (first : Int)).toNat = x.toNat - first by omega] at hb HE
      clear R
      generalize gb (ns 2) (x.toNat - first) = y at HE hb
      go_enter Try.func27, Try.ntmps27
      go_wp2_with fail
      go_quiet (fail)
      go_wp2
      go_quiet (fail)
      go_wp2
      go_ret
      exact ⟨by rw [HE.out]; rfl, _, World.drewN_drewN _ _ _⟩
    · have HE := hide (show cntF first ns x = 0 by unfold cntF; rw [if_neg (by omega)])
      have h11 : decide (((ns 2).length : Int) ≤ x - first) = true := by simp; omega
      clear R
      go_enter Try.func27, Try.ntmps27
      go_wp2_with fail
      go_quiet (fail)
      go_wp2
      go_ret
      exact ⟨by rw [HE.out]; rfl, _, rfl⟩
end
end Go.Proofs.Ytfbegickdnjfcaa
