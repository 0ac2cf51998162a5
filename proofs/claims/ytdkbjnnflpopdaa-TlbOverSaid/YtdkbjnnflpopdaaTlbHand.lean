/-
  Translations (parapet/tlb): put of a shootdown that is open; Handle of any hart.
-/
import Derived.Test.YtdkbjnnflpopdaaTlbBegin
import Derived.Test.YtdkbjnnflpopdaaTlbPend
namespace Go.Proofs.Ytdkbjnnflpopdaa
open Go.ChangeShapes Go.WideShapes Go.ChangeAt Go.RowKit Go.Maps
set_option linter.unusedVariables false

/-- The open ones, when one of them has turned. -/
def clr (O : List (Int × Sh)) (id : Int) (s : Sh) : List (Int × Sh) := if s.2.any (fun b => b) then setV O id s else outV O id
section
variable {w w' : World} {t hb ob n size : Nat} {begun : Int} {bs : Nat → Nat} {ls : Nat → List (K2 × K2)} {nx : Nat → Int} {O : List (Int × Sh)} {S : List Nat}
set_option maxRecDepth 100000 in
/-- put: somebody waits; it was open. -/
theorem put_set (T : IsTlb w t hb ob n size begun bs ls nx O) (id sp : Int) {s : Sh} (hp : (id, s) ∈ O) (hl : O.length < 4611686018427387904) (c0 c1 c2 c3 c4 c5 c6 c7 : Bool) (hw : (c0 || c1 || c2 || c3 || c4 || c5 || c6 || c7) = true) :
    Calls Try.prog 34 #[.pointer (some ⟨t, 0, none⟩), .int .i64 id, .agg #[.int .i64 sp, .bool c0, .bool c1, .bool c2, .bool c3, .bool c4, .bool c5, .bool c6, .bool c7]] w fun e w' => e = .returned (.tuple #[]) ∧ IsTlb w' t hb ob n size begun bs ls nx (setV O id (sp, [c0, c1, c2, c3, c4, c5, c6, c7])) ∧ Only [ob] w w' := by
  have HT := hide T
  obtain ⟨D, ho1, ho2⟩ := T.opn
  have hq := fun w => eql8_no w c0 c1 c2 c3 c4 c5 c6 c7
  simp only [hw, Bool.not_true] at hq
  obtain ⟨w8, hw8⟩ : ∃ w8 : World, (w.alloc (.cells #[.int .i64 sp, .bool c0, .bool c1, .bool c2, .bool c3, .bool c4, .bool c5, .bool c6, .bool c7] 72)).drew = w8 := ⟨_, rfl⟩
  have ho8 : Only [] w w8 := by rw [← hw8]; exact ((Only.refl _ _).alloc _).drew
  obtain ⟨w9, hrun9, hown9, ho9⟩ := storeS_old (s := (sp, [c0, c1, c2, c3, c4, c5, c6, c7])) ho2 (own_onlyS ho1 ho8 (by simp)) (by unfold maxLen; omega) hp rfl
  have HE := hide (And.intro ((T.new ho8).opened ho9 hown9 (ho2.old hp _)) ((ho8.mono (by simp)).trans ho9))
  rw [← hw8] at hrun9
  simp only [sV, List.map_cons, List.map_nil] at hrun9
  have hc3 : ∀ o1, (w.alloc o1).cell? ⟨t, 3, none⟩ = some (.map (some ob)) := fun o1 => (T.blk.alloc o1).cell 3
  clear T ho1 ho2 hown9 ho9 hw8 ho8 hw hp
  go_enter Try.func34, Try.ntmps34
  go_wp2_with fail
  go_region
  go_wp2
  exact bodyPost_end (results_none rfl _ _ _) rfl ⟨rfl, HE.out⟩

theorem put_any (T : IsTlb w t hb ob n size begun bs ls nx O) (id sp : Int) {s : Sh} (hp : (id, s) ∈ O) (hl : O.length < 4611686018427387904) (c0 c1 c2 c3 c4 c5 c6 c7 : Bool) :
    Calls Try.prog 34 #[.pointer (some ⟨t, 0, none⟩), .int .i64 id, .agg #[.int .i64 sp, .bool c0, .bool c1, .bool c2, .bool c3, .bool c4, .bool c5, .bool c6, .bool c7]] w fun e w' => e = .returned (.tuple #[]) ∧ IsTlb w' t hb ob n size begun bs ls nx (clr O id (sp, [c0, c1, c2, c3, c4, c5, c6, c7])) ∧ Only [ob] w w' := by
  unfold clr
  by_cases h : (c0 || c1 || c2 || c3 || c4 || c5 || c6 || c7) = true
  · rw [if_pos (by simpa [Bool.or_assoc] using h)]
    exact put_set T id sp hp hl _ _ _ _ _ _ _ _ h
  · rw [if_neg (by simpa [Bool.or_assoc] using h)]
    simp only [Bool.or_eq_true, not_or, Bool.not_eq_true] at h
    obtain ⟨⟨⟨⟨⟨⟨⟨rfl, rfl⟩, rfl⟩, rfl⟩, rfl⟩, rfl⟩, rfl⟩, rfl⟩ := h
    exact put_over T id sp hp hl
end
/-! ### what Handle does -/
def handL (h : Nat) : List Int → List (K2 × K2) → List (Int × Sh) → List (K2 × K2) × List (Int × Sh)
  | [], l, O => (l, O)
  | id :: r, l, O => match O.find? fun p => decide (p.1 = id) with
    | some p => handL h r (notSp p.2.1 l) (clr O id (p.2.1, p.2.2.set h false))
    | none => handL h r l O
theorem find_is {D : DataW Unit} {O : List (Int × Sh)} {id : Int} {s : Sh} (H : MHolds encS D O) (hp : (id, s) ∈ O) : (O.find? fun p => decide (p.1 = id)) = some (id, s) := by
  cases e : O.find? fun p => decide (p.1 = id) with
  | none =>
    have := List.find?_eq_none.1 e _ hp
    simp at this
  | some p =>
    have h1 := List.find?_some e
    have h2 := List.mem_of_find?_eq_some e
    rw [H.uniq h2 hp (by simpa using h1)]
theorem clr_mem {O : List (Int × Sh)} {id id' : Int} {s s' : Sh} (h : (id', s') ∈ O) (hne : id' ≠ id) : (id', s') ∈ clr O id s := by
  unfold clr
  split
  · unfold setV
    refine List.mem_map.2 ⟨_, h, ?_⟩
    rw [if_neg hne]
  · unfold outV
    exact List.mem_filter.2 ⟨h, by simpa using hne⟩
theorem clr_len (O : List (Int × Sh)) (id : Int) (s : Sh) : (clr O id s).length ≤ O.length := by
  unfold clr
  split
  · unfold setV; rw [List.length_map]; exact Nat.le_refl _
  · exact List.length_filter_le _ _
def bC (s : Sh) : Array Value := (Value.int .i64 s.1 :: s.2.map Value.bool).toArray
theorem bC_set (s : Sh) (h : Nat) : (bC s).setIfInBounds (1 + h) (.bool false) = bC (s.1, s.2.set h false) := by
  unfold bC
  rw [List.setIfInBounds_toArray, Nat.add_comm, List.set_cons_succ, List.map_set]
end Go.Proofs.Ytdkbjnnflpopdaa
