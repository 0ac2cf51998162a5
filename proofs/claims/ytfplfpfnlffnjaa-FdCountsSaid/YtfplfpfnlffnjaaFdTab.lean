/-
  Open files (parapet/fdtab): tables of descriptors: closed, Table, Index of a free one, Get, Install.
-/
import Derived.Test.YtfplfpfnlffnjaaFdCall
namespace Go.Proofs.Ytfplfpfnlffnjaa
open Go.ChangeShapes Go.WideShapes Go.ChangeAt Go.RowKit Go.Maps
set_option linter.unusedVariables false
set_option linter.unusedSimpArgs false

/-- The first of these. -/
def fstI (p : Int → Bool) (ns : List Int) : Int := match ns.findIdx? p with | some i => (i : Int) | none => -1
section
variable {p : Int → Bool}
theorem fstI_yes {ns : List Int} {i : Nat} {s : Int} (hs : ns[i]? = some s) (he : p s = true) (hf : ∀ j s', j < i → ns[j]? = some s' → p s' = false) : fstI p ns = i := by
  have hi := (List.getElem?_eq_some_iff.1 hs).1
  have : ns.findIdx? p = some i := by
    rw [List.findIdx?_eq_some_iff_getElem]
    refine ⟨hi, ?_, fun j hj => ?_⟩
    · rw [(List.getElem?_eq_some_iff.1 hs).2]; exact he
    · have := hf j _ hj (List.getElem?_eq_getElem (by omega))
      simpa using this
  unfold fstI
  rw [this]
theorem fstI_no {ns : List Int} (hf : ∀ s ∈ ns, p s = false) : fstI p ns = -1 := by
  have : ns.findIdx? p = none := by
    rw [List.findIdx?_eq_none_iff]
    intro x hx
    simpa using hf x hx
  unfold fstI
  rw [this]
theorem fstI_cases (p : Int → Bool) (ns : List Int) : (fstI p ns = -1 ∧ ∀ s ∈ ns, p s = false) ∨ ∃ (i : Nat) (s : Int), ns[i]? = some s ∧ p s = true ∧ fstI p ns = i ∧ ∀ (j : Nat) (s' : Int), j < i → ns[j]? = some s' → p s' = false := by
  cases hF : ns.findIdx? p with
  | none =>
    left
    have hG := hF
    rw [List.findIdx?_eq_none_iff] at hG
    have hG' : ∀ s ∈ ns, p s = false := fun s hs => by simpa using hG s hs
    exact ⟨fstI_no hG', hG'⟩
  | some i =>
    right
    have hF' := hF
    rw [List.findIdx?_eq_some_iff_getElem] at hF
    obtain ⟨hi, h1, h2⟩ := hF
    refine ⟨i, ns[i], List.getElem?_eq_getElem hi, h1, by unfold fstI; rw [hF'], fun j s' hj hs => ?_⟩
    have := h2 j hj
    rw [(List.getElem?_eq_some_iff.1 hs).2] at this
    simpa using this
end
/-- A table's cells. -/
def tabC (f : Nat) (T : List Int) : List Value := .pointer (some ⟨f, 0, none⟩) :: T.map (Value.int .i64)
theorem tabC_get (f : Nat) {T : List Int} {i : Nat} (h : i < T.length) : (tabC f T).toArray[1 + i]? = some (.int .i64 (gb T i)) := by
  rw [Nat.add_comm]
  simp [tabC, gb, List.getElem?_eq_getElem h, List.getD]
theorem tabC_set (f : Nat) (T : List Int) (i : Nat) (x : Int) : (tabC f T).toArray.setIfInBounds (1 + i) (.int .i64 x) = (tabC f (T.set i x)).toArray := by
  rw [Nat.add_comm]
  simp [tabC, List.map_set]
theorem fill_set {i n : Nat} (h : i < n) : (List.replicate i (-1 : Int) ++ List.replicate (n - i) 0).set i (-1) = List.replicate (i + 1) (-1) ++ List.replicate (n - (i + 1)) 0 := by
  obtain ⟨k, rfl⟩ : ∃ k, n = i + 1 + k := ⟨n - (i + 1), by omega⟩
  rw [show i + 1 + k - i = k + 1 by omega, show i + 1 + k - (i + 1) = k by omega, List.replicate_succ, List.set_append_right _ _ (by simp), List.length_replicate, Nat.sub_self, List.set_cons_zero, List.replicate_succ', List.append_assoc]
  rfl
/-- A descriptor that names nothing. -/
abbrev isN (x : Int) : Bool := -1 == x
def freeT (T : List Int) : Int := fstI isN T
/-- A table of files f: 16 descriptors, each names nothing or a number. -/
structure IsTa (w : World) (t f : Nat) (T : List Int) : Prop where
  blk : Blk w t 62 (tabC f T).toArray
  len : T.length = 16
  rng : ∀ x ∈ T, -1 ≤ x ∧ x < 64
section
variable {w w' w1 : World} {t f m : Nat} {O : List (Int × F5)} {T : List Int} {S : List Nat} {k : Int} {x : F5}
theorem IsTa.c0 (h : IsTa w t f T) : w.cell? ⟨t, 0, none⟩ = some (.pointer (some ⟨f, 0, none⟩)) := h.blk.cell 0
theorem IsTa.ci (h : IsTa w t f T) {i : Nat} (hi : i < 16) : w.cell? ⟨t, 1 + i, none⟩ = some (.int .i64 (gb T i)) := (h.blk.cell _).trans (tabC_get f (by rw [h.len]; exact hi))
theorem IsTa.fr (h : IsTa w t f T) (i : Nat) : w.frozen? ⟨t, i, none⟩ = false := h.blk.frozen i
theorem IsTa.only (h : IsTa w t f T) (ho : Only S w w') (hs : t ∉ S) : IsTa w' t f T := ⟨h.blk.only ho hs, h.len, h.rng⟩
theorem IsTa.quiet (h : IsTa w t f T) (ho : Only [] w w') : IsTa w' t f T := h.only ho (by simp)
theorem IsTa.set (h : IsTa w t f T) (i : Nat) {y : Int} (hy : -1 ≤ y ∧ y < 64) : IsTa (w.setCell ⟨t, 1 + i, none⟩ (.int .i64 y)) t f (T.set i y) := by
  refine ⟨?_, by rw [List.length_set]; exact h.len, fun z hz => ?_⟩
  · have := h.blk.set_ (1 + i) (.int .i64 y)
    rwa [tabC_set] at this
  · rcases List.mem_or_eq_of_mem_set hz with e | e
    · exact h.rng z e
    · rw [e]; exact hy
theorem IsTa.gbr (h : IsTa w t f T) {i : Nat} (hi : i < 16) : -1 ≤ gb T i ∧ gb T i < 64 := by
  have : gb T i = T[i]'(by rw [h.len]; exact hi) := by simp [gb, List.getD, List.getElem?_eq_getElem (show i < T.length by rw [h.len]; exact hi)]
  rw [this]
  exact h.rng _ (List.getElem_mem _)
theorem tbclosed_is (h : IsTa w t f T) : Calls Try.prog 37 #[.pointer (some ⟨t, 0, none⟩)] w fun e w' => e = .returned (.bool false) ∧ w = w' := by
  have c0 := h.c0
  clear h
  go_enter Try.func37, Try.ntmps37
  go_wp2
  go_ret
  exact ⟨rfl, rfl⟩
theorem index_is (h : IsTa w t f T) : Calls Try.prog 41 #[.slice (some ⟨t, 1, none⟩) 16 16, .int .i64 (-1)] w fun e w' => e = .returned (.int .i64 (freeT T)) ∧ w = w' := by
  have HCI := hide (fun i (hi : i < 16) => h.ci hi)
  have hl := h.len
  clear h
  go_enter Try.func41, Try.ntmps41
  go_wp2_with fail
  go_loopw [8] (fun iv wr => ∃ i : Nat, i ≤ 16 ∧ iv = .int .i64 i ∧ (∀ j s', j < i → T[j]? = some s' → isN s' = false) ∧ wr = w) (fun iv _ => 16 - (intOf iv).toNat)
  case atStart => exact ⟨0, Nat.zero_le _, rfl, fun j s' hj => absurd hj (by omega), rfl⟩
  case round =>
    obtain ⟨i, hi, rfl, hn, rfl⟩ := hrel
    have HN := hide hn
    clear hn
    by_cases hlt : i < 16
    · have hltI : (i : Int) < 16 := by omega
      have ci := HCI.out i hlt
      have HS := hide (show T[i]? = some (gb T i) by simp [gb, List.getD, List.getElem?_eq_getElem (show i < T.length by omega)])
      generalize gb T i = y at *
      cases he : ((-1 : Int) == y)
      · have HE := hide he
        go_wp2
        go_roundw
        case rel =>
          refine ⟨i + 1, hlt, by go_num, fun j s' hj hs' => ?_, trivial⟩
          by_cases hjk : j = i
          · subst hjk
            rw [HS.out] at hs'
            injection hs' with hs'
            subst hs'
            exact HE.out
          · exact HN.out j s' (by omega) hs'
        case measure => simp [intOf]; omega
      · have HE := hide he
        go_wp2
        go_ret
        exact ⟨by rw [show freeT T = i from fstI_yes HS.out HE.out HN.out]; rfl, rfl⟩
    · obtain rfl : i = 16 := by omega
      go_wp2
      go_ret
      refine ⟨?_, rfl⟩
      rw [show freeT T = -1 from fstI_no fun s hs => ?_]
      · rfl
      · obtain ⟨j, hj, e⟩ := List.getElem_of_mem hs
        exact HN.out j s (by omega) (by rw [List.getElem?_eq_getElem hj, e])
theorem table_is (h : IsFi w f m O) : Calls Try.prog 23 #[.pointer (some ⟨f, 0, none⟩)] w fun e w' => e = .returned (.pointer (some ⟨w.heap.size, 0, none⟩)) ∧ IsTa w' w.heap.size f (List.replicate 16 (-1)) ∧ Only [] w w' := by
  have HC := hide (fdclosed_is h)
  clear h
  go_enter Try.func23, Try.ntmps23
  go_wp2_with (go_at_call 38; refine HC.out.mono ?_; rintro e w' ⟨rfl, rfl⟩)
  go_loopw [10] (fun iv wr => ∃ i : Nat, i ≤ 16 ∧ iv = .int .i64 i ∧ Blk wr w.heap.size 62 (tabC f (List.replicate i (-1) ++ List.replicate (16 - i) 0)).toArray ∧ Only [] w wr) (fun iv _ => 16 - (intOf iv).toNat)
  case atStart => exact ⟨0, Nat.zero_le _, rfl, Blk.new w _ _, (Only.refl _ _).alloc _⟩
  case round =>
    obtain ⟨i, hi, rfl, hb, ho⟩ := hrel
    by_cases hlt : i < 16
    · have hltI : (i : Int) < 16 := by omega
      have ci := (hb.cell (1 + i)).trans (tabC_get f (by simp; omega))
      have fi := hb.frozen (1 + i)
      have HB := hide hb
      have HO := hide ho
      clear hb ho
      go_wp2
      go_roundw
      case rel =>
        refine ⟨i + 1, hlt, by go_num, ?_, HO.out.setCell _ (fun hlt => absurd hlt (Nat.lt_irrefl _))⟩
        have := HB.out.set_ (1 + i) (.int .i64 (-1))
        rw [tabC_set] at this
        rwa [fill_set hlt] at this
      case measure => simp [intOf]; omega
    · obtain rfl : i = 16 := by omega
      have HB := hide hb
      have HO := hide ho
      clear hb ho
      go_wp2
      go_ret
      exact ⟨rfl, ⟨by simpa using HB.out, by simp, by simp⟩, HO.out⟩
end
end Go.Proofs.Ytfplfpfnlffnjaa
