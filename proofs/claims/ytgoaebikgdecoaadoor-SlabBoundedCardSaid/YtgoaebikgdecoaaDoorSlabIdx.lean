/-
  Slabs (parapet/slab): slices.IndexFunc over slabs, with the two predicates of Alloc and build.
-/
import Derived.Test.YtgoaebikgdecoaaDoorSlabMap
namespace Go.Proofs.YtgoaebikgdecoaaDoor
open Go.ChangeShapes Go.WideShapes Go.ChangeAt Go.RowKit
set_option linter.unusedVariables false

/-- The first slab that is so; below 0 if none is. -/
def firstI (p : SL → Bool) (ss : List SL) : Int := match ss.findIdx? p with | some i => (i : Int) | none => -1
section
variable {p : SL → Bool}
theorem firstI_yes {ss : List SL} {i : Nat} {s : SL} (hs : ss[i]? = some s) (he : p s = true) (hf : ∀ j s', j < i → ss[j]? = some s' → p s' = false) : firstI p ss = i := by
  have hi := (List.getElem?_eq_some_iff.1 hs).1
  have : ss.findIdx? p = some i := by
    rw [List.findIdx?_eq_some_iff_getElem]
    refine ⟨hi, ?_, fun j hj => ?_⟩
    · rw [(List.getElem?_eq_some_iff.1 hs).2]; exact he
    · have := hf j _ hj (List.getElem?_eq_getElem (by omega))
      simpa using this
  unfold firstI
  rw [this]
theorem firstI_no {ss : List SL} (hf : ∀ s ∈ ss, p s = false) : firstI p ss = -1 := by
  have : ss.findIdx? p = none := by
    rw [List.findIdx?_eq_none_iff]
    intro x hx
    simpa using hf x hx
  unfold firstI
  rw [this]
theorem firstI_cases (p : SL → Bool) (ss : List SL) : (firstI p ss = -1 ∧ ∀ s ∈ ss, p s = false) ∨ ∃ (i : Nat) (s : SL), ss[i]? = some s ∧ p s = true ∧ firstI p ss = i ∧ ∀ (j : Nat) (s' : SL), j < i → ss[j]? = some s' → p s' = false := by
  cases hF : ss.findIdx? p with
  | none =>
    left
    have hG := hF
    rw [List.findIdx?_eq_none_iff] at hG
    have hG' : ∀ s ∈ ss, p s = false := fun s hs => by simpa using hG s hs
    exact ⟨firstI_no hG', hG'⟩
  | some i =>
    right
    have hF' := hF
    rw [List.findIdx?_eq_some_iff_getElem] at hF
    obtain ⟨hi, h1, h2⟩ := hF
    refine ⟨i, ss[i], List.getElem?_eq_getElem hi, h1, by unfold firstI; rw [hF'], fun j s' hj hs => ?_⟩
    have := h2 j hj
    rw [(List.getElem?_eq_some_iff.1 hs).2] at this
    simpa using this
end
/-- A slab with a place for an object of that kind. -/
def hasK (kind : Int) (s : SL) : Bool := decide (s.kind = kind) && decide (s.free ≠ 0)
def noK (s : SL) : Bool := decide (s.kind = 0)
def IdxIn (p : SL → Bool) (w : World) (ss : List SL) (iv : Value) (wr : World) : Prop := ∃ k : Nat, k ≤ ss.length ∧ iv = .int .i64 k ∧ (∀ j s', j < k → ss[j]? = some s' → p s' = false) ∧ Only [] w wr
section
variable {w w' : World} {v : Value} {ss : List SL}
theorem hbuild1_is (s : SL) : Calls Tryd.prog 48 #[.agg #[.int .i64 s.kind, .int .u64 s.free]] w fun e w' => e = .returned (.bool (noK s)) ∧ Only [] w w' := by
  have HO := hide (fun o => (Only.refl [] w).alloc o)
  go_enter Tryd.func48, Tryd.ntmps48
  go_wp2
  go_ret
  exact ⟨by simp only [noK]; by_cases h : s.kind = 0 <;> simp [h], HO.out _⟩
theorem hAlloc1_is (s : SL) (kind : Int) (b : Nat) (hc : w.cell? ⟨b, 0, none⟩ = some (.int .i64 kind)) :
    Calls Tryd.prog 30 #[.agg #[.int .i64 s.kind, .int .u64 s.free], .pointer (some ⟨b, 0, none⟩)] w fun e w' => e = .returned (.bool (hasK kind s)) ∧ Only [] w w' := by
  have h1 : ∀ o, (w.alloc o).cell? ⟨b, 0, none⟩ = some (.int .i64 kind) := fun o => Lib.cell?_alloc_some _ hc
  have HO := hide (fun o => (Only.refl [] w).alloc o)
  clear hc
  by_cases hk : s.kind = kind
  · have he : (s.kind == kind) = true := by simp [hk]
    have HE := hide (show hasK kind s = decide (s.free ≠ 0) by unfold hasK; simp [hk])
    clear hk
    by_cases hf : s.free = 0
    · have HF := hide hf
      have hfb : ((s.free : Int) != 0) = false := by simp [hf]
      clear hf
      go_enter Tryd.func30, Tryd.ntmps30
      go_wp2
      go_ret
      exact ⟨by rw [HE.out, HF.out]; rfl, HO.out _⟩
    · have HF := hide hf
      have hfb : ((s.free : Int) != 0) = true := by simp; omega
      clear hf
      go_enter Tryd.func30, Tryd.ntmps30
      go_wp2
      go_ret
      exact ⟨by rw [HE.out]; simp [HF.out], HO.out _⟩
  · have he : (s.kind == kind) = false := beq_eq_false_iff_ne.2 hk
    have HE := hide (show hasK kind s = false by unfold hasK; simp [hk])
    clear hk
    go_enter Tryd.func30, Tryd.ntmps30
    go_wp2
    go_ret
    exact ⟨by rw [HE.out]; rfl, HO.out _⟩
theorem idxBuild_is (h : LRw w v ss) (hf : ss.length ≤ 1000) :
    Calls Tryd.prog 29 #[v, .func (.func 48) #[] #[]] w fun e w' => e = .returned (.int .i64 (firstI (noK) ss)) ∧ Only [] w w' := by
  obtain ⟨A, cap, rfl, hA⟩ := h.form
  have HA := hide hA
  have HR := hide h
  clear h hA
  go_enter Tryd.func29, Tryd.ntmps29
  go_wp2
  go_loopw [8] (fun iv wr => IdxIn (noK) w ss iv wr) (fun iv _ => ss.length - (intOf iv).toNat)
  case atStart => exact ⟨0, Nat.zero_le _, rfl, fun j s' hj => absurd hj (by omega), Only.refl _ _⟩
  case round =>
    obtain ⟨k, hk, rfl, hne, hwr⟩ := hrel
    have HN := hide hne
    have HW := hide hwr
    by_cases hlt : k < ss.length
    · obtain ⟨q, rfl, hq⟩ := HA.out (by omega)
      obtain ⟨s, hs⟩ : ∃ s, ss[k]? = some s := ⟨_, List.getElem?_eq_getElem hlt⟩
      obtain ⟨c0, c1⟩ := (HR.out.only hwr (by simp)).cell rfl rfl hs
      have HB := hide (hbuild1_is (w := wr) s)
      have HS := hide hs
      clear hne hwr hs
      cases he : (noK) s
      · rw [he] at HB
        have HE := hide he
        clear he
        go_wp2_with (go_at_call 48; refine HB.out.mono ?_; rintro e w' ⟨rfl, ho⟩; have HO := hide ho; clear ho)
        go_roundw
        case rel =>
          refine ⟨k + 1, hlt, by go_num, fun j s' hj hs' => ?_, HW.out.trans HO.out⟩
          by_cases hjk : j = k
          · subst hjk
            rw [HS.out] at hs'
            injection hs' with hs'
            rw [← hs']; exact HE.out
          · exact HN.out j s' (by omega) hs'
        case measure => simp [intOf]; omega
      · rw [he] at HB
        have HE := hide he
        clear he
        go_wp2_with (go_at_call 48; refine HB.out.mono ?_; rintro e w' ⟨rfl, ho⟩; have HO := hide ho; clear ho)
        go_ret
        exact ⟨by rw [firstI_yes HS.out HE.out HN.out]; rfl, HW.out.trans HO.out⟩
    · obtain rfl : k = ss.length := by omega
      clear hne hwr
      go_wp2
      go_ret
      exact ⟨by rw [firstI_no fun s hs => by obtain ⟨j, hj, e⟩ := List.getElem_of_mem hs; exact HN.out j s hj (by rw [List.getElem?_eq_getElem hj, e])]; rfl, HW.out⟩
theorem idxAlloc_is (h : LRw w v ss) (hf : ss.length ≤ 1000) (kind : Int) (b : Nat) (hc : w.cell? ⟨b, 0, none⟩ = some (.int .i64 kind)) :
    Calls Tryd.prog 29 #[v, .func (.func 30) #[] #[.pointer (some ⟨b, 0, none⟩)]] w fun e w' => e = .returned (.int .i64 (firstI (hasK kind) ss)) ∧ Only [] w w' := by
  obtain ⟨A, cap, rfl, hA⟩ := h.form
  have HA := hide hA
  have HR := hide h
  have hbl : b < w.heap.size := World.block_lt_of_cell? w _ hc
  have HC := hide hc
  clear h hA hc
  go_enter Tryd.func29, Tryd.ntmps29
  go_wp2
  go_loopw [8] (fun iv wr => IdxIn (hasK kind) w ss iv wr) (fun iv _ => ss.length - (intOf iv).toNat)
  case atStart => exact ⟨0, Nat.zero_le _, rfl, fun j s' hj => absurd hj (by omega), Only.refl _ _⟩
  case round =>
    obtain ⟨k, hk, rfl, hne, hwr⟩ := hrel
    have HN := hide hne
    have HW := hide hwr
    by_cases hlt : k < ss.length
    · obtain ⟨q, rfl, hq⟩ := HA.out (by omega)
      obtain ⟨s, hs⟩ : ∃ s, ss[k]? = some s := ⟨_, List.getElem?_eq_getElem hlt⟩
      obtain ⟨c0, c1⟩ := (HR.out.only hwr (by simp)).cell rfl rfl hs
      have HB := hide (hAlloc1_is (w := wr) s kind b ((hwr.cell hbl (by simp)).trans HC.out))
      have HS := hide hs
      clear hne hwr hs
      cases he : (hasK kind) s
      · rw [he] at HB
        have HE := hide he
        clear he
        go_wp2_with (go_at_call 30; refine HB.out.mono ?_; rintro e w' ⟨rfl, ho⟩; have HO := hide ho; clear ho)
        go_roundw
        case rel =>
          refine ⟨k + 1, hlt, by go_num, fun j s' hj hs' => ?_, HW.out.trans HO.out⟩
          by_cases hjk : j = k
          · subst hjk
            rw [HS.out] at hs'
            injection hs' with hs'
            rw [← hs']; exact HE.out
          · exact HN.out j s' (by omega) hs'
        case measure => simp [intOf]; omega
      · rw [he] at HB
        have HE := hide he
        clear he
        go_wp2_with (go_at_call 30; refine HB.out.mono ?_; rintro e w' ⟨rfl, ho⟩; have HO := hide ho; clear ho)
        go_ret
        exact ⟨by rw [firstI_yes HS.out HE.out HN.out]; rfl, HW.out.trans HO.out⟩
    · obtain rfl : k = ss.length := by omega
      clear hne hwr
      go_wp2
      go_ret
      exact ⟨by rw [firstI_no fun s hs => by obtain ⟨j, hj, e⟩ := List.getElem_of_mem hs; exact HN.out j s hj (by rw [List.getElem?_eq_getElem hj, e])]; rfl, HW.out⟩
end
end Go.Proofs.YtgoaebikgdecoaaDoor
