/-
  The gate (parapet/resv): 'IsGt w g H L R v ss': the struct in block g: its heap's Size, Live, Reserved, its row of seats. Its small calls: closed, at, Inside, room, Heap, Stalled.
-/
import Derived.Test.YtflgcnlncljefaaResvRow
namespace Go.Proofs.Ytflgcnlncljefaa
open Go.ChangeShapes Go.WideShapes Go.ChangeAt Go.RowKit
set_option linter.unusedVariables false

structure IsGt (w : World) (g : Nat) (H L R : Int) (v : Value) (ss : List ST) : Prop where
  blk : Blk w g 59 #[.int .i64 H, .int .i64 L, .int .i64 R, v]
  row : SRw w v ss
  size : 1 ≤ H ∧ H ≤ 1073741824
  few : ss.length ≤ 64

section
variable {w w' : World} {g : Nat} {H L R : Int} {v : Value} {ss : List ST} {S : List Nat}
theorem IsGt.only (h : IsGt w g H L R v ss) (ho : Only S w w') (hg : g ∉ S) (hs : ∀ k, v.ownBlock = some k → k ∉ S) : IsGt w' g H L R v ss :=
  ⟨h.blk.only ho hg, h.row.only ho hs, h.size, h.few⟩
theorem IsGt.drewN (h : IsGt w g H L R v ss) (n : Nat) : IsGt (w.drewN n) g H L R v ss := ⟨h.blk, h.row, h.size, h.few⟩
theorem IsGt.alloc (h : IsGt w g H L R v ss) (o : Obj) : IsGt (w.alloc o) g H L R v ss := h.only ((Only.refl [] w).alloc o) (by simp) (by simp)

theorem gclosed_is (h : IsGt w g H L R v ss) : Calls Try.prog 31 #[.pointer (some ⟨g, 0, none⟩)] w fun e w' => e = .returned (.bool false) ∧ w = w' := by
  have hc : w.cell? ⟨g, 0, none⟩ = some (.int .i64 H) := h.blk.cell 0
  have h1 := h.size.1
  have hne : (H == 0) = false := beq_eq_false_iff_ne.2 (by omega)
  clear h
  go_enter Try.func31, Try.ntmps31
  go_wp2
  go_ret
  exact ⟨rfl, rfl⟩

/-- Where a call's seat is; below 0 if it has none. -/
def atI (ss : List ST) (id : Int) : Int := match ss.findIdx? (fun s => s.id == id) with | some i => (i : Int) | none => -1
theorem atI_yes {ss : List ST} {id : Int} {i : Nat} {s : ST} (hs : ss[i]? = some s) (he : s.id = id) (hf : ∀ j s', j < i → ss[j]? = some s' → s'.id ≠ id) : atI ss id = i := by
  have hi := (List.getElem?_eq_some_iff.1 hs).1
  have : ss.findIdx? (fun s => s.id == id) = some i := by
    rw [List.findIdx?_eq_some_iff_getElem]
    refine ⟨hi, ?_, fun j hj => ?_⟩
    · rw [(List.getElem?_eq_some_iff.1 hs).2]; simp [he]
    · have := hf j _ hj (List.getElem?_eq_getElem (by omega))
      simpa using this
  unfold atI
  rw [this]
theorem atI_no {ss : List ST} {id : Int} (hf : ∀ s ∈ ss, s.id ≠ id) : atI ss id = -1 := by
  have : ss.findIdx? (fun s => s.id == id) = none := by
    rw [List.findIdx?_eq_none_iff]
    intro x hx
    simpa using hf x hx
  unfold atI
  rw [this]
theorem atI_cases (ss : List ST) (id : Int) : (atI ss id = -1 ∧ ∀ s ∈ ss, s.id ≠ id) ∨ ∃ (i : Nat) (s : ST), ss[i]? = some s ∧ s.id = id ∧ atI ss id = i ∧ ∀ (j : Nat) (s' : ST), j < i → ss[j]? = some s' → s'.id ≠ id := by
  cases hF : ss.findIdx? (fun s => s.id == id) with
  | none =>
    left
    rw [List.findIdx?_eq_none_iff] at hF
    refine ⟨by unfold atI; rw [show ss.findIdx? (fun s => s.id == id) = none from by rw [List.findIdx?_eq_none_iff]; exact hF], fun s hs => by simpa using hF s hs⟩
  | some i =>
    right
    have hF' := hF
    rw [List.findIdx?_eq_some_iff_getElem] at hF
    obtain ⟨hi, h1, h2⟩ := hF
    refine ⟨i, ss[i], List.getElem?_eq_getElem hi, by simpa using h1, by unfold atI; rw [hF'], fun j s' hj hs => ?_⟩
    have := h2 j hj
    rw [(List.getElem?_eq_some_iff.1 hs).2] at this
    simpa using this

theorem gat1_is (s : ST) (id : Int) (b : Nat) (hc : w.cell? ⟨b, 0, none⟩ = some (.int .i64 id)) :
    Calls Try.prog 39 #[.agg #[.int .i64 s.id, .int .i64 s.bound, .int .i64 s.taken, .bool s.waits], .pointer (some ⟨b, 0, none⟩)] w fun e w' => e = .returned (.bool (s.id == id)) ∧ Only [] w w' := by
  have h1 : ∀ o, (w.alloc o).cell? ⟨b, 0, none⟩ = some (.int .i64 id) := fun o => Lib.cell?_alloc_some _ hc
  have HO := hide (fun o => (Only.refl [] w).alloc o)
  clear hc
  go_enter Try.func39, Try.ntmps39
  go_wp2
  go_ret
  exact ⟨rfl, HO.out _⟩

def SIdxIn (w : World) (ss : List ST) (id : Int) (iv : Value) (wr : World) : Prop := ∃ k : Nat, k ≤ ss.length ∧ iv = .int .i64 k ∧ (∀ j s', j < k → ss[j]? = some s' → s'.id ≠ id) ∧ Only [] w wr
theorem idxS_is (h : SRw w v ss) (hf : ss.length ≤ 64) (id : Int) (b : Nat) (hc : w.cell? ⟨b, 0, none⟩ = some (.int .i64 id)) :
    Calls Try.prog 38 #[v, .func (.func 39) #[] #[.pointer (some ⟨b, 0, none⟩)]] w fun e w' => e = .returned (.int .i64 (atI ss id)) ∧ Only [] w w' := by
  obtain ⟨A, cap, rfl, hA⟩ := h.form
  have HA := hide hA
  have HR := hide h
  have hbl : b < w.heap.size := World.block_lt_of_cell? w _ hc
  have HC := hide hc
  clear h hA hc
  go_enter Try.func38, Try.ntmps38
  go_wp2
  go_loopw [8] (fun iv wr => SIdxIn w ss id iv wr) (fun iv _ => ss.length - (intOf iv).toNat)
  case atStart => exact ⟨0, Nat.zero_le _, rfl, fun j s' hj => absurd hj (by omega), Only.refl _ _⟩
  case round =>
    obtain ⟨k, hk, rfl, hne, hwr⟩ := hrel
    have HN := hide hne
    have HW := hide hwr
    by_cases hlt : k < ss.length
    · obtain ⟨q, rfl, hq⟩ := HA.out (by omega)
      obtain ⟨s, hs⟩ : ∃ s, ss[k]? = some s := ⟨_, List.getElem?_eq_getElem hlt⟩
      obtain ⟨c0, c1, c2, c3⟩ := (HR.out.only hwr (by simp)).cell rfl rfl hs
      have HB := hide (gat1_is (w := wr) s id b ((hwr.cell hbl (by simp)).trans HC.out))
      have HS := hide hs
      clear hne hwr hs
      by_cases he : s.id = id
      · have he2 : (s.id == id) = true := by rw [he]; simp
        rw [he2] at HB
        have HE := hide he
        clear he he2
        go_wp2_with (go_at_call 39; refine HB.out.mono ?_; rintro e w' ⟨rfl, ho⟩; have HO := hide ho; clear ho)
        go_ret
        exact ⟨by rw [atI_yes HS.out HE.out HN.out]; rfl, HW.out.trans HO.out⟩
      · have he2 : (s.id == id) = false := beq_eq_false_iff_ne.2 he
        rw [he2] at HB
        have HE := hide he
        clear he he2
        go_wp2_with (go_at_call 39; refine HB.out.mono ?_; rintro e w' ⟨rfl, ho⟩; have HO := hide ho; clear ho)
        go_roundw
        case rel =>
          refine ⟨k + 1, hlt, by go_num, fun j s' hj hs' => ?_, HW.out.trans HO.out⟩
          by_cases hjk : j = k
          · subst hjk
            rw [HS.out] at hs'
            injection hs' with hs'
            rw [← hs']; exact HE.out
          · exact HN.out j s' (by omega) hs'
        case measure => simp [intOf]; omega
    · obtain rfl : k = ss.length := by omega
      clear hne hwr
      go_wp2
      go_ret
      exact ⟨by rw [atI_no fun s hs => by obtain ⟨j, hj, e⟩ := List.getElem_of_mem hs; exact HN.out j s hj (by rw [List.getElem?_eq_getElem hj, e])]; rfl, HW.out⟩

theorem gat_is (h : IsGt w g H L R v ss) (id : Int) : Calls Try.prog 32 #[.pointer (some ⟨g, 0, none⟩), .int .i64 id] w fun e w' => e = .returned (.int .i64 (atI ss id)) ∧ Only [] w w' := by
  have HG := hide (fun o => h.alloc o)
  have hc3 : ∀ o, (w.alloc o).cell? ⟨g, 3, none⟩ = some v := fun o => (h.alloc o).blk.cell 3
  have hb : (w.alloc (.cells #[.int .i64 id] 3)).cell? ⟨w.heap.size, 0, none⟩ = some (.int .i64 id) := (Blk.new w 3 #[.int .i64 id]).cell 0
  have HI := hide (idxS_is (h.alloc (.cells #[.int .i64 id] 3)).row h.few id w.heap.size hb)
  obtain ⟨A, cap, rfl, _⟩ := h.row.form
  clear h hb
  go_enter Try.func32, Try.ntmps32
  go_wp2_with (first | (go_at_call 31; refine (gclosed_is (HG.out _)).mono ?_; rintro e w' ⟨rfl, rfl⟩) | (go_at_call 38; refine HI.out.mono ?_; rintro e w' ⟨rfl, ho⟩; have HO := hide ho; clear ho))
  go_ret
  exact ⟨rfl, ((Only.refl [] w).alloc _).trans HO.out⟩
end
end Go.Proofs.Ytflgcnlncljefaa
