/-
  The document's own gate (parapetref09): 'IsR9 w x H L v ss': the struct in block x: Size, Live, its row of seats. New, Reserved, find, Stalled, lets.
-/
import Derived.Test.YtflgcnlncljefaaResvOrder
namespace Go.Proofs.Ytflgcnlncljefaa
open Go.ChangeShapes Go.WideShapes Go.ChangeAt Go.RowKit
set_option linter.unusedVariables false

structure IsR9 (w : World) (x : Nat) (H L : Int) (v : Value) (ss : List ST) : Prop where
  blk : Blk w x 61 #[.int .i64 H, .int .i64 L, v]
  row : SRw w v ss

section
variable {w w' : World} {x : Nat} {H L R : Int} {v : Value} {ss : List ST} {S : List Nat}
theorem IsR9.only (h : IsR9 w x H L v ss) (ho : Only S w w') (hg : x ∉ S) (hs : ∀ k, v.ownBlock = some k → k ∉ S) : IsR9 w' x H L v ss :=
  ⟨h.blk.only ho hg, h.row.only ho hs⟩
theorem IsR9.drewN (h : IsR9 w x H L v ss) (n : Nat) : IsR9 (w.drewN n) x H L v ss := ⟨h.blk, h.row⟩
theorem IsR9.alloc (h : IsR9 w x H L v ss) (o : Obj) : IsR9 (w.alloc o) x H L v ss := h.only ((Only.refl [] w).alloc o) (by simp) (by simp)
theorem IsR9.far (h : IsR9 w x H L v ss) : ∀ q, v.ownBlock = some q → q ≠ x := h.row.apart h.blk (by decide)
theorem IsR9.setL (h : IsR9 w x H L v ss) (y : Int) : IsR9 (w.setCell ⟨x, 1, none⟩ (.int .i64 y)) x H y v ss :=
  ⟨h.blk.set_ 1 _, h.row.only ((Only.refl [x] w).setCell _ (by simp)) (fun q hq hm => h.far q hq (by simpa using hm))⟩
theorem slice_own {v : Value} (h : SRw w v ss) (hp : 0 < ss.length) {A : Option Addr} {n cap : Nat} (hv : v = .slice A n cap) {b o : Nat} (hA : A = some ⟨b, o, none⟩) : v.ownBlock = some b := by
  obtain ⟨b', cap', cur, e, _⟩ := h.blk hp
  rw [hv, hA] at e
  injection e with e
  injection e with e
  injection e with e1 e2
  rw [hv, hA, e1, e2]
  rfl
theorem IsR9.put (h : IsR9 w x H L v ss) {A : Option Addr} {n cap : Nat} (hv : v = .slice A n cap) {b : Nat} {o : Nat} (hA : A = some ⟨b, o, none⟩) {i k : Nat} {s s' : ST} {u : Value} (hk : k < 4) (hs : ss[i]? = some s) (hc : s.cells.set k u = s'.cells) :
    IsR9 (w.setCell ⟨b, i * 4 + k, none⟩ u) x H L v (ss.set i s') := by
  have hi := (List.getElem?_eq_some_iff.1 hs).1
  have ho := slice_own h.row (by omega) hv hA
  exact ⟨h.blk.far (fun e => h.far b ho e.symm) _, h.row.put hv hA hk hs hc⟩
theorem IsR9.setV (h : IsR9 w x H L v ss) {w1 : World} {v' : Value} {ss' : List ST} (hr : SRw w1 v' ss') (hb : Blk w1 x 61 #[.int .i64 H, .int .i64 L, v]) : IsR9 (w1.setCell ⟨x, 2, none⟩ v') x H L v' ss' :=
  ⟨hb.set_ 2 _, hr.only ((Only.refl [x] w1).setCell _ (by simp)) (fun q hq hm => hr.apart hb (by decide) q hq (by simpa using hm))⟩

theorem resvL_take {i : Nat} {s : ST} (hs : ss[i]? = some s) : resvL (ss.take (i + 1)) = resvL (ss.take i) + (if s.waits = true then 0 else s.bound) := by
  have hi := (List.getElem?_eq_some_iff.1 hs).1
  rw [List.take_succ_eq_append_getElem hi, (List.getElem?_eq_some_iff.1 hs).2, resvL_append]
  simp [resvL]
theorem resvL_part (h : Small H L R ss) (i : Nat) : 0 ≤ resvL (ss.take i) ∧ resvL (ss.take i) ≤ resvL ss := by
  have h1 : 0 ≤ resvL (ss.take i) := resvL_pos fun s hs => (h.seat s (List.mem_of_mem_take hs)).1
  have h2 : 0 ≤ resvL (ss.drop i) := resvL_pos fun s hs => (h.seat s (List.mem_of_mem_drop hs)).1
  have e : resvL ss = resvL (ss.take i) + resvL (ss.drop i) := by rw [← resvL_append, List.take_append_drop]
  omega

set_option maxHeartbeats 1500000 in
theorem r9Reserved_is (h : IsR9 w x H L v ss) (hs : Small H L (resvL ss) ss) : Calls Try.prog 29 #[.pointer (some ⟨x, 0, none⟩)] w fun e w' => e = .returned (.int .i64 (resvL ss)) ∧ w' = w := by
  obtain ⟨A, cap, rfl, hA⟩ := h.row.form
  have HA := hide hA
  have HR := hide h.row
  have HS := hide hs
  have hf64 := hs.few
  have c2 : w.cell? ⟨x, 2, none⟩ = some (.slice A ss.length cap) := h.blk.cell 2
  clear h hA hs
  go_enter Try.func29, Try.ntmps29
  go_wp2
  go_loopw [3, 4] (fun nv iv wr => ∃ i : Nat, i ≤ ss.length ∧ iv = .int .i64 i ∧ nv = .int .i64 (resvL (ss.take i)) ∧ wr = w) (fun _ iv _ => ss.length - (intOf iv).toNat)
  case atStart => exact ⟨0, Nat.zero_le _, rfl, rfl, rfl⟩
  case round =>
    obtain ⟨i, hi, rfl, rfl, rfl⟩ := hrel
    by_cases hlt : i < ss.length
    · obtain ⟨b, rfl, _⟩ := HA.out (by omega)
      obtain ⟨s, hsi⟩ : ∃ s, ss[i]? = some s := ⟨_, List.getElem?_eq_getElem hlt⟩
      obtain ⟨q0, q1, q2, q3⟩ := HR.out.cell rfl rfl hsi
      have HT := hide (resvL_take hsi)
      have hp := resvL_part HS.out i
      have hp2 := resvL_part HS.out (i + 1)
      have hsz := HS.out.size
      have hsu := HS.out.sum
      have hl0 := HS.out.l0
      cases hw : s.waits with
      | true =>
        rw [hw] at q3
        have HW := hide hw
        clear hp hp2 hsz hsu hl0 hw hsi
        go_wp2
        go_roundw
        case rel => exact ⟨i + 1, hlt, by go_num, by rw [HT.out, HW.out]; simp, trivial⟩
        case measure => simp [intOf]; omega
      | false =>
        rw [hw] at q3
        have HW := hide hw
        have e1 : IntKind.i64.wrap (resvL (ss.take i) + s.bound) = resvL (ss.take i) + s.bound := by
          have := HT.out
          rw [hw] at this
          simp at this
          rw [IntKind.wrap_i64]; omega
        clear hp hp2 hsz hsu hl0 hw hsi
        go_wp2
        go_roundw
        case rel => exact ⟨i + 1, hlt, by go_num, by rw [HT.out, HW.out]; simp, trivial⟩
        case measure => simp [intOf]; omega
    · obtain rfl : i = ss.length := by omega
      go_wp2
      go_ret
      exact ⟨by rw [List.take_length]; rfl, rfl⟩

theorem r9find_is (h : IsR9 w x H L v ss) (hf : ss.length ≤ 64) (id : Int) : Calls Try.prog 36 #[.pointer (some ⟨x, 0, none⟩), .int .i64 id] w fun e w' => e = .returned (.int .i64 (atI ss id)) ∧ w' = w := by
  obtain ⟨A, cap, rfl, hA⟩ := h.row.form
  have HA := hide hA
  have HR := hide h.row
  have c2 : w.cell? ⟨x, 2, none⟩ = some (.slice A ss.length cap) := h.blk.cell 2
  clear h hA
  go_enter Try.func36, Try.ntmps36
  go_wp2
  go_loopw [5] (fun iv wr => ∃ k : Nat, k ≤ ss.length ∧ iv = .int .i64 k ∧ (∀ j s', j < k → ss[j]? = some s' → s'.id ≠ id) ∧ wr = w) (fun iv _ => ss.length - (intOf iv).toNat)
  case atStart => exact ⟨0, Nat.zero_le _, rfl, fun j s' hj => absurd hj (by omega), rfl⟩
  case round =>
    obtain ⟨k, hk, rfl, hne, rfl⟩ := hrel
    have HN := hide hne
    clear hne
    by_cases hlt : k < ss.length
    · obtain ⟨b, rfl, _⟩ := HA.out (by omega)
      obtain ⟨s, hsi⟩ : ∃ s, ss[k]? = some s := ⟨_, List.getElem?_eq_getElem hlt⟩
      obtain ⟨q0, q1, q2, q3⟩ := HR.out.cell rfl rfl hsi
      have HS := hide hsi
      clear hsi
      by_cases he : s.id = id
      · have he2 : (s.id == id) = true := by rw [he]; simp
        have HE := hide he
        clear he
        go_wp2
        go_ret
        exact ⟨by rw [atI_yes HS.out HE.out HN.out]; rfl, rfl⟩
      · have he2 : (s.id == id) = false := beq_eq_false_iff_ne.2 he
        have HE := hide he
        clear he
        go_wp2
        go_roundw
        case rel =>
          refine ⟨k + 1, hlt, by go_num, fun j s' hj hs' => ?_, trivial⟩
          by_cases hjk : j = k
          · subst hjk
            rw [HS.out] at hs'
            injection hs' with hs'
            rw [← hs']; exact HE.out
          · exact HN.out j s' (by omega) hs'
        case measure => simp [intOf]; omega
    · obtain rfl : k = ss.length := by omega
      go_wp2
      go_ret
      exact ⟨by rw [atI_no fun s hs => by obtain ⟨j, hj, e⟩ := List.getElem_of_mem hs; exact HN.out j s hj (by rw [List.getElem?_eq_getElem hj, e])]; rfl, rfl⟩

theorem r9Stalled_is (h : IsR9 w x H L v ss) : Calls Try.prog 30 #[.pointer (some ⟨x, 0, none⟩)] w fun e w' => e = .returned (.bool (stallB ss)) ∧ w' = w := by
  obtain ⟨A, cap, rfl, hA⟩ := h.row.form
  have c2 : w.cell? ⟨x, 2, none⟩ = some (.slice A ss.length cap) := h.blk.cell 2
  cases ss with
  | nil =>
    clear h hA
    go_enter Try.func30, Try.ntmps30
    go_wp2
    go_ret
    exact ⟨rfl, rfl⟩
  | cons s r =>
    obtain ⟨b, rfl, hb⟩ := hA (by simp)
    obtain ⟨_, _, _, k3⟩ := h.row.cell rfl rfl (i := 0) (s := s) rfl
    rw [show 0 * 4 + 3 = 3 from rfl] at k3
    have hp : (0 : Int) < ((s :: r).length : Nat) := by simp
    have hp2 : 0 < (s :: r).length := by simp
    clear h hA
    go_enter Try.func30, Try.ntmps30
    go_wp2
    go_ret
    exact ⟨rfl, rfl⟩
end
end Go.Proofs.Ytflgcnlncljefaa
