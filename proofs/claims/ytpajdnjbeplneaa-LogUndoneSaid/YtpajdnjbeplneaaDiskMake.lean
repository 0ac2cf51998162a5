/-
  New, Load of parapet/disk; and the calls that don't write.
-/
import Derived.Test.YtpajdnjbeplneaaDisk
import Derived.Laws.MakeOwn
namespace Go.Proofs.Ytpajdnjbeplneaa
open Go.ChangeShapes Go.WideShapes Go.ChangeAt Go.RowKit Go.Maps
set_option linter.unusedVariables false

theorem with_ok (w : World) (pb N pc : Nat) (pr : List Value) (plat : List Int) (hr : Blk w pb 5 (u8l plat ++ pr).toArray) (hl : plat.length = 512 * N) (hc : 512 * N + pr.length = pc) (h1 : 1 ≤ N) (h2 : N ≤ 4096) (hu : U8 plat) :
    Calls Try.prog 56 #[.slice (some ⟨pb, 0, none⟩) (512 * N) pc] w fun e w' => ∃ g mb, e = .returned (.pointer (some ⟨g, 0, none⟩)) ∧ w.heap.size ≤ g ∧ w.heap.size ≤ mb ∧ Only [] w w' ∧ IsDisk w' g pb pc mb pr (.slice none 0 0) (.map []) N plat [] (-1) 0 0 0 := by
  have hmm := @run_makeMap Try.prog
  go_enter Try.func56, Try.ntmps56
  go_wp2
  go_ret
  have o1 : Only [] w (w.alloc (.map #[] 0)) := (Only.refl _ _).alloc _
  have hown : (w.alloc (.map #[] 0)).ownsMap Try.prog 3 (plainElem Try.prog 3) w.heap.size 0 (.map [] : DataW Unit) := World.ownsMap_made _ _ _ _
  have hb := Blk.new (w.alloc (.map #[] 0)) 109 #[.slice (some ⟨pb, 0, none⟩) (512 * N) pc, .slice none 0 0, .map (some w.heap.size), .int .i64 (-1), .int .i64 0, .int .i64 0, .int .i64 0]
  rw [show (w.alloc (.map #[] 0)).heap.size = w.heap.size + 1 by simp] at hb
  refine ⟨w.heap.size + 1, w.heap.size, rfl, Nat.le_succ _, Nat.le_refl _, o1.alloc _, ?_⟩
  exact ⟨hb, (hr.only o1 (by simp)).alloc _, hl, hc, h1, h2, hu, World.ownsRow_nil _ _ _ _, by simp, ownsMap_only hown ((Only.refl [] _).alloc _) (by simp), lasts_nil, Nat.zero_le _⟩

theorem dnew_bad (n : Int) (w : World) (h : n < 1 ∨ 4096 < n) : Calls Try.prog 27 #[.int .i64 n] w fun e w' => e = .returned (.tuple #[.pointer none, .int .i64 1]) ∧ w = w' := by
  by_cases h1 : n < 1
  · clear h
    go_enter Try.func27, Try.ntmps27
    go_wp2
    go_ret2
    exact ⟨rfl, rfl⟩
  · have h2 : 4096 < n := by omega
    clear h
    go_enter Try.func27, Try.ntmps27
    go_wp2
    go_ret2
    exact ⟨rfl, rfl⟩

theorem made_u8l (n : Nat) : madeCells #[.int .u8 0] n = (u8l (List.replicate n 0) ++ ([] : List Value)).toArray := by
  apply Array.ext'
  rw [toList_madeCells_one]
  simp [u8l]

/-- What a call that makes a disk gives. -/
def Made (w w' : World) (e : Ending) (N : Nat) (plat : List Int) : Prop :=
  ∃ g pb pc mb pr, e = .returned (.tuple #[.pointer (some ⟨g, 0, none⟩), .int .i64 0]) ∧ w.heap.size ≤ g ∧ w.heap.size ≤ pb ∧ w.heap.size ≤ mb ∧ Only [] w w' ∧ IsDisk w' g pb pc mb pr (.slice none 0 0) (.map []) N plat [] (-1) 0 0 0

set_option maxRecDepth 100000 in
theorem dnew_ok (n : Int) (w : World) (h1 : 1 ≤ n) (h2 : n ≤ 4096) : Calls Try.prog 27 #[.int .i64 n] w fun e w' => Made w w' e n.toNat (List.replicate (512 * n.toNat) 0) := by
  obtain ⟨i0, hi, hz0, hz1, hz2⟩ := info_parts info_u8
  have hmk : ∀ u : World, (Instr.makeSlice 39 (.int .i64 (n * 512)) (.int .i64 (n * 512))).run Try.prog u =
      .ok (.slice (some ⟨u.heap.size, 0, none⟩) (512 * n.toNat) (512 * n.toNat)) (u.alloc (.cells (madeCells #[.int .u8 0] (512 * n.toNat)) 5)) := fun u => by
    have h := run_make (P := Try.prog) u 39 5 i0 (.int .u8 0) Try.underlying39 hi hz0 .i64 .i64 (n * 512) (n * 512) (by omega) (Int.le_refl _) (by rw [hz2]; omega) (by omega)
    have e : (n * 512).toNat = 512 * n.toNat := by omega
    rw [e] at h
    simpa [hz1, Value.cells] using h
  have HW := hide (with_ok (w.alloc (.cells (madeCells #[.int .u8 0] (512 * n.toNat)) 5)) w.heap.size n.toNat (512 * n.toNat) [] (List.replicate (512 * n.toNat) 0) (by rw [← made_u8l]; exact Blk.new _ _ _) (by simp) (by simp) (by omega) (by omega) (U8.replicate _))
  go_enter Try.func27, Try.ntmps27
  go_wp2_with (go_at_call 56; refine HW.out.mono ?_; rintro e w1 ⟨g, mb, rfl, hg, hmb, ho, hd⟩; have HH := hide (And.intro hg (And.intro hmb (And.intro ho hd))); clear hg hmb ho hd)
  go_ret2
  obtain ⟨hg, hmb, ho, hd⟩ := HH.out
  exact ⟨g, w.heap.size, _, mb, [], rfl, Nat.le_trans (by simp) hg, Nat.le_refl _, Nat.le_trans (by simp) hmb, ((Only.refl [] w).alloc _).trans ho, hd⟩

theorem flat_cell {ws : List WR} {i : Nat} {x : WR} (hx : ws[i]? = some x) : (ws.flatMap WR.cells)[i * 2]? = some (.int .i64 x.sec) ∧ (ws.flatMap WR.cells)[i * 2 + 1]? = some (.slice (some ⟨x.blk, 0, none⟩) 512 (512 + x.rest.length)) := by
  induction ws generalizing i with
  | nil => simp at hx
  | cons y r ih =>
    rw [List.flatMap_cons]
    cases i with
    | zero =>
      simp only [List.getElem?_cons_zero, Option.some.injEq] at hx
      subst hx
      exact ⟨rfl, rfl⟩
    | succ i =>
      rw [List.getElem?_cons_succ] at hx
      obtain ⟨h1, h2⟩ := ih hx
      have e1 : (i + 1) * 2 = i * 2 + 2 := by omega
      rw [e1]
      exact ⟨h1, h2⟩

section
variable {w : World} {g pb pc mb : Nat} {pr : List Value} {pv : Value} {D : DataW Unit} {N : Nat} {plat : List Int} {ws : List WR} {left rd wt fl : Int} (h : IsDisk w g pb pc mb pr pv D N plat ws left rd wt fl)
include h

theorem pend_form : ∃ A cap, pv = .slice A ws.length cap ∧ (0 < ws.length → ∃ b, A = some ⟨b, 0, none⟩ ∧ b < w.heap.size ∧ ∀ (i : Nat) (x : WR), ws[i]? = some x →
    w.cell? ⟨b, i * 2, none⟩ = some (.int .i64 x.sec) ∧ w.cell? ⟨b, i * 2 + 1, none⟩ = some (.slice (some ⟨x.blk, 0, none⟩) 512 (512 + x.rest.length))) := by
  rcases h.own.2 with ⟨e, h0⟩ | ⟨b, cap, cur, e, _, hg, hn, hm, hs, ht⟩
  · exact ⟨none, 0, by rw [e, h0], fun hp => absurd hp (by omega)⟩
  · refine ⟨some ⟨b, 0, none⟩, cap, e, fun _ => ⟨b, rfl, Blk.lt (t := 111) hg, fun i x hx => ?_⟩⟩
    obtain ⟨h1, h2⟩ := flat_cell hx
    have hil : i < ws.length := (List.getElem?_eq_some_iff.1 hx).1
    have hc : ∀ j, j < ws.length * 2 → w.cell? ⟨b, j, none⟩ = (ws.flatMap WR.cells)[j]? := fun j hj => by
      rw [Blk.cell (t := 111) hg, ← ht, List.getElem?_take]
      simp [hj]
    exact ⟨(hc _ (by omega)).trans h1, (hc _ (by omega)).trans h2⟩

omit h in
theorem gb_set_ (xs : List Int) (i j : Nat) (x : Int) (hi : i < xs.length) : gb (xs.set i x) j = if i = j then x else gb xs j := by
  unfold gb
  simp only [List.getD, List.getElem?_set]
  by_cases h : i = j
  · subst h; simp [hi]
  · simp [h]

/-- The loop that tells the pending writes' sectors. -/
def PendRel (d : Nat) (ws : List WR) (w : World) (i : Value) (wr : World) : Prop :=
  ∃ k : Nat, k ≤ ws.length ∧ i = .int .i64 k ∧ Only [] w wr ∧ ∃ ns : List Int, ns.length = ws.length ∧ Blk wr d 3 (ns.map (Value.int .i64)).toArray ∧ ∀ j, j < k → gb ns j = gb (ws.map fun x => (x.sec : Int)) j

/-- A slice of ints as a list. -/
def IntsAt (w : World) (d n : Nat) (ns : List Int) : Prop := ns.length = n ∧ ∀ i, i < n → w.cell? ⟨d, i, none⟩ = some (.int .i64 (gb ns i))

set_option maxRecDepth 100000 in
theorem dpending_is : Calls Try.prog 40 #[.pointer (some ⟨g, 0, none⟩)] w fun e w' => ∃ d, e = .returned (.slice (some ⟨d, 0, none⟩) ws.length ws.length) ∧ w.heap.size ≤ d ∧ IntsAt w' d ws.length (ws.map fun x => (x.sec : Int)) ∧ Only [] w w' := by
  have HC := hide (dclosed_is h)
  obtain ⟨A, cap, rfl, hp⟩ := pend_form h
  have hc1 := h.c1
  have hca := fun o => ((h.str.alloc o).cell 1).trans (show _ = some (Value.slice A ws.length cap) from rfl)
  have hfew := h.few
  have HP := hide hp
  have HD := hide h
  have i0 : (Try.prog.info? 3).map (fun i => (i.zero, i.size, i.bytes)) = some (some (.int .i64 0), 1, 8) := by kernel_rfl
  obtain ⟨i0, hi, hz0, hz1, hz2⟩ := info_parts i0
  have hmk : ∀ u : World, (Instr.makeSlice 42 (.int .i64 (ws.length : Int)) (.int .i64 (ws.length : Int))).run Try.prog u =
      .ok (.slice (some ⟨u.heap.size, 0, none⟩) ws.length ws.length) (u.alloc (.cells (madeCells #[.int .i64 0] ws.length) 3)) := fun u => by
    have h := run_make (P := Try.prog) u 42 3 i0 (.int .i64 0) Try.underlying42 hi hz0 .i64 .i64 (ws.length : Int) (ws.length : Int) (by omega) (Int.le_refl _) (by rw [hz2]; omega) (by omega)
    simpa [hz1, Value.cells] using h
  clear h hp hi hz0 hz1 hz2
  go_enter Try.func40, Try.ntmps40
  go_wp2_with (go_at_call 65; refine HC.out.mono ?_; rintro e w' ⟨rfl, rfl⟩)
  have HM := hide (Blk.new w 3 (madeCells #[.int .i64 0] ws.length))
  have HO0 := hide ((Only.refl [] w).alloc (.cells (madeCells #[.int .i64 0] ws.length) 3))
  have HML := hide (show madeCells #[.int .i64 0] ws.length = ((List.replicate ws.length 0).map (Value.int .i64)).toArray from by
    apply Array.ext'
    rw [toList_madeCells_one]
    simp)
  rw [HML.out] at HM HO0
  clear hca hc1 hmk
  go_loopw [19] (fun i wr => PendRel w.heap.size ws w i wr) (fun i _ => ws.length - (intOf i).toNat)
  case atStart => exact ⟨0, Nat.zero_le _, rfl, by rw [HML.out]; exact HO0.out, List.replicate ws.length 0, by simp, by rw [HML.out]; exact HM.out, fun j hj => absurd hj (by omega)⟩
  case round =>
    clear HM HO0
    obtain ⟨k, hk, rfl, ho, ns, hnl, hbk, hns⟩ := hrel
    have HO := hide ho
    have HB := hide hbk
    have HNL := hide hnl
    have HNS := hide hns
    by_cases hlt : k < ws.length
    · obtain ⟨b, rfl, hbl, hcs⟩ := HP.out (by omega)
      obtain ⟨x, hx⟩ : ∃ x, ws[k]? = some x := ⟨_, List.getElem?_eq_getElem hlt⟩
      obtain ⟨s0, s1⟩ := hcs k x hx
      have e0 := (ho.cell hbl (by simp)).trans s0
      have e1 := (ho.cell hbl (by simp)).trans s1
      have HX := hide hx
      have HBA := hide fun o => hbk.alloc o
      have hck : ∀ o, (wr.alloc o).cell? ⟨w.heap.size, k, none⟩ = some (.int .i64 (gb ns k)) := fun o => by
        rw [(hbk.alloc o).cell]
        simp [gb, List.getD, List.getElem?_eq_getElem (show k < ns.length by omega)]
      have hfk : ∀ o, (wr.alloc o).frozen? ⟨w.heap.size, k, none⟩ = false := fun o => (hbk.alloc o).frozen k
      clear hcs s0 s1 hx hbk hns hnl
      have HSET := hide fun o => (hide (HBA.out o)).out.set_ k (.int .i64 x.sec)
      go_wp2
      go_roundw
      case rel =>
        refine ⟨k + 1, hlt, by go_num, (HO.out.alloc _).setCell _ (by simp), ns.set k x.sec, by rw [List.length_set]; exact HNL.out, ?_, fun j hj => ?_⟩
        · have := HSET.out (.cells #[.int .i64 x.sec, .slice (some ⟨x.blk, 0, none⟩) 512 (512 + x.rest.length)] 111)
          rw [List.setIfInBounds_toArray, ← List.map_set] at this
          exact this
        · rw [gb_set_ _ _ _ _ (by rw [HNL.out]; exact hlt)]
          by_cases hj2 : k = j
          · subst hj2
            rw [if_pos rfl]
            simp [gb, List.getD, HX.out]
          · rw [if_neg hj2]
            exact HNS.out j (by omega)
      case measure => simp [intOf]; omega
    · obtain rfl : k = ws.length := by omega
      have HI := hide (show IntsAt wr w.heap.size ws.length (ws.map fun x => (x.sec : Int)) from ⟨by simp, fun i hi => by
        rw [hbk.cell]
        have := hns i hi
        rw [← this]
        simp [gb, List.getD, List.getElem?_eq_getElem (show i < ns.length by omega)]⟩)
      clear hbk hns hnl ho
      go_wp2
      go_ret
      exact ⟨w.heap.size, rfl, Nat.le_refl _, HI.out, HO.out⟩
end
end Go.Proofs.Ytpajdnjbeplneaa
