/-
  The log: the laws' own helpers: filled, sameInts; what the disk tells beside the log.
-/
import Derived.Test.YtpajdnjbeplneaaLgFormat
import Derived.Test.YtpajdnjbeplneaaDiskHelp
import Derived.Test.YtpajdnjbeplneaaDiskSee
namespace Go.Proofs.Ytpajdnjbeplneaa
open Go.ChangeShapes Go.WideShapes Go.ChangeAt Go.RowKit Go.Maps
set_option linter.unusedVariables false
def fill3 (n : Nat) (c : Int) : List Int := (List.range n).map fun (i : Nat) => (c + (i : Int) * 3) % 256
theorem fill3_length (n : Nat) (c : Int) : (fill3 n c).length = n := by simp [fill3]
theorem gb_fill3 (n i : Nat) (c : Int) (h : i < n) : gb (fill3 n c) i = (c + (i : Int) * 3) % 256 := by
  simp [gb, fill3, List.getD, h]
theorem u8_fill3 (n : Nat) (c : Int) : U8 (fill3 n c) := by
  intro x hx
  obtain ⟨i, _, rfl⟩ := List.mem_map.1 hx
  omega
def FillRel3 (n : Nat) (c : Int) (w : World) (i : Value) (wr : World) : Prop :=
  ∃ k : Nat, k ≤ n ∧ i = .int .i64 k ∧ Only [] w wr ∧ ∃ ns : List Int, ns.length = n ∧ Blk wr w.heap.size 5 (u8l ns).toArray ∧ ∀ j, j < k → gb ns j = gb (fill3 n c) j
theorem gb_set3 (ns : List Int) (k j : Nat) (x : Int) (h : k < ns.length) : gb (ns.set k x) j = if k = j then x else gb ns j := by
  unfold gb
  by_cases e : k = j
  · subst e
    simp [List.getD, h]
  · simp [List.getD, e]
set_option maxRecDepth 100000 in
theorem filled3_ok (n : Nat) (c : Int) (w : World) (hn : n ≤ 100000) (h0 : 0 ≤ c) (h1 : c ≤ 255) : Calls Try.prog 10 #[.int .i64 n, .int .u8 c] w fun e w' => ∃ d, e = .returned (.slice (some ⟨d, 0, none⟩) n n) ∧ w.heap.size ≤ d ∧ Blk w' d 5 (u8l (fill3 n c)).toArray ∧ Only [] w w' := by
  obtain ⟨i0, hi, hz0, hz1, hz2⟩ := info_parts info_u8
  have hmk : ∀ u : World, (Instr.makeSlice 39 (.int .i64 (n : Int)) (.int .i64 (n : Int))).run Try.prog u =
      .ok (.slice (some ⟨u.heap.size, 0, none⟩) n n) (u.alloc (.cells (madeCells #[.int .u8 0] n) 5)) := fun u => by
    have h := run_make (P := Try.prog) u 39 5 i0 (.int .u8 0) Try.underlying39 hi hz0 .i64 .i64 (n : Int) (n : Int) (by omega) (Int.le_refl _) (by rw [hz2]; omega) (by omega)
    simpa [hz1, Value.cells] using h
  have HM := hide (Blk.new w 5 (madeCells #[.int .u8 0] n))
  have HO0 := hide ((Only.refl [] w).alloc (.cells (madeCells #[.int .u8 0] n) 5))
  have HML := hide (show madeCells #[.int .u8 0] n = (u8l (List.replicate n 0)).toArray from by
    apply Array.ext'
    rw [toList_madeCells_one]
    simp [u8l])
  rw [HML.out] at HM HO0
  have hmx : max (n : Int) 0 = n := by omega
  go_enter Try.func10, Try.ntmps10
  go_wp2
  clear hmk hi hz0 hz1 hz2 hmx
  go_loopw [12, 6] (fun i _ wr => FillRel3 n c w i wr) (fun i _ _ => n - (intOf i).toNat)
  case atStart => exact ⟨0, Nat.zero_le _, rfl, by rw [HML.out]; exact HO0.out, List.replicate n 0, by simp, by rw [HML.out]; exact HM.out, fun j hj => absurd hj (by omega)⟩
  case round =>
    clear HM HO0
    obtain ⟨k, hk, rfl, ho, ns, hnl, hbk, hns⟩ := hrel
    have HO := hide ho
    have HB := hide hbk
    have HNL := hide hnl
    have HNS := hide hns
    by_cases hlt : k < n
    · have hfk := hbk.frozen k
      have hck : wr.cell? ⟨w.heap.size, k, none⟩ = some (.int .u8 (gb ns k)) := by
        rw [hbk.cell]
        simp [u8l, gb, List.getD, List.getElem?_eq_getElem (show k < ns.length by omega)]
      clear hbk hns hnl ho
      go_wp2
      go_roundw
      case rel =>
        have hv : (c + (k : Int) % 256 * 3) % 256 = (c + (k : Int) * 3) % 256 := by omega
        rw [hv]
        refine ⟨k + 1, hlt, by go_num, HO.out.setCell _ (by simp), ns.set k ((c + (k : Int) * 3) % 256), by rw [List.length_set]; exact HNL.out, ?_, fun j hj => ?_⟩
        · have := HB.out.set_ k (.int .u8 ((c + (k : Int) * 3) % 256))
          rw [u8l, List.setIfInBounds_toArray, ← List.map_set] at this
          exact this
        · rw [gb_set3 _ _ _ _ (by rw [HNL.out]; exact hlt)]
          by_cases hj2 : k = j
          · subst hj2
            rw [if_pos rfl, gb_fill3 _ _ _ hlt]
          · rw [if_neg hj2]
            exact HNS.out j (by omega)
      case measure => simp [intOf]; omega
    · obtain rfl : k = n := by omega
      have HE := hide (show ns = fill3 k c from by
        refine List.ext_getElem? fun j => ?_
        by_cases hj : j < k
        · have := hns j hj
          simp [gb, List.getD, List.getElem?_eq_getElem (show j < ns.length by omega), List.getElem?_eq_getElem (show j < (fill3 k c).length by rw [fill3_length]; omega)] at this
          rw [List.getElem?_eq_getElem (show j < ns.length by omega), List.getElem?_eq_getElem (show j < (fill3 k c).length by rw [fill3_length]; omega), this]
        · rw [List.getElem?_eq_none (by omega), List.getElem?_eq_none (by rw [fill3_length]; omega)])
      clear hbk hns hnl ho
      go_wp2
      go_ret
      refine ⟨w.heap.size, rfl, Nat.le_refl _, ?_, HO.out⟩
      rw [← HE.out]
      exact HB.out
section
variable {w w' w1 : World} {g gd N a sz : Nat} {k k' : Nat} {F T : List Nat} {S : Option PG} {p : LP}
/-- What the log's disk reads. -/
theorem lg_dread (h : LgP w g gd N a sz S p k F) (n : Nat) (hn : n < N) (hk : k < 4398046500000) : Calls Try.prog 49 #[.pointer (some ⟨gd, 0, none⟩), .int .i64 n] w fun e w' => ∃ v, e = .returned (.tuple #[v, .int .i64 0]) ∧ Fresh w' w.heap.size v (sect p.plat p.l n) ∧ DidP w w' g gd N a sz S p (k + 1) F := by
  obtain ⟨v, m, L, SS, rd, wt, fl, FD, h1, h2, h3, h4, h5⟩ := h
  refine (dk_read h1.dk n hn (by omega)).mono ?_
  rintro e w' ⟨v', e1, e2, e3, e4⟩
  have := LgI.did h4 e3 (h1.dkT e3 e4)
  rw [h2, h3] at this
  exact ⟨v', e1, e2, this⟩
theorem lg_dpending (h : LgP w g gd N a sz S p k F) : Calls Try.prog 40 #[.pointer (some ⟨gd, 0, none⟩)] w fun e w' => ∃ d, e = .returned (.slice (some ⟨d, 0, none⟩) p.l.length p.l.length) ∧ w.heap.size ≤ d ∧ IntsAt w' d p.l.length (p.l.map fun x => (x.1 : Int)) ∧ Only [] w w' := by
  obtain ⟨rd, wt, fl, FD, hd⟩ := h.disk
  exact dk_pending hd
theorem lg_dimage (h : LgP w g gd N a sz S p k F) : Calls Try.prog 42 #[.pointer (some ⟨gd, 0, none⟩)] w fun e w' => ∃ v, e = .returned v ∧ Fresh w' w.heap.size v p.plat ∧ Only [] w w' := by
  obtain ⟨rd, wt, fl, FD, hd⟩ := h.disk
  exact dk_image hd
end
end Go.Proofs.Ytpajdnjbeplneaa
