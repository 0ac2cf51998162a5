/-
  Translations (parapet/tlb): Start of any targets: those that are none.
-/
import Derived.Test.YtdkbjnnflpopdaaTlbPut
namespace Go.Proofs.Ytdkbjnnflpopdaa
open Go.ChangeShapes Go.WideShapes Go.ChangeAt Go.RowKit Go.Maps
set_option linter.unusedVariables false

/-- Who waits. -/
def marks (L : List Int) : List Bool := (List.range 8).map fun j : Nat => decide ((j : Int) ∈ L)
def okT (n : Nat) (L : List Int) : Prop := L.Nodup ∧ ∀ x ∈ L, 0 ≤ x ∧ x < n
def sC (sp : Int) (L : List Int) : Array Value := (Value.int .i64 sp :: (marks L).map Value.bool).toArray
theorem marks_nil : marks [] = [false, false, false, false, false, false, false, false] := by decide
theorem sC_get (sp : Int) (L : List Int) {j : Nat} (h : j < 8) : (sC sp L)[1 + j]? = some (.bool (decide ((j : Int) ∈ L))) := by
  unfold sC marks
  rw [Nat.add_comm]
  simp [List.getElem?_range h]
theorem sC_set (sp : Int) (L : List Int) {j : Nat} (h : j < 8) : (sC sp L).setIfInBounds (1 + j) (.bool true) = sC sp (L ++ [(j : Int)]) := by
  unfold sC
  rw [List.setIfInBounds_toArray, Nat.add_comm, List.set_cons_succ]
  congr 2
  refine List.ext_getElem (by simp [marks]) fun i h1 h2 => ?_
  simp only [marks, List.map_map, List.length_map, List.length_range] at h2
  by_cases e : i = j
  · subst e
    simp [marks]
  · rw [List.getElem_set_ne (by omega)]
    simp [marks]
    omega
theorem okT_take {n : Nat} {L : List Int} (h : okT n L) (k : Nat) : okT n (L.take k) := ⟨h.1.sublist (List.take_sublist _ _), fun x hx => h.2 x (List.mem_of_mem_take hx)⟩
theorem okT_snoc {n : Nat} {L : List Int} {x : Int} (h : okT n L) (h1 : 0 ≤ x ∧ x < n) (h2 : x ∉ L) : okT n (L ++ [x]) := by
  refine ⟨?_, fun y hy => ?_⟩
  · rw [List.nodup_append]
    exact ⟨h.1, by simp, fun a ha b hb => by simp at hb; subst hb; exact fun e => h2 (e ▸ ha)⟩
  · simp only [List.mem_append, List.mem_singleton] at hy
    rcases hy with hy | rfl
    · exact h.2 y hy
    · exact h1
theorem okT_len : ∀ (n : Nat) (L : List Int), okT n L → L.length ≤ n
  | 0, L, h => by
    cases L with
    | nil => simp
    | cons x r => have := h.2 x (by simp); omega
  | n + 1, L, h => by
    by_cases hm : (n : Int) ∈ L
    · have h1 := okT_len n (L.erase (n : Int)) ⟨h.1.erase _, fun x hx => by
        obtain ⟨hne, hx⟩ := (h.1.mem_erase_iff).1 hx
        have := h.2 x hx
        omega⟩
      have h2 := List.length_erase_of_mem hm
      have h3 := List.length_pos_of_mem hm
      omega
    · have h1 := okT_len n L ⟨h.1, fun x hx => by
        have := h.2 x hx
        have hne : x ≠ (n : Int) := fun e => hm (e ▸ hx)
        omega⟩
      omega
def TgR (w : World) (n : Nat) (sp : Int) (ts : List Int) (kv : Value) (wr : World) : Prop :=
  ∃ k : Nat, k ≤ ts.length ∧ kv = .int .i64 k ∧ okT n (ts.take k) ∧ Blk wr w.heap.size 72 (sC sp (ts.take k)) ∧ Only [] w wr
/-- A slice that holds these numbers. -/
def TsAt (w : World) (A : Option Addr) (ts : List Int) : Prop := 0 < ts.length → ∃ q o, A = some ⟨q, o, none⟩ ∧ q < w.heap.size ∧ ∀ (i : Nat) (x : Int), ts[i]? = some x → w.cell? ⟨q, o + i, none⟩ = some (.int .i64 x)

section
variable {w w' : World} {t hb ob n size : Nat} {begun : Int} {bs : Nat → Nat} {ls : Nat → List (K2 × K2)} {nx : Nat → Int} {O : List (Int × Sh)} {S : List Nat}
set_option maxRecDepth 100000 in
set_option maxHeartbeats 1500000 in
theorem bStart_arg (T : IsTlb w t hb ob n size begun bs ls nx O) (sp : Int) {A : Option Addr} {c : Nat} {ts : List Int} (hts : TsAt w A ts) (hl : ts.length < 4611686018427387904) (hbad : ¬ okT n ts) :
    Calls Try.prog 14 #[.pointer (some ⟨t, 0, none⟩), .int .i64 sp, .slice A ts.length c] w fun e w' => e = .returned (.tuple #[.int .i64 0, .int .i64 1]) ∧ Only [] w w' := by
  have hn1 := T.n1
  have HC := hide (bclosed_is T)
  have HH := hide (fun W (hW : Only [] w W) (x : Int) => bhas_is (T.new hW) x)
  have HTS := hide hts
  have HBAD := hide hbad
  clear T hts hbad
  go_enter Try.func14, Try.ntmps14
  go_wp2_with (go_at_call 31; refine HC.out.mono ?_; rintro e w' ⟨rfl, rfl⟩)
  go_loopw [17] (fun kv wr => TgR w n sp ts kv wr) (fun kv _ => ts.length - (intOf kv).toNat)
  case atStart => exact ⟨0, Nat.zero_le _, rfl, ⟨by simp, by simp⟩, by rw [List.take_zero, sC, marks_nil]; exact Blk.new _ _ _, (Only.refl [] w).alloc _⟩
  case round =>
    obtain ⟨k, hk, rfl, hok, hbx, ho⟩ := hrel
    by_cases hkl : k < ts.length
    · obtain ⟨q, o, rfl, hq, hc⟩ := HTS.out (by omega)
      obtain ⟨x, hx⟩ : ∃ x, ts[k]? = some x := ⟨_, List.getElem?_eq_getElem hkl⟩
      have c0 := (ho.cell hq (by simp)).trans (hc k x hx)
      have htk : ts.take (k + 1) = ts.take k ++ [x] := by
        obtain ⟨h1, h2⟩ := List.getElem?_eq_some_iff.1 hx
        rw [List.take_succ_eq_append_getElem hkl, h2]
      have HO := hide ho
      have HBX := hide hbx
      have HOK := hide hok
      have HTK := hide htk
      have hki : (k : Int) < ts.length := by omega
      have HHX := hide (HH.out wr ho x)
      clear ho hbx hok htk hx hc
      by_cases hxn : 0 ≤ x ∧ x < n
      · obtain ⟨j, rfl⟩ := Int.eq_ofNat_of_zero_le hxn.1
        have hj8 : j < 8 := by omega
        have hh := HHX.out
        rw [decide_eq_true hxn] at hh
        have HHY := hide hh
        have m0 := (HBX.out.cell (1 + j)).trans (sC_get sp (ts.take k) hj8)
        have m1 := HBX.out.frozen (1 + j)
        have hj8i : (j : Int) < 8 := by omega
        clear hh HHX
        by_cases hin : (j : Int) ∈ ts.take k
        · rw [decide_eq_true hin] at m0
          go_wp2_with (go_at_call 32; refine HHY.out.mono ?_; rintro e w' ⟨rfl, rfl⟩)
          go_ret2
          exact ⟨rfl, HO.out⟩
        · rw [decide_eq_false hin] at m0
          have HD := hide (show TgR w n sp ts (.int .i64 ((k : Int) + 1)) (wr.setCell ⟨w.heap.size, 1 + j, none⟩ (.bool true)) from by
            refine ⟨k + 1, hkl, rfl, by rw [HTK.out]; exact okT_snoc HOK.out hxn hin, ?_, HO.out.trans' ((Only.refl [w.heap.size] wr).setCell _ (by simp)) (by intro q hq hq'; simp at hq'; omega)⟩
            rw [HTK.out, ← sC_set sp _ hj8]
            exact HBX.out.set_ _ _)
          clear hin
          go_wp2_with (go_at_call 32; refine HHY.out.mono ?_; rintro e w' ⟨rfl, rfl⟩)
          go_roundw
          case rel => exact HD.out
          case measure =>
            show ts.length - ((k : Int) + 1).toNat < ts.length - (k : Int).toNat
            omega
      · have hh := HHX.out
        rw [decide_eq_false hxn] at hh
        have HHY := hide hh
        clear hh HHX
        go_wp2_with (go_at_call 32; refine HHY.out.mono ?_; rintro e w' ⟨rfl, rfl⟩)
        go_ret2
        exact ⟨rfl, HO.out⟩
    · exfalso
      have hkk : k = ts.length := by omega
      rw [hkk, List.take_length] at hok
      exact HBAD.out hok
end
end Go.Proofs.Ytdkbjnnflpopdaa
