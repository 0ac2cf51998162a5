/-
  The pipe's laws: bytes that were told or handed in are spoiled.
-/
import Derived.Test.YteljjngmhldfbaaPiXP
namespace Go.Proofs.Yteljjngmhldfbaa
open Go.ChangeShapes Go.WideShapes Go.ChangeAt Go.RowKit
set_option linter.unusedVariables false
set_option linter.unusedSimpArgs false
def SpoR (w : World) (d n : Nat) (r : List Value) (iv : Value) (wr : World) : Prop :=
  ∃ (i : Nat) (ys : List Int), iv = .int .i64 i ∧ i ≤ n ∧ ys.length = n ∧ Blk wr d 5 (u8l ys ++ r).toArray ∧ Only [d] w wr
theorem spoR_step {w wr : World} {d n i : Nat} {r : List Value} {ys : List Int} {V k : Int} (hk : k = (i : Int) + 1) (hlt : i < n) (hl : ys.length = n) (hb : Blk wr d 5 (u8l ys ++ r).toArray) (ho : Only [d] w wr) :
    SpoR w d n r (.int .i64 k) (wr.setCell ⟨d, i, none⟩ (.int .u8 V)) :=
  ⟨i + 1, ys.set i V, by rw [hk]; rfl, hlt, by rw [List.length_set]; exact hl, by rw [← u8l_set ys r i _ (by omega)]; exact hb.set_ i _, ho.setCell _ (by simp)⟩
set_option maxRecDepth 100000 in
theorem spoils_fresh {w : World} {d n c : Nat} {xs : List Int} {r : List Value} (hb : Blk w d 5 (u8l xs ++ r).toArray) (hl : xs.length = n) (hc : n ≤ c) (hbig : n ≤ 9223372036854775807) :
    Calls Try.prog 33 #[.slice (some ⟨d, 0, none⟩) n c] w fun e w' => e = .returned (.tuple #[]) ∧ Only [d] w w' := by
  have HB := hide hb
  have HL := hide hl
  clear hb hl
  go_enter Try.func33, Try.ntmps33
  go_wp2_with fail
  go_loopw [2] (fun iv wr => SpoR w d n r iv wr) (fun iv _ => n - (intOf iv).toNat)
  case atStart => exact ⟨0, xs, rfl, Nat.zero_le _, HL.out, HB.out, Only.refl _ _⟩
  case round =>
    obtain ⟨i, ys, rfl, hi, hyl, hbk, ho⟩ := hrel
    by_cases hlt : i < n
    · have hltI : (i : Int) < n := by omega
      have hl64 : (i : Int) + 1 ≤ 9223372036854775807 := by omega
      have c0 : wr.cell? ⟨d, i, none⟩ = some (.int .u8 (gb ys i)) := by rw [hbk.cell]; exact u8l_get ys r i (by omega)
      have f0 := hbk.frozen i
      have HBK := hide hbk
      have HO := hide ho
      have HYL := hide hyl
      generalize gb ys i = y at *
      clear hbk ho hyl
      go_wp2
      go_roundw
      case rel => exact spoR_step rfl hlt HYL.out HBK.out HO.out
      case measure => simp [intOf]; omega
    · have HO := hide ho
      clear ho hbk
      obtain rfl : i = n := by omega
      go_wp2
      go_end0
      exact ⟨rfl, HO.out⟩
theorem spoils_nil (w : World) (c : Nat) : Calls Try.prog 33 #[.slice none 0 c] w fun e w' => e = .returned (.tuple #[]) ∧ w = w' := by
  go_enter Try.func33, Try.ntmps33
  go_wp2_with fail
  go_loopw [2] (fun iv wr => iv = .int .i64 0 ∧ wr = w) (fun _ _ => 0)
  case atStart => exact ⟨rfl, rfl⟩
  case round =>
    obtain ⟨rfl, rfl⟩ := hrel
    go_wp2
    go_end0
    exact ⟨rfl, rfl⟩
theorem spoils_is {w : World} {B : Nat} {v : Value} {xs : List Int} (h : New w B v xs) (hbig : xs.length ≤ 9223372036854775807) :
    Calls Try.prog 33 #[v] w fun e w' => e = .returned (.tuple #[]) ∧ Only v.ownBlock.toList w w' := by
  rcases h with ⟨rfl, rfl⟩ | h
  · refine (spoils_nil w 0).mono ?_
    rintro e w' ⟨rfl, rfl⟩
    exact ⟨rfl, Only.refl _ _⟩
  · obtain ⟨d, c, r, rfl, hB, hb, hl⟩ := h
    exact spoils_fresh hb rfl (by omega) hbig
end Go.Proofs.Yteljjngmhldfbaa
