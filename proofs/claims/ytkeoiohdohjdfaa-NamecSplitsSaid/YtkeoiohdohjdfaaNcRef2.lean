/-
  The document's Split (parapet/parapetref19): the walk.
-/
import Derived.Test.YtkeoiohdohjdfaaNcRef
import Derived.LoopN
namespace Go.Proofs.Ytkeoiohdohjdfaa
open Go.ChangeShapes Go.WideShapes Go.ChangeAt Go.RowKit
set_option linter.unusedVariables false
set_option linter.unusedSimpArgs false
def RefR (w : World) (s : ByteArray) (e : Ending) (w' : World) : Prop :=
  match refP s with
  | none => e = .returned (.tuple #[.slice none 0 0, .int .i64 190]) ∧ Only [] w w'
  | some ns => ∃ v, e = .returned (.tuple #[v, .int .i64 0]) ∧ TRw w' w.heap.size v ns ∧ Only [] w w'
section
variable {w w' : World} {s : ByteArray} {ns : List ByteArray}
theorem refR_no (h : refP s = none) (ho : Only [] w w') : RefR w s (.returned (.tuple #[.slice none 0 0, .int .i64 190])) w' := by unfold RefR; rw [h]; exact ⟨rfl, ho⟩
theorem refR_yes (h : refP s = some ns) (ho : Only [] w w') {v : Value} (hr : TRw w' w.heap.size v ns) : RefR w s (.returned (.tuple #[v, .int .i64 0])) w' := by unfold RefR; rw [h]; exact ⟨v, rfl, hr, ho⟩
theorem isEmpty_mkB {l : List UInt8} (h : l ≠ []) : (mkB l).toList.isEmpty = false := by
  rw [Lib.toList_data]
  cases l with
  | nil => exact absurd rfl h
  | cons a t => simp [mkB]
theorem isEmpty_nil : (mkB []).toList.isEmpty = true := by rw [Lib.toList_data]; rfl
/-- Where the loop stands. -/
def RefAt (l : List UInt8) (i : Nat) (out : List ByteArray) (name : List UInt8) : Prop :=
  (i ≤ l.length ∧ refS l [] [] = refS (l.drop i) out name ∧ name.length ≤ i ∧ out.length ≤ i) ∨ (i = l.length + 1 ∧ refS l [] [] = some out ∧ out.length ≤ i)
set_option maxRecDepth 100000 in
set_option maxHeartbeats 4000000 in
theorem xSplit_is (s : ByteArray) (w : World) : Calls Try.prog 7 #[.string s] w fun e w' => RefR w s e w' := by
  have hsz : s.size = s.data.toList.length := Lib.size_eq s
  have hgd : ∀ i, s.data.toList.getD i 0 = s.get! i := fun i => Lib.getD_get!' s i
  by_cases h1 : s.size < 1
  · have hs : refP s = none := by unfold refP; rw [if_pos (.inl (by omega))]
    have h1I : (s.size : Int) < 1 := by omega
    clear hgd hsz
    go_enter Try.func7, Try.ntmps7
    go_wp2_with fail
    go_ret2
    exact refR_no hs (by repeat (first | exact Only.refl _ _ | apply Only.drew | apply Only.drewN))
  have h1I : ¬ (s.size : Int) < 1 := by omega
  by_cases h2 : 64 < s.size
  · have hs : refP s = none := by unfold refP; rw [if_pos (.inr (.inl (by omega)))]
    have h2I : (64 : Int) < s.size := by omega
    clear hgd hsz
    go_enter Try.func7, Try.ntmps7
    go_wp2_with fail
    go_ret2
    exact refR_no hs (by repeat (first | exact Only.refl _ _ | apply Only.drew | apply Only.drewN))
  have h2I : ¬ (64 : Int) < s.size := by omega
  have hdr : ∀ (i : Nat) (h : i < s.size), s.data.toList.drop i = s[i] :: s.data.toList.drop (i + 1) := fun i h => by
    rw [List.drop_eq_getElem_cons (by omega)]
    rfl
  have hpos : 0 < s.size := by omega
  have hg0 : s.data.toList.getD 0 0 = s[0]'hpos := by
    have := hdr 0 (by omega)
    rw [List.drop_zero] at this
    rw [this]; rfl
  have HSZ := hide hsz
  by_cases h47 : s[0]'hpos = 47
  · have hne : (((s[0]'hpos).toNat : Int) != 47) = false := by rw [h47]; rfl
    have HREF := hide (show refP s = finP (refS s.data.toList [] []) from by
      unfold refP
      rw [if_neg (fun h => by rcases h with h | h | h; omega; omega; exact h (by rw [hg0, h47]))])
    have HDR := hide hdr
    clear h47 hg0 hdr hgd hsz
    go_enter Try.func7, Try.ntmps7
    go_wp2_with fail
    go_loopw [4, 5, 6] (fun ov nv iv wr => ∃ (i : Nat) (out : List ByteArray) (name : List UInt8), iv = .int .i64 i ∧ nv = .string (mkB name) ∧ RefAt s.data.toList i out name ∧ TRw wr w.heap.size ov out ∧ Only [] w wr) (fun _ _ iv _ => s.size + 2 - (intOf iv).toNat)
    case atStart => exact ⟨0, [], [], rfl, rfl, .inl ⟨Nat.zero_le _, rfl, Nat.le_refl _, Nat.le_refl _⟩, TRw.nil _ _, by repeat (first | exact Only.refl _ _ | apply Only.drew | apply Only.drewN)⟩
    case round =>
      obtain ⟨i, out, name, rfl, rfl, hat, hrow, ho⟩ := hrel
      have HROW := hide hrow
      have HO := hide ho
      clear hrow ho
      generalize hnm : mkB name = nm at *
      have hns : nm.size = name.length := by rw [← hnm]; simp [mkB, ByteArray.size]
      have HNM := hide hnm
      have HNS := hide hns
      clear hnm hns
      obtain ⟨A, cap, rfl, -⟩ := HROW.out.form
      have HROWA := hide (fun o => HROW.out.only ((Only.refl [] wr).alloc o) (by simp))
      have HNEW := hide (show (wr.alloc (.cells #[.string nm] 9)).cell? ⟨wr.heap.size, 0, none⟩ = some (.string nm) from (Blk.new wr 9 #[.string nm]).cell 0)
      rcases hat with ⟨hi, hre, hnl, hol⟩ | ⟨hi, hre, hol⟩
      · have HRE := hide hre
        clear hre
        by_cases hlt : i < s.size
        · have hle : (i : Int) ≤ s.size := by omega
          have hltI : (i : Int) < s.size := by omega
          have heq : ((i : Int) == (s.size : Int)) = false := beq_false_of_ne (by omega)
          by_cases hc : s[i] = 47
          · have hc47 : (((s[i]).toNat : Int) == 47) = true := by rw [hc]; rfl
            by_cases h14 : 14 < nm.size
            · have h14I : (14 : Int) < nm.size := by omega
              go_wp2_with fail
              go_ret2
              refine refR_no (by rw [HREF.out, HRE.out, HDR.out i hlt, refS, if_pos hc, if_pos (by have := HNS.out; omega)]; rfl) HO.out
            · have h14I : ¬ (14 : Int) < nm.size := by omega
              by_cases hnn : name = []
              · have hem : nm.toList.isEmpty = true := by rw [← HNM.out, hnn]; exact isEmpty_nil
                go_wp2_with fail
                go_roundw
                case rel => exact ⟨i + 1, out, [], by go_num, rfl, .inl ⟨by have := HSZ.out; omega, by rw [HRE.out, HDR.out i hlt, refS, if_pos hc, if_neg (by have := HNS.out; omega), if_pos hnn], by simp, by omega⟩, HROW.out.only (S := []) (by repeat (first | exact Only.refl _ _ | apply Only.drew | apply Only.drewN)) (by simp), HO.out.trans (by repeat (first | exact Only.refl _ _ | apply Only.drew | apply Only.drewN))⟩
                case measure => simp [intOf]; omega
              · have hem : nm.toList.isEmpty = false := by
                  rw [← HNM.out]
                  exact isEmpty_mkB hnn
                go_wp2_with (at_builtin; refine wpList_append_text (v := .slice A out.length cap) (B := w.heap.size) rfl _ _ rfl rfl (HROWA.out _) (by have := HO.out.size; simp; omega) ⟨wr.heap.size, 0, none⟩ 1 nm rfl (HNEW.out) (by omega) ?_; intro v' w2 g1 g2 g3; have HG1 := hide g1; have HG2 := hide (show Only [] w w2 from HO.out.trans' (((Only.refl [] wr).alloc _).mono (S' := (Value.slice A out.length cap).ownBlock.toList) (by simp) |>.trans g2) (fun q hq hm => absurd (HROW.out.at_ (q := q) (by simpa using hm)).1 (by omega))); clear g1 g2 g3)
                go_roundw
                case rel => exact ⟨i + 1, out ++ [nm], [], by go_num, rfl, .inl ⟨by have := HSZ.out; omega, by rw [HRE.out, HDR.out i hlt, refS, if_pos hc, if_neg (by have := HNS.out; omega), if_neg hnn, HNM.out], by simp, by simp; omega⟩, HG1.out, HG2.out⟩
                case measure => simp [intOf]; omega
          · have hc47 : (((s[i]).toNat : Int) == 47) = false := beq_false_of_ne (fun e => hc (toNat47.1 (by omega)))
            by_cases hc0 : s[i] = 0
            · have hcz : (((s[i]).toNat : Int) == 0) = true := by rw [hc0]; rfl
              go_wp2_with fail
              go_ret2
              exact refR_no (by rw [HREF.out, HRE.out, HDR.out i hlt, refS, if_neg hc, if_pos hc0]; rfl) HO.out
            · have hcz : (((s[i]).toNat : Int) == 0) = false := beq_false_of_ne (fun e => hc0 (by
                have h1 : (s[i]).toNat = 0 := by omega
                have h2 : UInt8.ofNat (s[i]).toNat = UInt8.ofNat 0 := by rw [h1]
                simpa using h2))
              have hcv := fun (W : World) (hW : W.cell? ⟨wr.heap.size, 0, none⟩ = some (.int .u8 ((s[i]).toNat : Int))) => run_convert_bytes_back (P := Try.prog) W 63 9 5 ⟨wr.heap.size, 0, none⟩ 1 [s[i]] Try.underlying63 Try.underlying5 Try.underlying9 (fun j hj => by
                have : j = 0 := by simpa using hj
                subst this
                exact hW)
              have hcv2 := hcv (wr.alloc (.cells #[.int .u8 ((s[i]).toNat : Int)] 5)) ((Blk.new wr 5 #[.int .u8 ((s[i]).toNat : Int)]).cell 0)
              simp only [List.length_singleton] at hcv2
              have hbig : ¬ ((nm.size + (⟨#[s[i]]⟩ : ByteArray).size : Nat) : Int) > IntKind.i64.max := by
                have h3 : IntKind.i64.max = 9223372036854775807 := by decide
                have h4 : (⟨#[s[i]]⟩ : ByteArray).size = 1 := rfl
                have := HNS.out
                rw [h3, h4]; omega
              have hadd := fun W : World => (show (Op.stringOp .add nm ⟨#[s[i]]⟩).run Try.prog W = .ok (.string (nm ++ ⟨#[s[i]]⟩)) W from by
                unfold Op.stringOp
                simp only
                rw [if_neg hbig]
                rfl)
              clear hcv
              go_wp2_with fail
              refine ⟨⟨i + 1, out, name ++ [s[i]], by go_num, ?_, .inl ⟨by have := HSZ.out; omega, by rw [HRE.out, HDR.out i hlt, refS, if_neg hc, if_neg hc0], by simp; omega, by omega⟩, HROWA.out _, HO.out.alloc _⟩, by simp [intOf]; omega⟩
              rw [← HNM.out]
              refine congrArg Value.string (ByteArray.ext ?_)
              simp [mkB]
        · have hie : i = s.size := by have := HSZ.out; omega
          have hle : (i : Int) ≤ s.size := by omega
          have heq : ((i : Int) == (s.size : Int)) = true := by rw [hie]; simp
          by_cases h14 : 14 < nm.size
          · have h14I : (14 : Int) < nm.size := by omega
            go_wp2_with fail
            go_ret2
            refine refR_no (by rw [HREF.out, HRE.out, List.drop_of_length_le (by have := HSZ.out; omega), refS, if_pos (by have := HNS.out; omega)]; rfl) HO.out
          · have h14I : ¬ (14 : Int) < nm.size := by omega
            by_cases hnn : name = []
            · have hem : nm.toList.isEmpty = true := by rw [← HNM.out, hnn]; exact isEmpty_nil
              go_wp2_with fail
              go_roundw
              case rel => exact ⟨i + 1, out, [], by go_num, rfl, .inr ⟨by have := HSZ.out; omega, by rw [HRE.out, List.drop_of_length_le (by have := HSZ.out; omega), refS, if_neg (by have := HNS.out; omega), if_pos hnn], by omega⟩, HROW.out.only (S := []) (by repeat (first | exact Only.refl _ _ | apply Only.drew | apply Only.drewN)) (by simp), HO.out.trans (by repeat (first | exact Only.refl _ _ | apply Only.drew | apply Only.drewN))⟩
              case measure => simp [intOf]; omega
            · have hem : nm.toList.isEmpty = false := by
                rw [← HNM.out]
                exact isEmpty_mkB hnn
              go_wp2_with (at_builtin; refine wpList_append_text (v := .slice A out.length cap) (B := w.heap.size) rfl _ _ rfl rfl (HROWA.out _) (by have := HO.out.size; simp; omega) ⟨wr.heap.size, 0, none⟩ 1 nm rfl (HNEW.out) (by omega) ?_; intro v' w2 g1 g2 g3; have HG1 := hide g1; have HG2 := hide (show Only [] w w2 from HO.out.trans' (((Only.refl [] wr).alloc _).mono (S' := (Value.slice A out.length cap).ownBlock.toList) (by simp) |>.trans g2) (fun q hq hm => absurd (HROW.out.at_ (q := q) (by simpa using hm)).1 (by omega))); clear g1 g2 g3)
              go_roundw
              case rel => exact ⟨i + 1, out ++ [nm], [], by go_num, rfl, .inr ⟨by have := HSZ.out; omega, by rw [HRE.out, List.drop_of_length_le (by have := HSZ.out; omega), refS, if_neg (by have := HNS.out; omega), if_neg hnn, HNM.out], by simp; omega⟩, HG1.out, HG2.out⟩
              case measure => simp [intOf]; omega
      · have hle : ¬ (i : Int) ≤ s.size := by have := HSZ.out; omega
        have HRE := hide hre
        clear hre
        by_cases h32 : 32 < out.length
        · have h32I : (32 : Int) < out.length := by omega
          go_wp2_with fail
          go_ret2
          exact refR_no (by rw [HREF.out, HRE.out]; simp only [finP]; rw [if_pos h32]) HO.out
        · have h32I : ¬ (32 : Int) < out.length := by omega
          go_wp2_with fail
          go_ret2
          exact refR_yes (by rw [HREF.out, HRE.out]; simp only [finP]; rw [if_neg h32]) HO.out HROW.out
  · have hs : refP s = none := by unfold refP; rw [if_pos (.inr (.inr (by rw [hg0]; exact h47)))]
    have hne : (((s[0]'hpos).toNat : Int) != 47) = true := bne_iff_ne.2 (fun e => h47 (toNat47.1 (by omega)))
    clear h47 hg0 hdr hgd hsz
    go_enter Try.func7, Try.ntmps7
    go_wp2_with fail
    go_ret2
    exact refR_no hs (by repeat (first | exact Only.refl _ _ | apply Only.drew | apply Only.drewN))
end
end Go.Proofs.Ytkeoiohdohjdfaa
