/-
  Buffers (parapet/buf): slices.DeleteFunc of ints with 'clean'.
-/
import Derived.Test.YtenpifamklnkmaaBuIs
namespace Go.Proofs.Ytenpifamklnkmaa
open Go.ChangeShapes Go.WideShapes Go.ChangeAt Go.RowKit Go.Maps
set_option linter.unusedVariables false

/-- In the midst of DeleteFunc: pre stays, mid is old, j is next. -/
structure DelAt (xs : List Int) (cl : Int → Bool) (j : Nat) (pre mid : List Int) : Prop where
  hj : j ≤ xs.length
  hpre : pre = (xs.take j).filter fun t => !cl t
  hmid : pre.length + mid.length = j
  hne : mid ≠ []
theorem filter_snoc {xs : List Int} {cl : Int → Bool} {j : Nat} (hj : j < xs.length) : (xs.take (j + 1)).filter (fun t => !cl t) = (xs.take j).filter (fun t => !cl t) ++ if cl xs[j] then [] else [xs[j]] := by
  rw [List.take_add_one, List.getElem?_eq_getElem hj, List.filter_append]
  congr 1
  cases h : cl xs[j] <;> simp [h]
theorem DelAt.stay {xs : List Int} {cl : Int → Bool} {j : Nat} {pre mid : List Int} (h : DelAt xs cl j pre mid) (hj : j < xs.length) (hc : cl xs[j] = true) : DelAt xs cl (j + 1) pre (mid ++ [xs[j]]) :=
  ⟨hj, by rw [filter_snoc hj, if_pos hc, List.append_nil]; exact h.hpre, by have := h.hmid; simp; omega, by simp⟩
theorem DelAt.move {xs : List Int} {cl : Int → Bool} {j : Nat} {pre mid : List Int} (h : DelAt xs cl j pre mid) (hj : j < xs.length) (hc : cl xs[j] = false) : DelAt xs cl (j + 1) (pre ++ [xs[j]]) (mid.tail ++ [xs[j]]) :=
  ⟨hj, by rw [filter_snoc hj, hc, if_neg (by simp), ← h.hpre], by
    have := h.hmid
    have := List.length_pos_iff.2 h.hne
    simp
    omega, by simp⟩
theorem del_cells {xs pre mid : List Int} {cur : List Value} {j : Nat} (hj : j < xs.length) (hm : pre.length + mid.length = j) (hne : mid ≠ []) :
    (i64l (pre ++ mid ++ xs.drop j) ++ cur).toArray.setIfInBounds pre.length (.int .i64 xs[j]) = (i64l ((pre ++ [xs[j]]) ++ (mid.tail ++ [xs[j]]) ++ xs.drop (j + 1)) ++ cur).toArray := by
  obtain ⟨a, r, rfl⟩ : ∃ a r, mid = a :: r := by
    cases mid with
    | nil => exact absurd rfl hne
    | cons a r => exact ⟨a, r, rfl⟩
  rw [List.setIfInBounds_toArray, List.drop_eq_getElem_cons hj]
  congr 1
  simp [i64l, List.map_append]

def DelRel (w : World) (b cap : Nat) (xs : List Int) (cl : Int → Bool) (cur : List Value) (iv jv : Value) (wr : World) : Prop :=
  ∃ j pre mid, iv = .int .i64 ((pre : List Int).length : Nat) ∧ jv = .int .i64 (j : Nat) ∧ DelAt xs cl j pre mid ∧ Blk wr b 3 (i64l (pre ++ mid ++ xs.drop j) ++ cur).toArray ∧ Only [b] w wr

section
variable {w w' w1 : World} {g m gd : Nat} {room : Int} {v u : Value} {ns xs : List Int} {O : List (Int × BV)} {hi mi ev wr : Int} {cl : Int → Bool}
set_option maxHeartbeats 1500000 in
set_option maxRecDepth 100000 in
theorem delCl_is (h : IsBu w g m gd room v ns O hi mi ev wr) (hr : IRow w u xs) (hf : xs.length ≤ 1024) (hc : ClOn cl O xs) (hub : ∀ q, u.ownBlock = some q → q ≠ g ∧ q ≠ m) :
    Calls Try.prog 31 #[u, .func (.func 32) #[.pointer (some ⟨g, 0, none⟩)] #[]] w fun e w' => ∃ v', e = .returned v' ∧ IRow w' v' (xs.filter fun t => !cl t) ∧ v'.ownBlock = u.ownBlock ∧ Only u.ownBlock.toList w w' := by
  have HI := hide (idxCl_is h hr hf hc)
  rcases fstI_cases cl xs with ⟨e1, e2⟩ | ⟨i, s, hs, e1, e2, e3⟩
  · rw [e1] at HI
    have HE := hide (show (xs.filter fun t => !cl t) = xs from List.filter_eq_self.2 (fun x hx => by simp [e2 x hx]))
    have HR := hide hr
    obtain ⟨A, c, rfl, _⟩ := hr.form2
    clear h hr e1 e2
    go_enter Try.func31, Try.ntmps31
    go_wp2_with (go_at_call 47; refine HI.out.mono ?_; rintro e w' ⟨rfl, rfl⟩)
    go_ret
    exact ⟨_, rfl, by rw [HE.out]; exact HR.out, rfl, Only.refl _ _⟩
  · rw [e2] at HI
    obtain ⟨hil, hsi⟩ := List.getElem?_eq_some_iff.1 hs
    subst hsi
    obtain ⟨b, cap, cur, rfl, hb, hcl, hm⟩ := hr.blk (by omega)
    have hm' := hm
    unfold maxLen at hm'
    obtain ⟨hbg, hbm⟩ := hub b rfl
    have hbnv : ∀ W, Only [b] w W → IsBu W g m gd room (.slice none 0 0) [] O hi mi ev wr → True := fun _ _ _ => trivial
    have HCL := hide (fun (W : World) (hW : Only [b] w W) (t : Int) (ht : t ∈ xs) => show Calls Try.prog 32 #[.pointer (some ⟨g, 0, none⟩), .int .i64 t] W fun e w' => e = .returned (.bool (cl t)) ∧ W = w' from by
      obtain ⟨f, hf2, e⟩ := hc t ht
      obtain ⟨D, k1, k2⟩ := h.own
      have c2 : W.cell? ⟨g, 2, none⟩ = some (.map (some m)) := by rw [hW.cell h.ltg (by simpa using hbg.symm)]; exact h.c2
      have hl : (Instr.lookup 53 (.map (some m)) (.int .i64 t) false).run Try.prog W = .ok (.agg #[svO f.1, .bool f.2]) W := lookB k2 (ownsMap_onlyB k1 hW (by simpa using hbm.symm)) hf2
      rw [e]
      generalize svO f.1 = sv at hl
      generalize f.2 = dd at *
      have hf := field1B sv dd W
      clear h hr hc HI k1 k2 hb hW
      go_enter Try.func32, Try.ntmps32
      go_wp2
      go_ret
      exact ⟨rfl, rfl⟩)
    have hnei : ((i : Int) == -1) = false := by simp only [beq_eq_false_iff_ne]; omega
    have H0 := hide (show DelRel w b cap xs cl cur (.int .i64 i) (.int .i64 ((i : Int) + 1)) w from by
      have hf0 : (xs.take i).filter (fun t => !cl t) = xs.take i := List.filter_eq_self.2 (fun x hx => by
        obtain ⟨j, hj, ej⟩ := List.getElem_of_mem hx
        rw [List.length_take] at hj
        rw [List.getElem_take] at ej
        simp [e3 j x (by omega) (by rw [List.getElem?_eq_getElem (by omega), ej])])
      refine ⟨i + 1, xs.take i, [xs[i]], by simp; omega, by go_num, ⟨hil, ?_, by simp; omega, by simp⟩, ?_, Only.refl _ _⟩
      · rw [filter_snoc hil, e1, if_pos rfl, List.append_nil, hf0]
      · have : xs.take i ++ [xs[i]] ++ xs.drop (i + 1) = xs := by
          rw [List.append_assoc, List.singleton_append, List.getElem_cons_drop, List.take_append_drop]
        rw [this]
        exact hb)
    have HK := hide (And.intro hcl hm)
    clear h hr e1 e2 e3 hb hc hub hs hbnv hcl hm
    go_enter Try.func31, Try.ntmps31
    go_wp2_with (go_at_call 47; refine HI.out.mono ?_; rintro e w' ⟨rfl, rfl⟩)
    clear HI
    go_loopw [5, 6] (fun iv jv wr => DelRel w b cap xs cl cur iv jv wr) (fun _ jv _ => xs.length - (intOf jv).toNat)
    case atStart => exact H0.out
    case round =>
      obtain ⟨j, pre, mid, rfl, rfl, hd, hbk, ho⟩ := hrel
      have hjl := hd.hj
      have hml := hd.hmid
      have hmp := List.length_pos_iff.2 hd.hne
      have HD := hide hd
      have HBK := hide hbk
      have HO := hide ho
      clear hd H0
      by_cases hlt : j < xs.length
      · have hltI : (j : Int) < xs.length := by omega
        have cj : wr.cell? ⟨b, j, none⟩ = some (.int .i64 xs[j]) := by
          rw [hbk.cell, List.getElem?_toArray, List.getElem?_append_left (by simp [i64l]; omega)]
          simp only [i64l, List.getElem?_map]
          rw [List.getElem?_append_right (by simp; omega)]
          simp only [List.length_append, hml, Nat.sub_self]
          simp [hlt]
        have HC := hide (HCL.out wr ho xs[j] (List.getElem_mem hlt))
        have HX := hide (fun e => HD.out.stay hlt e)
        have HY := hide (fun e => HD.out.move hlt e)
        have HZ := hide (show ∀ W, Blk W b 3 _ → _ from fun W (hW : Blk W b 3 (i64l (pre ++ mid ++ xs.drop j) ++ cur).toArray) => by
          have := hW.set_ pre.length (.int .i64 xs[j])
          rw [del_cells hlt hml HD.out.hne] at this
          exact this)
        have HST := hide (show xs.drop j = xs[j] :: xs.drop (j + 1) from List.drop_eq_getElem_cons hlt)
        generalize xs[j] = x at *
        have hpc : (pre.length : Int) < xs.length := by omega
        have ci : ∃ y, wr.cell? ⟨b, pre.length, none⟩ = some y := ⟨_, by rw [hbk.cell, List.getElem?_toArray]; exact List.getElem?_eq_getElem (by simp [i64l]; omega)⟩
        obtain ⟨y, ci⟩ := ci
        have cf : wr.frozen? ⟨b, pre.length, none⟩ = false := hbk.frozen _
        have hmxp : (pre.length : Int) + 1 ≤ 9223372036854775807 := by omega
        clear hbk ho hml
        cases he : cl x
        · rw [he] at HC HY
          go_wp2_with (go_at_call 32; refine HC.out.mono ?_; rintro e w' ⟨rfl, rfl⟩)
          go_roundw
          case rel =>
            refine ⟨j + 1, pre ++ [x], mid.tail ++ [x], by simp, by go_num, HY.out trivial, HZ.out _ HBK.out, HO.out.setCell _ (by simp)⟩
          case measure => simp [intOf]; omega
        · rw [he] at HC HX
          go_wp2_with (go_at_call 32; refine HC.out.mono ?_; rintro e w' ⟨rfl, rfl⟩)
          go_roundw
          case rel =>
            refine ⟨j + 1, pre, mid ++ [x], rfl, by go_num, HX.out trivial, ?_, HO.out⟩
            have := HBK.out
            rw [HST.out] at this
            simpa using this
          case measure => simp [intOf]; omega
      · obtain rfl : j = xs.length := by omega
        have hpc : (pre.length : Int) < xs.length := by omega
        have hb2 := hbk
        rw [List.drop_of_length_le (Nat.le_refl _), List.append_nil] at hb2
        obtain ⟨w3, hr3, ho3, hb3⟩ := run_clear_int hb2 pre.length mid.length (cap - pre.length) (by omega) (by simp [i64l])
        have HCLR := hide hr3
        have HO3 := hide (HO.out.trans ho3)
        have HB3 := hide hb3
        have hne : ¬ cap = pre.length := by have := HK.out.1; omega
        have hs1 : xs.length - pre.length = mid.length := by omega
        have hp3 : (xs.length : Int) ≤ cap := by have := HK.out.1; omega
        have hp4 : (pre.length : Int) ≤ cap := by omega
        clear hbk ho hb2 hr3 ho3 hb3 hml
        go_wp2_with (simp only [HCLR.out])
        go_ret
        have hB := HB3.out
        refine ⟨_, rfl, ?_, rfl, HO3.out⟩
        have e0 : xs.filter (fun t => !cl t) = pre := by rw [HD.out.hpre, List.take_length]
        rw [e0]
        have e1 : (i64l (pre ++ mid) ++ cur).take pre.length = i64l pre := by
          rw [i64l_append, List.append_assoc, List.take_append_of_le_length (by rw [i64l_length]; exact Nat.le_refl _), List.take_of_length_le (by rw [i64l_length]; exact Nat.le_refl _)]
        rw [e1, List.append_assoc] at hB
        refine IRow.of_blk hB ?_ HK.out.2
        have h1 := HK.out.1
        have h2 := HD.out.hmid
        simp only [List.length_append, List.length_drop, i64l_length, List.length_replicate]
        omega
end
end Go.Proofs.Ytenpifamklnkmaa
