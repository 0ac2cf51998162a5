/-
  The cache of names (parapet/namec): slices.DeleteFunc with ForgetDir's test.
-/
import Derived.Test.YtjpojoflbjhjjaaNcDelF
import Derived.Deep.Cut
import Derived.Deep.CutRange
import Derived.Deep.CutBlock
namespace Go.Proofs.Ytjpojoflbjhjjaa
open Go.ChangeShapes Go.WideShapes Go.ChangeAt Go.RowKit Go.Maps
set_option linter.unusedVariables false
set_option linter.unusedSimpArgs false
theorem zeroName_each {m : Nat} : ∀ v ∈ (Builtin.zeroCells nameZero.cells m).toList, v = .int .i64 0 ∨ v = .string ⟨#[]⟩ := by
  intro v hv
  rw [Array.mem_toList_iff] at hv
  unfold Builtin.zeroCells at hv
  obtain ⟨i, _, rfl⟩ := Array.mem_map.1 hv
  have hs : nameZero.cells.size = 2 := rfl
  rw [hs]
  have : i % 2 = 0 ∨ i % 2 = 1 := by omega
  rcases this with e | e <;> rw [e]
  · exact .inl rfl
  · exact .inr rfl
section
variable {w w' : World} {v : Value} {O : List NM} {dir : Int} {bx : Nat}
/-- Some names are cleared. -/
theorem run_clear_names {b : Nat} {cur : List Value} (hb : Blk w b 42 cur.toArray) (i m c : Nat) (hm : 0 < m) (hi : i + m * 2 ≤ cur.length) :
    ∃ w1, (∀ ty, (Builtin.clear_ #[51] ty #[.slice (some ⟨b, i, none⟩) m c]).run Try.prog w = .ok (.tuple #[]) w1) ∧ Only [b] w w1 ∧
      Blk w1 b 42 (cur.take i ++ (Builtin.zeroCells nameZero.cells m).toList ++ cur.drop (i + m * 2)).toArray := by
  obtain ⟨m, rfl⟩ : ∃ k, m = k + 1 := ⟨m - 1, by omega⟩
  have hlen : (Builtin.zeroCells nameZero.cells (m + 1)).toList.length = (m + 1) * 2 := by rw [Array.length_toList, size_zeroCells]; rfl
  refine ⟨w.setCells b i (Builtin.zeroCells nameZero.cells (m + 1)).toList, fun ty => ?_, nonly_setCells _ _ _, ?_⟩
  · have hst := run_storeCells_cells (P := Try.prog) b i (Builtin.zeroCells nameZero.cells (m + 1)).toList 0 w (fun j hj => by
      rw [hb.cell, List.getElem?_toArray, List.getElem?_eq_getElem (by omega)]
      rfl) (fun j hj => hb.frozen _) (by intro v hv; rcases zeroName_each v hv with rfl | rfl <;> rfl)
    simp only [Nat.add_zero] at hst
    have hz := name_zero
    generalize nameZero = z at *
    simp [Builtin.clear_, run_underlying Try.underlying51, hz, hst]
  · have := nblk_setCells (Builtin.zeroCells nameZero.cells (m + 1)).toList i w cur hb (by omega)
    rw [hlen] at this
    exact this
end
/-- In the midst of DeleteFunc: pre stays, mid is old, j is next. -/
structure DelN (xs : List NM) (dir : Int) (j : Nat) (pre mid : List NM) : Prop where
  hj : j ≤ xs.length
  hpre : pre = (xs.take j).filter fun t => !(t.dir == dir)
  hmid : pre.length + mid.length = j
  hne : mid ≠ []
theorem filterN_snoc {xs : List NM} {dir : Int} {j : Nat} (hj : j < xs.length) : (xs.take (j + 1)).filter (fun t => !(t.dir == dir)) = (xs.take j).filter (fun t => !(t.dir == dir)) ++ if xs[j].dir == dir then [] else [xs[j]] := by
  rw [List.take_add_one, List.getElem?_eq_getElem hj, List.filter_append]
  congr 1
  cases h : (xs[j].dir == dir) <;> simp [h]
theorem DelN.stay {xs : List NM} {dir : Int} {j : Nat} {pre mid : List NM} (h : DelN xs dir j pre mid) (hj : j < xs.length) (hc : (xs[j].dir == dir) = true) : DelN xs dir (j + 1) pre (mid ++ [xs[j]]) :=
  ⟨hj, by rw [filterN_snoc hj, if_pos hc, List.append_nil]; exact h.hpre, by have := h.hmid; simp; omega, by simp⟩
theorem DelN.move {xs : List NM} {dir : Int} {j : Nat} {pre mid : List NM} (h : DelN xs dir j pre mid) (hj : j < xs.length) (hc : (xs[j].dir == dir) = false) : DelN xs dir (j + 1) (pre ++ [xs[j]]) (mid.tail ++ [xs[j]]) :=
  ⟨hj, by rw [filterN_snoc hj, hc, if_neg (by simp), ← h.hpre], by
    have := h.hmid
    have := List.length_pos_iff.2 h.hne
    simp
    omega, by simp⟩
theorem delN_cells {xs pre mid : List NM} {cur : List Value} {j : Nat} (hj : j < xs.length) (hne : mid ≠ []) :
    ((flatN (pre ++ mid ++ xs.drop j) ++ cur).toArray.setIfInBounds (pre.length * 2) (.int .i64 xs[j].dir)).setIfInBounds (pre.length * 2 + 1) (.string xs[j].name) = (flatN ((pre ++ [xs[j]]) ++ (mid.tail ++ [xs[j]]) ++ xs.drop (j + 1)) ++ cur).toArray := by
  obtain ⟨a, r, rfl⟩ : ∃ a r, mid = a :: r := by
    cases mid with
    | nil => exact absurd rfl hne
    | cons a r => exact ⟨a, r, rfl⟩
  rw [List.setIfInBounds_toArray, List.setIfInBounds_toArray, List.drop_eq_getElem_cons hj]
  congr 1
  have e1 : flatN (pre ++ a :: r ++ xs[j] :: xs.drop (j + 1)) = flatN pre ++ (Value.int .i64 a.dir :: Value.string a.name :: flatN (r ++ xs[j] :: xs.drop (j + 1))) := by
    rw [List.append_assoc, flatN_append]; rfl
  have e2 : flatN (pre ++ [xs[j]] ++ ((a :: r).tail ++ [xs[j]]) ++ xs.drop (j + 1)) = flatN pre ++ (Value.int .i64 xs[j].dir :: Value.string xs[j].name :: flatN (r ++ xs[j] :: xs.drop (j + 1))) := by
    rw [List.append_assoc, List.append_assoc, flatN_append]
    simp [flatN, NM.cells]
  rw [e1, e2, List.append_assoc, List.append_assoc, List.set_append_right _ _ (by rw [flatN_length]; exact Nat.le_refl _), flatN_length, Nat.sub_self, List.set_append_right _ _ (by rw [flatN_length]; omega), flatN_length, show pre.length * 2 + 1 - pre.length * 2 = 1 from by omega]
  rfl
def DelRelN (w : World) (b : Nat) (xs : List NM) (dir : Int) (cur : List Value) (iv jv : Value) (wr : World) : Prop :=
  ∃ j pre mid, iv = .int .i64 ((pre : List NM).length : Nat) ∧ jv = .int .i64 (j : Nat) ∧ DelN xs dir j pre mid ∧ Blk wr b 42 (flatN (pre ++ mid ++ xs.drop j) ++ cur).toArray ∧ Only [b] w wr
section
variable {w w' : World} {v : Value} {O : List NM} {dir : Int} {bx : Nat}
set_option maxRecDepth 100000 in
set_option maxHeartbeats 2000000 in
/-- All names of that directory go. -/
theorem delFN_is (h : NRw w v O) (hf : O.length ≤ 4096) (hc : w.cell? ⟨bx, 0, none⟩ = some (.int .i64 dir)) (hbx : ∀ q, v.ownBlock = some q → q ≠ bx) :
    Calls Try.prog 40 #[v, .func (.func 41) #[] #[.pointer (some ⟨bx, 0, none⟩)]] w fun e w' => ∃ v', e = .returned v' ∧ NRw w' v' (O.filter fun t => !(t.dir == dir)) ∧ (∀ q, v'.ownBlock = some q → v.ownBlock = some q) ∧ Only v.ownBlock.toList w w' := by
  have HI := idxFN_is h hf hc
  by_cases hall : ∀ x ∈ O, x.dir ≠ dir
  · have HI2 := hide (HI.mono (R' := fun e w' => e = .returned (.int .i64 (-1)) ∧ Only [] w w') (fun e w' ⟨a, b⟩ => by
      rcases a with ⟨i, k, h1, h2, _⟩ | ⟨_, h2⟩
      · exact absurd h2 (hall k (List.mem_of_getElem? h1))
      · exact ⟨h2, b⟩))
    have HE := hide (show (O.filter fun t => !(t.dir == dir)) = O from List.filter_eq_self.2 (fun x hx => by simp [hall x hx]))
    have HR := hide h
    obtain ⟨A, cap, rfl, -⟩ := h.form
    clear h hc hbx hall HI
    go_enter Try.func40, Try.ntmps40
    go_wp2_with (go_at_call 53; refine HI2.out.mono ?_; rintro e w2 ⟨rfl, ho2⟩; have HO2 := hide ho2; clear ho2)
    go_ret
    exact ⟨_, rfl, by rw [HE.out]; exact HR.out.only HO2.out (by simp), fun q hq => hq, HO2.out.mono (by simp)⟩
  · obtain ⟨b, cap, cur, rfl, hb, hcl, hlc, hm⟩ := h.blk (by
      rcases Nat.eq_zero_or_pos O.length with e | e
      · exact absurd (fun x hx => by rw [List.eq_nil_of_length_eq_zero e] at hx; cases hx) hall
      · exact e)
    have hbl := World.block_lt_of_cell? w ⟨bx, 0, none⟩ hc
    have hbb : bx ≠ b := fun e => hbx b rfl e.symm
    have HCK := hide (fun (W : World) (ho : Only [b] w W) (k : NM) => fd1_is k ((ho.cell hbl (by simpa using hbb)).trans hc))
    have HI2 := hide (HI.mono (R' := fun e w' => (∃ i : Nat, e = .returned (.int .i64 i) ∧ i < O.length ∧ DelRelN w' b O dir cur (.int .i64 i) (.int .i64 ((i : Int) + 1)) w') ∧ Only [] w w') (fun e w' ⟨a, ho⟩ => by
      rcases a with ⟨i, k, h1, h2, h3, rfl⟩ | ⟨h1, _⟩
      · obtain ⟨hil, hki⟩ := List.getElem?_eq_some_iff.1 h1
        subst hki
        refine ⟨⟨i, rfl, hil, i + 1, O.take i, [O[i]], by simp; omega, by go_num, ⟨hil, ?_, by simp; omega, by simp⟩, ?_, Only.refl _ _⟩, ho⟩
        · have hf0 : (O.take i).filter (fun t => !(t.dir == dir)) = O.take i := List.filter_eq_self.2 (fun x hx => by
            obtain ⟨j, hj, ej⟩ := List.getElem_of_mem hx
            rw [List.length_take] at hj
            rw [List.getElem_take] at ej
            simp [h3 j x (by omega) (by rw [List.getElem?_eq_getElem (by omega), ej])])
          rw [filterN_snoc hil, if_pos (by simp [h2]), List.append_nil, hf0]
        · have : O.take i ++ [O[i]] ++ O.drop (i + 1) = O := by
            rw [List.append_assoc, List.singleton_append, List.getElem_cons_drop, List.take_append_drop]
          rw [this]
          exact hb.only ho (by simp)
      · exact absurd h1 hall))
    have HK := hide (And.intro hcl (And.intro hlc hm))
    have hm' := hm
    unfold maxLen at hm'
    clear h hc hbx hall HI hb hbl hbb hm
    go_enter Try.func40, Try.ntmps40
    go_upto_region 2 with (go_at_call 53; refine HI2.out.mono ?_; rintro e w2 ⟨⟨i, rfl, hil, hrel0⟩, ho2⟩; have HO2 := hide ho2; have H0 := hide hrel0; clear ho2 hrel0)
    have hnei : ((i : Int) == -1) = false := by simp only [beq_eq_false_iff_ne]; omega
    clear HI2
    go_wp2_with fail
    go_loopw [5, 6] (fun iv jv wr => DelRelN w2 b O dir cur iv jv wr) (fun _ jv _ => O.length - (intOf jv).toNat)
    case atStart => exact H0.out
    case round =>
      obtain ⟨j, pre, mid, rfl, rfl, hd, hbk, ho⟩ := hrel
      have hjl := hd.hj
      have hml := hd.hmid
      have hmp := List.length_pos_iff.2 hd.hne
      have HD := hide hd
      have HBK := hide hbk
      have HO := hide ho
      clear hd H0
      by_cases hlt : j < O.length
      · have hltI : (j : Int) < O.length := by omega
        have HX := hide (fun e => HD.out.stay hlt e)
        have HY := hide (fun e => HD.out.move hlt e)
        have HDC := hide (delN_cells (cur := cur) (pre := pre) hlt HD.out.hne)
        have HST := hide (show O.drop j = O[j] :: O.drop (j + 1) from List.drop_eq_getElem_cons hlt)
        have hg : (pre ++ mid ++ O.drop j)[j]? = some O[j] := by
          rw [List.getElem?_append_right (by simp; omega)]
          simp only [List.length_append, hml, Nat.sub_self]
          simp [hlt]
        generalize O[j] = x at *
        have cj0 : wr.cell? ⟨b, j * 2, none⟩ = some (.int .i64 x.dir) := by
          have h1 := flatN_get hg (k := 0) (u := .int .i64 x.dir) rfl
          rw [Nat.add_zero] at h1
          rw [hbk.cell, List.getElem?_toArray, List.getElem?_append_left (List.getElem?_eq_some_iff.1 h1).1]
          exact h1
        have cj1 : wr.cell? ⟨b, j * 2 + 1, none⟩ = some (.string x.name) := by
          have h1 := flatN_get hg (k := 1) (u := .string x.name) rfl
          rw [hbk.cell, List.getElem?_toArray, List.getElem?_append_left (List.getElem?_eq_some_iff.1 h1).1]
          exact h1
        have hbl := hbk.lt
        have hpc : (pre.length : Int) < O.length := by omega
        have HOA := hide ((Only.refl [] wr).alloc (.cells #[.int .i64 x.dir, .string x.name] 42))
        have HBA := hide (Blk.new wr 42 #[.int .i64 x.dir, .string x.name])
        have HCX := hide (show Calls Try.prog 41 #[.agg #[.int .i64 x.dir, .string x.name], .pointer (some ⟨bx, 0, none⟩)] (wr.alloc (.cells #[.int .i64 x.dir, .string x.name] 42)) fun e w' => e = .returned (.bool (x.dir == dir)) ∧ Only [] (wr.alloc (.cells #[.int .i64 x.dir, .string x.name] 42)) w' from HCK.out _ ((HO2.out.mono (by simp)).trans (ho.trans (HOA.out.mono (by simp)))) x)
        have a0 := (HBA.out.cell 0).trans (b := some (Value.int .i64 x.dir)) rfl
        have a1 := (HBA.out.cell 1).trans (b := some (Value.string x.name)) rfl
        have HP := hide (fun (W : World) (hW : Blk W b 42 (flatN (pre ++ mid ++ O.drop j) ++ cur).toArray) => (show (∃ y, W.cell? ⟨b, pre.length * 2, none⟩ = some y) ∧ (∃ y, W.cell? ⟨b, pre.length * 2 + 1, none⟩ = some y) ∧ W.frozen? ⟨b, pre.length * 2, none⟩ = false ∧ W.frozen? ⟨b, pre.length * 2 + 1, none⟩ = false from
          ⟨⟨_, by rw [hW.cell, List.getElem?_toArray]; exact List.getElem?_eq_getElem (by simp [flatN_length]; omega)⟩, ⟨_, by rw [hW.cell, List.getElem?_toArray]; exact List.getElem?_eq_getElem (by simp [flatN_length]; omega)⟩, hW.frozen _, hW.frozen _⟩))
        clear hg hbk ho hml
        cases he : (x.dir == dir)
        · rw [he] at HCX
          go_wp2_with (go_at_call 41; refine HCX.out.mono ?_; rintro e w3 ⟨rfl, ho3⟩; have HO3 := hide (HOA.out.trans ho3); have a0' := ((HBA.out.only ho3 (by simp)).cell 0).trans (b := some (Value.int .i64 x.dir)) rfl; have a1' := ((HBA.out.only ho3 (by simp)).cell 1).trans (b := some (Value.string x.name)) rfl; obtain ⟨⟨y0, d0⟩, ⟨y1, d1⟩, f0, f1⟩ := HP.out w3 (HBK.out.only (HOA.out.trans ho3) (by simp)); clear ho3)
          have hbw : Blk w3 b 42 (flatN (pre ++ mid ++ O.drop j) ++ cur).toArray := HBK.out.only HO3.out (by simp)
          refine ⟨⟨j + 1, pre ++ [x], mid.tail ++ [x], by simp, by go_num, HY.out he, ?_, ?_⟩, by simp [intOf]; omega⟩
          · have := (hbw.set_ (pre.length * 2) (.int .i64 x.dir)).set_ (pre.length * 2 + 1) (.string x.name)
            rw [HDC.out] at this
            exact this
          · exact ((HO.out.trans (HO3.out.mono (by simp))).setCell (p := ⟨b, pre.length * 2, none⟩) _ (by simp)).setCell (p := ⟨b, pre.length * 2 + 1, none⟩) _ (by simp)
        · rw [he] at HCX
          go_wp2_with (go_at_call 41; refine HCX.out.mono ?_; rintro e w3 ⟨rfl, ho3⟩; have HO3 := hide (HOA.out.trans ho3); clear ho3)
          go_roundw
          case rel =>
            refine ⟨j + 1, pre, mid ++ [x], rfl, by go_num, HX.out he, ?_, HO.out.trans (HO3.out.mono (by simp))⟩
            have := HBK.out.only HO3.out (by simp)
            rw [HST.out] at this
            simpa using this
          case measure => simp [intOf]; omega
      · obtain rfl : j = O.length := by omega
        have hpc : (pre.length : Int) < O.length := by omega
        have hb2 := hbk
        rw [List.drop_of_length_le (Nat.le_refl _), List.append_nil] at hb2
        obtain ⟨w3, hr3, ho3, hb3⟩ := run_clear_names hb2 (pre.length * 2) mid.length (cap - pre.length) (by omega) (by rw [List.length_append, flatN_length, List.length_append]; omega)
        have HCLR := hide hr3
        have HO3 := hide (HO.out.trans ho3)
        have HB3 := hide hb3
        have hne : ¬ cap = pre.length := by omega
        have hs1 : O.length - pre.length = mid.length := by omega
        have hp3 : (O.length : Int) ≤ cap := by omega
        have hp4 : (pre.length : Int) ≤ cap := by omega
        clear hbk ho hb2 hr3 ho3 hb3 hml
        go_wp2_with (simp only [HCLR.out])
        go_ret
        have hB := HB3.out
        refine ⟨_, rfl, ?_, fun q hq => hq, HO2.out.mono (by simp) |>.trans HO3.out⟩
        have e0 : O.filter (fun t => !(t.dir == dir)) = pre := by rw [HD.out.hpre, List.take_length]
        rw [e0]
        have e1 : (flatN (pre ++ mid) ++ cur).take (pre.length * 2) = flatN pre := by
          rw [flatN_append, List.append_assoc, List.take_append_of_le_length (by rw [flatN_length]; exact Nat.le_refl _), List.take_of_length_le (by rw [flatN_length]; exact Nat.le_refl _)]
        rw [e1, List.append_assoc] at hB
        refine NRw.of_blk hB ?_ HK.out.2.2
        have h1 := HK.out.1
        have h2 := HD.out.hmid
        have h3 : (Builtin.zeroCells nameZero.cells mid.length).toList.length = mid.length * 2 := by rw [Array.length_toList, size_zeroCells]; rfl
        simp only [List.length_append, List.length_drop, flatN_length, h3]
        omega
end
end Go.Proofs.Ytjpojoflbjhjjaa
