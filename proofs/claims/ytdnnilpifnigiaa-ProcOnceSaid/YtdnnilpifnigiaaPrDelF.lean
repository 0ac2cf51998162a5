/-
  Processes and threads (parapet/proc): the tests of threadsOf, Children; slices.IndexFunc, DeleteFunc, ContainsFunc with them.
-/
import Derived.Test.YtdnnilpifnigiaaPrAll
import Derived.Test.YtdnnilpifnigiaaRqRow
import Derived.Deep.Cut
import Derived.Deep.CutRange
import Derived.Deep.CutBlock
namespace Go.Proofs.Ytdnnilpifnigiaa
open Go.ChangeShapes Go.WideShapes Go.ChangeAt Go.RowKit Go.Maps
set_option linter.unusedVariables false
set_option linter.unusedSimpArgs false
section
variable {w w' : World} {t a b : Nat} {s : PS} {b1 b2 : Nat} {pid : Int}
theorem fieldS1 (x1 x2 x4 : Int) (x3 : Bool) (W : World) : (Instr.field 43 (.agg #[.int .i64 x1, .int .i64 x2, .bool x3, .int .i64 x4]) 1).run Try.prog W = .ok (.int .i64 x2) W := by kernel_rfl
theorem fieldK1 (x1 x2 x4 : Int) (x3 : Bool) (W : World) : (Instr.field 58 (.agg #[.int .i64 x1, .int .i64 x2, .bool x3, .int .i64 x4, .slice none 0 0]) 1).run Try.prog W = .ok (.int .i64 x2) W := by kernel_rfl
theorem th1_is (h : IsPt w t a b s) (k1 : w.cell? ⟨b1, 0, none⟩ = some (.pointer (some ⟨t, 0, none⟩))) (k2 : w.cell? ⟨b2, 0, none⟩ = some (.int .i64 pid)) {y : S4} (hm : y ∈ s.T) : Calls Try.prog 52 #[.int .i64 y.tid, .pointer (some ⟨b1, 0, none⟩), .pointer (some ⟨b2, 0, none⟩)] w fun e w' => e = .returned (.bool (y.pid != pid)) ∧ Only [] w w' := by
  have c1 := h.c1
  have hl := h.seeT hm false (Only.refl _ _)
  have hl2 := h.seeT hm false ((Only.refl _ _).drew)
  clear h hm
  obtain ⟨x1, x2, x3, x4⟩ := y
  dsimp only [sV, sC] at *
  have hfl := fun W => fieldS1 x1 x2 x4 x3 W
  go_enter Try.func52, Try.ntmps52
  go_wp2
  go_region
  all_goals go_wp2
  all_goals go_ret
  all_goals exact ⟨rfl, by repeat (first | exact Only.refl _ _ | apply Only.drew | apply Only.drewN)⟩
theorem ch1_is (h : IsPt w t a b s) (k1 : w.cell? ⟨b1, 0, none⟩ = some (.pointer (some ⟨t, 0, none⟩))) (k2 : w.cell? ⟨b2, 0, none⟩ = some (.int .i64 pid)) {y : K5} (hm : y ∈ s.P) : Calls Try.prog 47 #[.int .i64 y.pid, .pointer (some ⟨b1, 0, none⟩), .pointer (some ⟨b2, 0, none⟩)] w fun e w' => e = .returned (.bool (y.par != pid)) ∧ Only [] w w' := by
  have c1 := h.c0
  have hl := h.seeK hm false (Only.refl _ _)
  have hl2 := h.seeK hm false ((Only.refl _ _).drew)
  clear h hm
  obtain ⟨x1, x2, x3, x4⟩ := y
  dsimp only [kV, kC] at *
  have hfl := fun W => fieldK1 x1 x2 x4 x3 W
  go_enter Try.func47, Try.ntmps47
  go_wp2
  go_region
  all_goals go_wp2
  all_goals go_ret
  all_goals exact ⟨rfl, by repeat (first | exact Only.refl _ _ | apply Only.drew | apply Only.drewN)⟩
end
theorem KRow.blk_ {k : IntKind} {e : TypeId} {w : World} {B : Nat} {v : Value} {ns : List Int} (h : KRow k e w B v ns) (hp : 0 < ns.length) : ∃ (b cap : Nat) (cur : List Value), v = .slice (some ⟨b, 0, none⟩) ns.length cap ∧ B ≤ b ∧ Blk w b e (ns.map (Value.int k) ++ cur).toArray ∧ ns.length + cur.length = cap ∧ cap ≤ maxLen := by
  rcases h.2 with ⟨e', h0⟩ | ⟨b, cap, cur, e', hB, hg, hn, hm, hs, ht⟩
  · simp at h0; rw [h0] at hp; simp at hp
  · refine ⟨b, cap, cur.toList.drop ns.length, e', hB, ?_, ?_, hm⟩
    · show w.heap[b]? = _
      rw [hg]
      have : ns.map (Value.int k) ++ cur.toList.drop ns.length = cur.toList := by
        rw [← ht, Nat.mul_one]; exact List.take_append_drop ns.length cur.toList
      rw [this]
    · simp [hs]; omega
theorem KRow.of_blk {k : IntKind} {e : TypeId} {w : World} {B b cap : Nat} {ns : List Int} {cur : List Value} (hb : Blk w b e (ns.map (Value.int k) ++ cur).toArray) (hB : B ≤ b) (hl : ns.length + cur.length = cap) (hm : cap ≤ maxLen) : KRow k e w B (.slice (some ⟨b, 0, none⟩) ns.length cap) ns :=
  ⟨by simp, .inr ⟨b, cap, _, rfl, hB, hb, by omega, hm, by simp; omega, by simp⟩⟩
/-- In the midst of DeleteFunc: pre stays, mid is old, j is next. -/
structure DelI (xs : List Int) (q : Int → Bool) (j : Nat) (pre mid : List Int) : Prop where
  hj : j ≤ xs.length
  hpre : pre = (xs.take j).filter fun x => !q x
  hmid : pre.length + mid.length = j
  hne : mid ≠ []
theorem filterI_snoc {xs : List Int} {q : Int → Bool} {j : Nat} (hj : j < xs.length) : (xs.take (j + 1)).filter (fun x => !q x) = (xs.take j).filter (fun x => !q x) ++ if q xs[j] then [] else [xs[j]] := by
  rw [List.take_add_one, List.getElem?_eq_getElem hj, List.filter_append]
  congr 1
  cases h : q xs[j] <;> simp [h]
theorem DelI.stay {xs : List Int} {q : Int → Bool} {j : Nat} {pre mid : List Int} (h : DelI xs q j pre mid) (hj : j < xs.length) (hc : q xs[j] = true) : DelI xs q (j + 1) pre (mid ++ [xs[j]]) :=
  ⟨hj, by rw [filterI_snoc hj, if_pos hc, List.append_nil]; exact h.hpre, by have := h.hmid; simp; omega, by simp⟩
theorem DelI.move {xs : List Int} {q : Int → Bool} {j : Nat} {pre mid : List Int} (h : DelI xs q j pre mid) (hj : j < xs.length) (hc : q xs[j] = false) : DelI xs q (j + 1) (pre ++ [xs[j]]) (mid.tail ++ [xs[j]]) :=
  ⟨hj, by rw [filterI_snoc hj, hc, if_neg (by simp), ← h.hpre], by
    have := h.hmid
    have := List.length_pos_iff.2 h.hne
    simp
    omega, by simp⟩
theorem delI_cells {xs pre mid : List Int} {cur : List Value} {j : Nat} (hj : j < xs.length) (hne : mid ≠ []) :
    ((pre ++ mid ++ xs.drop j).map (Value.int .i64) ++ cur).toArray.setIfInBounds pre.length (.int .i64 xs[j]) = (((pre ++ [xs[j]]) ++ (mid.tail ++ [xs[j]]) ++ xs.drop (j + 1)).map (Value.int .i64) ++ cur).toArray := by
  obtain ⟨a, r, rfl⟩ : ∃ a r, mid = a :: r := by
    cases mid with
    | nil => exact absurd rfl hne
    | cons a r => exact ⟨a, r, rfl⟩
  rw [List.setIfInBounds_toArray, List.drop_eq_getElem_cons hj]
  congr 1
  simp only [List.map_append, List.map_cons, List.append_assoc, List.cons_append]
  rw [List.set_append_right _ _ (by simp)]
  simp
def DelRelI (w : World) (b : Nat) (xs : List Int) (q : Int → Bool) (cur : List Value) (iv jv : Value) (wr : World) : Prop :=
  ∃ j pre mid, iv = .int .i64 ((pre : List Int).length : Nat) ∧ jv = .int .i64 (j : Nat) ∧ DelI xs q j pre mid ∧ Blk wr b 3 ((pre ++ mid ++ xs.drop j).map (Value.int .i64) ++ cur).toArray ∧ Only [b] w wr

section
variable {w w' : World} {v : Value} {xs : List Int} {q : Int → Bool} {B b1 b2 : Nat}
set_option maxRecDepth 100000 in
set_option maxHeartbeats 1000000 in
theorem idxTh_is (h : KRow .i64 3 w B v xs) (hf : xs.length ≤ 100000) (HC0 : ∀ W, Only [] w W → ∀ x ∈ xs, Calls Try.prog 52 #[.int .i64 x, .pointer (some ⟨b1, 0, none⟩), .pointer (some ⟨b2, 0, none⟩)] W fun e w' => e = .returned (.bool (q x)) ∧ Only [] W w') :
    Calls Try.prog 58 #[v, .func (.func 52) #[] #[.pointer (some ⟨b1, 0, none⟩), .pointer (some ⟨b2, 0, none⟩)]] w fun e w' => ((∃ i : Nat, ∃ k, xs[i]? = some k ∧ q k = true ∧ (∀ j x, j < i → xs[j]? = some x → q x = false) ∧ e = .returned (.int .i64 i)) ∨ ((∀ x ∈ xs, q x = false) ∧ e = .returned (.int .i64 (-1)))) ∧ Only [] w w' := by
  obtain ⟨A, cap, rfl, hA⟩ := h.form
  have HA := hide (fun (W : World) (ho : Only [] w W) (i : Nat) (k : Int) (hk : xs[i]? = some k) => (show ∃ b, A = some ⟨b, 0, none⟩ ∧ W.cell? ⟨b, i, none⟩ = some (.int .i64 k) from by
    have hi := (List.getElem?_eq_some_iff.1 hk).1
    obtain ⟨b, rfl, hB, hb, hcc⟩ := hA (by omega)
    refine ⟨b, rfl, (ho.cell hb (by simp)).trans ((hcc i hi).trans ?_)⟩
    simp [gb, List.getD, hk]))
  have HC := hide HC0
  clear h hA HC0
  go_enter Try.func58, Try.ntmps58
  go_wp2_with fail
  go_loopw [8] (fun iv wr => ∃ i : Nat, i ≤ xs.length ∧ iv = .int .i64 i ∧ Only [] w wr ∧ ∀ j x, j < i → xs[j]? = some x → q x = false) (fun iv _ => xs.length - (intOf iv).toNat)
  case atStart => exact ⟨0, Nat.zero_le _, rfl, by repeat (first | exact Only.refl _ _ | apply Only.drew | apply Only.drewN), fun j x hj => absurd hj (by omega)⟩
  case round =>
    obtain ⟨i, hi, rfl, ho, hno⟩ := hrel
    have HO := hide ho
    have HNO := hide hno
    clear ho hno
    by_cases hlt : i < xs.length
    · obtain ⟨k, hk⟩ : ∃ k, xs[i]? = some k := ⟨_, List.getElem?_eq_getElem hlt⟩
      have hltI : (i : Int) < xs.length := by omega
      obtain ⟨b, rfl, c0⟩ := HA.out wr HO.out i k hk
      have HK := hide hk
      have HCK := hide (show Calls Try.prog 52 #[.int .i64 k, .pointer (some ⟨b1, 0, none⟩), .pointer (some ⟨b2, 0, none⟩)] wr fun e w' => e = .returned (.bool (q k)) ∧ Only [] wr w' from HC.out wr HO.out k (List.mem_of_getElem? hk))
      clear hk
      cases hd : q k
      · rw [hd] at HCK
        go_wp2_with (go_at_call 52; refine HCK.out.mono ?_; rintro e w2 ⟨rfl, ho2⟩; have HO2 := hide ho2; clear ho2)
        go_roundw
        case rel =>
          refine ⟨i + 1, hlt, by go_num, HO.out.trans HO2.out, fun j x hj hx => ?_⟩
          rcases Nat.lt_or_ge j i with e | e
          · exact HNO.out j x e hx
          · have : j = i := by omega
            subst this
            rw [HK.out] at hx
            injection hx with hx
            subst hx
            exact hd
        case measure => simp [intOf]; omega
      · rw [hd] at HCK
        have HD := hide hd
        clear hd
        go_wp2_with (go_at_call 52; refine HCK.out.mono ?_; rintro e w2 ⟨rfl, ho2⟩; have HO2 := hide ho2; clear ho2)
        go_ret
        exact ⟨.inl ⟨i, k, HK.out, HD.out, HNO.out, rfl⟩, HO.out.trans HO2.out⟩
    · go_wp2
      go_ret
      refine ⟨.inr ⟨fun x hx => ?_, rfl⟩, HO.out⟩
      obtain ⟨j, hj, e⟩ := List.mem_iff_getElem.1 hx
      exact HNO.out j x (by omega) (by rw [List.getElem?_eq_getElem hj, e])
end

section
variable {w w' : World} {v : Value} {xs : List Int} {q : Int → Bool} {B b1 b2 : Nat}
set_option maxRecDepth 100000 in
set_option maxHeartbeats 2000000 in
theorem delTh_is (h : KRow .i64 3 w B v xs) (hf : xs.length ≤ 100000) (HC0 : ∀ W, Only v.ownBlock.toList w W → ∀ x ∈ xs, Calls Try.prog 52 #[.int .i64 x, .pointer (some ⟨b1, 0, none⟩), .pointer (some ⟨b2, 0, none⟩)] W fun e w' => e = .returned (.bool (q x)) ∧ Only [] W w') :
    Calls Try.prog 46 #[v, .func (.func 52) #[] #[.pointer (some ⟨b1, 0, none⟩), .pointer (some ⟨b2, 0, none⟩)]] w fun e w' => ∃ v', e = .returned v' ∧ KRow .i64 3 w' B v' (xs.filter fun x => !q x) ∧ (∀ p, v'.ownBlock = some p → v.ownBlock = some p) ∧ Only v.ownBlock.toList w w' := by
  have HI := idxTh_is h hf (fun W ho x hx => HC0 W (ho.mono (by simp)) x hx)
  by_cases hall : ∀ x ∈ xs, q x = false
  · have HI2 := hide (HI.mono (R' := fun e w' => e = .returned (.int .i64 (-1)) ∧ Only [] w w') (fun e w' ⟨a, b⟩ => by
      rcases a with ⟨i, k, h1, h2, _⟩ | ⟨_, h2⟩
      · rw [hall k (List.mem_of_getElem? h1)] at h2; cases h2
      · exact ⟨h2, b⟩))
    have HE := hide (show (xs.filter fun x => !q x) = xs from List.filter_eq_self.2 (fun x hx => by simp [hall x hx]))
    have HR := hide h
    obtain ⟨A, cap, rfl, -⟩ := h.form
    clear h HC0 hall HI
    go_enter Try.func46, Try.ntmps46
    go_wp2_with (go_at_call 58; refine HI2.out.mono ?_; rintro e w2 ⟨rfl, ho2⟩; have HO2 := hide ho2; clear ho2)
    go_ret
    exact ⟨_, rfl, by rw [HE.out]; exact HR.out.only HO2.out (by simp), fun q hq => hq, HO2.out.mono (by simp)⟩
  · obtain ⟨b, cap, cur, rfl, hBb, hb, hlc, hm⟩ := h.blk_ (by
      rcases Nat.eq_zero_or_pos xs.length with e | e
      · exact absurd (fun x hx => by rw [List.eq_nil_of_length_eq_zero e] at hx; cases hx) hall
      · exact e)
    have HCK := hide (fun (W : World) (ho : Only [b] w W) (x : Int) (hx : x ∈ xs) => HC0 W (by simpa [Value.ownBlock] using ho) x hx)
    have HI2 := hide (HI.mono (R' := fun e w' => (∃ i : Nat, e = .returned (.int .i64 i) ∧ i < xs.length ∧ DelRelI w' b xs q cur (.int .i64 i) (.int .i64 ((i : Int) + 1)) w') ∧ Only [] w w') (fun e w' ⟨a, ho⟩ => by
      rcases a with ⟨i, k, h1, h2, h3, rfl⟩ | ⟨h1, _⟩
      · obtain ⟨hil, hki⟩ := List.getElem?_eq_some_iff.1 h1
        subst hki
        refine ⟨⟨i, rfl, hil, i + 1, xs.take i, [xs[i]], by simp; omega, by go_num, ⟨hil, ?_, by simp; omega, by simp⟩, ?_, Only.refl _ _⟩, ho⟩
        · have hf0 : (xs.take i).filter (fun x => !q x) = xs.take i := List.filter_eq_self.2 (fun x hx => by
            obtain ⟨j, hj, ej⟩ := List.getElem_of_mem hx
            rw [List.length_take] at hj
            rw [List.getElem_take] at ej
            simp [h3 j x (by omega) (by rw [List.getElem?_eq_getElem (by omega), ej])])
          rw [filterI_snoc hil, if_pos h2, List.append_nil, hf0]
        · have : xs.take i ++ [xs[i]] ++ xs.drop (i + 1) = xs := by
            rw [List.append_assoc, List.singleton_append, List.getElem_cons_drop, List.take_append_drop]
          rw [this]
          exact hb.only ho (by simp)
      · exact absurd h1 hall))
    have HK := hide (And.intro hBb (And.intro hlc hm))
    have hm' := hm
    unfold maxLen at hm'
    clear h HC0 hall HI hb hm hBb
    go_enter Try.func46, Try.ntmps46
    go_upto_region 2 with (go_at_call 58; refine HI2.out.mono ?_; rintro e w2 ⟨⟨i, rfl, hil, hrel0⟩, ho2⟩; have HO2 := hide ho2; have H0 := hide hrel0; clear ho2 hrel0)
    have hnei : ((i : Int) == -1) = false := by simp only [beq_eq_false_iff_ne]; omega
    clear HI2
    go_wp2_with fail
    go_loopw [5, 6] (fun iv jv wr => DelRelI w2 b xs q cur iv jv wr) (fun _ jv _ => xs.length - (intOf jv).toNat)
    case atStart => exact H0.out
    case round =>
      obtain ⟨j, pre, mid, rfl, rfl, hd, hbk, ho⟩ := hrel
      have hjl := hd.hj
      have hml := hd.hmid
      have hmp := List.length_pos_iff.2 hd.hne
      have HD := hide hd
      have HBK := hide hbk
      have HO := hide ho
      clear hd H0
      by_cases hlt : j < xs.length
      · have hltI : (j : Int) < xs.length := by omega
        have HX := hide (fun e => HD.out.stay hlt e)
        have HY := hide (fun e => HD.out.move hlt e)
        have HDC := hide (delI_cells (cur := cur) (pre := pre) hlt HD.out.hne)
        have HST := hide (show xs.drop j = xs[j] :: xs.drop (j + 1) from List.drop_eq_getElem_cons hlt)
        have hg : (pre ++ mid ++ xs.drop j)[j]? = some xs[j] := by
          rw [List.getElem?_append_right (by simp; omega)]
          simp only [List.length_append, hml, Nat.sub_self]
          simp [hlt]
        have hmem : xs[j] ∈ xs := List.getElem_mem hlt
        have HMX := hide hmem
        clear hmem
        generalize xs[j] = x at *
        have cj0 : wr.cell? ⟨b, j, none⟩ = some (.int .i64 x) := by
          rw [hbk.cell, List.getElem?_toArray, List.getElem?_append_left (by rw [List.length_map]; exact (List.getElem?_eq_some_iff.1 hg).1), List.getElem?_map, hg]
          rfl
        have hbl := hbk.lt
        have hpc : (pre.length : Int) < xs.length := by omega
        have HCX := hide (show Calls Try.prog 52 #[.int .i64 x, .pointer (some ⟨b1, 0, none⟩), .pointer (some ⟨b2, 0, none⟩)] wr fun e w' => e = .returned (.bool (q x)) ∧ Only [] wr w' from HCK.out _ ((HO2.out.mono (by simp)).trans ho) x HMX.out)
        have HP := hide (fun (W : World) (hW : Blk W b 3 ((pre ++ mid ++ xs.drop j).map (Value.int .i64) ++ cur).toArray) => (show (∃ y, W.cell? ⟨b, pre.length, none⟩ = some y) ∧ W.frozen? ⟨b, pre.length, none⟩ = false from
          ⟨⟨_, by rw [hW.cell, List.getElem?_toArray]; exact List.getElem?_eq_getElem (by simp; omega)⟩, hW.frozen _⟩))
        clear hg hbk ho hml
        cases he : q x
        · rw [he] at HCX
          go_wp2_with (go_at_call 52; refine HCX.out.mono ?_; rintro e w3 ⟨rfl, ho3⟩; have HO3 := hide ho3; obtain ⟨⟨y0, d0⟩, f0⟩ := HP.out w3 (HBK.out.only ho3 (by simp)); clear ho3)
          have hbw : Blk w3 b 3 ((pre ++ mid ++ xs.drop j).map (Value.int .i64) ++ cur).toArray := HBK.out.only HO3.out (by simp)
          refine ⟨⟨j + 1, pre ++ [x], mid.tail ++ [x], by simp, by go_num, HY.out he, ?_, ?_⟩, by simp [intOf]; omega⟩
          · have := hbw.set_ pre.length (.int .i64 x)
            rw [HDC.out] at this
            exact this
          · exact (HO.out.trans (HO3.out.mono (by simp))).setCell (p := ⟨b, pre.length, none⟩) _ (by simp)
        · rw [he] at HCX
          go_wp2_with (go_at_call 52; refine HCX.out.mono ?_; rintro e w3 ⟨rfl, ho3⟩; have HO3 := hide ho3; clear ho3)
          go_roundw
          case rel =>
            refine ⟨j + 1, pre, mid ++ [x], rfl, by go_num, HX.out he, ?_, HO.out.trans (HO3.out.mono (by simp))⟩
            have := HBK.out.only HO3.out (by simp)
            rw [HST.out] at this
            simpa using this
          case measure => simp [intOf]; omega
      · obtain rfl : j = xs.length := by omega
        have hpc : (pre.length : Int) < xs.length := by omega
        have hb2 := hbk
        rw [List.drop_of_length_le (Nat.le_refl _), List.append_nil] at hb2
        obtain ⟨w3, hr3, ho3, hb3⟩ := run_clear_int hb2 pre.length mid.length (cap - pre.length) (by omega) (by simp)
        have HCLR := hide hr3
        have HO3 := hide (HO.out.trans ho3)
        have HB3 := hide hb3
        have hne : ¬ cap = pre.length := by omega
        have hs1 : xs.length - pre.length = mid.length := by omega
        have hp3 : (xs.length : Int) ≤ cap := by omega
        have hp4 : (pre.length : Int) ≤ cap := by omega
        clear hbk ho hb2 hr3 ho3 hb3 hml
        go_wp2_with (simp only [HCLR.out])
        go_ret
        have hB := HB3.out
        refine ⟨_, rfl, ?_, fun q hq => hq, by simpa [Value.ownBlock] using (HO2.out.mono (by simp) |>.trans HO3.out : Only [b] w w3)⟩
        have e0 : xs.filter (fun x => !q x) = pre := by rw [HD.out.hpre, List.take_length]
        rw [e0]
        have e1 : ((pre ++ mid).map (Value.int .i64) ++ cur).take pre.length = pre.map (Value.int .i64) := by
          rw [List.map_append, List.append_assoc, List.take_append_of_le_length (by simp), List.take_of_length_le (by simp)]
        rw [e1, List.append_assoc] at hB
        refine KRow.of_blk hB HK.out.1 ?_ HK.out.2.2
        have h1 := HK.out.2.1
        have h2 := HD.out.hmid
        simp only [List.length_append, List.length_drop, List.length_map, List.length_replicate]
        omega
end

section
variable {w w' : World} {v : Value} {xs : List Int} {q : Int → Bool} {B b1 b2 : Nat}
set_option maxRecDepth 100000 in
set_option maxHeartbeats 1000000 in
theorem idxCh_is (h : KRow .i64 3 w B v xs) (hf : xs.length ≤ 100000) (HC0 : ∀ W, Only [] w W → ∀ x ∈ xs, Calls Try.prog 47 #[.int .i64 x, .pointer (some ⟨b1, 0, none⟩), .pointer (some ⟨b2, 0, none⟩)] W fun e w' => e = .returned (.bool (q x)) ∧ Only [] W w') :
    Calls Try.prog 58 #[v, .func (.func 47) #[] #[.pointer (some ⟨b1, 0, none⟩), .pointer (some ⟨b2, 0, none⟩)]] w fun e w' => ((∃ i : Nat, ∃ k, xs[i]? = some k ∧ q k = true ∧ (∀ j x, j < i → xs[j]? = some x → q x = false) ∧ e = .returned (.int .i64 i)) ∨ ((∀ x ∈ xs, q x = false) ∧ e = .returned (.int .i64 (-1)))) ∧ Only [] w w' := by
  obtain ⟨A, cap, rfl, hA⟩ := h.form
  have HA := hide (fun (W : World) (ho : Only [] w W) (i : Nat) (k : Int) (hk : xs[i]? = some k) => (show ∃ b, A = some ⟨b, 0, none⟩ ∧ W.cell? ⟨b, i, none⟩ = some (.int .i64 k) from by
    have hi := (List.getElem?_eq_some_iff.1 hk).1
    obtain ⟨b, rfl, hB, hb, hcc⟩ := hA (by omega)
    refine ⟨b, rfl, (ho.cell hb (by simp)).trans ((hcc i hi).trans ?_)⟩
    simp [gb, List.getD, hk]))
  have HC := hide HC0
  clear h hA HC0
  go_enter Try.func58, Try.ntmps58
  go_wp2_with fail
  go_loopw [8] (fun iv wr => ∃ i : Nat, i ≤ xs.length ∧ iv = .int .i64 i ∧ Only [] w wr ∧ ∀ j x, j < i → xs[j]? = some x → q x = false) (fun iv _ => xs.length - (intOf iv).toNat)
  case atStart => exact ⟨0, Nat.zero_le _, rfl, by repeat (first | exact Only.refl _ _ | apply Only.drew | apply Only.drewN), fun j x hj => absurd hj (by omega)⟩
  case round =>
    obtain ⟨i, hi, rfl, ho, hno⟩ := hrel
    have HO := hide ho
    have HNO := hide hno
    clear ho hno
    by_cases hlt : i < xs.length
    · obtain ⟨k, hk⟩ : ∃ k, xs[i]? = some k := ⟨_, List.getElem?_eq_getElem hlt⟩
      have hltI : (i : Int) < xs.length := by omega
      obtain ⟨b, rfl, c0⟩ := HA.out wr HO.out i k hk
      have HK := hide hk
      have HCK := hide (show Calls Try.prog 47 #[.int .i64 k, .pointer (some ⟨b1, 0, none⟩), .pointer (some ⟨b2, 0, none⟩)] wr fun e w' => e = .returned (.bool (q k)) ∧ Only [] wr w' from HC.out wr HO.out k (List.mem_of_getElem? hk))
      clear hk
      cases hd : q k
      · rw [hd] at HCK
        go_wp2_with (go_at_call 47; refine HCK.out.mono ?_; rintro e w2 ⟨rfl, ho2⟩; have HO2 := hide ho2; clear ho2)
        go_roundw
        case rel =>
          refine ⟨i + 1, hlt, by go_num, HO.out.trans HO2.out, fun j x hj hx => ?_⟩
          rcases Nat.lt_or_ge j i with e | e
          · exact HNO.out j x e hx
          · have : j = i := by omega
            subst this
            rw [HK.out] at hx
            injection hx with hx
            subst hx
            exact hd
        case measure => simp [intOf]; omega
      · rw [hd] at HCK
        have HD := hide hd
        clear hd
        go_wp2_with (go_at_call 47; refine HCK.out.mono ?_; rintro e w2 ⟨rfl, ho2⟩; have HO2 := hide ho2; clear ho2)
        go_ret
        exact ⟨.inl ⟨i, k, HK.out, HD.out, HNO.out, rfl⟩, HO.out.trans HO2.out⟩
    · go_wp2
      go_ret
      refine ⟨.inr ⟨fun x hx => ?_, rfl⟩, HO.out⟩
      obtain ⟨j, hj, e⟩ := List.mem_iff_getElem.1 hx
      exact HNO.out j x (by omega) (by rw [List.getElem?_eq_getElem hj, e])
end

section
variable {w w' : World} {v : Value} {xs : List Int} {q : Int → Bool} {B b1 b2 : Nat}
set_option maxRecDepth 100000 in
set_option maxHeartbeats 2000000 in
theorem delCh_is (h : KRow .i64 3 w B v xs) (hf : xs.length ≤ 100000) (HC0 : ∀ W, Only v.ownBlock.toList w W → ∀ x ∈ xs, Calls Try.prog 47 #[.int .i64 x, .pointer (some ⟨b1, 0, none⟩), .pointer (some ⟨b2, 0, none⟩)] W fun e w' => e = .returned (.bool (q x)) ∧ Only [] W w') :
    Calls Try.prog 46 #[v, .func (.func 47) #[] #[.pointer (some ⟨b1, 0, none⟩), .pointer (some ⟨b2, 0, none⟩)]] w fun e w' => ∃ v', e = .returned v' ∧ KRow .i64 3 w' B v' (xs.filter fun x => !q x) ∧ (∀ p, v'.ownBlock = some p → v.ownBlock = some p) ∧ Only v.ownBlock.toList w w' := by
  have HI := idxCh_is h hf (fun W ho x hx => HC0 W (ho.mono (by simp)) x hx)
  by_cases hall : ∀ x ∈ xs, q x = false
  · have HI2 := hide (HI.mono (R' := fun e w' => e = .returned (.int .i64 (-1)) ∧ Only [] w w') (fun e w' ⟨a, b⟩ => by
      rcases a with ⟨i, k, h1, h2, _⟩ | ⟨_, h2⟩
      · rw [hall k (List.mem_of_getElem? h1)] at h2; cases h2
      · exact ⟨h2, b⟩))
    have HE := hide (show (xs.filter fun x => !q x) = xs from List.filter_eq_self.2 (fun x hx => by simp [hall x hx]))
    have HR := hide h
    obtain ⟨A, cap, rfl, -⟩ := h.form
    clear h HC0 hall HI
    go_enter Try.func46, Try.ntmps46
    go_wp2_with (go_at_call 58; refine HI2.out.mono ?_; rintro e w2 ⟨rfl, ho2⟩; have HO2 := hide ho2; clear ho2)
    go_ret
    exact ⟨_, rfl, by rw [HE.out]; exact HR.out.only HO2.out (by simp), fun q hq => hq, HO2.out.mono (by simp)⟩
  · obtain ⟨b, cap, cur, rfl, hBb, hb, hlc, hm⟩ := h.blk_ (by
      rcases Nat.eq_zero_or_pos xs.length with e | e
      · exact absurd (fun x hx => by rw [List.eq_nil_of_length_eq_zero e] at hx; cases hx) hall
      · exact e)
    have HCK := hide (fun (W : World) (ho : Only [b] w W) (x : Int) (hx : x ∈ xs) => HC0 W (by simpa [Value.ownBlock] using ho) x hx)
    have HI2 := hide (HI.mono (R' := fun e w' => (∃ i : Nat, e = .returned (.int .i64 i) ∧ i < xs.length ∧ DelRelI w' b xs q cur (.int .i64 i) (.int .i64 ((i : Int) + 1)) w') ∧ Only [] w w') (fun e w' ⟨a, ho⟩ => by
      rcases a with ⟨i, k, h1, h2, h3, rfl⟩ | ⟨h1, _⟩
      · obtain ⟨hil, hki⟩ := List.getElem?_eq_some_iff.1 h1
        subst hki
        refine ⟨⟨i, rfl, hil, i + 1, xs.take i, [xs[i]], by simp; omega, by go_num, ⟨hil, ?_, by simp; omega, by simp⟩, ?_, Only.refl _ _⟩, ho⟩
        · have hf0 : (xs.take i).filter (fun x => !q x) = xs.take i := List.filter_eq_self.2 (fun x hx => by
            obtain ⟨j, hj, ej⟩ := List.getElem_of_mem hx
            rw [List.length_take] at hj
            rw [List.getElem_take] at ej
            simp [h3 j x (by omega) (by rw [List.getElem?_eq_getElem (by omega), ej])])
          rw [filterI_snoc hil, if_pos h2, List.append_nil, hf0]
        · have : xs.take i ++ [xs[i]] ++ xs.drop (i + 1) = xs := by
            rw [List.append_assoc, List.singleton_append, List.getElem_cons_drop, List.take_append_drop]
          rw [this]
          exact hb.only ho (by simp)
      · exact absurd h1 hall))
    have HK := hide (And.intro hBb (And.intro hlc hm))
    have hm' := hm
    unfold maxLen at hm'
    clear h HC0 hall HI hb hm hBb
    go_enter Try.func46, Try.ntmps46
    go_upto_region 2 with (go_at_call 58; refine HI2.out.mono ?_; rintro e w2 ⟨⟨i, rfl, hil, hrel0⟩, ho2⟩; have HO2 := hide ho2; have H0 := hide hrel0; clear ho2 hrel0)
    have hnei : ((i : Int) == -1) = false := by simp only [beq_eq_false_iff_ne]; omega
    clear HI2
    go_wp2_with fail
    go_loopw [5, 6] (fun iv jv wr => DelRelI w2 b xs q cur iv jv wr) (fun _ jv _ => xs.length - (intOf jv).toNat)
    case atStart => exact H0.out
    case round =>
      obtain ⟨j, pre, mid, rfl, rfl, hd, hbk, ho⟩ := hrel
      have hjl := hd.hj
      have hml := hd.hmid
      have hmp := List.length_pos_iff.2 hd.hne
      have HD := hide hd
      have HBK := hide hbk
      have HO := hide ho
      clear hd H0
      by_cases hlt : j < xs.length
      · have hltI : (j : Int) < xs.length := by omega
        have HX := hide (fun e => HD.out.stay hlt e)
        have HY := hide (fun e => HD.out.move hlt e)
        have HDC := hide (delI_cells (cur := cur) (pre := pre) hlt HD.out.hne)
        have HST := hide (show xs.drop j = xs[j] :: xs.drop (j + 1) from List.drop_eq_getElem_cons hlt)
        have hg : (pre ++ mid ++ xs.drop j)[j]? = some xs[j] := by
          rw [List.getElem?_append_right (by simp; omega)]
          simp only [List.length_append, hml, Nat.sub_self]
          simp [hlt]
        have hmem : xs[j] ∈ xs := List.getElem_mem hlt
        have HMX := hide hmem
        clear hmem
        generalize xs[j] = x at *
        have cj0 : wr.cell? ⟨b, j, none⟩ = some (.int .i64 x) := by
          rw [hbk.cell, List.getElem?_toArray, List.getElem?_append_left (by rw [List.length_map]; exact (List.getElem?_eq_some_iff.1 hg).1), List.getElem?_map, hg]
          rfl
        have hbl := hbk.lt
        have hpc : (pre.length : Int) < xs.length := by omega
        have HCX := hide (show Calls Try.prog 47 #[.int .i64 x, .pointer (some ⟨b1, 0, none⟩), .pointer (some ⟨b2, 0, none⟩)] wr fun e w' => e = .returned (.bool (q x)) ∧ Only [] wr w' from HCK.out _ ((HO2.out.mono (by simp)).trans ho) x HMX.out)
        have HP := hide (fun (W : World) (hW : Blk W b 3 ((pre ++ mid ++ xs.drop j).map (Value.int .i64) ++ cur).toArray) => (show (∃ y, W.cell? ⟨b, pre.length, none⟩ = some y) ∧ W.frozen? ⟨b, pre.length, none⟩ = false from
          ⟨⟨_, by rw [hW.cell, List.getElem?_toArray]; exact List.getElem?_eq_getElem (by simp; omega)⟩, hW.frozen _⟩))
        clear hg hbk ho hml
        cases he : q x
        · rw [he] at HCX
          go_wp2_with (go_at_call 47; refine HCX.out.mono ?_; rintro e w3 ⟨rfl, ho3⟩; have HO3 := hide ho3; obtain ⟨⟨y0, d0⟩, f0⟩ := HP.out w3 (HBK.out.only ho3 (by simp)); clear ho3)
          have hbw : Blk w3 b 3 ((pre ++ mid ++ xs.drop j).map (Value.int .i64) ++ cur).toArray := HBK.out.only HO3.out (by simp)
          refine ⟨⟨j + 1, pre ++ [x], mid.tail ++ [x], by simp, by go_num, HY.out he, ?_, ?_⟩, by simp [intOf]; omega⟩
          · have := hbw.set_ pre.length (.int .i64 x)
            rw [HDC.out] at this
            exact this
          · exact (HO.out.trans (HO3.out.mono (by simp))).setCell (p := ⟨b, pre.length, none⟩) _ (by simp)
        · rw [he] at HCX
          go_wp2_with (go_at_call 47; refine HCX.out.mono ?_; rintro e w3 ⟨rfl, ho3⟩; have HO3 := hide ho3; clear ho3)
          go_roundw
          case rel =>
            refine ⟨j + 1, pre, mid ++ [x], rfl, by go_num, HX.out he, ?_, HO.out.trans (HO3.out.mono (by simp))⟩
            have := HBK.out.only HO3.out (by simp)
            rw [HST.out] at this
            simpa using this
          case measure => simp [intOf]; omega
      · obtain rfl : j = xs.length := by omega
        have hpc : (pre.length : Int) < xs.length := by omega
        have hb2 := hbk
        rw [List.drop_of_length_le (Nat.le_refl _), List.append_nil] at hb2
        obtain ⟨w3, hr3, ho3, hb3⟩ := run_clear_int hb2 pre.length mid.length (cap - pre.length) (by omega) (by simp)
        have HCLR := hide hr3
        have HO3 := hide (HO.out.trans ho3)
        have HB3 := hide hb3
        have hne : ¬ cap = pre.length := by omega
        have hs1 : xs.length - pre.length = mid.length := by omega
        have hp3 : (xs.length : Int) ≤ cap := by omega
        have hp4 : (pre.length : Int) ≤ cap := by omega
        clear hbk ho hb2 hr3 ho3 hb3 hml
        go_wp2_with (simp only [HCLR.out])
        go_ret
        have hB := HB3.out
        refine ⟨_, rfl, ?_, fun q hq => hq, by simpa [Value.ownBlock] using (HO2.out.mono (by simp) |>.trans HO3.out : Only [b] w w3)⟩
        have e0 : xs.filter (fun x => !q x) = pre := by rw [HD.out.hpre, List.take_length]
        rw [e0]
        have e1 : ((pre ++ mid).map (Value.int .i64) ++ cur).take pre.length = pre.map (Value.int .i64) := by
          rw [List.map_append, List.append_assoc, List.take_append_of_le_length (by simp), List.take_of_length_le (by simp)]
        rw [e1, List.append_assoc] at hB
        refine KRow.of_blk hB HK.out.1 ?_ HK.out.2.2
        have h1 := HK.out.2.1
        have h2 := HD.out.hmid
        simp only [List.length_append, List.length_drop, List.length_map, List.length_replicate]
        omega
end

section
variable {w w' : World} {v : Value} {xs : List Int} {q : Int → Bool} {B t : Nat}
set_option maxRecDepth 100000 in
set_option maxHeartbeats 1000000 in
theorem idxRu_is (h : KRow .i64 3 w B v xs) (hf : xs.length ≤ 100000) (HC0 : ∀ W, Only [] w W → ∀ x ∈ xs, Calls Try.prog 44 #[.pointer (some ⟨t, 0, none⟩), .int .i64 x] W fun e w' => e = .returned (.bool (q x)) ∧ Only [] W w') :
    Calls Try.prog 58 #[v, .func (.func 44) #[.pointer (some ⟨t, 0, none⟩)] #[]] w fun e w' => ((∃ i : Nat, ∃ k, xs[i]? = some k ∧ q k = true ∧ (∀ j x, j < i → xs[j]? = some x → q x = false) ∧ e = .returned (.int .i64 i)) ∨ ((∀ x ∈ xs, q x = false) ∧ e = .returned (.int .i64 (-1)))) ∧ Only [] w w' := by
  obtain ⟨A, cap, rfl, hA⟩ := h.form
  have HA := hide (fun (W : World) (ho : Only [] w W) (i : Nat) (k : Int) (hk : xs[i]? = some k) => (show ∃ b, A = some ⟨b, 0, none⟩ ∧ W.cell? ⟨b, i, none⟩ = some (.int .i64 k) from by
    have hi := (List.getElem?_eq_some_iff.1 hk).1
    obtain ⟨b, rfl, hB, hb, hcc⟩ := hA (by omega)
    refine ⟨b, rfl, (ho.cell hb (by simp)).trans ((hcc i hi).trans ?_)⟩
    simp [gb, List.getD, hk]))
  have HC := hide HC0
  clear h hA HC0
  go_enter Try.func58, Try.ntmps58
  go_wp2_with fail
  go_loopw [8] (fun iv wr => ∃ i : Nat, i ≤ xs.length ∧ iv = .int .i64 i ∧ Only [] w wr ∧ ∀ j x, j < i → xs[j]? = some x → q x = false) (fun iv _ => xs.length - (intOf iv).toNat)
  case atStart => exact ⟨0, Nat.zero_le _, rfl, by repeat (first | exact Only.refl _ _ | apply Only.drew | apply Only.drewN), fun j x hj => absurd hj (by omega)⟩
  case round =>
    obtain ⟨i, hi, rfl, ho, hno⟩ := hrel
    have HO := hide ho
    have HNO := hide hno
    clear ho hno
    by_cases hlt : i < xs.length
    · obtain ⟨k, hk⟩ : ∃ k, xs[i]? = some k := ⟨_, List.getElem?_eq_getElem hlt⟩
      have hltI : (i : Int) < xs.length := by omega
      obtain ⟨b, rfl, c0⟩ := HA.out wr HO.out i k hk
      have HK := hide hk
      have HCK := hide (show Calls Try.prog 44 #[.pointer (some ⟨t, 0, none⟩), .int .i64 k] wr fun e w' => e = .returned (.bool (q k)) ∧ Only [] wr w' from HC.out wr HO.out k (List.mem_of_getElem? hk))
      clear hk
      cases hd : q k
      · rw [hd] at HCK
        go_wp2_with (go_at_call 44; refine HCK.out.mono ?_; rintro e w2 ⟨rfl, ho2⟩; have HO2 := hide ho2; clear ho2)
        go_roundw
        case rel =>
          refine ⟨i + 1, hlt, by go_num, HO.out.trans HO2.out, fun j x hj hx => ?_⟩
          rcases Nat.lt_or_ge j i with e | e
          · exact HNO.out j x e hx
          · have : j = i := by omega
            subst this
            rw [HK.out] at hx
            injection hx with hx
            subst hx
            exact hd
        case measure => simp [intOf]; omega
      · rw [hd] at HCK
        have HD := hide hd
        clear hd
        go_wp2_with (go_at_call 44; refine HCK.out.mono ?_; rintro e w2 ⟨rfl, ho2⟩; have HO2 := hide ho2; clear ho2)
        go_ret
        exact ⟨.inl ⟨i, k, HK.out, HD.out, HNO.out, rfl⟩, HO.out.trans HO2.out⟩
    · go_wp2
      go_ret
      refine ⟨.inr ⟨fun x hx => ?_, rfl⟩, HO.out⟩
      obtain ⟨j, hj, e⟩ := List.mem_iff_getElem.1 hx
      exact HNO.out j x (by omega) (by rw [List.getElem?_eq_getElem hj, e])
end
end Go.Proofs.Ytdnnilpifnigiaa
