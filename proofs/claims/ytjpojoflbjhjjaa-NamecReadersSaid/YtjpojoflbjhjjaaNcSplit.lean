/-
  The names of a path (parapet/namec): Split.
-/
import Derived.Test.YtjpojoflbjhjjaaKRow
import Derived.Test.YtjpojoflbjhjjaaShelf
import Derived.Deep.QuietTactic
import Derived.BigQuiet
import Derived.Lib.MapLaws
namespace Go.Proofs.Ytjpojoflbjhjjaa
open Go.ChangeShapes Go.WideShapes Go.ChangeAt Go.RowKit
set_option linter.unusedVariables false
set_option linter.unusedSimpArgs false
/-- A row of texts of one's own. -/
def TRw (w : World) (B : Nat) (v : Value) (ss : List ByteArray) : Prop := w.ownsRow B 9 1 v ss.length (ss.map Value.string)
section
variable {w w' : World} {B : Nat} {v : Value} {ss : List ByteArray} {S : List Nat}
theorem TRw.only (h : TRw w B v ss) (ho : Only S w w') (hs : ∀ q, v.ownBlock = some q → q ∉ S) : TRw w' B v ss := ownsRow_only' h ho hs
theorem TRw.nil (w : World) (B : Nat) : TRw w B (.slice none 0 0) [] := ⟨by simp, .inl ⟨rfl, by simp⟩⟩
theorem TRw.form (h : TRw w B v ss) : ∃ A cap, v = .slice A ss.length cap ∧ (0 < ss.length → ∃ b, A = some ⟨b, 0, none⟩ ∧ B ≤ b ∧ b < w.heap.size ∧ ∀ i x, ss[i]? = some x → w.cell? ⟨b, i, none⟩ = some (.string x)) := by
  rcases h.2 with ⟨e, h0⟩ | ⟨b, cap, cur, e, hB, hg, hn, hm, hs, ht⟩
  · have h1 : ss.length = 0 := by simpa using h0
    exact ⟨none, 0, by rw [e, h1], fun hp => absurd hp (by omega)⟩
  · refine ⟨some ⟨b, 0, none⟩, cap, e, fun _ => ⟨b, rfl, hB, Blk.lt (t := 9) hg, fun i x hx => ?_⟩⟩
    have hi := (List.getElem?_eq_some_iff.1 hx).1
    rw [Blk.cell (t := 9) hg]
    have : cur[i]? = (ss.map Value.string)[i]? := by
      rw [← ht, List.getElem?_take]
      simp [hi]
    rw [this]
    simp [hx]
theorem split1_is (x : Nat) (hx : x ≤ 1114111) (w : World) : Calls Try.prog 30 #[.int .i32 x] w fun e w' => e = .returned (.bool (x == 47)) ∧ ∃ q, w' = w.drewN q := by
  by_cases h : x = 47
  · subst h
    go_enter Try.func30, Try.ntmps30
    go_wp2
    go_ret
    exact ⟨rfl, 0, rfl⟩
  · have h1 : ((x : Int) == 47) = false := beq_false_of_ne (by omega)
    have h2 : (x == 47) = false := beq_false_of_ne h
    go_enter Try.func30, Try.ntmps30
    go_wp2
    go_ret
    exact ⟨by rw [h2]; rfl, 0, rfl⟩
theorem split2_is (x : ByteArray) (w : World) : Calls Try.prog 31 #[.string x] w fun e w' => e = .returned (.bool (decide ((14 : Int) < x.size))) ∧ w = w' := by
  go_enter Try.func31, Try.ntmps31
  go_wp2
  go_ret
  exact ⟨rfl, rfl⟩
set_option maxRecDepth 100000 in
theorem idxT_is (b c : Nat) (hn : ss.length ≤ 1000000) (h : ∀ i x, ss[i]? = some x → w.cell? ⟨b, i, none⟩ = some (.string x)) :
    Calls Try.prog 50 #[.slice (some ⟨b, 0, none⟩) ss.length c, .func (.func 31) #[] #[]] w fun e w' => (∃ r : Int, e = .returned (.int .i64 r) ∧ (0 ≤ r ↔ ss.any (fun x => decide ((14 : Int) < x.size)) = true)) ∧ w = w' := by
  have H := hide h
  clear h
  go_enter Try.func50, Try.ntmps50
  go_wp2
  go_loopw [8] (fun i wr => ∃ k : Nat, k ≤ ss.length ∧ i = .int .i64 k ∧ wr = w ∧ ∀ j x, j < k → ss[j]? = some x → ¬ (14 : Int) < x.size) (fun i _ => ss.length - (intOf i).toNat)
  case atStart => exact ⟨0, Nat.zero_le _, rfl, rfl, fun j x hj => absurd hj (by omega)⟩
  case round =>
    obtain ⟨k, hk, rfl, rfl, hno⟩ := hrel
    have HNO := hide hno
    clear hno
    by_cases hlt : k < ss.length
    · obtain ⟨x, hx⟩ : ∃ x, ss[k]? = some x := ⟨_, List.getElem?_eq_getElem hlt⟩
      have hck := H.out k x hx
      have hltI : (k : Int) < ss.length := by omega
      have HX := hide hx
      clear hx
      by_cases hl : (14 : Int) < x.size
      · have hd : decide ((14 : Int) < x.size) = true := decide_eq_true hl
        go_wp2_with (go_at_call 31; refine (split2_is x _).mono ?_; rintro e w' ⟨rfl, rfl⟩)
        go_ret
        exact ⟨⟨_, rfl, by
          have : ss.any (fun x => decide ((14 : Int) < x.size)) = true := List.any_eq_true.2 ⟨x, List.mem_of_getElem? HX.out, hd⟩
          simp [this]⟩, rfl⟩
      · have hd : decide ((14 : Int) < x.size) = false := decide_eq_false hl
        go_wp2_with (go_at_call 31; refine (split2_is x _).mono ?_; rintro e w' ⟨rfl, rfl⟩)
        go_roundw
        case rel =>
          refine ⟨k + 1, hlt, by go_num, trivial, fun j y hj hy => ?_⟩
          rcases Nat.lt_or_ge j k with e | e
          · have := HNO.out j y e hy; omega
          · have : j = k := by omega
            subst this
            rw [HX.out] at hy
            injection hy with hy
            subst hy
            omega
        case measure => simp [intOf]; omega
    · go_wp2
      go_ret
      refine ⟨⟨_, rfl, ?_⟩, rfl⟩
      have : ss.any (fun x => decide ((14 : Int) < x.size)) = false := by
        rw [List.any_eq_false]
        intro x hx
        obtain ⟨j, hj, e⟩ := List.mem_iff_getElem.1 hx
        have := HNO.out j x (by omega) (by rw [List.getElem?_eq_getElem hj, e])
        simpa using this
      exact ⟨fun h => absurd h (by decide), fun h => by obtain ⟨x, hx, hh⟩ := h; have := (List.any_eq_false.1 this) x hx; simp at this; omega⟩
set_option maxRecDepth 100000 in
theorem hasT_is (b c : Nat) (hn : ss.length ≤ 1000000) (h : ∀ i x, ss[i]? = some x → w.cell? ⟨b, i, none⟩ = some (.string x)) :
    Calls Try.prog 32 #[.slice (some ⟨b, 0, none⟩) ss.length c, .func (.func 31) #[] #[]] w fun e w' => e = .returned (.bool (ss.any (fun x => decide ((14 : Int) < x.size)))) ∧ w = w' := by
  have H := hide (idxT_is (w := w) b c hn h)
  clear h
  go_enter Try.func32, Try.ntmps32
  go_wp2_with (go_at_call 50; refine H.out.mono ?_; rintro e w' ⟨⟨r, rfl, hr⟩, rfl⟩; have HR := hide hr; clear hr)
  go_ret
  refine ⟨?_, rfl⟩
  have := HR.out
  cases e : ss.any (fun x => decide ((14 : Int) < x.size)) with
  | true => rw [e] at this; simp at this; simp [this]
  | false => rw [e] at this; simp at this; simp; omega

theorem hasT_of {A c : Nat} {r : Bool} (h : TRw w B (.slice (some ⟨A, 0, none⟩) ss.length c) ss) (hn : ss.length ≤ 1000000) (hr : ss.any (fun x => decide ((14 : Int) < x.size)) = r) :
    Calls Try.prog 32 #[.slice (some ⟨A, 0, none⟩) ss.length c, .func (.func 31) #[] #[]] w fun e w' => e = .returned (.bool r) ∧ w = w' := by
  subst hr
  refine hasT_is A c hn (fun i x hx => ?_)
  obtain ⟨A', cap, e, h1⟩ := h.form
  obtain ⟨b, rfl, _, _, h2⟩ := h1 (by have := (List.getElem?_eq_some_iff.1 hx).1; omega)
  injection e with e _ _
  injection e with e
  injection e with e
  subst e
  exact h2 i x hx
def p47 : Nat → Bool := fun x => x == 47
/-- A path's names. -/
def splitP (s : ByteArray) : Option (List ByteArray) :=
  if 64 < s.size ∨ Lib.hasPrefix s.data.toList [47] = false ∨ 0 ≤ Lib.indexByte s.data.toList 0 then none
  else if 32 < (Lib.goFieldsP p47 s).length ∨ (Lib.goFieldsP p47 s).any (fun x => decide ((14 : Int) < x.size)) = true then none
  else some (Lib.goFieldsP p47 s)
theorem only_of_belowS (h : Below w.heap.size w w') : Only [] w w' := ⟨h.os, h.tape, h.output, h.size, fun k hk _ => h.block k hk⟩
def SplitR (w : World) (s : ByteArray) (e : Ending) (w' : World) : Prop :=
  match splitP s with
  | none => e = .returned (.tuple #[.slice none 0 0, .int .i64 190]) ∧ Only [] w w'
  | some ns => ∃ v, e = .returned (.tuple #[v, .int .i64 0]) ∧ TRw w' w.heap.size v ns ∧ Only [] w w'
theorem splitR_no {s : ByteArray} (h : splitP s = none) (ho : Only [] w w') : SplitR w s (.returned (.tuple #[.slice none 0 0, .int .i64 190])) w' := by unfold SplitR; rw [h]; exact ⟨rfl, ho⟩
theorem splitR_yes {s : ByteArray} {ns : List ByteArray} (h : splitP s = some ns) (ho : Only [] w w') {v : Value} (hr : TRw w' w.heap.size v ns) : SplitR w s (.returned (.tuple #[v, .int .i64 0])) w' := by unfold SplitR; rw [h]; exact ⟨v, rfl, hr, ho⟩
theorem pred47 (w : World) : PredAtRunes Try.prog 30 #[] p47 w := fun W x hx _ => split1_is x hx W
set_option maxRecDepth 100000 in
set_option maxHeartbeats 2000000 in
theorem ncSplit_is (s : ByteArray) (w : World) : Calls Try.prog 6 #[.string s] w fun e w' => SplitR w s e w' := by
  have HP := hide (fun W => Try.strings_HasPrefix s ⟨#[47]⟩ W)
  have HC := hide (fun W => Try.strings_Contains_one s 0 W)
  by_cases h64 : 64 < s.size
  · have hs : splitP s = none := by unfold splitP; rw [if_pos (.inl h64)]
    have h1 : (64 : Int) < s.size := by omega
    go_enter Try.func6, Try.ntmps6
    go_wp2_with fail
    go_ret2
    exact splitR_no hs (by repeat (first | exact Only.refl _ _ | apply Only.drew | apply Only.drewN))
  have h1 : ¬ (64 : Int) < s.size := by omega
  cases hp : Lib.hasPrefix s.data.toList [47] with
  | false =>
    have hs : splitP s = none := by unfold splitP; rw [if_pos (.inr (.inl hp))]
    have HP2 := hide (fun W => show Calls Try.prog 27 #[.string s, .string ⟨#[47]⟩] W fun e w' => e = .returned (.bool false) ∧ w' = W from (HP.out W).mono (fun e w' ⟨a, b⟩ => ⟨by rw [a]; exact congrArg _ (congrArg Value.bool hp), b⟩))
    go_enter Try.func6, Try.ntmps6
    go_wp2_with (go_at_call 27; refine (HP2.out _).mono ?_; rintro e w' ⟨rfl, hw⟩; rw [hw])
    go_ret2
    exact splitR_no hs (by repeat (first | exact Only.refl _ _ | apply Only.drew | apply Only.drewN))
  | true =>
    have HP2 := hide (fun W => show Calls Try.prog 27 #[.string s, .string ⟨#[47]⟩] W fun e w' => e = .returned (.bool true) ∧ w' = W from (HP.out W).mono (fun e w' ⟨a, b⟩ => ⟨by rw [a]; exact congrArg _ (congrArg Value.bool hp), b⟩))
    by_cases hc : 0 ≤ Lib.indexByte s.data.toList 0
    · have hs : splitP s = none := by unfold splitP; rw [if_pos (.inr (.inr hc))]
      have HC2 := hide (fun W => show Calls Try.prog 28 #[.string s, .string ⟨#[0]⟩] W fun e w' => e = .returned (.bool true) ∧ w' = W from (HC.out W).mono (fun e w' ⟨a, b⟩ => ⟨by rw [a, decide_eq_true hc], b⟩))
      go_enter Try.func6, Try.ntmps6
      go_wp2_with (first | (go_at_call 27; refine (HP2.out _).mono ?_; rintro e w' ⟨rfl, hw⟩; rw [hw]; clear hw) | (go_at_call 28; refine (HC2.out _).mono ?_; rintro e w' ⟨rfl, hw⟩; rw [hw]; clear hw))
      go_ret2
      exact splitR_no hs (by repeat (first | exact Only.refl _ _ | apply Only.drew | apply Only.drewN))
    · have HC2 := hide (fun W => show Calls Try.prog 28 #[.string s, .string ⟨#[0]⟩] W fun e w' => e = .returned (.bool false) ∧ w' = W from (HC.out W).mono (fun e w' ⟨a, b⟩ => ⟨by rw [a, decide_eq_false hc], b⟩))
      have hs0 : splitP s = if 32 < (Lib.goFieldsP p47 s).length ∨ (Lib.goFieldsP p47 s).any (fun x => decide ((14 : Int) < x.size)) = true then none else some (Lib.goFieldsP p47 s) := by
        unfold splitP
        rw [if_neg (fun h => h.elim h64 (fun h => h.elim (fun h => by rw [hp] at h; cases h) hc))]
      have HFF := hide (fun W => Try.strings_FieldsFunc_runes 30 #[] (enters_of Try.func30 (by kernel_rfl) rfl) p47 s W (by omega) (pred47 W))
      have HS0 := hide hs0
      clear hs0
      generalize hns : Lib.goFieldsP p47 s = ns at *
      by_cases hl : 32 < ns.length
      · have hs : splitP s = none := by rw [HS0.out, if_pos (.inl hl)]
        have hlI : (32 : Int) < ns.length := by omega
        go_enter Try.func6, Try.ntmps6
        go_wp2_with (first | (go_at_call 27; refine (HP2.out _).mono ?_; rintro e w' ⟨rfl, hw⟩; rw [hw]; clear hw) | (go_at_call 28; refine (HC2.out _).mono ?_; rintro e w' ⟨rfl, hw⟩; rw [hw]; clear hw) | (go_at_call 29; refine (HFF.out _).mono ?_; rintro e w2 ⟨A, rfl, ha, hr, hb⟩; have HB := hide (only_of_belowS hb); clear hb hr ha))
        go_ret2
        exact splitR_no hs HB.out
      · have hlI : ¬ (32 : Int) < ns.length := by omega
        have hlb : ns.length ≤ 1000000 := by omega
        cases ha : ns.any (fun x => decide ((14 : Int) < x.size)) with
        | true =>
          have hs : splitP s = none := by rw [HS0.out, if_pos (.inr ha)]
          go_enter Try.func6, Try.ntmps6
          go_wp2_with (first | (go_at_call 27; refine (HP2.out _).mono ?_; rintro e w' ⟨rfl, hw⟩; rw [hw]; clear hw) | (go_at_call 28; refine (HC2.out _).mono ?_; rintro e w' ⟨rfl, hw⟩; rw [hw]; clear hw) | (go_at_call 29; refine (HFF.out _).mono ?_; rintro e w2 ⟨A, rfl, hA, hr, hb⟩; have HB := hide (only_of_belowS hb); have HT := hide (hasT_of hr hlb ha); clear hb hr hA) | (go_at_call 32; refine HT.out.mono ?_; rintro e w3 ⟨rfl, rfl⟩))
          go_ret2
          exact splitR_no hs HB.out
        | false =>
          have hs : splitP s = some ns := by rw [HS0.out, if_neg (fun h => h.elim hl (fun h => by rw [ha] at h; cases h))]
          go_enter Try.func6, Try.ntmps6
          go_wp2_with (first | (go_at_call 27; refine (HP2.out _).mono ?_; rintro e w' ⟨rfl, hw⟩; rw [hw]; clear hw) | (go_at_call 28; refine (HC2.out _).mono ?_; rintro e w' ⟨rfl, hw⟩; rw [hw]; clear hw) | (go_at_call 29; refine (HFF.out _).mono ?_; rintro e w2 ⟨A, rfl, hA, hr, hb⟩; have HB := hide (only_of_belowS hb); have HT := hide (hasT_of hr hlb ha); have HR := hide hr; clear hb hr hA) | (go_at_call 32; refine HT.out.mono ?_; rintro e w3 ⟨rfl, rfl⟩))
          go_ret2
          exact splitR_yes hs HB.out HR.out
end
end Go.Proofs.Ytjpojoflbjhjjaa
