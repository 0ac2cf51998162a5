/-
  The document's own frames (parapetref06): with, Used.
-/
import Derived.Test.YtfbegickdnjfcaaRef06d
namespace Go.Proofs.Ytfbegickdnjfcaa
open Go.ChangeShapes Go.WideShapes Go.ChangeAt Go.RowKit
set_option linter.unusedVariables false
set_option linter.unusedSimpArgs false
section
variable {w w' w1 w5 : World} {a cC bL : Nat} {vs : Nat → Value} {Z Z1 : List Nat} {first harts : Nat} {ns ns1 ns2 : Nat → List Int} {S : List Nat} {v5 : Value} {zs : List Int}
/-- Where a number stands among some that rise. -/
def AtN (zs : List Int) (x : Int) (k : Nat) : Prop := k ≤ zs.length ∧ (∀ i, i < k → gb zs i < x) ∧ (k < zs.length → x ≤ gb zs k)

theorem news_one (w5 : World) (x : Int) (W : World) (ho : Only [] (w5.alloc (.cells #[.int .i64 x] 3)) W) : ∀ ad, some (⟨w5.heap.size, 0, none⟩ : Addr) = some ad → ∀ j u, (i64l [x])[j]? = some u → W.cell? (ad.add j) = some u := by
  rintro ad e j u hu
  injection e with e
  subst e
  have h0 : j = 0 := by
    have := (List.getElem?_eq_some_iff.1 hu).1
    simp [i64l] at this
    exact this
  subst h0
  rw [add_at, ((Blk.new w5 3 #[.int .i64 x]).only ho (by simp)).cell]
  exact hu

theorem copied_more {W w6 : World} {v v6 : Value} {ys us : List Int} (hcp : Copied w w5 v ys) (ho : Only [] w5 W) (h1 : IRow w6 v6 us) (h2 : Only v.ownBlock.toList W w6) (h3 : ∀ q, v6.ownBlock = some q → v.ownBlock = some q ∨ W.heap.size ≤ q) : Copied w w6 v6 us := by
  refine ⟨h1, (hcp.only.trans ho).trans' h2 (fun k hk hm => ?_), fun q hq => ?_⟩
  · have := hcp.new k (mem_own.1 hm)
    omega
  · rcases h3 q hq with h | h
    · exact hcp.new q h
    · exact Nat.le_trans (hcp.only.trans ho).size h

set_option maxRecDepth 100000 in
set_option maxHeartbeats 2000000 in
theorem rwith_zero (v : Value) (hs : SeesZ w v [] Z) (x : Int) :
    Calls Try.prog 47 #[v, .int .i64 x] w fun e w' => ∃ v' k, e = .returned v' ∧ AtN [] x k ∧ Copied w w' v' (([] : List Int).take k ++ [x] ++ ([] : List Int).drop k) := by
  obtain ⟨A, c, rfl, h1, h2, hA, -⟩ := hs
  have HAT := hide (show AtN [] x 0 from ⟨Nat.le_refl _, fun i hi => by omega, fun h => by simp at h⟩)
  rw [show ([] : List Int).length = 0 from rfl] at *
  cases A with
  | none =>
    obtain rfl : c = 0 := (hA rfl).2
    clear hA
    go_enter Try.func47, Try.ntmps47
    have HP5 := hide (fun (A5 : Option Addr) (c5 : Nat) (w5 : World) (hcp : Copied w w5 (.slice A5 0 c5) (([] : List Int).take 0)) => (show (∀ W, Only [] w5 W → IRow W (.slice A5 0 c5) (([] : List Int).take 0)) ∧ (∀ W, Only [] w5 W → Only [] w W) ∧
        (∀ W, Only [] (w5.alloc (.cells #[.int .i64 x] 3)) W → ∀ ad, some (⟨w5.heap.size, 0, none⟩ : Addr) = some ad → ∀ j u, (i64l [x])[j]? = some u → W.cell? (ad.add j) = some u) ∧
        (∀ W v6 w6, Only [] w5 W → IRow w6 v6 (([] : List Int).take 0 ++ [x]) → Only (Value.slice A5 0 c5).ownBlock.toList W w6 → (∀ q, v6.ownBlock = some q → (Value.slice A5 0 c5).ownBlock = some q ∨ W.heap.size ≤ q) → Copied w w6 v6 (([] : List Int).take 0 ++ [x])) from
      ⟨fun W ho => KRow.only hcp.row ho (by simp), fun W ho => hcp.only.trans ho, fun W ho => news_one w5 x W ho, fun W v6 w6 ho h1 h2 h3 => copied_more hcp ho h1 h2 h3⟩))
    have HB1 := hide (show (([] : List Int).take 0).length + 1 < 4000000000000 by simp <;> omega)
    have HB2 := hide (show (([] : List Int).take 0 ++ [x]).length + (0) < 4000000000000 by simp <;> omega)
    have HTK := hide (show (([] : List Int).take 0).length = 0 by simp <;> omega)
    have HTD := hide (show (([] : List Int).drop 0).length = 0 by simp)
    have HMB := hide (show 0 ≤ 100000 by omega)
    go_wp2
    go_loopw [5] (fun iv wr => iv = .int .i64 0 ∧ wr = w) (fun _ _ => 0)
    case atStart => exact ⟨rfl, rfl⟩
    obtain ⟨rfl, rfl⟩ := hrel
    obtain ⟨w, rfl⟩ : ∃ w : World, w = wr := ⟨_, rfl⟩
    go_wp2_with (at_builtin; (refine wpList_copy rfl _ _ rfl w.heap.size rfl (Blk.new w 3 #[]) (none) (0) (0) rfl (fun _ => ⟨rfl, rfl⟩) (([] : List Int).take 0) HTK.out (fun ad e => by cases e) HMB.out w (by repeat (first | exact Only.refl _ _ | apply Only.drew | apply Only.alloc)) (Nat.le_refl _) ?_; intro A5 c5 w5 hcp; obtain ⟨q1, q2, q3, q4⟩ := HP5.out A5 c5 w5 hcp; have HQ1 := hide q1; have HQ2 := hide q2; have HQ3 := hide q3; have HQ4 := hide q4; clear hcp q1 q2 q3 q4))
    go_region_law (first | (have hg := HC6; refine step_append_any rfl _ _ rfl v6 (([] : List Int).take 0 ++ [x]) (by simp [Act.eval]) HC6.out.row (none) (0) (0) (by simp [Act.eval]) (fun _ => ⟨rfl, rfl⟩) (([] : List Int).drop 0) HTD.out (fun ad e => by cases e) HB2.out ?_; intro v7 w7 h1 h2 h3) | (refine step_append_any rfl _ _ rfl (.slice A5 (0) c5) (([] : List Int).take 0) (by simp [Act.eval]) (HQ1.out _ (by repeat (first | exact Only.refl _ _ | apply Only.drew | apply Only.alloc))) (some ⟨w5.heap.size, 0, none⟩) 1 1 (by simp [Act.eval]) (fun e => by cases e) [x] rfl (HQ3.out _ (by repeat (first | exact Only.refl _ _ | apply Only.drew | apply Only.alloc))) HB1.out ?_; intro v6 w6 h1 h2 h3; have h4 := HQ4.out _ v6 w6 (by repeat (first | exact Only.refl _ _ | apply Only.drew | apply Only.alloc)) h1 h2 h3; have HC6 := hide h4; clear h1 h2 h3 h4))
    all_goals
      have HC7 := copied_more HC6.out (Only.refl [] _) h1 h2 h3
      go_wp2
      go_ret
      exact ⟨_, _, rfl, HAT.out, HC7⟩
  | some ad =>
    clear hA
    obtain ⟨b, o, p⟩ := ad
    have hcm : (c : Int) ≤ 9223372036854775807 := by unfold maxLen at h2; omega
    go_enter Try.func47, Try.ntmps47
    have HP5 := hide (fun (A5 : Option Addr) (c5 : Nat) (w5 : World) (hcp : Copied w w5 (.slice A5 0 c5) (([] : List Int).take 0)) => (show (∀ W, Only [] w5 W → IRow W (.slice A5 0 c5) (([] : List Int).take 0)) ∧ (∀ W, Only [] w5 W → Only [] w W) ∧
        (∀ W, Only [] (w5.alloc (.cells #[.int .i64 x] 3)) W → ∀ ad, some (⟨w5.heap.size, 0, none⟩ : Addr) = some ad → ∀ j u, (i64l [x])[j]? = some u → W.cell? (ad.add j) = some u) ∧
        (∀ W v6 w6, Only [] w5 W → IRow w6 v6 (([] : List Int).take 0 ++ [x]) → Only (Value.slice A5 0 c5).ownBlock.toList W w6 → (∀ q, v6.ownBlock = some q → (Value.slice A5 0 c5).ownBlock = some q ∨ W.heap.size ≤ q) → Copied w w6 v6 (([] : List Int).take 0 ++ [x])) from
      ⟨fun W ho => KRow.only hcp.row ho (by simp), fun W ho => hcp.only.trans ho, fun W ho => news_one w5 x W ho, fun W v6 w6 ho h1 h2 h3 => copied_more hcp ho h1 h2 h3⟩))
    have HB1 := hide (show (([] : List Int).take 0).length + 1 < 4000000000000 by simp <;> omega)
    have HB2 := hide (show (([] : List Int).take 0 ++ [x]).length + (0) < 4000000000000 by simp <;> omega)
    have HTK := hide (show (([] : List Int).take 0).length = 0 by simp <;> omega)
    have HTD := hide (show (([] : List Int).drop 0).length = 0 by simp)
    have HMB := hide (show 0 ≤ 100000 by omega)
    go_wp2
    go_loopw [5] (fun iv wr => iv = .int .i64 0 ∧ wr = w) (fun _ _ => 0)
    case atStart => exact ⟨rfl, rfl⟩
    obtain ⟨rfl, rfl⟩ := hrel
    obtain ⟨w, rfl⟩ : ∃ w : World, w = wr := ⟨_, rfl⟩
    go_wp2_with (at_builtin; (refine wpList_copy rfl _ _ rfl w.heap.size rfl (Blk.new w 3 #[]) (some ⟨b, o, p⟩) (0) (c) rfl (fun e => by cases e) (([] : List Int).take 0) HTK.out (fun ad _ j u hu => by simp [i64l] at hu) HMB.out w (by repeat (first | exact Only.refl _ _ | apply Only.drew | apply Only.alloc)) (Nat.le_refl _) ?_; intro A5 c5 w5 hcp; obtain ⟨q1, q2, q3, q4⟩ := HP5.out A5 c5 w5 hcp; have HQ1 := hide q1; have HQ2 := hide q2; have HQ3 := hide q3; have HQ4 := hide q4; clear hcp q1 q2 q3 q4))
    go_region_law (first | (have hg := HC6; refine step_append_any rfl _ _ rfl v6 (([] : List Int).take 0 ++ [x]) (by simp [Act.eval]) HC6.out.row (some ⟨b, o, p⟩) (0) (c) (by simp [Act.eval]) (fun e => by cases e) (([] : List Int).drop 0) HTD.out (fun ad _ j u hu => by simp [i64l] at hu) HB2.out ?_; intro v7 w7 h1 h2 h3) | (refine step_append_any rfl _ _ rfl (.slice A5 (0) c5) (([] : List Int).take 0) (by simp [Act.eval]) (HQ1.out _ (by repeat (first | exact Only.refl _ _ | apply Only.drew | apply Only.alloc))) (some ⟨w5.heap.size, 0, none⟩) 1 1 (by simp [Act.eval]) (fun e => by cases e) [x] rfl (HQ3.out _ (by repeat (first | exact Only.refl _ _ | apply Only.drew | apply Only.alloc))) HB1.out ?_; intro v6 w6 h1 h2 h3; have h4 := HQ4.out _ v6 w6 (by repeat (first | exact Only.refl _ _ | apply Only.drew | apply Only.alloc)) h1 h2 h3; have HC6 := hide h4; clear h1 h2 h3 h4))
    all_goals
      have HC7 := copied_more HC6.out (Only.refl [] _) h1 h2 h3
      go_wp2
      go_ret
      exact ⟨_, _, rfl, HAT.out, HC7⟩

set_option maxRecDepth 100000 in
set_option maxHeartbeats 2000000 in
theorem rwith_pos (v : Value) (hs : SeesZ w v zs Z) (hp : 0 < zs.length) (hl : zs.length ≤ 4096) (x : Int) :
    Calls Try.prog 47 #[v, .int .i64 x] w fun e w' => ∃ v' k, e = .returned v' ∧ AtN zs x k ∧ Copied w w' v' (zs.take k ++ [x] ++ zs.drop k) := by
  have hs0 := hs
  obtain ⟨A, c, rfl, h1, h2, -, hA⟩ := hs
  obtain ⟨b, o, rfl, hbz, hbl, hcs⟩ := hA hp
  have hcm : (c : Int) ≤ 9223372036854775807 := by unfold maxLen at h2; omega
  have hlc : (zs.length : Int) ≤ c := by omega
  have HS := hide (show ∀ W, Only [] w W → SeesZ W (.slice (some ⟨b, o, none⟩) zs.length c) zs Z from fun W ho => hs0.only ho (by simp))
  have HCS := hide hcs
  clear hs0 hA hbz hbl hcs
  go_enter Try.func47, Try.ntmps47
  go_wp2
  go_loopw [5] (fun iv wr => ∃ k : Nat, k ≤ zs.length ∧ iv = .int .i64 k ∧ (∀ i, i < k → gb zs i < x) ∧ wr = w) (fun iv _ => zs.length - (intOf iv).toNat)
  case atStart => exact ⟨0, Nat.zero_le _, rfl, fun i hi => by omega, rfl⟩
  case round =>
    obtain ⟨k, hk, rfl, hbelow, rfl⟩ := hrel
    obtain ⟨w, rfl⟩ : ∃ w : World, w = wr := ⟨_, rfl⟩
    have HBE := hide hbelow
    clear hbelow
    by_cases hlt : k < zs.length
    · have hcell := HCS.out k hlt
      have hki : (k : Int) < zs.length := by omega
      by_cases hx : gb zs k < x
      · have HX := hide hx
        go_wp2
        go_roundw
        case rel => exact ⟨k + 1, by omega, by go_num, fun i hi => by
          rcases Nat.lt_succ_iff_lt_or_eq.1 hi with h | h
          · exact HBE.out i h
          · rw [h]; exact HX.out, trivial⟩
        case measure => simp [intOf]; omega
      · have HAT := hide (show AtN zs x k from ⟨hk, HBE.out, fun _ => by omega⟩)
        obtain ⟨b9, o9, A', e9, hA', hnt⟩ := SeesZ.tail (S := []) HS.out rfl hk hp
        injection e9 with e9
        injection e9 with e9 e9' e9''
        subst e9
        subst e9'
        clear e9''
        have HNT := hide hnt
        have HNH := hide (SeesZ.head (m := k) HS.out)
        have hk9 : (k : Int) ≤ c := by omega
        have hk8 : k ≤ c := by omega
        have hk7 : (k : Int) ≤ zs.length := by omega
        clear hnt HBE HCS
        have HP5 := hide (fun (A5 : Option Addr) (c5 : Nat) (w5 : World) (hcp : Copied w w5 (.slice A5 k c5) (zs.take k)) => (show (∀ W, Only [] w5 W → IRow W (.slice A5 k c5) (zs.take k)) ∧ (∀ W, Only [] w5 W → Only [] w W) ∧
            (∀ W, Only [] (w5.alloc (.cells #[.int .i64 x] 3)) W → ∀ ad, some (⟨w5.heap.size, 0, none⟩ : Addr) = some ad → ∀ j u, (i64l [x])[j]? = some u → W.cell? (ad.add j) = some u) ∧
            (∀ W v6 w6, Only [] w5 W → IRow w6 v6 (zs.take k ++ [x]) → Only (Value.slice A5 k c5).ownBlock.toList W w6 → (∀ q, v6.ownBlock = some q → (Value.slice A5 k c5).ownBlock = some q ∨ W.heap.size ≤ q) → Copied w w6 v6 (zs.take k ++ [x])) from
          ⟨fun W ho => KRow.only hcp.row ho (by simp), fun W ho => hcp.only.trans ho, fun W ho => news_one w5 x W ho, fun W v6 w6 ho h1 h2 h3 => copied_more hcp ho h1 h2 h3⟩))
        have HB1 := hide (show (zs.take k).length + 1 < 4000000000000 by simp <;> omega)
        have HB2 := hide (show (zs.take k ++ [x]).length + (zs.length - k) < 4000000000000 by simp <;> omega)
        have HTK := hide (show (zs.take k).length = k by simp <;> omega)
        have HTD := hide (show (zs.drop k).length = zs.length - k by simp)
        have HMB := hide (show k ≤ 100000 by omega)
        go_wp2_with (at_builtin; (refine wpList_copy rfl _ _ rfl w.heap.size rfl (Blk.new w 3 #[]) (some ⟨b, o, none⟩) (k) (c) rfl (fun e => by cases e) (zs.take k) HTK.out (HNH.out _ (by repeat (first | exact Only.refl _ _ | apply Only.drew | apply Only.alloc))) HMB.out w (by repeat (first | exact Only.refl _ _ | apply Only.drew | apply Only.alloc)) (Nat.le_refl _) ?_; intro A5 c5 w5 hcp; obtain ⟨q1, q2, q3, q4⟩ := HP5.out A5 c5 w5 hcp; have HQ1 := hide q1; have HQ2 := hide q2; have HQ3 := hide q3; have HQ4 := hide q4; clear hcp q1 q2 q3 q4))
        go_region_law (first | (have hg := HC6; refine step_append_any rfl _ _ rfl v6 (zs.take k ++ [x]) (by simp [Act.eval]) HC6.out.row (some A') (zs.length - k) (c - k) (by simp [Act.eval]) (fun e => by cases e) (zs.drop k) HTD.out (HNT.out _ (by repeat (first | exact HC6.out.only | apply Only.drew | apply Only.alloc))) HB2.out ?_; intro v7 w7 h1 h2 h3) | (refine step_append_any rfl _ _ rfl (.slice A5 (k) c5) (zs.take k) (by simp [Act.eval]) (HQ1.out _ (by repeat (first | exact Only.refl _ _ | apply Only.drew | apply Only.alloc))) (some ⟨w5.heap.size, 0, none⟩) 1 1 (by simp [Act.eval]) (fun e => by cases e) [x] rfl (HQ3.out _ (by repeat (first | exact Only.refl _ _ | apply Only.drew | apply Only.alloc))) HB1.out ?_; intro v6 w6 h1 h2 h3; have h4 := HQ4.out _ v6 w6 (by repeat (first | exact Only.refl _ _ | apply Only.drew | apply Only.alloc)) h1 h2 h3; have HC6 := hide h4; clear h1 h2 h3 h4))
        all_goals
          have HC7 := copied_more HC6.out (Only.refl [] _) h1 h2 h3
          go_wp2
          go_ret
          exact ⟨_, _, rfl, HAT.out, HC7⟩
    · have HAT := hide (show AtN zs x k from ⟨hk, HBE.out, fun h => absurd h hlt⟩)
      have hki : ¬ (k : Int) < zs.length := by omega
      obtain ⟨b9, o9, A', e9, hA', hnt⟩ := SeesZ.tail (S := []) HS.out rfl hk hp
      injection e9 with e9
      injection e9 with e9 e9' e9''
      subst e9
      subst e9'
      clear e9''
      have HNT := hide hnt
      have HNH := hide (SeesZ.head (m := k) HS.out)
      have hk9 : (k : Int) ≤ c := by omega
      have hk8 : k ≤ c := by omega
      have hk7 : (k : Int) ≤ zs.length := by omega
      clear hnt HBE HCS
      have HP5 := hide (fun (A5 : Option Addr) (c5 : Nat) (w5 : World) (hcp : Copied w w5 (.slice A5 k c5) (zs.take k)) => (show (∀ W, Only [] w5 W → IRow W (.slice A5 k c5) (zs.take k)) ∧ (∀ W, Only [] w5 W → Only [] w W) ∧
          (∀ W, Only [] (w5.alloc (.cells #[.int .i64 x] 3)) W → ∀ ad, some (⟨w5.heap.size, 0, none⟩ : Addr) = some ad → ∀ j u, (i64l [x])[j]? = some u → W.cell? (ad.add j) = some u) ∧
          (∀ W v6 w6, Only [] w5 W → IRow w6 v6 (zs.take k ++ [x]) → Only (Value.slice A5 k c5).ownBlock.toList W w6 → (∀ q, v6.ownBlock = some q → (Value.slice A5 k c5).ownBlock = some q ∨ W.heap.size ≤ q) → Copied w w6 v6 (zs.take k ++ [x])) from
        ⟨fun W ho => KRow.only hcp.row ho (by simp), fun W ho => hcp.only.trans ho, fun W ho => news_one w5 x W ho, fun W v6 w6 ho h1 h2 h3 => copied_more hcp ho h1 h2 h3⟩))
      have HB1 := hide (show (zs.take k).length + 1 < 4000000000000 by simp <;> omega)
      have HB2 := hide (show (zs.take k ++ [x]).length + (zs.length - k) < 4000000000000 by simp <;> omega)
      have HTK := hide (show (zs.take k).length = k by simp <;> omega)
      have HTD := hide (show (zs.drop k).length = zs.length - k by simp)
      have HMB := hide (show k ≤ 100000 by omega)
      go_wp2_with (at_builtin; (refine wpList_copy rfl _ _ rfl w.heap.size rfl (Blk.new w 3 #[]) (some ⟨b, o, none⟩) (k) (c) rfl (fun e => by cases e) (zs.take k) HTK.out (HNH.out _ (by repeat (first | exact Only.refl _ _ | apply Only.drew | apply Only.alloc))) HMB.out w (by repeat (first | exact Only.refl _ _ | apply Only.drew | apply Only.alloc)) (Nat.le_refl _) ?_; intro A5 c5 w5 hcp; obtain ⟨q1, q2, q3, q4⟩ := HP5.out A5 c5 w5 hcp; have HQ1 := hide q1; have HQ2 := hide q2; have HQ3 := hide q3; have HQ4 := hide q4; clear hcp q1 q2 q3 q4))
      go_region_law (first | (have hg := HC6; refine step_append_any rfl _ _ rfl v6 (zs.take k ++ [x]) (by simp [Act.eval]) HC6.out.row (some A') (zs.length - k) (c - k) (by simp [Act.eval]) (fun e => by cases e) (zs.drop k) HTD.out (HNT.out _ (by repeat (first | exact HC6.out.only | apply Only.drew | apply Only.alloc))) HB2.out ?_; intro v7 w7 h1 h2 h3) | (refine step_append_any rfl _ _ rfl (.slice A5 (k) c5) (zs.take k) (by simp [Act.eval]) (HQ1.out _ (by repeat (first | exact Only.refl _ _ | apply Only.drew | apply Only.alloc))) (some ⟨w5.heap.size, 0, none⟩) 1 1 (by simp [Act.eval]) (fun e => by cases e) [x] rfl (HQ3.out _ (by repeat (first | exact Only.refl _ _ | apply Only.drew | apply Only.alloc))) HB1.out ?_; intro v6 w6 h1 h2 h3; have h4 := HQ4.out _ v6 w6 (by repeat (first | exact Only.refl _ _ | apply Only.drew | apply Only.alloc)) h1 h2 h3; have HC6 := hide h4; clear h1 h2 h3 h4))
      all_goals
        have HC7 := copied_more HC6.out (Only.refl [] _) h1 h2 h3
        go_wp2
        go_ret
        exact ⟨_, _, rfl, HAT.out, HC7⟩

/-- How many of some numbers are above zero. -/
def usedL (l : List Int) : Nat := (l.filter fun c => decide (0 < c)).length
theorem usedL_succ {l : List Int} {k : Nat} (h : k < l.length) : usedL (l.take (k + 1)) = usedL (l.take k) + if 0 < gb l k then 1 else 0 := by
  unfold usedL gb
  rw [List.take_add_one, List.getElem?_eq_getElem h, Option.toList_some, List.filter_append, List.length_append, List.getD_eq_getElem?_getD, List.getElem?_eq_getElem h, Option.getD_some]
  by_cases hc : 0 < l[k]
  · rw [if_pos hc]; simp [hc]
  · rw [if_neg hc]; simp [hc]
theorem usedL_le (l : List Int) : usedL l ≤ l.length := List.length_filter_le _ _
set_option maxHeartbeats 1000000 in
theorem rused_is (R : R6 w a cC bL vs Z first harts ns) : Calls Try.prog 28 #[.pointer (some ⟨a, 0, none⟩)] w fun e w' => e = .returned (.int .i64 (usedL (ns 2))) ∧ w = w' := by
  have hsm := R.small
  have c1 := R.c1
  have HC := hide (fun k hk => R.cc k hk)
  clear R
  go_enter Try.func28, Try.ntmps28
  go_wp2
  go_loopw [3, 11] (fun nv iv wr => ∃ k : Nat, k ≤ (ns 2).length ∧ iv = .int .i64 k ∧ nv = .int .i64 (usedL ((ns 2).take k)) ∧ wr = w) (fun _ iv _ => (ns 2).length - (intOf iv).toNat)
  case atStart => exact ⟨0, Nat.zero_le _, rfl, rfl, rfl⟩
  case round =>
    obtain ⟨k, hk, rfl, rfl, rfl⟩ := hrel
    by_cases hlt : k < (ns 2).length
    · have hcell := HC.out k hlt
      have hki : (k : Int) < (ns 2).length := by omega
      have hus := usedL_succ hlt
      have hu1 := usedL_le ((ns 2).take k)
      rw [List.length_take] at hu1
      have hu2 : ((usedL ((ns 2).take k) : Nat) : Int) ≤ 4096 := by omega
      generalize usedL ((ns 2).take k) = u at hus hu1 hu2 ⊢
      generalize gb (ns 2) k = y at hus hcell
      by_cases hy : 0 < y
      · rw [if_pos hy] at hus
        have HE := hide hus
        clear hus
        go_wp2
        go_roundw
        case rel => exact ⟨k + 1, by omega, by go_num, by rw [HE.out]; go_num, trivial⟩
        case measure => simp [intOf]; omega
      · rw [if_neg hy] at hus
        have HE := hide hus
        clear hus
        go_wp2
        go_roundw
        case rel => exact ⟨k + 1, by omega, by go_num, by rw [HE.out]; go_num, trivial⟩
        case measure => simp [intOf]; omega
    · obtain rfl : k = (ns 2).length := by omega
      rw [List.take_length]
      go_wp2
      go_ret
      exact ⟨rfl, rfl⟩

theorem rwith_is (v : Value) (hs : SeesZ w v zs Z) (hl : zs.length ≤ 4096) (x : Int) :
    Calls Try.prog 47 #[v, .int .i64 x] w fun e w' => ∃ v' k, e = .returned v' ∧ AtN zs x k ∧ Copied w w' v' (zs.take k ++ [x] ++ zs.drop k) := by
  rcases Nat.eq_zero_or_pos zs.length with h | h
  · obtain rfl := List.eq_nil_of_length_eq_zero h
    exact rwith_zero v hs x
  · exact rwith_pos v hs h hl x
end
end Go.Proofs.Ytfbegickdnjfcaa
