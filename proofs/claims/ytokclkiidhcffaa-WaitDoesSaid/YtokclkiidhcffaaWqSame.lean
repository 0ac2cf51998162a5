/-
  Sleepers (parapet/waitq): channels compared; slices.Index and slices.Contains of channels.
-/
import Derived.Test.YtokclkiidhcffaaWqCome
import Derived.Laws.StructEq
namespace Go.Proofs.Ytokclkiidhcffaa
open Go.ChangeShapes Go.WideShapes Go.ChangeAt Go.RowKit Go.Maps
set_option linter.unusedVariables false

theorem chan_eq {a b : CH} {r : Bool} (h : decide (a = b) = r) (w : World) : (Op.equalIn 10000 32 (kV a) (kV b)).run Try.prog w = .ok r w := by
  have i1 := run_equalIn_int (P := Try.prog) w 9999 3 .i64 .i64 a.kind b.kind Try.underlying3
  have i2 := run_equalIn_int (P := Try.prog) w 9999 3 .i64 .i64 a.a b.a Try.underlying3
  have i3 := run_equalIn_int (P := Try.prog) w 9999 3 .i64 .i64 a.b b.b Try.underlying3
  obtain ⟨a1, a2, a3⟩ := a
  obtain ⟨b1, b2, b3⟩ := b
  subst h
  by_cases e1 : a1 = b1
  · by_cases e2 : a2 = b2
    · by_cases e3 : a3 = b3
      · subst e1; subst e2; subst e3
        go_simp
      · have f : (a3 == b3) = false := by simp [e3]
        subst e1; subst e2
        go_simp
    · have f : (a2 == b2) = false := by simp [e2]
      subst e1
      go_simp
  · have f : (a1 == b1) = false := by simp [e1]
    go_simp
theorem chan_eql {a b : CH} {r : Bool} (h : decide (a = b) = r) (w : World) : (binOp .eql 32 (.agg (cC a)) (.agg (cC b))).run Try.prog w = .ok (.bool r) w := by
  rw [run_eql_struct, show (Op.equalIn 10000 32 (.agg (cC a)) (.agg (cC b))).run Try.prog w = .ok r w from chan_eq h w]
  rfl
theorem ChansAt.parts {w : World} {x : Value} {zs : List CH} (h : ChansAt w x zs) : ∃ A cap, x = .slice A zs.length cap ∧ (0 < zs.length → ∃ b o, A = some ⟨b, o, none⟩) := by
  rcases h with ⟨e, e'⟩ | ⟨b, o, c, e, _, _⟩
  · subst e'; exact ⟨none, 0, e, fun h => by simp at h⟩
  · exact ⟨_, c, e, fun _ => ⟨b, o, rfl⟩⟩
theorem ChansAt.cells {w : World} {zs : List CH} {b o n c : Nat} (h : ChansAt w (.slice (some ⟨b, o, none⟩) n c) zs) {i : Nat} {s : CH} (hs : zs[i]? = some s) :
    w.cell? ⟨b, o + i * 3, none⟩ = some (.int .i64 s.kind) ∧ w.cell? ⟨b, o + i * 3 + 1, none⟩ = some (.int .i64 s.a) ∧ w.cell? ⟨b, o + i * 3 + 2, none⟩ = some (.int .i64 s.b) := by
  rcases h with ⟨e, _⟩ | ⟨b', o', c', e, _, hc⟩
  · cases e
  · injection e with e
    injection e with e
    injection e with e1 e2
    subst e1; subst e2
    have h1 := fun k u hk => hc (i * 3 + k) u (flatC_get hs hk)
    exact ⟨h1 0 _ rfl, by rw [Nat.add_assoc]; exact h1 1 _ rfl, by rw [Nat.add_assoc]; exact h1 2 _ rfl⟩
theorem ChansAt.quiet {w w' : World} {x : Value} {zs : List CH} (h : ChansAt w x zs) (ho : Only [] w w') : ChansAt w' x zs := h.only ho (by simp)
/-- The first k of them. -/
theorem ChansAt.pre {w : World} {A : Option Addr} {n c : Nat} {zs : List CH} (h : ChansAt w (.slice A n c) zs) (k : Nat) (hk : k ≤ zs.length) : ChansAt w (.slice A k c) (zs.take k) := by
  have hl : (zs.take k).length = k := by rw [List.length_take]; omega
  rcases h with ⟨e, e'⟩ | ⟨b, o, c', e, hb, hc⟩
  · subst e'
    injection e with e1 e2 e3
    have : k = 0 := by simpa using hk
    subst this
    exact .inl ⟨by rw [e1, e3], rfl⟩
  · injection e with e1 e2 e3
    refine .inr ⟨b, o, c, by rw [e1, hl], fun hp => hb (by rw [hl] at hp; omega), fun j u hu => hc j u ?_⟩
    rw [← flatC_take] at hu
    rw [List.getElem?_take] at hu
    split at hu
    · exact hu
    · cases hu
/-- Where a channel first stands. -/
def firstC (l : List CH) (c : CH) : Int := if c ∈ l then (l.idxOf c : Nat) else -1
set_option maxHeartbeats 2000000 in
set_option maxRecDepth 100000 in
theorem indexC_is {w : World} {v : Value} {l : List CH} (h : ChansAt w v l) (hf : l.length ≤ 1000) (c : CH) : Calls Try.prog 35 #[v, kV c] w fun e w' => e = .returned (.int .i64 (firstC l c)) ∧ Only [] w w' := by
  obtain ⟨A, cap, rfl, hA⟩ := h.parts
  have HO := hide ((Only.refl [] w).alloc (.cells (cC c) 32))
  have HA := hide hA
  have HL := hide hf
  have HK := hide (fun (W : World) (hw : Only [] (w.alloc (.cells (cC c) 32)) W) => (show W.cell? ⟨w.heap.size, 0, none⟩ = some (.int .i64 c.kind) ∧ W.cell? ⟨w.heap.size, 1, none⟩ = some (.int .i64 c.a) ∧ W.cell? ⟨w.heap.size, 2, none⟩ = some (.int .i64 c.b) from by
    have k := (Blk.new w 32 (cC c)).only hw (by simp)
    exact ⟨k.cell 0, k.cell 1, k.cell 2⟩))
  have HC := hide (fun (W : World) (hw : Only [] (w.alloc (.cells (cC c) 32)) W) (b o : Nat) (hb : A = some ⟨b, o, none⟩) (i : Nat) (s : CH) (hs : l[i]? = some s) => (hb ▸ h.quiet (HO.out.trans hw) : ChansAt W (.slice (some ⟨b, o, none⟩) l.length cap) l).cells hs)
  clear h hA hf
  go_enter Try.func35, Try.ntmps35
  go_wp2
  go_loopw [8] (fun iv wr => ∃ i : Nat, i ≤ l.length ∧ iv = .int .i64 i ∧ c ∉ l.take i ∧ Only [] (w.alloc (.cells (cC c) 32)) wr) (fun iv _ => l.length - (intOf iv).toNat)
  case atStart => exact ⟨0, Nat.zero_le _, rfl, by simp, Only.refl _ _⟩
  case round =>
    obtain ⟨i, hi, rfl, hn, hw⟩ := hrel
    have HW := hide hw
    by_cases hlt : i < l.length
    · have hltI : (i : Int) < l.length := by omega
      obtain ⟨b, o, rfl⟩ := HA.out (by omega)
      obtain ⟨c0, c1, c2⟩ := HC.out wr hw b o rfl i l[i] (by simp [hlt])
      obtain ⟨k0, k1, k2⟩ := HK.out wr hw
      have HN := hide hn
      have HS := hide (show l = l.take i ++ l[i] :: l.drop (i + 1) by rw [List.getElem_cons_drop, List.take_append_drop])
      have HTK := hide (show l.take (i + 1) = l.take i ++ [l[i]] by rw [List.take_add_one]; simp [hlt])
      generalize l[i] = x at *
      clear hn hw
      by_cases he : c = x
      · have heq : ∀ w : World, (binOp .eql 32 (.agg (cC c)) (.agg (cC x))).run Try.prog w = .ok (.bool true) w := chan_eql (by simp [he])
        go_wp2
        go_region
        go_wp2
        go_ret
        refine ⟨?_, HO.out.trans HW.out.drew⟩
        have e1 : l.idxOf c = i := by
          conv => lhs; rw [HS.out]
          rw [List.idxOf_append, if_neg HN.out, he, List.idxOf_cons_self, List.length_take]
          omega
        have e2 : c ∈ l := by rw [HS.out, he]; simp
        show Ending.returned (.int .i64 (i : Int)) = _
        rw [firstC, if_pos e2, e1]
      · have heq : ∀ w : World, (binOp .eql 32 (.agg (cC c)) (.agg (cC x))).run Try.prog w = .ok (.bool false) w := chan_eql (by simp [he])
        go_wp2
        go_region
        go_wp2
        have e3 : wrap64 ((i : Int) + 1) = ((i + 1 : Nat) : Int) := by
          have := HL.out
          rw [wrap64]
          omega
        rw [e3]
        refine ⟨⟨i + 1, hlt, rfl, by rw [HTK.out]; simp [HN.out, he], HW.out.drew⟩, ?_⟩
        simp [intOf]
        omega
    · go_wp2
      go_ret
      refine ⟨?_, HO.out.trans hw⟩
      rw [List.take_of_length_le (by omega)] at hn
      simp [firstC, hn]
theorem containsC_is {w : World} {v : Value} {l : List CH} (h : ChansAt w v l) (hf : l.length ≤ 1000) (c : CH) : Calls Try.prog 34 #[v, kV c] w fun e w' => e = .returned (.bool (decide (c ∈ l))) ∧ Only [] w w' := by
  have HO := hide ((Only.refl [] w).alloc (.cells (cC c) 32))
  have HI := hide (indexC_is (h.quiet HO.out) hf c)
  have k0 : (w.alloc (.cells (cC c) 32)).cell? ⟨w.heap.size, 0, none⟩ = some (.int .i64 c.kind) := (Blk.new w 32 (cC c)).cell 0
  have k1 : (w.alloc (.cells (cC c) 32)).cell? ⟨w.heap.size, 1, none⟩ = some (.int .i64 c.a) := (Blk.new w 32 (cC c)).cell 1
  have k2 : (w.alloc (.cells (cC c) 32)).cell? ⟨w.heap.size, 2, none⟩ = some (.int .i64 c.b) := (Blk.new w 32 (cC c)).cell 2
  by_cases hc : c ∈ l
  · have h0 : (0 : Int) ≤ firstC l c := by rw [firstC, if_pos hc]; omega
    have e1 : decide (c ∈ l) = true := by simp [hc]
    rw [e1]
    clear h hf
    generalize firstC l c = k at *
    go_enter Try.func34, Try.ntmps34
    go_wp2_with (go_at_call 35; refine HI.out.mono ?_; rintro e w' ⟨rfl, ho⟩; have HJ := hide ho; clear ho)
    go_ret
    exact ⟨rfl, HO.out.trans HJ.out⟩
  · have h0 : firstC l c = -1 := by rw [firstC, if_neg hc]
    rw [h0] at HI
    have e1 : decide (c ∈ l) = false := by simp [hc]
    rw [e1]
    clear h hf h0
    go_enter Try.func34, Try.ntmps34
    go_wp2_with (go_at_call 35; refine HI.out.mono ?_; rintro e w' ⟨rfl, ho⟩; have HJ := hide ho; clear ho)
    go_ret
    exact ⟨rfl, HO.out.trans HJ.out⟩
end Go.Proofs.Ytokclkiidhcffaa
