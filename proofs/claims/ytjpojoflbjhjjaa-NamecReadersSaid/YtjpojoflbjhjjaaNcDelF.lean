/-
  The cache of names (parapet/namec): ForgetDir's test, and slices.IndexFunc with it.
-/
import Derived.Test.YtjpojoflbjhjjaaNcPack
namespace Go.Proofs.Ytjpojoflbjhjjaa
open Go.ChangeShapes Go.WideShapes Go.ChangeAt Go.RowKit Go.Maps
set_option linter.unusedVariables false
set_option linter.unusedSimpArgs false
section
variable {w w' : World} {v : Value} {O : List NM} {dir : Int} {bx : Nat}
theorem fd1_is (k : NM) (h : w.cell? ⟨bx, 0, none⟩ = some (.int .i64 dir)) : Calls Try.prog 41 #[kV k, .pointer (some ⟨bx, 0, none⟩)] w fun e w' => e = .returned (.bool (k.dir == dir)) ∧ Only [] w w' := by
  have hbl := World.block_lt_of_cell? w ⟨bx, 0, none⟩ h
  have HO := hide ((Only.refl [] w).alloc (.cells #[.int .i64 k.dir, .string k.name] 42))
  have HB := hide (Blk.new w 42 #[.int .i64 k.dir, .string k.name])
  have c0 : (w.alloc (.cells #[.int .i64 k.dir, .string k.name] 42)).cell? ⟨bx, 0, none⟩ = some (.int .i64 dir) := (HO.out.cell hbl (by simp)).trans h
  have b0 : (w.alloc (.cells #[.int .i64 k.dir, .string k.name] 42)).cell? ⟨w.heap.size, 0, none⟩ = some (.int .i64 k.dir) := HB.out.cell 0
  clear h
  unfold kV
  go_enter Try.func41, Try.ntmps41
  go_wp2
  go_ret
  exact ⟨rfl, by have := HO.out; repeat (first | exact this | apply Only.drew | apply Only.drewN)⟩
set_option maxRecDepth 100000 in
set_option maxHeartbeats 1000000 in
/-- The first name of that directory. -/
theorem idxFN_is (h : NRw w v O) (hf : O.length ≤ 4096) (hc : w.cell? ⟨bx, 0, none⟩ = some (.int .i64 dir)) :
    Calls Try.prog 53 #[v, .func (.func 41) #[] #[.pointer (some ⟨bx, 0, none⟩)]] w fun e w' => ((∃ i : Nat, ∃ k, O[i]? = some k ∧ k.dir = dir ∧ (∀ j x, j < i → O[j]? = some x → x.dir ≠ dir) ∧ e = .returned (.int .i64 i)) ∨ ((∀ x ∈ O, x.dir ≠ dir) ∧ e = .returned (.int .i64 (-1)))) ∧ Only [] w w' := by
  obtain ⟨A, cap, rfl, hA⟩ := h.form
  have hbl := World.block_lt_of_cell? w ⟨bx, 0, none⟩ hc
  have HA := hide (fun (W : World) (ho : Only [] w W) (i : Nat) (k : NM) (hk : O[i]? = some k) => (show ∃ b, A = some ⟨b, 0, none⟩ ∧ W.cell? ⟨b, i * 2, none⟩ = some (.int .i64 k.dir) ∧ W.cell? ⟨b, i * 2 + 1, none⟩ = some (.string k.name) from by
    obtain ⟨b, rfl, hb⟩ := hA (by have := (List.getElem?_eq_some_iff.1 hk).1; omega)
    have hcc := h.cell rfl rfl hk
    exact ⟨b, rfl, (ho.cell hb (by simp)).trans hcc.1, (ho.cell hb (by simp)).trans hcc.2⟩))
  have HC := hide (fun (W : World) (ho : Only [] w W) (k : NM) => fd1_is k ((ho.cell hbl (by simp)).trans hc))
  clear h hA hc hbl
  go_enter Try.func53, Try.ntmps53
  go_wp2_with fail
  go_loopw [8] (fun iv wr => ∃ i : Nat, i ≤ O.length ∧ iv = .int .i64 i ∧ Only [] w wr ∧ ∀ j x, j < i → O[j]? = some x → x.dir ≠ dir) (fun iv _ => O.length - (intOf iv).toNat)
  case atStart => exact ⟨0, Nat.zero_le _, rfl, by repeat (first | exact Only.refl _ _ | apply Only.drew | apply Only.drewN), fun j x hj => absurd hj (by omega)⟩
  case round =>
    obtain ⟨i, hi, rfl, ho, hno⟩ := hrel
    have HO := hide ho
    have HNO := hide hno
    clear ho hno
    by_cases hlt : i < O.length
    · obtain ⟨k, hk⟩ : ∃ k, O[i]? = some k := ⟨_, List.getElem?_eq_getElem hlt⟩
      have hltI : (i : Int) < O.length := by omega
      obtain ⟨b, rfl, c0, c1⟩ := HA.out wr HO.out i k hk
      have HK := hide hk
      have HCK := hide (show Calls Try.prog 41 #[.agg #[.int .i64 k.dir, .string k.name], .pointer (some ⟨bx, 0, none⟩)] wr fun e w' => e = .returned (.bool (k.dir == dir)) ∧ Only [] wr w' from HC.out wr HO.out k)
      clear hk
      by_cases hd : k.dir = dir
      · have hb : (k.dir == dir) = true := by simp [hd]
        rw [hb] at HCK
        have HD := hide hd
        clear hd hb
        go_wp2_with (go_at_call 41; refine HCK.out.mono ?_; rintro e w2 ⟨rfl, ho2⟩; have HO2 := hide ho2; clear ho2)
        go_ret
        exact ⟨.inl ⟨i, k, HK.out, HD.out, HNO.out, rfl⟩, HO.out.trans HO2.out⟩
      · have hb : (k.dir == dir) = false := beq_false_of_ne hd
        rw [hb] at HCK
        go_wp2_with (go_at_call 41; refine HCK.out.mono ?_; rintro e w2 ⟨rfl, ho2⟩; have HO2 := hide ho2; clear ho2)
        go_roundw
        case rel =>
          refine ⟨i + 1, hlt, by go_num, HO.out.trans HO2.out, fun j x hj hx => ?_⟩
          rcases Nat.lt_or_ge j i with e | e
          · exact HNO.out j x e hx
          · have : j = i := by omega
            subst this
            rw [HK.out] at hx
            injection hx with hx
            subst hx
            exact hd
        case measure => simp [intOf]; omega
    · go_wp2
      go_ret
      refine ⟨.inr ⟨fun x hx => ?_, rfl⟩, HO.out⟩
      obtain ⟨j, hj, e⟩ := List.mem_iff_getElem.1 hx
      exact HNO.out j x (by omega) (by rw [List.getElem?_eq_getElem hj, e])
end
end Go.Proofs.Ytjpojoflbjhjjaa
