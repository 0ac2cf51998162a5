/-
  Translations (parapet/tlb): shootdowns that are open: put, Over, Open.
-/
import Derived.Test.YtdkbjnnflpopdaaTlbNew
namespace Go.Proofs.Ytdkbjnnflpopdaa
open Go.ChangeShapes Go.WideShapes Go.ChangeAt Go.RowKit Go.Maps
set_option linter.unusedVariables false

theorem zeroS (w : World) : (zeroValue 72).run Try.prog w = .ok (sV (0, [false, false, false, false, false, false, false, false])) w := by kernel_rfl
section
variable {W : World} {b n : Nat} {D : DataW Unit} {O : List (Int × Sh)} {k : Int} {s : Sh}
theorem own_tightS (hown : W.ownsMap Try.prog 3 elemS b n D) : W.ownsMap Try.prog 3 elemS b (Maps.size D) D := by
  obtain ⟨es, clock, hb, F, hs, rfl⟩ := hown
  refine ⟨es, clock, hb, F, ?_, rfl⟩
  rw [Maps.size_eq, length_read]
  exact Nat.le_refl _
theorem keyI (hk : (Lit.int .i64 k).wf = true) : keyOf Try.prog 3 (.int .i64 k) = some (encS.kl k) := keyOf_int_mk Try.underlying3 hk
set_option maxRecDepth 100000 in
theorem lookS (H : MHolds encS D O) (hown : W.ownsMap Try.prog 3 elemS b n D) (hp : (k, s) ∈ O) (c : Bool) : (Instr.lookup 56 (.map (some b)) (.int .i64 k) c).run Try.prog W = .ok (if c then .tuple #[sV s, .bool true] else sV s) W := by
  have hk : (Lit.int .i64 k).wf = true := H.wf _ hp
  cases c
  · obtain ⟨v, ps, hrun, hv⟩ := hown.lookup lawInt Try.underlying56 (zeroS W) (elemS_mk _ rfl) (keyI hk)
    rw [H.at_ _ hp] at hv
    obtain ⟨s', h8, rfl, e⟩ := elemS_inv hv
    injection e with e _
    have e1 : s = s' := encS.dinj e
    subst e1
    exact hrun
  · obtain ⟨v, ps, hrun, hv⟩ := hown.look_ok lawInt Try.underlying56 (zeroS W) (elemS_mk _ rfl) (keyI hk)
    rw [H.at_ _ hp] at hv
    obtain ⟨s', h8, rfl, e⟩ := elemS_inv hv
    injection e with e _
    have e1 : s = s' := encS.dinj e
    subst e1
    rw [H.some_ hp] at hrun
    exact hrun
set_option maxRecDepth 100000 in
theorem shLen (H : MHolds encS D O) (hown : W.ownsMap Try.prog 3 elemS b n D) (hp : (k, s) ∈ O) : s.2.length = 8 := by
  obtain ⟨v, ps, hrun, hv⟩ := hown.look_ok lawInt Try.underlying56 (zeroS W) (elemS_mk _ rfl) (keyI (H.wf _ hp))
  rw [H.at_ _ hp] at hv
  obtain ⟨s', h8, rfl, e⟩ := elemS_inv hv
  injection e with e _
  have e1 : s = s' := encS.dinj e
  rw [e1]
  exact h8
theorem eight {ws : List Bool} (h : ws.length = 8) : ∃ b0 b1 b2 b3 b4 b5 b6 b7, ws = [b0, b1, b2, b3, b4, b5, b6, b7] := by
  match ws, h with
  | [b0, b1, b2, b3, b4, b5, b6, b7], _ => exact ⟨b0, b1, b2, b3, b4, b5, b6, b7, rfl⟩
set_option maxRecDepth 100000 in
theorem lookS_no (H : MHolds encS D O) (hown : W.ownsMap Try.prog 3 elemS b n D) (hk : (Lit.int .i64 k).wf = true) (hn : k ∉ O.map (·.1)) : (Instr.lookup 56 (.map (some b)) (.int .i64 k) true).run Try.prog W = .ok (.tuple #[sV (0, [false, false, false, false, false, false, false, false]), .bool false]) W := by
  obtain ⟨v, ps, hrun, hv⟩ := hown.look_ok lawInt Try.underlying56 (zeroS W) (elemS_mk _ rfl) (keyI hk)
  rw [Maps.atKey_of_not_has (H.none (k := k) hk hn)] at hv
  obtain ⟨s', h8, rfl, e⟩ := elemS_inv hv
  injection e with e _
  have e1 : _ = s' := encS.dinj e
  subst e1
  rw [H.none (k := k) hk hn] at hrun
  exact hrun
theorem lenS (H : MHolds encS D O) (hown : W.ownsMap Try.prog 3 elemS b n D) (ty : TypeId) : (Builtin.len_ #[56] ty #[.map (some b)]).run Try.prog W = .ok (.int .i64 O.length) W := by
  have := hown.len Try.underlying56 ty
  rwa [H.size] at this
theorem storeS_new (H : MHolds encS D O) (hown : W.ownsMap Try.prog 3 elemS b O.length D) (hl : O.length < maxLen) (hk : (Lit.int .i64 k).wf = true) (hn : k ∉ O.map (·.1)) (h8 : s.2.length = 8) :
    ∃ W', (Instr.mapUpdate 56 (.map (some b)) (.int .i64 k) (sV s)).run Try.prog W = .ok () W' ∧ W'.ownsMap Try.prog 3 elemS b (O ++ [(k, s)]).length (D.put (encS.kl k) (encS.fd s)) ∧ Only [b] W W' := by
  obtain ⟨W', h1, h2, h3⟩ := hown.store lawInt Try.underlying56 hl (keyI hk) (elemS_mk s h8)
  have h4 := own_tightS h2
  rw [show (D.put (encS.kl k) (sD s)) = D.put (encS.kl k) (encS.fd s) from rfl, (H.new (f := s) hk hn).size] at h4
  exact ⟨W', h1, h4, Only.of_grown h3.grown (fun k hk _ => by injection hk with hk; simp [hk])⟩
theorem storeS_old (H : MHolds encS D O) (hown : W.ownsMap Try.prog 3 elemS b O.length D) (hl : O.length < maxLen) {s0 : Sh} (hp : (k, s0) ∈ O) (h8 : s.2.length = 8) :
    ∃ W', (Instr.mapUpdate 56 (.map (some b)) (.int .i64 k) (sV s)).run Try.prog W = .ok () W' ∧ W'.ownsMap Try.prog 3 elemS b (setV O k s).length (D.put (encS.kl k) (encS.fd s)) ∧ Only [b] W W' := by
  obtain ⟨W', h1, h2, h3⟩ := hown.store lawInt Try.underlying56 hl (keyI (H.wf _ hp)) (elemS_mk s h8)
  have h4 := own_tightS h2
  rw [show (D.put (encS.kl k) (sD s)) = D.put (encS.kl k) (encS.fd s) from rfl, (H.old hp s).size] at h4
  exact ⟨W', h1, h4, Only.of_grown h3.grown (fun k hk _ => by injection hk with hk; simp [hk])⟩
theorem dropS (H : MHolds encS D O) (hown : W.ownsMap Try.prog 3 elemS b O.length D) (hp : (k, s) ∈ O) (ty : TypeId) :
    ∃ W', (Builtin.delete_ #[56, 3] ty #[.map (some b), .int .i64 k]).run Try.prog W = .ok (.tuple #[]) W' ∧ W'.ownsMap Try.prog 3 elemS b (outV O k).length (D.del (encS.kl k)) ∧ Only [b] W W' := by
  obtain ⟨W', h1, h2, h3⟩ := hown.drop lawInt Try.underlying56 (keyI (H.wf _ hp)) ty
  have h4 := own_tightS h2
  rw [(H.del hp).size] at h4
  exact ⟨W', h1, h4, Only.of_grown h3.grown (fun k hk _ => by injection hk with hk; simp [hk])⟩
/-- .. at a key that is not there. -/
theorem dropS_no (H : MHolds encS D O) (hown : W.ownsMap Try.prog 3 elemS b O.length D) (hk : (Lit.int .i64 k).wf = true) (hn : k ∉ O.map (·.1)) (ty : TypeId) :
    ∃ W', (Builtin.delete_ #[56, 3] ty #[.map (some b), .int .i64 k]).run Try.prog W = .ok (.tuple #[]) W' ∧ W'.ownsMap Try.prog 3 elemS b O.length D ∧ Only [b] W W' := by
  obtain ⟨W', h1, h2, h3⟩ := hown.drop lawInt Try.underlying56 (keyI hk) ty
  rw [Maps.del_of_not_has (H.none (k := k) hk hn)] at h2
  exact ⟨W', h1, h2, Only.of_grown h3.grown (fun k hk _ => by injection hk with hk; simp [hk])⟩
end

section
variable {w w' : World} {t hb ob n size : Nat} {begun : Int} {bs : Nat → Nat} {ls : Nat → List (K2 × K2)} {nx : Nat → Int} {O : List (Int × Sh)} {S : List Nat}
theorem bOpen_is (T : IsTlb w t hb ob n size begun bs ls nx O) : Calls Try.prog 21 #[.pointer (some ⟨t, 0, none⟩)] w fun e w' => e = .returned (.int .i64 O.length) ∧ w = w' := by
  have HC := hide (bclosed_is T)
  have hc : w.cell? ⟨t, 3, none⟩ = some (.map (some ob)) := T.blk.cell 3
  obtain ⟨D, ho1, ho2⟩ := T.opn
  have hln := fun ty => lenS ho2 ho1 ty
  clear T ho1 ho2
  go_enter Try.func21, Try.ntmps21
  go_wp2_with (go_at_call 31; refine HC.out.mono ?_; rintro e w' ⟨rfl, rfl⟩)
  go_ret
  exact ⟨rfl, rfl⟩
/-- Over, of a number that was given: is it not open? -/
theorem bOver_yes (T : IsTlb w t hb ob n size begun bs ls nx O) (id : Int) (h1 : 1 ≤ id) (h2 : id ≤ begun) (h3 : (Lit.int .i64 id).wf = true) (hn : id ∉ O.map (·.1)) : Calls Try.prog 16 #[.pointer (some ⟨t, 0, none⟩), .int .i64 id] w fun e w' => e = .returned (.bool true) ∧ Only [] w w' := by
  have HC := hide (bclosed_is T)
  have hc : w.cell? ⟨t, 3, none⟩ = some (.map (some ob)) := T.blk.cell 3
  have hc2 : w.cell? ⟨t, 2, none⟩ = some (.int .i64 begun) := T.blk.cell 2
  obtain ⟨D, ho1, ho2⟩ := T.opn
  have hlk := lookS_no ho2 ho1 h3 hn
  have d1 : decide (id < 1) = false := by simp; omega
  have d2 : decide (begun < id) = false := by simp; omega
  clear T ho1 ho2
  go_enter Try.func16, Try.ntmps16
  go_wp2_with (go_at_call 31; refine HC.out.mono ?_; rintro e w' ⟨rfl, rfl⟩)
  go_ret
  exact ⟨rfl, (Only.refl _ _).alloc _⟩
theorem bOver_open (T : IsTlb w t hb ob n size begun bs ls nx O) (id : Int) {s : Sh} (h1 : 1 ≤ id) (h2 : id ≤ begun) (hp : (id, s) ∈ O) : Calls Try.prog 16 #[.pointer (some ⟨t, 0, none⟩), .int .i64 id] w fun e w' => e = .returned (.bool false) ∧ Only [] w w' := by
  have HC := hide (bclosed_is T)
  have hc : w.cell? ⟨t, 3, none⟩ = some (.map (some ob)) := T.blk.cell 3
  have hc2 : w.cell? ⟨t, 2, none⟩ = some (.int .i64 begun) := T.blk.cell 2
  obtain ⟨D, ho1, ho2⟩ := T.opn
  have hlk := lookS ho2 ho1 hp true
  have h8 := eight (shLen ho2 ho1 hp)
  have d1 : decide (id < 1) = false := by simp; omega
  have d2 : decide (begun < id) = false := by simp; omega
  obtain ⟨b0, b1, b2, b3, b4, b5, b6, b7, e8⟩ := h8
  obtain ⟨s1, s2⟩ := s
  simp only at e8
  subst e8
  simp only [if_true] at hlk
  clear T ho1 ho2
  go_enter Try.func16, Try.ntmps16
  go_wp2_with (go_at_call 31; refine HC.out.mono ?_; rintro e w' ⟨rfl, rfl⟩)
  go_ret
  exact ⟨rfl, (Only.refl _ _).alloc _⟩
end
end Go.Proofs.Ytdkbjnnflpopdaa
