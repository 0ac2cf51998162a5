/-
  Sleepers (parapet/waitq): append of channels to a row of one's own, slices.Clone of them.
-/
import Derived.Test.YtokclkiidhcffaaWqRow
import Derived.Laws.AppendOwnNone
import Derived.Maps.AppendAt
namespace Go.Proofs.Ytokclkiidhcffaa
open Go.ChangeShapes Go.WideShapes Go.ChangeAt Go.RowKit
set_option linter.unusedVariables false

/-- The slice x shows the seats zs. -/
def ChansAt (w : World) (x : Value) (zs : List CH) : Prop :=
  (x = .slice none 0 0 ∧ zs = []) ∨ ∃ b o c, x = .slice (some ⟨b, o, none⟩) zs.length c ∧ (0 < zs.length → b < w.heap.size) ∧ ∀ j u, (flatC zs)[j]? = some u → w.cell? ⟨b, o + j, none⟩ = some u
def chanZero : Value := .agg #[.int .i64 0, .int .i64 0, .int .i64 0]
theorem info_chan3 : (Try.prog.info? 32).map (fun i => (i.zero, i.size, i.bytes)) = some (some chanZero, 3, 24) := by kernel_rfl
theorem flatC_one (ss : List CH) : ∀ u ∈ flatC ss, u.oneCell' = true := by
  intro u hu
  simp only [flatC, List.mem_flatMap] at hu
  obtain ⟨s, _, hs⟩ := hu
  simp only [CH.cells, List.mem_cons, List.not_mem_nil, or_false] at hs
  rcases hs with rfl | rfl | rfl <;> rfl
theorem chan_zero : ∀ w, (zeroValue 32).run Try.prog w = .ok chanZero w := by
  intro w
  obtain ⟨i, hi, hz, _, _⟩ := info_parts info_chan3
  simp [zeroValue, typeInfo, hi, hz]
theorem cblk_setCells {b : Nat} {t : TypeId} : ∀ (vs : List Value) (o : Nat) (w : World) (cs : List Value), Blk w b t cs.toArray → o + vs.length ≤ cs.length → Blk (w.setCells b o vs) b t (cs.take o ++ vs ++ cs.drop (o + vs.length)).toArray
  | [], o, w, cs, h, _ => by simpa [World.setCells] using h
  | v :: vs, o, w, cs, h, hl => by
    have h1 := h.set_ o v
    rw [List.setIfInBounds_toArray] at h1
    have hlt : o < cs.length := by simp at hl; omega
    have h2 := cblk_setCells vs (o + 1) _ _ h1 (by simp at hl ⊢; omega)
    have e : (cs.set o v).take (o + 1) ++ vs ++ (cs.set o v).drop (o + 1 + vs.length) = cs.take o ++ (v :: vs) ++ cs.drop (o + (v :: vs).length) := by
      have e1 : (cs.set o v).take (o + 1) = cs.take o ++ [v] := by
        rw [List.take_add_one, List.take_set_of_le (Nat.le_refl _)]
        simp [hlt]
      have e2 : (cs.set o v).drop (o + 1 + vs.length) = cs.drop (o + (v :: vs).length) := by
        rw [List.drop_set_of_lt (by omega)]
        congr 1
        simp; omega
      rw [e1, e2]
      simp
    rw [e] at h2
    exact h2
theorem conly_setCells {b : Nat} : ∀ (vs : List Value) (o : Nat) (w : World), Only [b] w (w.setCells b o vs)
  | [], o, w => Only.refl _ _
  | v :: vs, o, w => ((Only.refl [b] w).setCell (p := ⟨b, o, none⟩) v (by simp)).trans (conly_setCells vs (o + 1) _)

section
variable {w w' : World} {v x : Value} {ss zs : List CH} {S : List Nat}
theorem ChansAt.only (h : ChansAt w x zs) (ho : Only S w w') (hs : ∀ b o n c, x = .slice (some ⟨b, o, none⟩) n c → b < w.heap.size → b ∉ S) : ChansAt w' x zs := by
  rcases h with h | ⟨b, o, c, e, hb, hc⟩
  · exact .inl h
  · refine .inr ⟨b, o, c, e, fun hp => Nat.lt_of_lt_of_le (hb hp) ho.size, fun j u hu => ?_⟩
    have h1 := hc j u hu
    have hlt := World.block_lt_of_cell? w _ h1
    exact (ho.cell hlt (hs _ _ _ _ e hlt)).trans h1
theorem CRw.sees (h : CRw w v ss) : ChansAt w v ss := by
  rcases h.2 with ⟨e, h0⟩ | ⟨b, cap, cur, e, hB, hg, hnc, hm, hs, ht⟩
  · exact .inl ⟨e, List.eq_nil_of_length_eq_zero (by omega)⟩
  · refine .inr ⟨b, 0, cap, e, fun _ => Blk.lt (t := 32) hg, fun j u hu => ?_⟩
    have hj := (List.getElem?_eq_some_iff.1 hu).1
    rw [flatC_length] at hj
    rw [Nat.zero_add, Blk.cell (t := 32) hg, ← Array.getElem?_toList, ← hu, show flatC ss = cur.toList.take (ss.length * 3) from ht.symm, List.getElem?_take, if_pos hj]
theorem wp_append_chans {o : Oper} {a : Act} {K : Act → World → Prop} {Q : Exit → Act → World → Prop} (s y : Operand)
    (ho : o.op = .call { callee := .builtin .append, args := #[s, y], argTypes := #[30, 30] }) (hs : a.eval s = v) (hr : CRw w v ss)
    (hx : a.eval y = x) (hz : ChansAt w x zs) (hbig : ss.length + zs.length < 1000000)
    (hK : ∀ v' w2, CRw w2 v' (ss ++ zs) → Only v.ownBlock.toList w w2 → (∀ k, v'.ownBlock = some k → v.ownBlock = some k ∨ w.heap.size ≤ k) → (∃ A c, v' = .slice A (ss ++ zs).length c) → K (a.put o.dst v') w2) : Oper.wp Try.prog o a w K Q := by
  obtain ⟨i0, hi0, hz0, hz1, hz2⟩ := info_parts info_chan3
  rcases hz with ⟨rfl, rfl⟩ | ⟨b, q, c, rfl, _, hc⟩
  · have hrun := run_append_owned_none (P := Try.prog) (w := w) 0 30 o.type 32 i0 3 Try.underlying30 hi0 v ss.length (flatC ss) hr
    unfold Oper.wp
    simp [execOp, ho, resolve, invoke, builtin, hs, hx, hrun, Result.andThen]
    have hr' : CRw w v (ss ++ []) := by simpa using hr
    obtain ⟨A, c, e, _⟩ := hr'.form
    exact hK v w hr' (Only.refl _ _) (fun k hk => .inl hk) ⟨A, c, e⟩
  · obtain ⟨v', w', hrun, h2, h3, _, h5⟩ := run_append_own_at (P := Try.prog) w 0 30 o.type 32 i0 _ 3 24 Try.underlying30 hi0 hz0 hz1 hz2 rfl (by decide) v ss.length (flatC ss) hr ⟨b, q, none⟩ zs.length c (flatC zs) (flatC_length zs) (fun j u hj => by rw [add_at]; exact hc j u hj) (flatC_one _) (by unfold maxLen; omega) (by omega) (Nat.zero_le _)
    unfold Oper.wp
    simp [execOp, ho, resolve, invoke, builtin, hs, hx, hrun, Result.andThen]
    have hr' : CRw w' v' (ss ++ zs) := by
      unfold CRw
      rw [List.length_append, flatC_append]
      exact h2
    obtain ⟨A, c, e, _⟩ := hr'.form
    refine hK v' w' hr' (only_grown' h3) (fun k hk => ?_) ⟨A, c, e⟩
    rcases h5 with h5 | h5
    · exact .inl (h5 ▸ hk)
    · rw [h5] at hk
      injection hk with hk
      exact .inr (Nat.le_of_eq hk)
theorem wpList_append_chans {ops : Array Oper} {rest : List Oper} {o : Oper} {a : Act} {Q : Exit → Act → World → Prop} (hgd : o.guard = none) (s y : Operand)
    (ho : o.op = .call { callee := .builtin .append, args := #[s, y], argTypes := #[30, 30] }) (hs : a.eval s = v) (hr : CRw w v ss)
    (hx : a.eval y = x) (hz : ChansAt w x zs) (hbig : ss.length + zs.length < 1000000)
    (hK : ∀ v' w2, CRw w2 v' (ss ++ zs) → Only v.ownBlock.toList w w2 → (∀ k, v'.ownBlock = some k → v.ownBlock = some k ∨ w.heap.size ≤ k) → (∃ A c, v' = .slice A (ss ++ zs).length c) → wpList Try.prog ops Q rest (a.put o.dst v') w2) : wpList Try.prog ops Q (o :: rest) a w :=
  wpList_plain hgd fun _ hK' => wp_append_chans s y ho hs hr hx hz hbig fun v' w2 h1 h2 h3 h4 => hK' _ _ (hK v' w2 h1 h2 h3 h4)
theorem crow_empty {k : Nat} (hb : Blk w k 32 #[]) : CRw w (.slice (some ⟨k, 0, none⟩) 0 0) [] :=
  ⟨by simp [flatC], .inr ⟨k, 0, #[], rfl, Nat.zero_le _, hb, Nat.le_refl _, Nat.zero_le _, rfl, by simp [flatC]⟩⟩

/-- A new row of the same seats. -/
theorem cloneC_is (h : CRw w v ss) (hf : ss.length ≤ 64) : Calls Try.prog 21 #[v] w fun e w' => ∃ v', e = .returned v' ∧ CRw w' v' ss ∧ (∀ q, v'.ownBlock = some q → w.heap.size ≤ q) ∧ Only [] w w' := by
  have q22 : ∀ (w : World) (a : Option Addr) (n c n' c' : Nat), (binOp .eql 30 (.slice a n c) (.slice none n' c')).run Try.prog w = .ok (.bool a.isNone) w := fun w a n c n' c' => Lib.run_eql_slice_nil w _ _ a n c n' c' Try.underlying30
  obtain ⟨A, cap, rfl, hA⟩ := h.form
  rcases A with _ | ad
  · have h0 : ss.length = 0 := by
      rcases Nat.eq_zero_or_pos ss.length with h0 | h0
      · exact h0
      · obtain ⟨b, e, _⟩ := hA h0; cases e
    obtain rfl : ss = [] := List.eq_nil_of_length_eq_zero h0
    clear hA
    go_enter Try.func21, Try.ntmps21
    go_wp2
    go_ret
    exact ⟨_, rfl, CRw.nil _, by simp [Value.ownBlock], Only.refl _ _⟩
  · have HS := hide (fun o => h.sees.only ((Only.refl [] w).alloc o) (by simp))
    have HE := hide (crow_empty (Blk.new w 32 #[]))
    have HF := hide hf
    clear hA h
    go_enter Try.func21, Try.ntmps21
    go_wp2_with (at_builtin; refine wpList_append_chans (v := .slice (some ⟨w.heap.size, 0, none⟩) 0 0) rfl _ _ rfl rfl HE.out rfl (HS.out _) (by have := HF.out; simp; omega) ?_; rintro v' w2 hr ho hk ⟨A', c', rfl⟩; have HR := hide hr; have HO := hide ho; have HK := hide hk; clear hr ho hk)
    go_ret
    refine ⟨_, rfl, by simpa using HR.out, fun q hq => ?_, (((Only.refl [] w).alloc _).trans' HO.out (fun k hk hm => ?_))⟩
    · rcases HK.out q hq with h | h
      · simp [Value.ownBlock] at h; omega
      · simp at h; omega
    · simp [Value.ownBlock] at hm; omega

end
end Go.Proofs.Ytokclkiidhcffaa
