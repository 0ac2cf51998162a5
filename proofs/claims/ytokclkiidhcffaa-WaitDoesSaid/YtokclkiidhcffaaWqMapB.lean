/-
  Sleepers (parapetlaw12): the law's map of bools by ints (SlabMapB has the same for parapetlaw08); the set of its keys, all true.
-/
import Derived.Test.YtokclkiidhcffaaWqMap
namespace Go.Proofs.Ytokclkiidhcffaa
open Go.ChangeShapes Go.WideShapes Go.ChangeAt Go.RowKit Go.Maps
set_option linter.unusedVariables false

noncomputable abbrev elemB : Value → Option (DataW Unit × List MemPlace) := plainElem Try.prog 4
def encB : Enc Int Bool where
  wf := iW
  kl k := .int .i64 k
  fd f := .lit (.bool f)
  inj := fun _ _ e => by injection e
  key _ := trivial
  dinj e := by injection e with e; injection e
theorem elemB_mk (f : Bool) : elemB (.bool f) = some (encB.fd f, []) := plainElem_bool Try.underlying4 f
theorem elemB_inv {v : Value} {y : DataW Unit × List MemPlace} (h : elemB v = some y) : ∃ f : Bool, v = .bool f ∧ y = (encB.fd f, []) := by
  unfold elemB plainElem at h
  rw [Try.underlying4] at h
  split at h
  all_goals first
    | (cases h; done)
    | (rename_i heq; cases heq; done)
    | (injection h with h; exact ⟨_, rfl, h.symm⟩)
theorem keyB {k : Int} (hk : iW k) : keyOf Try.prog 3 (.int .i64 k) = some (encB.kl k) := keyOf_int_mk Try.underlying3 hk
theorem zeroB (w : World) : (zeroValue 4).run Try.prog w = .ok (.bool false) w := by kernel_rfl
section
variable {W : World} {b n : Nat} {D : DataW Unit} {O : List (Int × Bool)} {k : Int} {f : Bool}
theorem own_tightB (hown : W.ownsMap Try.prog 3 elemB b n D) : W.ownsMap Try.prog 3 elemB b (Maps.size D) D := by
  obtain ⟨es, clock, hb, F, hs, rfl⟩ := hown
  refine ⟨es, clock, hb, F, ?_, rfl⟩
  rw [Maps.size_eq, length_read]
  exact Nat.le_refl _
set_option maxRecDepth 100000 in
theorem lookB (H : MHolds encB D O) (hown : W.ownsMap Try.prog 3 elemB b n D) (hp : (k, f) ∈ O) (c : Bool) : (Instr.lookup 42 (.map (some b)) (.int .i64 k) c).run Try.prog W = .ok (if c then .tuple #[.bool f, .bool true] else .bool f) W := by
  have hk : iW k := H.wf _ hp
  cases c
  · obtain ⟨v, ps, hrun, hv⟩ := hown.lookup lawInt Try.underlying42 (zeroB W) (elemB_mk _) (keyB hk)
    rw [H.at_ _ hp] at hv
    obtain ⟨s', rfl, e⟩ := elemB_inv hv
    injection e with e _
    have e1 : f = s' := encB.dinj e
    subst e1
    exact hrun
  · obtain ⟨v, ps, hrun, hv⟩ := hown.look_ok lawInt Try.underlying42 (zeroB W) (elemB_mk _) (keyB hk)
    rw [H.at_ _ hp] at hv
    obtain ⟨s', rfl, e⟩ := elemB_inv hv
    injection e with e _
    have e1 : f = s' := encB.dinj e
    subst e1
    rw [H.some_ hp] at hrun
    exact hrun
set_option maxRecDepth 100000 in
theorem lookB_no (H : MHolds encB D O) (hown : W.ownsMap Try.prog 3 elemB b n D) (hk : iW k) (hn : k ∉ O.map (·.1)) : (Instr.lookup 42 (.map (some b)) (.int .i64 k) true).run Try.prog W = .ok (.tuple #[.bool false, .bool false]) W := by
  obtain ⟨v, ps, hrun, hv⟩ := hown.look_ok lawInt Try.underlying42 (zeroB W) (elemB_mk _) (keyB hk)
  rw [Maps.atKey_of_not_has (H.none (k := k) hk hn)] at hv
  obtain ⟨s', rfl, e⟩ := elemB_inv hv
  injection e with e _
  have e1 : _ = s' := encB.dinj e
  subst e1
  rw [H.none (k := k) hk hn] at hrun
  exact hrun
theorem lenB (H : MHolds encB D O) (hown : W.ownsMap Try.prog 3 elemB b n D) (ty : TypeId) : (Builtin.len_ #[42] ty #[.map (some b)]).run Try.prog W = .ok (.int .i64 O.length) W := by
  have := hown.len Try.underlying42 ty
  rwa [H.size] at this
theorem storeB_new (H : MHolds encB D O) (hown : W.ownsMap Try.prog 3 elemB b O.length D) (hl : O.length < maxLen) (hk : iW k) (hn : k ∉ O.map (·.1)) :
    ∃ W', (Instr.mapUpdate 42 (.map (some b)) (.int .i64 k) (.bool f)).run Try.prog W = .ok () W' ∧ W'.ownsMap Try.prog 3 elemB b (O ++ [(k, f)]).length (D.put (encB.kl k) (encB.fd f)) ∧ Only [b] W W' := by
  obtain ⟨W', h1, h2, h3⟩ := hown.store lawInt Try.underlying42 hl (keyB hk) (elemB_mk _)
  have h4 := own_tightB h2
  rw [(H.new (f := f) hk hn).size] at h4
  exact ⟨W', h1, h4, Only.of_grown h3.grown (fun k hk _ => by injection hk with hk; simp [hk])⟩
theorem dropB (H : MHolds encB D O) (hown : W.ownsMap Try.prog 3 elemB b O.length D) (hp : (k, f) ∈ O) (ty : TypeId) :
    ∃ W', (Builtin.delete_ #[42, 3] ty #[.map (some b), .int .i64 k]).run Try.prog W = .ok (.tuple #[]) W' ∧ W'.ownsMap Try.prog 3 elemB b (outV O k).length (D.del (encB.kl k)) ∧ Only [b] W W' := by
  obtain ⟨W', h1, h2, h3⟩ := hown.drop lawInt Try.underlying42 (keyB (H.wf _ hp)) ty
  have h4 := own_tightB h2
  rw [(H.del hp).size] at h4
  exact ⟨W', h1, h4, Only.of_grown h3.grown (fun k hk _ => by injection hk with hk; simp [hk])⟩
set_option maxRecDepth 100000 in
theorem lookB_out (H : MHolds encB D O) (hown : W.ownsMap Try.prog 3 elemB b n D) (hk : iW k) (hn : k ∉ O.map (·.1)) : (Instr.lookup 42 (.map (some b)) (.int .i64 k) false).run Try.prog W = .ok (.bool false) W := by
  obtain ⟨v, ps, hrun, hv⟩ := hown.lookup lawInt Try.underlying42 (zeroB W) (elemB_mk _) (keyB hk)
  rw [Maps.atKey_of_not_has (H.none (k := k) hk hn)] at hv
  obtain ⟨s', rfl, e⟩ := elemB_inv hv
  injection e with e _
  have e1 : _ = s' := encB.dinj e
  subst e1
  exact hrun
theorem dropB_no (H : MHolds encB D O) (hown : W.ownsMap Try.prog 3 elemB b O.length D) (hk : iW k) (hn : k ∉ O.map (·.1)) (ty : TypeId) :
    ∃ W', (Builtin.delete_ #[42, 3] ty #[.map (some b), .int .i64 k]).run Try.prog W = .ok (.tuple #[]) W' ∧ W'.ownsMap Try.prog 3 elemB b O.length D ∧ Only [b] W W' := by
  obtain ⟨W', h1, h2, h3⟩ := hown.drop lawInt Try.underlying42 (keyB hk) ty
  rw [Maps.del_of_not_has (show Maps.has D (encB.kl k) = false from H.none (k := k) hk hn)] at h2
  exact ⟨W', h1, h2, Only.of_grown h3.grown (fun k hk _ => by injection hk with hk; simp [hk])⟩
end
/-- The map at block b holds just the keys K, each true. -/
def BMap (W : World) (b : Nat) (K : List Int) : Prop := ∃ D, W.ownsMap Try.prog 3 elemB b K.length D ∧ MHolds encB D (K.map fun t => (t, true))
section
variable {W W' : World} {b : Nat} {K : List Int} {t : Int} {S : List Nat}
theorem bkeys (K : List Int) : (K.map fun t => (t, true)).map (·.1) = K := by simp [Function.comp_def]
theorem BMap.lt (h : BMap W b K) : b < W.heap.size := by
  obtain ⟨D, h1, _⟩ := h
  exact h1.lt
theorem BMap.only (h : BMap W b K) (ho : Only S W W') (hs : b ∉ S) : BMap W' b K := by
  obtain ⟨D, ⟨es, clock, hb, rest⟩, h2⟩ := h
  refine ⟨D, ⟨es, clock, (ho.block b ?_ hs).trans hb, rest⟩, h2⟩
  rcases Nat.lt_or_ge b W.heap.size with hlt | hge
  · exact hlt
  · rw [Array.getElem?_eq_none hge] at hb; cases hb
theorem BMap.keep (h : BMap W b K) (hb : W'.heap[b]? = W.heap[b]?) : BMap W' b K := by
  obtain ⟨D, ⟨es, clock, h1, rest⟩, h2⟩ := h
  exact ⟨D, ⟨es, clock, hb.trans h1, rest⟩, h2⟩
theorem BMap.look (h : BMap W b K) (ht : iW t) : (Instr.lookup 42 (.map (some b)) (.int .i64 t) false).run Try.prog W = .ok (.bool (decide (t ∈ K))) W := by
  obtain ⟨D, h1, h2⟩ := h
  by_cases hm : t ∈ K
  · rw [show decide (t ∈ K) = true by simpa using hm]
    have := lookB h2 h1 (List.mem_map.2 ⟨t, hm, rfl⟩ : (t, true) ∈ K.map fun t => (t, true)) false
    simpa using this
  · rw [show decide (t ∈ K) = false by simpa using hm]
    exact lookB_out h2 h1 ht (by rw [bkeys]; exact hm)
theorem BMap.len (h : BMap W b K) (ty : TypeId) : (Builtin.len_ #[42] ty #[.map (some b)]).run Try.prog W = .ok (.int .i64 K.length) W := by
  obtain ⟨D, h1, h2⟩ := h
  have := lenB h2 h1 ty
  rwa [List.length_map] at this
theorem BMap.store (h : BMap W b K) (hl : K.length < maxLen) (ht : iW t) (hn : t ∉ K) : ∃ W', (Instr.mapUpdate 42 (.map (some b)) (.int .i64 t) (.bool true)).run Try.prog W = .ok () W' ∧ BMap W' b (K ++ [t]) ∧ Only [b] W W' := by
  obtain ⟨D, h1, h2⟩ := h
  rw [show K.length = (K.map fun t => (t, true)).length by simp] at h1 hl
  obtain ⟨W', q1, q2, q3⟩ := storeB_new (f := true) h2 h1 hl ht (by rw [bkeys]; exact hn)
  refine ⟨W', q1, ⟨D.put (encB.kl t) (encB.fd true), ?_, ?_⟩, q3⟩
  · simpa using q2
  · have := h2.new (f := true) ht (by rw [bkeys]; exact hn)
    simpa using this
theorem outV_keys (K : List Int) (t : Int) : outV (K.map fun t => (t, true)) t = (K.filter fun x => decide (x ≠ t)).map fun t => (t, true) := by
  unfold outV
  rw [List.filter_map]
  rfl
theorem BMap.drop (h : BMap W b K) (ht : iW t) (ty : TypeId) : ∃ W', (Builtin.delete_ #[42, 3] ty #[.map (some b), .int .i64 t]).run Try.prog W = .ok (.tuple #[]) W' ∧ BMap W' b (K.filter fun x => decide (x ≠ t)) ∧ Only [b] W W' := by
  obtain ⟨D, h1, h2⟩ := h
  rw [show K.length = (K.map fun t => (t, true)).length by simp] at h1
  by_cases hm : t ∈ K
  · have hp : (t, true) ∈ K.map fun t => (t, true) := List.mem_map.2 ⟨t, hm, rfl⟩
    obtain ⟨W', q1, q2, q3⟩ := dropB h2 h1 hp ty
    have h3 := h2.del hp
    rw [outV_keys] at q2 h3
    exact ⟨W', q1, ⟨_, by simpa using q2, h3⟩, q3⟩
  · obtain ⟨W', q1, q2, q3⟩ := dropB_no h2 h1 ht (by rw [bkeys]; exact hm) ty
    have : (K.filter fun x => decide (x ≠ t)) = K := by
      rw [List.filter_eq_self]
      intro x hx
      simp only [decide_eq_true_eq]
      exact fun e => hm (e ▸ hx)
    rw [this]
    exact ⟨W', q1, ⟨D, by simpa using q2, h2⟩, q3⟩
end
end Go.Proofs.Ytokclkiidhcffaa
