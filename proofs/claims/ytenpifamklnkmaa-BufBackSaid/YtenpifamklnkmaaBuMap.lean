/-
  Buffers (parapet/buf): the map of blocks by their numbers: what is kept is the slice of its bytes, and whether it is dirty.
-/
import Derived.Test.YtenpifamklnkmaaMapL
import Derived.Test.YtenpifamklnkmaaRqRow
namespace Go.Proofs.Ytenpifamklnkmaa
open Go.ChangeShapes Go.WideShapes Go.ChangeAt Go.RowKit Go.Maps
set_option linter.unusedVariables false

/-- A slice at the head of a block: the block, the length, the room. -/
structure SV where
  b : Nat
  n : Nat
  c : Nat
abbrev SO := Option SV
abbrev svO : SO → Value
  | none => .slice none 0 0
  | some s => .slice (some ⟨s.b, 0, none⟩) s.n s.c
abbrev BV := SO × Bool
abbrev bvV (f : BV) : Value := .agg #[svO f.1, .bool f.2]
def fdB : BV → DataW Unit
  | (none, d) => .agg [.nil, .lit (.bool d)]
  | (some s, d) => .agg [.agg [.lit (.int .i64 s.b), .lit (.int .i64 s.n), .lit (.int .i64 s.c)], .lit (.bool d)]
def elemB (v : Value) : Option (DataW Unit × List MemPlace) :=
  match v with
  | .agg ⟨[.slice none 0 0, .bool d]⟩ => some (.agg [.nil, .lit (.bool d)], [])
  | .agg ⟨[.slice (some ⟨b, 0, none⟩) n c, .bool d]⟩ => some (.agg [.agg [.lit (.int .i64 b), .lit (.int .i64 n), .lit (.int .i64 c)], .lit (.bool d)], [])
  | _ => none
theorem elemB_mk (f : BV) : elemB (bvV f) = some (fdB f, []) := by
  obtain ⟨a, d⟩ := f
  cases a <;> rfl
theorem elemB_inv {v : Value} {y : DataW Unit × List MemPlace} (h : elemB v = some y) : ∃ f : BV, v = bvV f ∧ y = (fdB f, []) := by
  unfold elemB at h
  split at h
  · rename_i d
    injection h with h
    exact ⟨(none, d), rfl, h.symm⟩
  · rename_i b n c d
    injection h with h
    exact ⟨(some ⟨b, n, c⟩, d), rfl, h.symm⟩
  · cases h
theorem fdB_inj {f f' : BV} (h : fdB f = fdB f') : f = f' := by
  obtain ⟨a, d⟩ := f
  obtain ⟨a', d'⟩ := f'
  cases a with
  | none => cases a' with
    | none => simp [fdB] at h; rw [h]
    | some s => simp [fdB] at h
  | some s => cases a' with
    | none => simp [fdB] at h
    | some s' =>
      obtain ⟨a, b, c⟩ := s
      obtain ⟨a', b', c'⟩ := s'
      simp [fdB] at h
      obtain ⟨⟨h1, h2, h3⟩, h4⟩ := h
      have e1 : a = a' := by omega
      have e2 : b = b' := by omega
      have e3 : c = c' := by omega
      rw [e1, e2, e3, h4]
abbrev iW (k : Int) : Prop := (Lit.int .i64 k).wf = true
theorem lawInt : Keyed Try.prog 3 := int_keyed Try.underlying3
theorem zeroB (w : World) : (zeroValue 57).run Try.prog w = .ok (.agg #[.slice none 0 0, .bool false]) w := by kernel_rfl
def encBV : Enc Int BV where
  wf := iW
  kl k := .int .i64 k
  fd := fdB
  inj := fun _ _ e => by injection e
  key _ := trivial
  dinj e := fdB_inj e
theorem keyB {k : Int} (hk : iW k) : keyOf Try.prog 3 (.int .i64 k) = some (encBV.kl k) := keyOf_int_mk Try.underlying3 hk
/-- The order in which a map's entries are told counts for nothing. -/
theorem MHolds.perm {κ β : Type} {E : Enc κ β} {D : DataW Unit} {l l' : List (κ × β)} (h : MHolds E D l) (hp : l'.Perm l) : MHolds E D l' :=
  ⟨fun p hq => h.wf p (hp.mem_iff.1 hq), fun k => (h.has k).trans ⟨fun ⟨p, h1, h2⟩ => ⟨p, hp.mem_iff.2 h1, h2⟩, fun ⟨p, h1, h2⟩ => ⟨p, hp.mem_iff.1 h1, h2⟩⟩, fun p hq z => h.at_ p (hp.mem_iff.1 hq) z, (hp.map _).nodup_iff.2 h.nd, h.size.trans hp.length_eq.symm, h.tidy⟩
section
variable {W : World} {b n : Nat} {D : DataW Unit} {O : List (Int × BV)} {k : Int} {f : BV}
theorem own_tightB (hown : W.ownsMap Try.prog 3 elemB b n D) : W.ownsMap Try.prog 3 elemB b (Maps.size D) D := by
  obtain ⟨es, clock, hb, F, hs, rfl⟩ := hown
  refine ⟨es, clock, hb, F, ?_, rfl⟩
  rw [Maps.size_eq, length_read]
  exact Nat.le_refl _
set_option maxRecDepth 100000 in
theorem lookB (H : MHolds encBV D O) (hown : W.ownsMap Try.prog 3 elemB b n D) (hp : (k, f) ∈ O) : (Instr.lookup 53 (.map (some b)) (.int .i64 k) false).run Try.prog W = .ok (bvV f) W := by
  have hk : iW k := H.wf _ hp
  obtain ⟨v, ps, hrun, hv⟩ := hown.lookup lawInt Try.underlying53 (zeroB W) (elemB_mk (none, false)) (keyB hk)
  rw [H.at_ _ hp] at hv
  obtain ⟨s', rfl, e⟩ := elemB_inv hv
  injection e with e _
  have e1 : f = s' := fdB_inj e
  subst e1
  exact hrun
set_option maxRecDepth 100000 in
theorem lookB_no (H : MHolds encBV D O) (hown : W.ownsMap Try.prog 3 elemB b n D) (hk : iW k) (hn : k ∉ O.map (·.1)) : (Instr.lookup 53 (.map (some b)) (.int .i64 k) false).run Try.prog W = .ok (.agg #[.slice none 0 0, .bool false]) W := by
  obtain ⟨v, ps, hrun, hv⟩ := hown.lookup lawInt Try.underlying53 (zeroB W) (elemB_mk (none, false)) (keyB hk)
  rw [Maps.atKey_of_not_has (H.none (k := k) hk hn)] at hv
  obtain ⟨s', rfl, e⟩ := elemB_inv hv
  injection e with e _
  have e1 : _ = s' := fdB_inj (f := (none, false)) e
  subst e1
  exact hrun
set_option maxRecDepth 100000 in
theorem lookB_ok (H : MHolds encBV D O) (hown : W.ownsMap Try.prog 3 elemB b n D) (hp : (k, f) ∈ O) : (Instr.lookup 53 (.map (some b)) (.int .i64 k) true).run Try.prog W = .ok (.tuple #[bvV f, .bool true]) W := by
  have hk : iW k := H.wf _ hp
  obtain ⟨v, ps, hrun, hv⟩ := hown.look_ok lawInt Try.underlying53 (zeroB W) (elemB_mk (none, false)) (keyB hk)
  rw [H.at_ _ hp] at hv
  obtain ⟨s', rfl, e⟩ := elemB_inv hv
  injection e with e _
  have e1 : f = s' := fdB_inj e
  subst e1
  rw [H.some_ hp] at hrun
  exact hrun
set_option maxRecDepth 100000 in
theorem lookB_nok (H : MHolds encBV D O) (hown : W.ownsMap Try.prog 3 elemB b n D) (hk : iW k) (hn : k ∉ O.map (·.1)) : (Instr.lookup 53 (.map (some b)) (.int .i64 k) true).run Try.prog W = .ok (.tuple #[.agg #[.slice none 0 0, .bool false], .bool false]) W := by
  obtain ⟨v, ps, hrun, hv⟩ := hown.look_ok lawInt Try.underlying53 (zeroB W) (elemB_mk (none, false)) (keyB hk)
  rw [Maps.atKey_of_not_has (H.none (k := k) hk hn)] at hv
  obtain ⟨s', rfl, e⟩ := elemB_inv hv
  injection e with e _
  have e1 : _ = s' := fdB_inj (f := (none, false)) e
  subst e1
  rw [H.none (k := k) hk hn] at hrun
  exact hrun
theorem storeB_new (H : MHolds encBV D O) (hown : W.ownsMap Try.prog 3 elemB b O.length D) (hl : O.length < maxLen) (hk : iW k) (hn : k ∉ O.map (·.1)) :
    ∃ W', (Instr.mapUpdate 53 (.map (some b)) (.int .i64 k) (bvV f)).run Try.prog W = .ok () W' ∧ (∃ D', W'.ownsMap Try.prog 3 elemB b (O ++ [(k, f)]).length D' ∧ MHolds encBV D' (O ++ [(k, f)])) ∧ Only [b] W W' := by
  obtain ⟨W', h1, h2, h3⟩ := hown.store lawInt Try.underlying53 hl (keyB hk) (elemB_mk f)
  have h4 := own_tightB h2
  have h5 : MHolds encBV (D.put (encBV.kl k) (fdB f)) (O ++ [(k, f)]) := H.new (f := f) hk hn
  rw [h5.size] at h4
  exact ⟨W', h1, ⟨_, h4, h5⟩, Only.of_grown h3.grown (fun k hk _ => by injection hk with hk; simp [hk])⟩
theorem storeB_old (H : MHolds encBV D O) (hown : W.ownsMap Try.prog 3 elemB b O.length D) (hl : O.length < maxLen) {f' : BV} (hp : (k, f') ∈ O) :
    ∃ W', (Instr.mapUpdate 53 (.map (some b)) (.int .i64 k) (bvV f)).run Try.prog W = .ok () W' ∧ (∃ D', W'.ownsMap Try.prog 3 elemB b (setV O k f).length D' ∧ MHolds encBV D' (setV O k f)) ∧ Only [b] W W' := by
  obtain ⟨W', h1, h2, h3⟩ := hown.store lawInt Try.underlying53 hl (keyB (k := k) (H.wf _ hp)) (elemB_mk f)
  have h4 := own_tightB h2
  have h5 : MHolds encBV (D.put (encBV.kl k) (fdB f)) (setV O k f) := H.old hp f
  rw [h5.size] at h4
  exact ⟨W', h1, ⟨_, h4, h5⟩, Only.of_grown h3.grown (fun k hk _ => by injection hk with hk; simp [hk])⟩
theorem dropB (H : MHolds encBV D O) (hown : W.ownsMap Try.prog 3 elemB b O.length D) (hp : (k, f) ∈ O) :
    ∃ W', (∀ ty, (Builtin.delete_ #[53, 3] ty #[.map (some b), .int .i64 k]).run Try.prog W = .ok (.tuple #[]) W') ∧ (∃ D', W'.ownsMap Try.prog 3 elemB b (outV O k).length D' ∧ MHolds encBV D' (outV O k)) ∧ Only [b] W W' := by
  obtain ⟨W', h1, h2, h3⟩ := hown.drop lawInt Try.underlying53 (keyB (k := k) (H.wf _ hp)) 0
  have h4 := own_tightB h2
  have h5 := H.del hp
  rw [h5.size] at h4
  refine ⟨W', fun ty => ?_, ⟨_, h4, h5⟩, Only.of_grown h3.grown (fun k hk _ => by injection hk with hk; simp [hk])⟩
  rw [← h1]
  rfl
end
end Go.Proofs.Ytenpifamklnkmaa
