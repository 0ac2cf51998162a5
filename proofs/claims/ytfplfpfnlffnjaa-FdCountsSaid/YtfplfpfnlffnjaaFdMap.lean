/-
  Open files (parapet/fdtab): maps of files by their numbers.
-/
import Derived.Test.YtfplfpfnlffnjaaMapL
import Derived.Test.YtfplfpfnlffnjaaKRow
namespace Go.Proofs.Ytfplfpfnlffnjaa
open Go.ChangeShapes Go.WideShapes Go.ChangeAt Go.RowKit Go.Maps
set_option linter.unusedVariables false

theorem lawInt : Keyed Try.prog 3 := int_keyed Try.underlying3
abbrev iW (k : Int) : Prop := (Lit.int .i64 k).wf = true
/-- An open file. -/
structure F5 where
  kind : Int
  what : Int
  at_ : Int
  flags : Int
  refs : Int
deriving DecidableEq
abbrev f0 : F5 := ⟨0, 0, 0, 0, 0⟩
abbrev fC (f : F5) : Array Value := #[.int .i64 f.kind, .int .i64 f.what, .int .i64 f.at_, .int .i64 f.flags, .int .i64 f.refs]
abbrev fV (f : F5) : Value := .agg (fC f)
abbrev fD (f : F5) : DataW Unit := .agg [.lit (.int .i64 f.kind), .lit (.int .i64 f.what), .lit (.int .i64 f.at_), .lit (.int .i64 f.flags), .lit (.int .i64 f.refs)]
def elemF (v : Value) : Option (DataW Unit × List MemPlace) :=
  match v with
  | .agg ⟨[.int .i64 a, .int .i64 b, .int .i64 c, .int .i64 d, .int .i64 e]⟩ => some (fD ⟨a, b, c, d, e⟩, [])
  | _ => none
theorem elemF_mk (f : F5) : elemF (fV f) = some (fD f, []) := rfl
theorem elemF_inv {v : Value} {y : DataW Unit × List MemPlace} (h : elemF v = some y) : ∃ f : F5, v = fV f ∧ y = (fD f, []) := by
  unfold elemF at h
  split at h
  · rename_i a b c d e
    injection h with h
    exact ⟨⟨a, b, c, d, e⟩, rfl, h.symm⟩
  · cases h
theorem fD_inj {f f' : F5} (h : fD f = fD f') : f = f' := by
  obtain ⟨a, b, c, d, e⟩ := f
  obtain ⟨a', b', c', d', e'⟩ := f'
  simp [fD] at h
  obtain ⟨h1, h2, h3, h4, h5⟩ := h
  subst h1; subst h2; subst h3; subst h4; subst h5
  rfl
def encF : Enc Int F5 where
  wf := iW
  kl k := .int .i64 k
  fd := fD
  inj := fun _ _ e => by injection e
  key _ := trivial
  dinj e := fD_inj e
theorem zeroF (w : World) : (zeroValue 42).run Try.prog w = .ok (fV f0) w := by kernel_rfl
theorem keyI {k : Int} (hk : iW k) : keyOf Try.prog 3 (.int .i64 k) = some (encF.kl k) := keyOf_int_mk Try.underlying3 hk
theorem iW_small {x : Int} (h0 : -1 ≤ x) (h1 : x ≤ 64) : iW x := by
  have e1 : IntKind.i64.min = -9223372036854775808 := by decide
  have e2 : IntKind.i64.max = 9223372036854775807 := by decide
  simp only [iW, Lit.wf, e1, e2, Bool.and_eq_true, decide_eq_true_eq]
  omega
section
variable {W : World} {b n : Nat} {D : DataW Unit} {O : List (Int × F5)} {k : Int} {f : F5}
theorem own_tightF (hown : W.ownsMap Try.prog 3 elemF b n D) : W.ownsMap Try.prog 3 elemF b (Maps.size D) D := by
  obtain ⟨es, clock, hb, F, hs, rfl⟩ := hown
  refine ⟨es, clock, hb, F, ?_, rfl⟩
  rw [Maps.size_eq, length_read]
  exact Nat.le_refl _
set_option maxRecDepth 100000 in
theorem lookF (H : MHolds encF D O) (hown : W.ownsMap Try.prog 3 elemF b n D) (hp : (k, f) ∈ O) (c : Bool) : (Instr.lookup 50 (.map (some b)) (.int .i64 k) c).run Try.prog W = .ok (if c then .tuple #[fV f, .bool true] else fV f) W := by
  have hk : iW k := H.wf _ hp
  cases c
  · obtain ⟨v, ps, hrun, hv⟩ := hown.lookup lawInt Try.underlying50 (zeroF W) (elemF_mk f0) (keyI hk)
    rw [H.at_ _ hp] at hv
    obtain ⟨s', rfl, e⟩ := elemF_inv hv
    injection e with e _
    have e1 : f = s' := fD_inj e
    subst e1
    exact hrun
  · obtain ⟨v, ps, hrun, hv⟩ := hown.look_ok lawInt Try.underlying50 (zeroF W) (elemF_mk f0) (keyI hk)
    rw [H.at_ _ hp] at hv
    obtain ⟨s', rfl, e⟩ := elemF_inv hv
    injection e with e _
    have e1 : f = s' := fD_inj e
    subst e1
    rw [H.some_ hp] at hrun
    exact hrun
set_option maxRecDepth 100000 in
theorem lookF_no (H : MHolds encF D O) (hown : W.ownsMap Try.prog 3 elemF b n D) (hk : iW k) (hn : k ∉ O.map (·.1)) : (Instr.lookup 50 (.map (some b)) (.int .i64 k) true).run Try.prog W = .ok (.tuple #[fV f0, .bool false]) W := by
  obtain ⟨v, ps, hrun, hv⟩ := hown.look_ok lawInt Try.underlying50 (zeroF W) (elemF_mk f0) (keyI hk)
  rw [Maps.atKey_of_not_has (H.none (k := k) hk hn)] at hv
  obtain ⟨s', rfl, e⟩ := elemF_inv hv
  injection e with e _
  have e1 : _ = s' := fD_inj e
  subst e1
  rw [H.none (k := k) hk hn] at hrun
  exact hrun
theorem lenF (H : MHolds encF D O) (hown : W.ownsMap Try.prog 3 elemF b n D) (ty : TypeId) : (Builtin.len_ #[50] ty #[.map (some b)]).run Try.prog W = .ok (.int .i64 O.length) W := by
  have := hown.len Try.underlying50 ty
  rwa [H.size] at this
theorem storeF_new (H : MHolds encF D O) (hown : W.ownsMap Try.prog 3 elemF b O.length D) (hl : O.length < maxLen) (hk : iW k) (hn : k ∉ O.map (·.1)) :
    ∃ W', (Instr.mapUpdate 50 (.map (some b)) (.int .i64 k) (fV f)).run Try.prog W = .ok () W' ∧ W'.ownsMap Try.prog 3 elemF b (O ++ [(k, f)]).length (D.put (encF.kl k) (encF.fd f)) ∧ Only [b] W W' := by
  obtain ⟨W', h1, h2, h3⟩ := hown.store lawInt Try.underlying50 hl (keyI hk) (elemF_mk f)
  have h4 := own_tightF h2
  rw [show (fD f) = encF.fd f from rfl, (H.new (f := f) hk hn).size] at h4
  exact ⟨W', h1, h4, Only.of_grown h3.grown (fun k hk _ => by injection hk with hk; simp [hk])⟩
theorem storeF_old (H : MHolds encF D O) (hown : W.ownsMap Try.prog 3 elemF b O.length D) (hl : O.length < maxLen) (hp : (k, f) ∈ O) (e : F5) :
    ∃ W', (Instr.mapUpdate 50 (.map (some b)) (.int .i64 k) (fV e)).run Try.prog W = .ok () W' ∧ W'.ownsMap Try.prog 3 elemF b (setV O k e).length (D.put (encF.kl k) (encF.fd e)) ∧ Only [b] W W' := by
  obtain ⟨W', h1, h2, h3⟩ := hown.store lawInt Try.underlying50 hl (keyI (H.wf _ hp)) (elemF_mk e)
  have h4 := own_tightF h2
  rw [show (fD e) = encF.fd e from rfl, (H.old hp e).size] at h4
  exact ⟨W', h1, h4, Only.of_grown h3.grown (fun k hk _ => by injection hk with hk; simp [hk])⟩
theorem dropF (H : MHolds encF D O) (hown : W.ownsMap Try.prog 3 elemF b O.length D) (hp : (k, f) ∈ O) (ty : TypeId) :
    ∃ W', (Builtin.delete_ #[50, 3] ty #[.map (some b), .int .i64 k]).run Try.prog W = .ok (.tuple #[]) W' ∧ W'.ownsMap Try.prog 3 elemF b (outV O k).length (D.del (encF.kl k)) ∧ Only [b] W W' := by
  obtain ⟨W', h1, h2, h3⟩ := hown.drop lawInt Try.underlying50 (keyI (H.wf _ hp)) ty
  have h4 := own_tightF h2
  rw [(H.del hp).size] at h4
  exact ⟨W', h1, h4, Only.of_grown h3.grown (fun k hk _ => by injection hk with hk; simp [hk])⟩
end
theorem info_file : (Try.prog.info? 42).map (·.size) = some 5 := by kernel_rfl
/-- A file is read and laid whole. -/
theorem file_load {ops : Array Oper} {rest : List Oper} {ds ty ps af} {a : Act} {w : World} {Q : Exit → Act → World → Prop} (x : Operand)
    {g : Nat} {f : F5} (hg : Blk w g 42 (fC f)) (hx : a.eval x = .pointer (some ⟨g, 0, none⟩))
    (h : wpList Try.prog ops Q rest (a.put ds (fV f)) w) : wpList Try.prog ops Q (⟨ds, .load 42 x, ty, ps, af, none⟩ :: rest) a w :=
  wpList_load_row rfl 42 x rfl _ hx 42 (fC f) (0, 0) _ hg Try.underlying42 rfl (by rw [info_file]; rfl) h
theorem file_store {ops : Array Oper} {rest : List Oper} {ds ty ps af} {a : Act} {w : World} {Q : Exit → Act → World → Prop} (x y : Operand)
    {g : Nat} (f : F5) {fo : F5} (hg : Blk w g 42 (fC fo)) (hx : a.eval x = .pointer (some ⟨g, 0, none⟩)) (hy : a.eval y = fV f)
    (h : wpList Try.prog ops Q rest (a.put ds undef) (w.setRow g (fC f))) : wpList Try.prog ops Q (⟨ds, .store 42 x y, ty, ps, af, none⟩ :: rest) a w :=
  wpList_store_row rfl 42 x y rfl _ (fC f) hx hy 42 (fC fo) hg (by rw [info_file]; rfl) rfl (by simp [fC, Value.oneCell']) h
section
variable {w : World} {fn : Func} {p q s : Tmp} {r : Nat} {f : F5}
theorem get_results (hf : fn.results = #[.cell p 42, .tmp q]) {tmps : Array Value} {v : Value}
    (hp : tmps.getD p undef = .pointer (some ⟨r, 0, none⟩)) (hq : tmps.getD q undef = v) (h1 : Blk w r 42 (fC f)) :
    (results fn tmps).run Try.prog w = .ok (.tuple #[fV f, v]) w := by
  have hp' : tmps[p]?.getD undef = .pointer (some ⟨r, 0, none⟩) := by simpa using hp
  have hq' : tmps[q]?.getD undef = v := by simpa using hq
  have e1 := run_loadVar_row (P := Try.prog) w r 42 42 (fC f) (0, 0) _ h1 Try.underlying42 rfl (by rw [info_file]; rfl)
  simp [results, hf, hp', hq', asAddr, e1]
theorem drop_results (hf : fn.results = #[.cell p 42, .tmp q, .tmp s]) {tmps : Array Value} {v u : Value}
    (hp : tmps.getD p undef = .pointer (some ⟨r, 0, none⟩)) (hq : tmps.getD q undef = v) (hs : tmps.getD s undef = u) (h1 : Blk w r 42 (fC f)) :
    (results fn tmps).run Try.prog w = .ok (.tuple #[fV f, v, u]) w := by
  have hp' : tmps[p]?.getD undef = .pointer (some ⟨r, 0, none⟩) := by simpa using hp
  have hq' : tmps[q]?.getD undef = v := by simpa using hq
  have hs' : tmps[s]?.getD undef = u := by simpa using hs
  have e1 := run_loadVar_row (P := Try.prog) w r 42 42 (fC f) (0, 0) _ h1 Try.underlying42 rfl (by rw [info_file]; rfl)
  simp [results, hf, hp', hq', hs', asAddr, e1]
end
end Go.Proofs.Ytfplfpfnlffnjaa
