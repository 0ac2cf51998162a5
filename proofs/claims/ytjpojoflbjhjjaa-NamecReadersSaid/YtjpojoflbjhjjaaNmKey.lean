/-
  Names as keys of maps; what is kept under a name (parapet/namec): an inode, a number.
-/
import Derived.Test.YtjpojoflbjhjjaaNmRow
import Derived.Test.YtjpojoflbjhjjaaMapII
import Derived.Test.YtjpojoflbjhjjaaRows
import Derived.DeepKeys4
namespace Go.Proofs.Ytjpojoflbjhjjaa
open Go.ChangeShapes Go.WideShapes Go.ChangeAt Go.RowKit Go.Maps
set_option linter.unusedVariables false

theorem laidOut : laidOutB Try.prog = true := by kernel_rfl
theorem rowName : (42 : TypeId) < Try.prog.types.size := of_decide_eq_true (by kernel_rfl)
set_option maxRecDepth 100000 in
theorem deepName : Try.prog.keyTypeAt 2 42 = true := by kernel_rfl
theorem lawName : Keyed Try.prog 42 := Keyed.of_law (deep_law_laid laidOut (m := 2) (by omega) rowName deepName (by rw [Try.underlying42]))
theorem cellsName : Try.prog.cellsOf 42 = 2 := by kernel_rfl
theorem cellsInt : Try.prog.cellsOf 3 = 1 := by kernel_rfl
theorem cellsStr : Try.prog.cellsOf 9 = 1 := by kernel_rfl
/-- A name that can be. -/
def NM.wf (k : NM) : Prop := (Lit.int .i64 k.dir).wf = true ∧ k.name.size ≤ maxLen
abbrev kV (k : NM) : Value := .agg #[.int .i64 k.dir, .string k.name]
def kL (k : NM) : Lit := .string (keyBytes [.int .i64 k.dir, .string k.name.data.toList])
theorem keyLits_int (m : Nat) {x : Int} (hx : (Lit.int .i64 x).wf = true) : Try.prog.keyLits (m + 1) 3 [.int .i64 x] = some [.int .i64 x] := by
  unfold Program.keyLits
  rw [Try.underlying3]
  simp [hx]
theorem keyLits_str (m : Nat) {x : ByteArray} (hx : x.size ≤ maxLen) : Try.prog.keyLits (m + 1) 9 [.string x] = some [.string x.data.toList] := by
  unfold Program.keyLits
  rw [Try.underlying9]
  simp [hx]
theorem keyLits_name (m : Nat) {k : NM} (h : k.wf) : Try.prog.keyLits (m + 2) 42 [.int .i64 k.dir, .string k.name] = some [.int .i64 k.dir, .string k.name.data.toList] := by
  unfold Program.keyLits
  rw [Try.underlying42]
  simp [cellsName, cellsInt, cellsStr, keyLits_int m h.1, keyLits_str m h.2]
theorem keyOf_kV {k : NM} (h : k.wf) : keyOf Try.prog 42 (kV k) = some (kL k) := by
  have h1 : Try.prog.keyType 42 = true := by kernel_rfl
  have hf : (kV k).formed Try.prog 42 = true := by simp [Value.formed, Try.underlying42, cellsName]
  have hsz : Try.prog.types.size + 1 = (Try.prog.types.size - 1) + 2 := by
    have : 1 ≤ Try.prog.types.size := Nat.le_trans (by decide) rowName
    omega
  unfold keyOf
  rw [Try.underlying42]
  simp only [h1, hf, Bool.and_self, if_true, hsz]
  rw [show (kV k).cells.toList = [.int .i64 k.dir, .string k.name] from rfl, keyLits_name _ h]
  rfl
theorem kL_inj {k k' : NM} (h : k.wf) (h' : k'.wf) (e : kL k = kL k') : k = k' := by
  have := lawName.inj (keyOf_kV h) (e ▸ keyOf_kV h')
  simp [kV] at this
  cases k; cases k'
  simp_all
/-- What is kept under a name: an inode, a number. -/
abbrev fV (f : Int × Int) : Value := .agg #[.int .i64 f.1, .int .i64 f.2]
abbrev fD (f : Int × Int) : DataW Unit := .agg [.lit (.int .i64 f.1), .lit (.int .i64 f.2)]
def elemF (v : Value) : Option (DataW Unit × List MemPlace) :=
  match v with
  | .agg ⟨[.int .i64 e, .int .i64 t]⟩ => some (fD (e, t), [])
  | _ => none
theorem elemF_mk (f : Int × Int) : elemF (fV f) = some (fD f, []) := rfl
theorem elemF_inv {v : Value} {y : DataW Unit × List MemPlace} (h : elemF v = some y) : ∃ f : Int × Int, v = fV f ∧ y = (fD f, []) := by
  unfold elemF at h
  split at h
  · rename_i e t
    injection h with h
    exact ⟨(e, t), rfl, h.symm⟩
  · cases h
theorem fD_inj {f f' : Int × Int} (h : fD f = fD f') : f = f' := by
  simp [fD] at h
  exact Prod.ext h.1 h.2
theorem zeroF (w : World) : (zeroValue 72).run Try.prog w = .ok (fV (0, 0)) w := by kernel_rfl
def encN : Enc NM (Int × Int) where
  wf := NM.wf
  kl := kL
  fd := fD
  inj := kL_inj
  key _ := trivial
  dinj := fD_inj
section
variable {W : World} {b n : Nat} {D : DataW Unit} {O : List (NM × (Int × Int))} {k : NM} {f : Int × Int}
theorem own_tightN (hown : W.ownsMap Try.prog 42 elemF b n D) : W.ownsMap Try.prog 42 elemF b (Maps.size D) D := by
  obtain ⟨es, clock, hb, F, hs, rfl⟩ := hown
  refine ⟨es, clock, hb, F, ?_, rfl⟩
  rw [Maps.size_eq, length_read]
  exact Nat.le_refl _
set_option maxRecDepth 100000 in
theorem lookN (H : MHolds encN D O) (hown : W.ownsMap Try.prog 42 elemF b n D) (hp : (k, f) ∈ O) (c : Bool) : (Instr.lookup 68 (.map (some b)) (kV k) c).run Try.prog W = .ok (if c then .tuple #[fV f, .bool true] else fV f) W := by
  have hk : k.wf := H.wf _ hp
  cases c
  · obtain ⟨v, ps, hrun, hv⟩ := hown.lookup lawName Try.underlying68 (zeroF W) (elemF_mk (0, 0)) (keyOf_kV hk)
    rw [show kL k = encN.kl k from rfl, H.at_ _ hp] at hv
    obtain ⟨s', rfl, e⟩ := elemF_inv hv
    injection e with e _
    have e1 : f = s' := encN.dinj e
    subst e1
    exact hrun
  · obtain ⟨v, ps, hrun, hv⟩ := hown.look_ok lawName Try.underlying68 (zeroF W) (elemF_mk (0, 0)) (keyOf_kV hk)
    rw [show kL k = encN.kl k from rfl, H.at_ _ hp] at hv
    obtain ⟨s', rfl, e⟩ := elemF_inv hv
    injection e with e _
    have e1 : f = s' := encN.dinj e
    subst e1
    rw [show kL k = encN.kl k from rfl, H.some_ hp] at hrun
    exact hrun
set_option maxRecDepth 100000 in
theorem lookN_no (H : MHolds encN D O) (hown : W.ownsMap Try.prog 42 elemF b n D) (hk : k.wf) (hn : k ∉ O.map (·.1)) (c : Bool) : (Instr.lookup 68 (.map (some b)) (kV k) c).run Try.prog W = .ok (if c then .tuple #[fV (0, 0), .bool false] else fV (0, 0)) W := by
  cases c
  · obtain ⟨v, ps, hrun, hv⟩ := hown.lookup lawName Try.underlying68 (zeroF W) (elemF_mk (0, 0)) (keyOf_kV hk)
    rw [show kL k = encN.kl k from rfl, Maps.atKey_of_not_has (H.none (k := k) hk hn)] at hv
    obtain ⟨s', rfl, e⟩ := elemF_inv hv
    injection e with e _
    have e1 : _ = s' := encN.dinj (f := (0, 0)) e
    subst e1
    exact hrun
  · obtain ⟨v, ps, hrun, hv⟩ := hown.look_ok lawName Try.underlying68 (zeroF W) (elemF_mk (0, 0)) (keyOf_kV hk)
    rw [show kL k = encN.kl k from rfl, Maps.atKey_of_not_has (H.none (k := k) hk hn)] at hv
    obtain ⟨s', rfl, e⟩ := elemF_inv hv
    injection e with e _
    have e1 : _ = s' := encN.dinj (f := (0, 0)) e
    subst e1
    rw [show kL k = encN.kl k from rfl, H.none (k := k) hk hn] at hrun
    exact hrun
theorem storeN_new (H : MHolds encN D O) (hown : W.ownsMap Try.prog 42 elemF b O.length D) (hl : O.length < maxLen) (hk : k.wf) (hn : k ∉ O.map (·.1)) :
    ∃ W', (Instr.mapUpdate 68 (.map (some b)) (kV k) (fV f)).run Try.prog W = .ok () W' ∧ W'.ownsMap Try.prog 42 elemF b (O ++ [(k, f)]).length (D.put (kL k) (fD f)) ∧ Only [b] W W' := by
  obtain ⟨W', h1, h2, h3⟩ := hown.store lawName Try.underlying68 hl (keyOf_kV hk) (elemF_mk f)
  have h4 := own_tightN h2
  have hsz := (H.new (f := f) hk hn).size
  rw [show Maps.size (D.put (kL k) (fD f)) = (O ++ [(k, f)]).length from hsz] at h4
  exact ⟨W', h1, h4, Only.of_grown h3.grown (fun k hk _ => by injection hk with hk; simp [hk])⟩
theorem dropN (H : MHolds encN D O) (hown : W.ownsMap Try.prog 42 elemF b O.length D) (hp : (k, f) ∈ O) (ty : TypeId) :
    ∃ W', (Builtin.delete_ #[68, 42] ty #[.map (some b), kV k]).run Try.prog W = .ok (.tuple #[]) W' ∧ W'.ownsMap Try.prog 42 elemF b (outV O k).length (D.del (kL k)) ∧ Only [b] W W' := by
  obtain ⟨W', h1, h2, h3⟩ := hown.drop lawName Try.underlying68 (keyOf_kV (H.wf _ hp)) ty
  have h4 := own_tightN h2
  have hsz := (H.del hp).size
  rw [show Maps.size (D.del (kL k)) = (outV O k).length from hsz] at h4
  exact ⟨W', h1, h4, Only.of_grown h3.grown (fun k hk _ => by injection hk with hk; simp [hk])⟩
end
end Go.Proofs.Ytjpojoflbjhjjaa
