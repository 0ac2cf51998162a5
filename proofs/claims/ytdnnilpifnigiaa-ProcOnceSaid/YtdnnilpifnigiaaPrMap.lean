/-
  Processes and threads (parapet/proc): maps of processes, of threads, by their numbers.
-/
import Derived.Test.YtdnnilpifnigiaaMapL
import Derived.Test.YtdnnilpifnigiaaKRow
namespace Go.Proofs.Ytdnnilpifnigiaa
open Go.ChangeShapes Go.WideShapes Go.ChangeAt Go.RowKit Go.Maps
set_option linter.unusedVariables false

theorem lawInt : Keyed Try.prog 3 := int_keyed Try.underlying3
abbrev iW (k : Int) : Prop := (Lit.int .i64 k).wf = true
theorem iW_mid {x : Int} (h0 : -1 ≤ x) (h1 : x ≤ 4611686018427387904) : iW x := by
  have e1 : IntKind.i64.min = -9223372036854775808 := by decide
  have e2 : IntKind.i64.max = 9223372036854775807 := by decide
  simp only [iW, Lit.wf, e1, e2, Bool.and_eq_true, decide_eq_true_eq]
  omega
/-- A process. -/
structure K5 where
  pid : Int
  par : Int
  zom : Bool
  code : Int
deriving DecidableEq
/-- A thread. -/
structure S4 where
  tid : Int
  pid : Int
  ended : Bool
  code : Int
deriving DecidableEq
abbrev k0 : K5 := ⟨0, 0, false, 0⟩
abbrev s0 : S4 := ⟨0, 0, false, 0⟩
abbrev kC (k : K5) : Array Value := #[.int .i64 k.pid, .int .i64 k.par, .bool k.zom, .int .i64 k.code, .slice none 0 0]
abbrev kV (k : K5) : Value := .agg (kC k)
abbrev kD (k : K5) : DataW Unit := .agg [.lit (.int .i64 k.pid), .lit (.int .i64 k.par), .lit (.bool k.zom), .lit (.int .i64 k.code)]
abbrev sC (k : S4) : Array Value := #[.int .i64 k.tid, .int .i64 k.pid, .bool k.ended, .int .i64 k.code]
abbrev sV (k : S4) : Value := .agg (sC k)
abbrev sD (k : S4) : DataW Unit := .agg [.lit (.int .i64 k.tid), .lit (.int .i64 k.pid), .lit (.bool k.ended), .lit (.int .i64 k.code)]
def elemK (v : Value) : Option (DataW Unit × List MemPlace) :=
  match v with
  | .agg ⟨[.int .i64 a, .int .i64 b, .bool c, .int .i64 d, .slice none 0 0]⟩ => some (kD ⟨a, b, c, d⟩, [])
  | _ => none
def elemS (v : Value) : Option (DataW Unit × List MemPlace) :=
  match v with
  | .agg ⟨[.int .i64 a, .int .i64 b, .bool c, .int .i64 d]⟩ => some (sD ⟨a, b, c, d⟩, [])
  | _ => none

theorem elemK_mk (f : K5) : elemK (kV f) = some (kD f, []) := rfl
theorem elemK_inv {v : Value} {y : DataW Unit × List MemPlace} (h : elemK v = some y) : ∃ f : K5, v = kV f ∧ y = (kD f, []) := by
  unfold elemK at h
  split at h
  · rename_i a b c d
    injection h with h
    exact ⟨⟨a, b, c, d⟩, rfl, h.symm⟩
  · cases h
theorem kD_inj {f f' : K5} (h : kD f = kD f') : f = f' := by
  obtain ⟨a, b, c, d⟩ := f
  obtain ⟨a', b', c', d'⟩ := f'
  simp [kD] at h
  obtain ⟨h1, h2, h3, h4⟩ := h
  subst h1; subst h2; subst h3; subst h4
  rfl
def encK : Enc Int K5 where
  wf := iW
  kl k := .int .i64 k
  fd := kD
  inj := fun _ _ e => by injection e
  key _ := trivial
  dinj e := kD_inj e
theorem zeroK (w : World) : (zeroValue 58).run Try.prog w = .ok (kV k0) w := by kernel_rfl
theorem keyK {k : Int} (hk : iW k) : keyOf Try.prog 3 (.int .i64 k) = some (encK.kl k) := keyOf_int_mk Try.underlying3 hk
section
variable {W : World} {b n : Nat} {D : DataW Unit} {O : List (Int × K5)} {k : Int} {f : K5}
theorem own_tightK (hown : W.ownsMap Try.prog 3 elemK b n D) : W.ownsMap Try.prog 3 elemK b (Maps.size D) D := by
  obtain ⟨es, clock, hb, F, hs, rfl⟩ := hown
  refine ⟨es, clock, hb, F, ?_, rfl⟩
  rw [Maps.size_eq, length_read]
  exact Nat.le_refl _
set_option maxRecDepth 100000 in
theorem lookK (H : MHolds encK D O) (hown : W.ownsMap Try.prog 3 elemK b n D) (hp : (k, f) ∈ O) (c : Bool) : (Instr.lookup 51 (.map (some b)) (.int .i64 k) c).run Try.prog W = .ok (if c then .tuple #[kV f, .bool true] else kV f) W := by
  have hk : iW k := H.wf _ hp
  cases c
  · obtain ⟨v, ps, hrun, hv⟩ := hown.lookup lawInt Try.underlying51 (zeroK W) (elemK_mk k0) (keyK hk)
    rw [H.at_ _ hp] at hv
    obtain ⟨s', rfl, e⟩ := elemK_inv hv
    injection e with e _
    have e1 : f = s' := kD_inj e
    subst e1
    exact hrun
  · obtain ⟨v, ps, hrun, hv⟩ := hown.look_ok lawInt Try.underlying51 (zeroK W) (elemK_mk k0) (keyK hk)
    rw [H.at_ _ hp] at hv
    obtain ⟨s', rfl, e⟩ := elemK_inv hv
    injection e with e _
    have e1 : f = s' := kD_inj e
    subst e1
    rw [H.some_ hp] at hrun
    exact hrun
set_option maxRecDepth 100000 in
theorem lookK_no (H : MHolds encK D O) (hown : W.ownsMap Try.prog 3 elemK b n D) (hk : iW k) (hn : k ∉ O.map (·.1)) : (Instr.lookup 51 (.map (some b)) (.int .i64 k) true).run Try.prog W = .ok (.tuple #[kV k0, .bool false]) W := by
  obtain ⟨v, ps, hrun, hv⟩ := hown.look_ok lawInt Try.underlying51 (zeroK W) (elemK_mk k0) (keyK hk)
  rw [Maps.atKey_of_not_has (H.none (k := k) hk hn)] at hv
  obtain ⟨s', rfl, e⟩ := elemK_inv hv
  injection e with e _
  have e1 : _ = s' := kD_inj e
  subst e1
  rw [H.none (k := k) hk hn] at hrun
  exact hrun
theorem lenK (H : MHolds encK D O) (hown : W.ownsMap Try.prog 3 elemK b n D) (ty : TypeId) : (Builtin.len_ #[51] ty #[.map (some b)]).run Try.prog W = .ok (.int .i64 O.length) W := by
  have := hown.len Try.underlying51 ty
  rwa [H.size] at this
theorem storeK_new (H : MHolds encK D O) (hown : W.ownsMap Try.prog 3 elemK b O.length D) (hl : O.length < maxLen) (hk : iW k) (hn : k ∉ O.map (·.1)) :
    ∃ W', (Instr.mapUpdate 51 (.map (some b)) (.int .i64 k) (kV f)).run Try.prog W = .ok () W' ∧ W'.ownsMap Try.prog 3 elemK b (O ++ [(k, f)]).length (D.put (encK.kl k) (encK.fd f)) ∧ Only [b] W W' := by
  obtain ⟨W', h1, h2, h3⟩ := hown.store lawInt Try.underlying51 hl (keyK hk) (elemK_mk f)
  have h4 := own_tightK h2
  rw [show (kD f) = encK.fd f from rfl, (H.new (f := f) hk hn).size] at h4
  exact ⟨W', h1, h4, Only.of_grown h3.grown (fun k hk _ => by injection hk with hk; simp [hk])⟩
theorem storeK_old (H : MHolds encK D O) (hown : W.ownsMap Try.prog 3 elemK b O.length D) (hl : O.length < maxLen) (hp : (k, f) ∈ O) (e : K5) :
    ∃ W', (Instr.mapUpdate 51 (.map (some b)) (.int .i64 k) (kV e)).run Try.prog W = .ok () W' ∧ W'.ownsMap Try.prog 3 elemK b (setV O k e).length (D.put (encK.kl k) (encK.fd e)) ∧ Only [b] W W' := by
  obtain ⟨W', h1, h2, h3⟩ := hown.store lawInt Try.underlying51 hl (keyK (H.wf _ hp)) (elemK_mk e)
  have h4 := own_tightK h2
  rw [show (kD e) = encK.fd e from rfl, (H.old hp e).size] at h4
  exact ⟨W', h1, h4, Only.of_grown h3.grown (fun k hk _ => by injection hk with hk; simp [hk])⟩
theorem dropK (H : MHolds encK D O) (hown : W.ownsMap Try.prog 3 elemK b O.length D) (hp : (k, f) ∈ O) (ty : TypeId) :
    ∃ W', (Builtin.delete_ #[51, 3] ty #[.map (some b), .int .i64 k]).run Try.prog W = .ok (.tuple #[]) W' ∧ W'.ownsMap Try.prog 3 elemK b (outV O k).length (D.del (encK.kl k)) ∧ Only [b] W W' := by
  obtain ⟨W', h1, h2, h3⟩ := hown.drop lawInt Try.underlying51 (keyK (H.wf _ hp)) ty
  have h4 := own_tightK h2
  rw [(H.del hp).size] at h4
  exact ⟨W', h1, h4, Only.of_grown h3.grown (fun k hk _ => by injection hk with hk; simp [hk])⟩
end

theorem elemS_mk (f : S4) : elemS (sV f) = some (sD f, []) := rfl
theorem elemS_inv {v : Value} {y : DataW Unit × List MemPlace} (h : elemS v = some y) : ∃ f : S4, v = sV f ∧ y = (sD f, []) := by
  unfold elemS at h
  split at h
  · rename_i a b c d
    injection h with h
    exact ⟨⟨a, b, c, d⟩, rfl, h.symm⟩
  · cases h
theorem sD_inj {f f' : S4} (h : sD f = sD f') : f = f' := by
  obtain ⟨a, b, c, d⟩ := f
  obtain ⟨a', b', c', d'⟩ := f'
  simp [sD] at h
  obtain ⟨h1, h2, h3, h4⟩ := h
  subst h1; subst h2; subst h3; subst h4
  rfl
def encS : Enc Int S4 where
  wf := iW
  kl k := .int .i64 k
  fd := sD
  inj := fun _ _ e => by injection e
  key _ := trivial
  dinj e := sD_inj e
theorem zeroS (w : World) : (zeroValue 43).run Try.prog w = .ok (sV s0) w := by kernel_rfl
theorem keyS {k : Int} (hk : iW k) : keyOf Try.prog 3 (.int .i64 k) = some (encS.kl k) := keyOf_int_mk Try.underlying3 hk
section
variable {W : World} {b n : Nat} {D : DataW Unit} {O : List (Int × S4)} {k : Int} {f : S4}
theorem own_tightS (hown : W.ownsMap Try.prog 3 elemS b n D) : W.ownsMap Try.prog 3 elemS b (Maps.size D) D := by
  obtain ⟨es, clock, hb, F, hs, rfl⟩ := hown
  refine ⟨es, clock, hb, F, ?_, rfl⟩
  rw [Maps.size_eq, length_read]
  exact Nat.le_refl _
set_option maxRecDepth 100000 in
theorem lookS (H : MHolds encS D O) (hown : W.ownsMap Try.prog 3 elemS b n D) (hp : (k, f) ∈ O) (c : Bool) : (Instr.lookup 52 (.map (some b)) (.int .i64 k) c).run Try.prog W = .ok (if c then .tuple #[sV f, .bool true] else sV f) W := by
  have hk : iW k := H.wf _ hp
  cases c
  · obtain ⟨v, ps, hrun, hv⟩ := hown.lookup lawInt Try.underlying52 (zeroS W) (elemS_mk s0) (keyS hk)
    rw [H.at_ _ hp] at hv
    obtain ⟨s', rfl, e⟩ := elemS_inv hv
    injection e with e _
    have e1 : f = s' := sD_inj e
    subst e1
    exact hrun
  · obtain ⟨v, ps, hrun, hv⟩ := hown.look_ok lawInt Try.underlying52 (zeroS W) (elemS_mk s0) (keyS hk)
    rw [H.at_ _ hp] at hv
    obtain ⟨s', rfl, e⟩ := elemS_inv hv
    injection e with e _
    have e1 : f = s' := sD_inj e
    subst e1
    rw [H.some_ hp] at hrun
    exact hrun
set_option maxRecDepth 100000 in
theorem lookS_no (H : MHolds encS D O) (hown : W.ownsMap Try.prog 3 elemS b n D) (hk : iW k) (hn : k ∉ O.map (·.1)) : (Instr.lookup 52 (.map (some b)) (.int .i64 k) true).run Try.prog W = .ok (.tuple #[sV s0, .bool false]) W := by
  obtain ⟨v, ps, hrun, hv⟩ := hown.look_ok lawInt Try.underlying52 (zeroS W) (elemS_mk s0) (keyS hk)
  rw [Maps.atKey_of_not_has (H.none (k := k) hk hn)] at hv
  obtain ⟨s', rfl, e⟩ := elemS_inv hv
  injection e with e _
  have e1 : _ = s' := sD_inj e
  subst e1
  rw [H.none (k := k) hk hn] at hrun
  exact hrun
theorem lenS (H : MHolds encS D O) (hown : W.ownsMap Try.prog 3 elemS b n D) (ty : TypeId) : (Builtin.len_ #[52] ty #[.map (some b)]).run Try.prog W = .ok (.int .i64 O.length) W := by
  have := hown.len Try.underlying52 ty
  rwa [H.size] at this
theorem storeS_new (H : MHolds encS D O) (hown : W.ownsMap Try.prog 3 elemS b O.length D) (hl : O.length < maxLen) (hk : iW k) (hn : k ∉ O.map (·.1)) :
    ∃ W', (Instr.mapUpdate 52 (.map (some b)) (.int .i64 k) (sV f)).run Try.prog W = .ok () W' ∧ W'.ownsMap Try.prog 3 elemS b (O ++ [(k, f)]).length (D.put (encS.kl k) (encS.fd f)) ∧ Only [b] W W' := by
  obtain ⟨W', h1, h2, h3⟩ := hown.store lawInt Try.underlying52 hl (keyS hk) (elemS_mk f)
  have h4 := own_tightS h2
  rw [show (sD f) = encS.fd f from rfl, (H.new (f := f) hk hn).size] at h4
  exact ⟨W', h1, h4, Only.of_grown h3.grown (fun k hk _ => by injection hk with hk; simp [hk])⟩
theorem storeS_old (H : MHolds encS D O) (hown : W.ownsMap Try.prog 3 elemS b O.length D) (hl : O.length < maxLen) (hp : (k, f) ∈ O) (e : S4) :
    ∃ W', (Instr.mapUpdate 52 (.map (some b)) (.int .i64 k) (sV e)).run Try.prog W = .ok () W' ∧ W'.ownsMap Try.prog 3 elemS b (setV O k e).length (D.put (encS.kl k) (encS.fd e)) ∧ Only [b] W W' := by
  obtain ⟨W', h1, h2, h3⟩ := hown.store lawInt Try.underlying52 hl (keyS (H.wf _ hp)) (elemS_mk e)
  have h4 := own_tightS h2
  rw [show (sD e) = encS.fd e from rfl, (H.old hp e).size] at h4
  exact ⟨W', h1, h4, Only.of_grown h3.grown (fun k hk _ => by injection hk with hk; simp [hk])⟩
theorem dropS (H : MHolds encS D O) (hown : W.ownsMap Try.prog 3 elemS b O.length D) (hp : (k, f) ∈ O) (ty : TypeId) :
    ∃ W', (Builtin.delete_ #[52, 3] ty #[.map (some b), .int .i64 k]).run Try.prog W = .ok (.tuple #[]) W' ∧ W'.ownsMap Try.prog 3 elemS b (outV O k).length (D.del (encS.kl k)) ∧ Only [b] W W' := by
  obtain ⟨W', h1, h2, h3⟩ := hown.drop lawInt Try.underlying52 (keyS (H.wf _ hp)) ty
  have h4 := own_tightS h2
  rw [(H.del hp).size] at h4
  exact ⟨W', h1, h4, Only.of_grown h3.grown (fun k hk _ => by injection hk with hk; simp [hk])⟩
end

theorem info_kin : (Try.prog.info? 58).map (·.size) = some 5 := by kernel_rfl
theorem info_strand : (Try.prog.info? 43).map (·.size) = some 4 := by kernel_rfl
/-- A process is read and laid whole. -/
theorem kin_load {ops : Array Oper} {rest : List Oper} {ds ty ps af} {a : Act} {w : World} {Q : Exit → Act → World → Prop} (x : Operand)
    {g : Nat} {f : K5} (hg : Blk w g 58 (kC f)) (hx : a.eval x = .pointer (some ⟨g, 0, none⟩))
    (h : wpList Try.prog ops Q rest (a.put ds (kV f)) w) : wpList Try.prog ops Q (⟨ds, .load 58 x, ty, ps, af, none⟩ :: rest) a w :=
  wpList_load_row rfl 58 x rfl _ hx 58 (kC f) (0, 0) _ hg Try.underlying58 rfl (by rw [info_kin]; rfl) h
theorem strand_load {ops : Array Oper} {rest : List Oper} {ds ty ps af} {a : Act} {w : World} {Q : Exit → Act → World → Prop} (x : Operand)
    {g : Nat} {f : S4} (hg : Blk w g 43 (sC f)) (hx : a.eval x = .pointer (some ⟨g, 0, none⟩))
    (h : wpList Try.prog ops Q rest (a.put ds (sV f)) w) : wpList Try.prog ops Q (⟨ds, .load 43 x, ty, ps, af, none⟩ :: rest) a w :=
  wpList_load_row rfl 43 x rfl _ hx 43 (sC f) (0, 0) _ hg Try.underlying43 rfl (by rw [info_strand]; rfl) h
theorem kin_store {ops : Array Oper} {rest : List Oper} {ds ty ps af} {a : Act} {w : World} {Q : Exit → Act → World → Prop} (x y : Operand)
    {g : Nat} (f : K5) {fo : K5} (hg : Blk w g 58 (kC fo)) (hx : a.eval x = .pointer (some ⟨g, 0, none⟩)) (hy : a.eval y = kV f)
    (h : wpList Try.prog ops Q rest (a.put ds undef) (w.setRow g (kC f))) : wpList Try.prog ops Q (⟨ds, .store 58 x y, ty, ps, af, none⟩ :: rest) a w :=
  wpList_store_row rfl 58 x y rfl _ (kC f) hx hy 58 (kC fo) hg (by rw [info_kin]; rfl) rfl (by simp [kC, Value.oneCell']) h
theorem strand_store {ops : Array Oper} {rest : List Oper} {ds ty ps af} {a : Act} {w : World} {Q : Exit → Act → World → Prop} (x y : Operand)
    {g : Nat} (f : S4) {fo : S4} (hg : Blk w g 43 (sC fo)) (hx : a.eval x = .pointer (some ⟨g, 0, none⟩)) (hy : a.eval y = sV f)
    (h : wpList Try.prog ops Q rest (a.put ds undef) (w.setRow g (sC f))) : wpList Try.prog ops Q (⟨ds, .store 43 x y, ty, ps, af, none⟩ :: rest) a w :=
  wpList_store_row rfl 43 x y rfl _ (sC f) hx hy 43 (sC fo) hg (by rw [info_strand]; rfl) rfl (by simp [sC, Value.oneCell']) h
end Go.Proofs.Ytdnnilpifnigiaa
