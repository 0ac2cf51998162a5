/-
  The log (parapet/wlog): the map of a group's blocks by their numbers: what is kept is the slice of each one's bytes. (The like of WqMap's first half.)
-/
import Derived.Test.YtpajdnjbeplneaaMapL
import Derived.Test.YtpajdnjbeplneaaDiskFork
import Derived.Test.YtpajdnjbeplneaaRqRow
namespace Go.Proofs.Ytpajdnjbeplneaa
open Go.ChangeShapes Go.WideShapes Go.ChangeAt Go.RowKit Go.Maps
set_option linter.unusedVariables false

/-- A slice at the head of a block: the block, the length, the room. -/
structure SV where
  b : Nat
  n : Nat
  c : Nat
abbrev SO := Option SV
def svO : SO → Value
  | none => .slice none 0 0
  | some s => .slice (some ⟨s.b, 0, none⟩) s.n s.c
def fdO : SO → DataW Unit
  | none => .nil
  | some s => .agg [.lit (.int .i64 s.b), .lit (.int .i64 s.n), .lit (.int .i64 s.c)]
def elemSl (v : Value) : Option (DataW Unit × List MemPlace) :=
  match v with
  | .slice none 0 0 => some (.nil, [])
  | .slice (some ⟨b, 0, none⟩) n c => some (.agg [.lit (.int .i64 b), .lit (.int .i64 n), .lit (.int .i64 c)], [])
  | _ => none
theorem elemSl_mk (f : SO) : elemSl (svO f) = some (fdO f, []) := by cases f <;> rfl
theorem elemSl_inv {v : Value} {y : DataW Unit × List MemPlace} (h : elemSl v = some y) : ∃ f : SO, v = svO f ∧ y = (fdO f, []) := by
  unfold elemSl at h
  split at h
  · injection h with h
    exact ⟨none, rfl, h.symm⟩
  · rename_i b n c
    injection h with h
    exact ⟨some ⟨b, n, c⟩, rfl, h.symm⟩
  · cases h
theorem fdO_inj {f f' : SO} (h : fdO f = fdO f') : f = f' := by
  cases f with
  | none => cases f' with
    | none => rfl
    | some s => cases h
  | some s => cases f' with
    | none => cases h
    | some s' =>
      obtain ⟨a, b, c⟩ := s
      obtain ⟨a', b', c'⟩ := s'
      simp [fdO] at h
      obtain ⟨h1, h2, h3⟩ := h
      have e1 : a = a' := by omega
      have e2 : b = b' := by omega
      have e3 : c = c' := by omega
      rw [e1, e2, e3]
abbrev iW (k : Int) : Prop := (Lit.int .i64 k).wf = true
theorem lawInt : Keyed Try.prog 3 := int_keyed Try.underlying3
theorem zeroY (w : World) : (zeroValue 39).run Try.prog w = .ok (.slice none 0 0) w := by kernel_rfl
def encY : Enc Int SO where
  wf := iW
  kl k := .int .i64 k
  fd := fdO
  inj := fun _ _ e => by injection e
  key _ := trivial
  dinj e := fdO_inj e
theorem keyY {k : Int} (hk : iW k) : keyOf Try.prog 3 (.int .i64 k) = some (encY.kl k) := keyOf_int_mk Try.underlying3 hk
section
variable {W : World} {b n : Nat} {D : DataW Unit} {O : List (Int × SO)} {k : Int} {f : SO}
theorem own_tightY (hown : W.ownsMap Try.prog 3 elemSl b n D) : W.ownsMap Try.prog 3 elemSl b (Maps.size D) D := by
  obtain ⟨es, clock, hb, F, hs, rfl⟩ := hown
  refine ⟨es, clock, hb, F, ?_, rfl⟩
  rw [Maps.size_eq, length_read]
  exact Nat.le_refl _
set_option maxRecDepth 100000 in
theorem lookY (H : MHolds encY D O) (hown : W.ownsMap Try.prog 3 elemSl b n D) (hp : (k, f) ∈ O) : (Instr.lookup 79 (.map (some b)) (.int .i64 k) false).run Try.prog W = .ok (svO f) W := by
  have hk : iW k := H.wf _ hp
  obtain ⟨v, ps, hrun, hv⟩ := hown.lookup lawInt Try.underlying79 (zeroY W) (elemSl_mk none) (keyY hk)
  rw [H.at_ _ hp] at hv
  obtain ⟨s', rfl, e⟩ := elemSl_inv hv
  injection e with e _
  have e1 : f = s' := fdO_inj e
  subst e1
  exact hrun
set_option maxRecDepth 100000 in
theorem lookY_no (H : MHolds encY D O) (hown : W.ownsMap Try.prog 3 elemSl b n D) (hk : encY.wf k) (hn : k ∉ O.map (·.1)) : (Instr.lookup 79 (.map (some b)) (.int .i64 k) false).run Try.prog W = .ok (.slice none 0 0) W := by
  obtain ⟨v, ps, hrun, hv⟩ := hown.lookup lawInt Try.underlying79 (zeroY W) (elemSl_mk none) (keyY hk)
  rw [Maps.atKey_of_not_has (H.none (k := k) hk hn)] at hv
  obtain ⟨s', rfl, e⟩ := elemSl_inv hv
  injection e with e _
  have e1 : _ = s' := fdO_inj (f := none) e
  subst e1
  exact hrun
set_option maxRecDepth 100000 in
theorem lookY_ok (H : MHolds encY D O) (hown : W.ownsMap Try.prog 3 elemSl b n D) (hp : (k, f) ∈ O) : (Instr.lookup 79 (.map (some b)) (.int .i64 k) true).run Try.prog W = .ok (.tuple #[svO f, .bool true]) W := by
  have hk : iW k := H.wf _ hp
  obtain ⟨v, ps, hrun, hv⟩ := hown.look_ok lawInt Try.underlying79 (zeroY W) (elemSl_mk none) (keyY hk)
  rw [H.at_ _ hp] at hv
  obtain ⟨s', rfl, e⟩ := elemSl_inv hv
  injection e with e _
  have e1 : f = s' := fdO_inj e
  subst e1
  rw [H.some_ hp] at hrun
  exact hrun
set_option maxRecDepth 100000 in
theorem lookY_nok (H : MHolds encY D O) (hown : W.ownsMap Try.prog 3 elemSl b n D) (hk : iW k) (hn : k ∉ O.map (·.1)) : (Instr.lookup 79 (.map (some b)) (.int .i64 k) true).run Try.prog W = .ok (.tuple #[.slice none 0 0, .bool false]) W := by
  obtain ⟨v, ps, hrun, hv⟩ := hown.look_ok lawInt Try.underlying79 (zeroY W) (elemSl_mk none) (keyY hk)
  rw [Maps.atKey_of_not_has (H.none (k := k) hk hn)] at hv
  obtain ⟨s', rfl, e⟩ := elemSl_inv hv
  injection e with e _
  have e1 : _ = s' := fdO_inj (f := none) e
  subst e1
  rw [H.none (k := k) hk hn] at hrun
  exact hrun
theorem storeY_new (H : MHolds encY D O) (hown : W.ownsMap Try.prog 3 elemSl b O.length D) (hl : O.length < maxLen) (hk : encY.wf k) (hn : k ∉ O.map (·.1)) :
    ∃ W', (Instr.mapUpdate 79 (.map (some b)) (.int .i64 k) (svO f)).run Try.prog W = .ok () W' ∧ (∃ D', W'.ownsMap Try.prog 3 elemSl b (O ++ [(k, f)]).length D' ∧ MHolds encY D' (O ++ [(k, f)])) ∧ Only [b] W W' := by
  obtain ⟨W', h1, h2, h3⟩ := hown.store lawInt Try.underlying79 hl (keyY hk) (elemSl_mk f)
  have h4 := own_tightY h2
  have h5 : MHolds encY (D.put (encY.kl k) (fdO f)) (O ++ [(k, f)]) := H.new (f := f) hk hn
  rw [h5.size] at h4
  exact ⟨W', h1, ⟨_, h4, h5⟩, Only.of_grown h3.grown (fun k hk _ => by injection hk with hk; simp [hk])⟩
theorem storeY_old (H : MHolds encY D O) (hown : W.ownsMap Try.prog 3 elemSl b O.length D) (hl : O.length < maxLen) {f' : SO} (hp : (k, f') ∈ O) :
    ∃ W', (Instr.mapUpdate 79 (.map (some b)) (.int .i64 k) (svO f)).run Try.prog W = .ok () W' ∧ (∃ D', W'.ownsMap Try.prog 3 elemSl b (setV O k f).length D' ∧ MHolds encY D' (setV O k f)) ∧ Only [b] W W' := by
  obtain ⟨W', h1, h2, h3⟩ := hown.store lawInt Try.underlying79 hl (keyY (k := k) (H.wf _ hp)) (elemSl_mk f)
  have h4 := own_tightY h2
  have h5 : MHolds encY (D.put (encY.kl k) (fdO f)) (setV O k f) := H.old hp f
  rw [h5.size] at h4
  exact ⟨W', h1, ⟨_, h4, h5⟩, Only.of_grown h3.grown (fun k hk _ => by injection hk with hk; simp [hk])⟩
end
theorem run_eql_mapY (w : World) (p : Option Nat) : (binOp .eql 79 (.map p) (.map none)).run Try.prog w = .ok (.bool p.isNone) w := by
  have hd : ∀ d, (Op.equalIn (d + 1) 79 (.map p) (.map none)).run Try.prog w = .ok p.isNone w := fun d => by
    cases p <;> simp [Op.equalIn, run_underlying Try.underlying79]
  have h := hd 9999
  simp only [binOp]
  simp [show Op.equal 79 (.map p) (.map none) = Op.equalIn (9999 + 1) 79 (.map p) (.map none) from rfl, h]

theorem run_clone_mapY {w : World} {b : Nat} {es : Array MapEntry} {clock : Nat} (t : TypeId) (hb : w.heap[b]? = some (.map es clock)) :
    (Extern.MapsClone.clone #[.iface t (.map (some b))]).run Try.prog w = .ok (.iface t (.map (some w.heap.size))) (w.alloc (.map es clock)) := by
  have e : Extern.MapsClone.clone #[.iface t (.map (some b))] = (getObj b >>= fun o => match o with
      | .map entries clock => (newObj (.map entries clock) >>= fun n => pure (.iface t (.map (some n))))
      | _ => stuck "maps.clone: a map expected") := rfl
  rw [e]
  simp [MapKept.run_getObj_map hb, Result.andThen, go_sem]

set_option maxHeartbeats 2000000 in
theorem mpcloneY_is (w : World) (b : Nat) (es : Array MapEntry) (clock : Nat) (hb : w.heap[b]? = some (.map es clock)) : Calls Try.prog 68 #[.map (some b)] w fun e w' => e = .returned (.map (some w.heap.size)) ∧ w' = w.alloc (.map es clock) := by
  have hq := fun w => run_eql_mapY w (some b)
  have hta : ∀ (w : World) (v : Value), (Instr.typeAssert (.iface 79 v) 20 79 false).run Try.prog w = .ok v w := fun w v => by
    simp [Instr.typeAssert, run_underlying Try.underlying79, go_sem, Result.andThen]
  go_enter Try.func68, Try.ntmps68
  go_wp2
  rw [run_callFunc_extern Try.func82 (by kernel_rfl) (by kernel_rfl) (by kernel_rfl) (e := Extern.MapsClone.clone) (by kernel_rfl), run_clone_mapY 79 hb]
  simp only [Result.andThen]
  rw [Oper.upon_value]
  go_wp2
  go_ret
  exact ⟨rfl, rfl⟩
end Go.Proofs.Ytpajdnjbeplneaa
