/-
  Fork of parapet/disk.
-/
import Derived.Test.YtokdpldmoflnkaaMg05
import Derived.Laws.Externs
import Derived.RegionTactic
import Derived.Deep.RegionLaw
namespace Go.Proofs.Ytokdpldmoflnkaa
open Go.ChangeShapes Go.WideShapes Go.ChangeAt Go.RowKit Go.Maps
set_option linter.unusedVariables false



theorem run_eql_map (w : World) (p : Option Nat) : (binOp .eql 104 (.map p) (.map none)).run Try.prog w = .ok (.bool p.isNone) w := by
  have hd : ∀ d, (Op.equalIn (d + 1) 104 (.map p) (.map none)).run Try.prog w = .ok p.isNone w := fun d => by
    cases p <;> simp [Op.equalIn, run_underlying Try.underlying104]
  have h := hd 9999
  simp only [binOp]
  simp [show Op.equal 104 (.map p) (.map none) = Op.equalIn (9999 + 1) 104 (.map p) (.map none) from rfl, h]

theorem run_clone_map {w : World} {b : Nat} {es : Array MapEntry} {clock : Nat} (t : TypeId) (hb : w.heap[b]? = some (.map es clock)) :
    (Extern.MapsClone.clone #[.iface t (.map (some b))]).run Try.prog w = .ok (.iface t (.map (some w.heap.size))) (w.alloc (.map es clock)) := by
  have e : Extern.MapsClone.clone #[.iface t (.map (some b))] = (getObj b >>= fun o => match o with
      | .map entries clock => (newObj (.map entries clock) >>= fun n => pure (.iface t (.map (some n))))
      | _ => stuck "maps.clone: a map expected") := rfl
  rw [e]
  simp [MapKept.run_getObj_map hb, Result.andThen, go_sem]



section
variable {w : World} {g pb pc mb : Nat} {pr : List Value} {pv : Value} {D : DataW Unit} {N : Nat} {plat : List Int} {ws : List WR} {left rd wt fl : Int} (h : IsDisk w g pb pc mb pr pv D N plat ws left rd wt fl)
include h

omit h in
/-- What a fork gives: another disk that holds the same, whose blocks are new. -/
def Forked (w w' : World) (e : Ending) (D : DataW Unit) (N : Nat) (plat : List Int) (ws : List WR) (left rd wt fl : Int) : Prop :=
  ∃ g pb pc mb pr pv, e = .returned (.pointer (some ⟨g, 0, none⟩)) ∧ (∀ k ∈ foot g pb mb pv, w.heap.size ≤ k) ∧ Only [] w w' ∧ IsDisk w' g pb pc mb pr pv D N plat ws left rd wt fl

omit h in
theorem cells_one (ws : List WR) : ∀ u ∈ ws.flatMap WR.cells, u.oneCell' = true := by
  intro u hu
  obtain ⟨x, _, hx⟩ := List.mem_flatMap.1 hu
  simp only [WR.cells, List.mem_cons, List.not_mem_nil, or_false] at hx
  rcases hx with rfl | rfl <;> rfl

end
end Go.Proofs.Ytokdpldmoflnkaa
/-
  The log (parapet/wlog): the map of a group's blocks by their numbers: what is kept is the slice of each one's bytes. (The like of WqMap's first half.)
-/
namespace Go.Proofs.Ytokdpldmoflnkaa
open Go.ChangeShapes Go.WideShapes Go.ChangeAt Go.RowKit Go.Maps
set_option linter.unusedVariables false

/-- A slice at the head of a block: the block, the length, the room. -/
structure SV where
  b : Nat
  n : Nat
  c : Nat
abbrev SO := Option SV
def svO : SO → Value
  | none => .slice none 0 0
  | some s => .slice (some ⟨s.b, 0, none⟩) s.n s.c
def fdO : SO → DataW Unit
  | none => .nil
  | some s => .agg [.lit (.int .i64 s.b), .lit (.int .i64 s.n), .lit (.int .i64 s.c)]
def elemSl (v : Value) : Option (DataW Unit × List MemPlace) :=
  match v with
  | .slice none 0 0 => some (.nil, [])
  | .slice (some ⟨b, 0, none⟩) n c => some (.agg [.lit (.int .i64 b), .lit (.int .i64 n), .lit (.int .i64 c)], [])
  | _ => none
theorem elemSl_mk (f : SO) : elemSl (svO f) = some (fdO f, []) := by cases f <;> rfl
theorem elemSl_inv {v : Value} {y : DataW Unit × List MemPlace} (h : elemSl v = some y) : ∃ f : SO, v = svO f ∧ y = (fdO f, []) := by
  unfold elemSl at h
  split at h
  · injection h with h
    exact ⟨none, rfl, h.symm⟩
  · rename_i b n c
    injection h with h
    exact ⟨some ⟨b, n, c⟩, rfl, h.symm⟩
  · cases h
theorem fdO_inj {f f' : SO} (h : fdO f = fdO f') : f = f' := by
  cases f with
  | none => cases f' with
    | none => rfl
    | some s => cases h
  | some s => cases f' with
    | none => cases h
    | some s' =>
      obtain ⟨a, b, c⟩ := s
      obtain ⟨a', b', c'⟩ := s'
      simp [fdO] at h
      obtain ⟨h1, h2, h3⟩ := h
      have e1 : a = a' := by omega
      have e2 : b = b' := by omega
      have e3 : c = c' := by omega
      rw [e1, e2, e3]
abbrev iW (k : Int) : Prop := (Lit.int .i64 k).wf = true
theorem lawInt : Keyed Try.prog 3 := int_keyed Try.underlying3
theorem zeroY (w : World) : (zeroValue 46).run Try.prog w = .ok (.slice none 0 0) w := by kernel_rfl
def encY : Enc Int SO where
  wf := iW
  kl k := .int .i64 k
  fd := fdO
  inj := fun _ _ e => by injection e
  key _ := trivial
  dinj e := fdO_inj e
theorem keyY {k : Int} (hk : iW k) : keyOf Try.prog 3 (.int .i64 k) = some (encY.kl k) := keyOf_int_mk Try.underlying3 hk
section
variable {W : World} {b n : Nat} {D : DataW Unit} {O : List (Int × SO)} {k : Int} {f : SO}
theorem own_tightY (hown : W.ownsMap Try.prog 3 elemSl b n D) : W.ownsMap Try.prog 3 elemSl b (Maps.size D) D := by
  obtain ⟨es, clock, hb, F, hs, rfl⟩ := hown
  refine ⟨es, clock, hb, F, ?_, rfl⟩
  rw [Maps.size_eq, length_read]
  exact Nat.le_refl _
set_option maxRecDepth 100000 in
theorem lookY (H : MHolds encY D O) (hown : W.ownsMap Try.prog 3 elemSl b n D) (hp : (k, f) ∈ O) : (Instr.lookup 78 (.map (some b)) (.int .i64 k) false).run Try.prog W = .ok (svO f) W := by
  have hk : iW k := H.wf _ hp
  obtain ⟨v, ps, hrun, hv⟩ := hown.lookup lawInt Try.underlying78 (zeroY W) (elemSl_mk none) (keyY hk)
  rw [H.at_ _ hp] at hv
  obtain ⟨s', rfl, e⟩ := elemSl_inv hv
  injection e with e _
  have e1 : f = s' := fdO_inj e
  subst e1
  exact hrun
set_option maxRecDepth 100000 in
theorem lookY_no (H : MHolds encY D O) (hown : W.ownsMap Try.prog 3 elemSl b n D) (hk : encY.wf k) (hn : k ∉ O.map (·.1)) : (Instr.lookup 78 (.map (some b)) (.int .i64 k) false).run Try.prog W = .ok (.slice none 0 0) W := by
  obtain ⟨v, ps, hrun, hv⟩ := hown.lookup lawInt Try.underlying78 (zeroY W) (elemSl_mk none) (keyY hk)
  rw [Maps.atKey_of_not_has (H.none (k := k) hk hn)] at hv
  obtain ⟨s', rfl, e⟩ := elemSl_inv hv
  injection e with e _
  have e1 : _ = s' := fdO_inj (f := none) e
  subst e1
  exact hrun
set_option maxRecDepth 100000 in
theorem lookY_ok (H : MHolds encY D O) (hown : W.ownsMap Try.prog 3 elemSl b n D) (hp : (k, f) ∈ O) : (Instr.lookup 78 (.map (some b)) (.int .i64 k) true).run Try.prog W = .ok (.tuple #[svO f, .bool true]) W := by
  have hk : iW k := H.wf _ hp
  obtain ⟨v, ps, hrun, hv⟩ := hown.look_ok lawInt Try.underlying78 (zeroY W) (elemSl_mk none) (keyY hk)
  rw [H.at_ _ hp] at hv
  obtain ⟨s', rfl, e⟩ := elemSl_inv hv
  injection e with e _
  have e1 : f = s' := fdO_inj e
  subst e1
  rw [H.some_ hp] at hrun
  exact hrun
set_option maxRecDepth 100000 in
theorem lookY_nok (H : MHolds encY D O) (hown : W.ownsMap Try.prog 3 elemSl b n D) (hk : iW k) (hn : k ∉ O.map (·.1)) : (Instr.lookup 78 (.map (some b)) (.int .i64 k) true).run Try.prog W = .ok (.tuple #[.slice none 0 0, .bool false]) W := by
  obtain ⟨v, ps, hrun, hv⟩ := hown.look_ok lawInt Try.underlying78 (zeroY W) (elemSl_mk none) (keyY hk)
  rw [Maps.atKey_of_not_has (H.none (k := k) hk hn)] at hv
  obtain ⟨s', rfl, e⟩ := elemSl_inv hv
  injection e with e _
  have e1 : _ = s' := fdO_inj (f := none) e
  subst e1
  rw [H.none (k := k) hk hn] at hrun
  exact hrun
theorem storeY_new (H : MHolds encY D O) (hown : W.ownsMap Try.prog 3 elemSl b O.length D) (hl : O.length < maxLen) (hk : encY.wf k) (hn : k ∉ O.map (·.1)) :
    ∃ W', (Instr.mapUpdate 78 (.map (some b)) (.int .i64 k) (svO f)).run Try.prog W = .ok () W' ∧ (∃ D', W'.ownsMap Try.prog 3 elemSl b (O ++ [(k, f)]).length D' ∧ MHolds encY D' (O ++ [(k, f)])) ∧ Only [b] W W' := by
  obtain ⟨W', h1, h2, h3⟩ := hown.store lawInt Try.underlying78 hl (keyY hk) (elemSl_mk f)
  have h4 := own_tightY h2
  have h5 : MHolds encY (D.put (encY.kl k) (fdO f)) (O ++ [(k, f)]) := H.new (f := f) hk hn
  rw [h5.size] at h4
  exact ⟨W', h1, ⟨_, h4, h5⟩, Only.of_grown h3.grown (fun k hk _ => by injection hk with hk; simp [hk])⟩
theorem storeY_old (H : MHolds encY D O) (hown : W.ownsMap Try.prog 3 elemSl b O.length D) (hl : O.length < maxLen) {f' : SO} (hp : (k, f') ∈ O) :
    ∃ W', (Instr.mapUpdate 78 (.map (some b)) (.int .i64 k) (svO f)).run Try.prog W = .ok () W' ∧ (∃ D', W'.ownsMap Try.prog 3 elemSl b (setV O k f).length D' ∧ MHolds encY D' (setV O k f)) ∧ Only [b] W W' := by
  obtain ⟨W', h1, h2, h3⟩ := hown.store lawInt Try.underlying78 hl (keyY (k := k) (H.wf _ hp)) (elemSl_mk f)
  have h4 := own_tightY h2
  have h5 : MHolds encY (D.put (encY.kl k) (fdO f)) (setV O k f) := H.old hp f
  rw [h5.size] at h4
  exact ⟨W', h1, ⟨_, h4, h5⟩, Only.of_grown h3.grown (fun k hk _ => by injection hk with hk; simp [hk])⟩
end
theorem run_eql_mapY (w : World) (p : Option Nat) : (binOp .eql 78 (.map p) (.map none)).run Try.prog w = .ok (.bool p.isNone) w := by
  have hd : ∀ d, (Op.equalIn (d + 1) 78 (.map p) (.map none)).run Try.prog w = .ok p.isNone w := fun d => by
    cases p <;> simp [Op.equalIn, run_underlying Try.underlying78]
  have h := hd 9999
  simp only [binOp]
  simp [show Op.equal 78 (.map p) (.map none) = Op.equalIn (9999 + 1) 78 (.map p) (.map none) from rfl, h]

theorem run_clone_mapY {w : World} {b : Nat} {es : Array MapEntry} {clock : Nat} (t : TypeId) (hb : w.heap[b]? = some (.map es clock)) :
    (Extern.MapsClone.clone #[.iface t (.map (some b))]).run Try.prog w = .ok (.iface t (.map (some w.heap.size))) (w.alloc (.map es clock)) := by
  have e : Extern.MapsClone.clone #[.iface t (.map (some b))] = (getObj b >>= fun o => match o with
      | .map entries clock => (newObj (.map entries clock) >>= fun n => pure (.iface t (.map (some n))))
      | _ => stuck "maps.clone: a map expected") := rfl
  rw [e]
  simp [MapKept.run_getObj_map hb, Result.andThen, go_sem]

set_option maxHeartbeats 2000000 in
theorem mpcloneY_is (w : World) (b : Nat) (es : Array MapEntry) (clock : Nat) (hb : w.heap[b]? = some (.map es clock)) : Calls Try.prog 70 #[.map (some b)] w fun e w' => e = .returned (.map (some w.heap.size)) ∧ w' = w.alloc (.map es clock) := by
  have hq := fun w => run_eql_mapY w (some b)
  have hta : ∀ (w : World) (v : Value), (Instr.typeAssert (.iface 78 v) 20 78 false).run Try.prog w = .ok v w := fun w v => by
    simp [Instr.typeAssert, run_underlying Try.underlying78, go_sem, Result.andThen]
  go_enter Try.func70, Try.ntmps70
  go_wp2
  rw [run_callFunc_extern Try.func80 (by kernel_rfl) (by kernel_rfl) (by kernel_rfl) (e := Extern.MapsClone.clone) (by kernel_rfl), run_clone_mapY 78 hb]
  simp only [Result.andThen]
  rw [Oper.upon_value]
  go_wp2
  go_ret
  exact ⟨rfl, rfl⟩
end Go.Proofs.Ytokdpldmoflnkaa
/-
  The log (parapet/wlog): a group: blocks in the order in which they came, and the map of their bytes; group.write.
-/
namespace Go.Proofs.Ytokdpldmoflnkaa
open Go.ChangeShapes Go.WideShapes Go.ChangeAt Go.RowKit Go.Maps
set_option linter.unusedVariables false

/-- A block of a group: its number, where its bytes stand. -/
structure GB where
  n : Int
  b : Nat
  d : List Int
  r : List Value
def GB.s (x : GB) : SV := ⟨x.b, 512, 512 + x.r.length⟩
structure GB.ok (w : World) (x : GB) : Prop where
  row : Blk w x.b 5 (u8l x.d ++ x.r).toArray
  len : x.d.length = 512
  u8 : U8 x.d
def nsG (L : List GB) : List Int := L.map (·.n)
def refG (L : List GB) : List (Int × SO) := L.map fun x => (x.n, some x.s)
def gvG (L : List GB) : List (Int × List Int) := L.map fun x => (x.n, x.d)
/-- A group, plain: n's bytes are d from here on. -/
def putG (G : List (Int × List Int)) (n : Int) (d : List Int) : List (Int × List Int) := if n ∈ G.map (·.1) then G.map (fun p => if p.1 = n then (n, d) else p) else G ++ [(n, d)]
def setG (L : List GB) (x : GB) : List GB := L.map fun y => if y.n = x.n then x else y
theorem refG_keys (L : List GB) : (refG L).map (·.1) = nsG L := by simp [refG, nsG, Function.comp_def]
theorem gvG_keys (L : List GB) : (gvG L).map (·.1) = nsG L := by simp [gvG, nsG, Function.comp_def]
theorem refG_length (L : List GB) : (refG L).length = L.length := by simp [refG]
theorem nsG_length (L : List GB) : (nsG L).length = L.length := by simp [nsG]
theorem setG_ns (L : List GB) (x : GB) : nsG (setG L x) = nsG L := by
  unfold nsG setG
  rw [List.map_map]
  refine List.map_congr_left fun y _ => ?_
  show (if y.n = x.n then x else y).n = y.n
  split <;> simp_all
theorem setG_ref (L : List GB) (x : GB) : refG (setG L x) = setV (refG L) x.n (some x.s) := by
  unfold refG setG setV
  rw [List.map_map, List.map_map]
  refine List.map_congr_left fun y _ => ?_
  show ((if y.n = x.n then x else y).n, some (if y.n = x.n then x else y).s) = if y.n = x.n then (x.n, some x.s) else (y.n, some y.s)
  split <;> simp_all
theorem setG_gv (L : List GB) (x : GB) : gvG (setG L x) = (gvG L).map fun p => if p.1 = x.n then (x.n, x.d) else p := by
  unfold gvG setG
  rw [List.map_map, List.map_map]
  refine List.map_congr_left fun y _ => ?_
  show ((if y.n = x.n then x else y).n, (if y.n = x.n then x else y).d) = if y.n = x.n then (x.n, x.d) else (y.n, y.d)
  split <;> simp_all
theorem mem_setG {L : List GB} {x y : GB} (h : y ∈ setG L x) : y ∈ L ∨ y = x := by
  obtain ⟨z, hz, rfl⟩ := List.mem_map.1 h
  split
  · exact .inr rfl
  · exact .inl hz

structure IsGr (w : World) (v : Value) (m : Nat) (L : List GB) : Prop where
  row : IRow w v (nsG L)
  own : ∃ D, w.ownsMap Try.prog 3 elemSl m (refG L).length D ∧ MHolds encY D (refG L)
  ok : ∀ x ∈ L, x.ok w
theorem ownsMap_onlyY {w w' : World} {b n : Nat} {D : DataW Unit} {S : List Nat} (h : w.ownsMap Try.prog 3 elemSl b n D) (ho : Only S w w') (hs : b ∉ S) : w'.ownsMap Try.prog 3 elemSl b n D := by
  have hlt := h.lt
  obtain ⟨es, clock, hb, rest⟩ := h
  exact ⟨es, clock, (ho.block b hlt hs).trans hb, rest⟩
theorem ownsMap_blk {w : World} {b n g : Nat} {D : DataW Unit} {t : TypeId} {cs : Array Value} (h : w.ownsMap Try.prog 3 elemSl b n D) (hb : Blk w g t cs) : g ≠ b := by
  rintro rfl
  obtain ⟨es, clock, h1, _⟩ := h
  unfold Blk at hb
  rw [hb] at h1
  cases h1
theorem mem_own {v : Value} {k : Nat} : k ∈ v.ownBlock.toList ↔ v.ownBlock = some k := by
  cases v.ownBlock with
  | none => simp
  | some q => simp [eq_comm]
section
variable {w w' : World} {v v' : Value} {m g : Nat} {L : List GB} {S : List Nat}
theorem GB.ok.only {x : GB} (h : x.ok w) (ho : Only S w w') (hs : x.b ∉ S) : x.ok w' := ⟨h.row.only ho hs, h.len, h.u8⟩
theorem IsGr.nd (h : IsGr w v m L) : (nsG L).Nodup := by
  obtain ⟨D, _, h2⟩ := h.own
  have := h2.nd
  rwa [refG_keys] at this
theorem IsGr.wf (h : IsGr w v m L) {x : GB} (hx : x ∈ L) : iW x.n := by
  obtain ⟨D, _, h2⟩ := h.own
  exact h2.wf (x.n, some x.s) (List.mem_map.2 ⟨x, hx, rfl⟩)
theorem IsGr.ltm (h : IsGr w v m L) : m < w.heap.size := by
  obtain ⟨D, h1, _⟩ := h.own
  exact h1.lt
theorem IsGr.ltv (h : IsGr w v m L) {k : Nat} (e : v.ownBlock = some k) : k < w.heap.size := (h.row.at_ e).2.1
theorem IsGr.blk_m (h : IsGr w v m L) {t : TypeId} {cs : Array Value} (hb : Blk w g t cs) : g ≠ m := by
  obtain ⟨D, h1, _⟩ := h.own
  exact ownsMap_blk h1 hb
theorem IsGr.blk_v (h : IsGr w v m L) {t : TypeId} {cs : Array Value} (hb : Blk w g t cs) (ht : t ≠ 3) : ∀ k, v.ownBlock = some k → k ≠ g := h.row.apart hb ht
theorem irow_blk {ns : List Int} (h : IRow w v ns) {k : Nat} (e : v.ownBlock = some k) : ∃ cs, Blk w k 3 cs := by
  rcases h.2 with ⟨e', _⟩ | ⟨b, cap, cur, e', _, hg, _⟩
  · rw [e'] at e; simp [Value.ownBlock] at e
  · rw [e'] at e
    simp only [Value.ownBlock, Option.some.injEq] at e
    subst e
    exact ⟨_, hg⟩
theorem IsGr.vm (h : IsGr w v m L) {k : Nat} (e : v.ownBlock = some k) : k ≠ m := by
  obtain ⟨cs, hb⟩ := irow_blk h.row e
  exact h.blk_m hb
theorem IsGr.only (h : IsGr w v m L) (ho : Only S w w') (h1 : ∀ q, v.ownBlock = some q → q ∉ S) (h2 : m ∉ S) (h3 : ∀ x ∈ L, x.b ∉ S) : IsGr w' v m L := by
  obtain ⟨D, k1, k2⟩ := h.own
  exact ⟨KRow.only h.row ho h1, ⟨D, ownsMap_onlyY k1 ho h2, k2⟩, fun x hx => (h.ok x hx).only ho (h3 x hx)⟩
theorem IsGr.quiet (h : IsGr w v m L) (ho : Only [] w w') : IsGr w' v m L := h.only ho (by simp) (by simp) (by simp)
theorem gr_find {n : Int} (h : n ∈ nsG L) : ∃ x ∈ L, x.n = n := by
  obtain ⟨x, hx, e⟩ := List.mem_map.1 h
  exact ⟨x, hx, e⟩
end

theorem grow_tail {w : World} {g m : Nat} {v p0 bf : Value} {a sz gen st nx : Int} {L : List GB} (hb : Blk w g 83 #[p0, .int .i64 a, .int .i64 sz, .int .u64 gen, v, .map (some m), bf, .int .i64 st, .int .i64 nx]) (h : IsGr w v m L) {o : Obj} {w3 : World} {v2 : Value} {n : Int} (k1 : IRow w3 v2 (nsG L ++ [n])) (k2 : Only v.ownBlock.toList (w.alloc o) w3) (k3 : ∀ k, v2.ownBlock = some k → v.ownBlock = some k ∨ (w.alloc o).heap.size ≤ k) :
    Blk w3 g 83 #[p0, .int .i64 a, .int .i64 sz, .int .u64 gen, v, .map (some m), bf, .int .i64 st, .int .i64 nx] ∧
    Blk (w3.setCell ⟨g, 4, none⟩ v2) g 83 #[p0, .int .i64 a, .int .i64 sz, .int .u64 gen, v2, .map (some m), bf, .int .i64 st, .int .i64 nx] ∧ IRow (w3.setCell ⟨g, 4, none⟩ v2) v2 (nsG L ++ [n]) ∧ (∀ q, v2.ownBlock = some q → v.ownBlock = some q ∨ w.heap.size ≤ q) ∧ Only (g :: v.ownBlock.toList) w (w3.setCell ⟨g, 4, none⟩ v2) := by
  have hA : Only v.ownBlock.toList w w3 := (((Only.refl [] w).alloc o).mono (by simp)).trans k2
  have h3 : Blk w3 g 83 #[p0, .int .i64 a, .int .i64 sz, .int .u64 gen, v, .map (some m), bf, .int .i64 st, .int .i64 nx] := hb.only hA (fun hq => h.blk_v hb (by decide) _ (mem_own.1 hq) rfl)
  refine ⟨h3, h3.set_ 4 v2, KRow.only k1 ((Only.refl [g] w3).setCell _ (by simp)) (fun q hq => by simpa using k1.apart h3 (by decide) q hq), fun q hq => (k3 q hq).imp_right (fun e => by simp at e; omega), ?_⟩
  exact (hA.mono (fun k _ hk => by simp only [List.mem_cons]; exact .inr hk)).setCell _ (by simp)
theorem one_newsI {w : World} {b : Nat} {n : Int} (hb : Blk w b 3 #[.int .i64 n]) : ∀ ad, (some ⟨b, 0, none⟩ : Option Addr) = some ad → ∀ j u, (i64l [n])[j]? = some u → w.cell? (ad.add j) = some u := by
  intro ad e j u hj
  injection e with e
  subst e
  rw [add_at, Nat.zero_add, hb.cell]
  cases j with
  | zero => simpa [i64l] using hj
  | succ j => simp [i64l] at hj
section
variable {w : World} {g m : Nat} {v p0 bf : Value} {a sz gen st nx : Int} {L : List GB}
/-- What group.write leaves. -/
def WroteG (w w' : World) (e : Ending) (g m : Nat) (v p0 bf : Value) (a sz gen st nx : Int) (L : List GB) (x : GB) : Prop :=
  e = .returned (.tuple #[]) ∧ ∃ v' L', Blk w' g 83 #[p0, .int .i64 a, .int .i64 sz, .int .u64 gen, v', .map (some m), bf, .int .i64 st, .int .i64 nx] ∧ IsGr w' v' m L' ∧ gvG L' = putG (gvG L) x.n x.d ∧ (∀ q, v'.ownBlock = some q → v.ownBlock = some q ∨ w.heap.size ≤ q) ∧ (∀ y ∈ L', y ∈ L ∨ y = x) ∧ Only (g :: m :: v.ownBlock.toList) w w'
theorem wrote_old (hb : Blk w g 83 #[p0, .int .i64 a, .int .i64 sz, .int .u64 gen, v, .map (some m), bf, .int .i64 st, .int .i64 nx]) (h : IsGr w v m L) (x : GB) (hx : x.ok w) (hm : x.n ∈ nsG L) (hl : L.length < 4096) :
    ∃ W', (Instr.mapUpdate 78 (.map (some m)) (.int .i64 x.n) (.slice (some ⟨x.b, 0, none⟩) 512 (512 + x.r.length))).run Try.prog w = .ok () W' ∧ ∀ W'', Only [] W' W'' → WroteG w W'' (.returned (.tuple #[])) g m v p0 bf a sz gen st nx L x := by
  obtain ⟨D, h1, h2⟩ := h.own
  obtain ⟨y, hy, hyn⟩ := gr_find hm
  obtain ⟨W', k1, k2, k3⟩ := storeY_old (k := x.n) (f := some x.s) h2 h1 (by rw [refG_length]; unfold maxLen; omega) (f' := some y.s) (List.mem_map.2 ⟨y, hy, by rw [hyn]⟩)
  refine ⟨W', k1, fun W'' ho => ⟨rfl, v, setG L x, (hb.only k3 (by simpa using h.blk_m hb)).only ho (by simp), ?_, ?_, fun q hq => .inl hq, fun z hz => mem_setG hz, (k3.mono (fun k _ hk => by simp at hk; simp [hk])).trans (ho.mono (by simp))⟩⟩
  · refine IsGr.quiet ⟨?_, ?_, fun z hz => ?_⟩ ho
    · rw [setG_ns]
      exact KRow.only h.row k3 (fun q hq => by simpa using h.vm hq)
    · rw [setG_ref]; exact k2
    · rcases mem_setG hz with e | rfl
      · exact (h.ok z e).only k3 (by simpa using h.blk_m (h.ok z e).row)
      · exact hx.only k3 (by simpa using h.blk_m hx.row)
  · unfold putG
    rw [gvG_keys, if_pos hm, setG_gv]
theorem wrote_new (h : IsGr w v m L) (x : GB) (hx : x.ok w) (hw : iW x.n) (hm : x.n ∉ nsG L) (hl : L.length < 4096) {W1 : World} {v1 : Value} (hb1 : Blk W1 g 83 #[p0, .int .i64 a, .int .i64 sz, .int .u64 gen, v1, .map (some m), bf, .int .i64 st, .int .i64 nx]) (hr1 : IRow W1 v1 (nsG L ++ [x.n])) (hf : ∀ q, v1.ownBlock = some q → v.ownBlock = some q ∨ w.heap.size ≤ q) (hg : Blk w g 83 #[p0, .int .i64 a, .int .i64 sz, .int .u64 gen, v, .map (some m), bf, .int .i64 st, .int .i64 nx]) (ho1 : Only (g :: v.ownBlock.toList) w W1) :
    ∃ W', (Instr.mapUpdate 78 (.map (some m)) (.int .i64 x.n) (.slice (some ⟨x.b, 0, none⟩) 512 (512 + x.r.length))).run Try.prog W1 = .ok () W' ∧ ∀ W'', Only [] W' W'' → WroteG w W'' (.returned (.tuple #[])) g m v p0 bf a sz gen st nx L x := by
  obtain ⟨D, h1, h2⟩ := h.own
  have hgm := h.blk_m hg
  have far : ∀ y : GB, y.ok w → y.b ∉ g :: v.ownBlock.toList := fun y hy hq => by
    simp only [List.mem_cons, mem_own] at hq
    rcases hq with e | e
    · exact hy.row.ne_ hg (by decide) e
    · exact h.blk_v hy.row (by decide) _ e rfl
  have h1' : W1.ownsMap Try.prog 3 elemSl m (refG L).length D := ownsMap_onlyY h1 ho1 (by
    simp only [List.mem_cons, mem_own]
    rintro (e | e)
    · exact hgm e.symm
    · exact h.vm e rfl)
  obtain ⟨W', k1, k2, k3⟩ := storeY_new (k := x.n) (f := some x.s) h2 h1' (by rw [refG_length]; unfold maxLen; omega) hw (by rw [refG_keys]; exact hm)
  have hm1 : ∀ q, v1.ownBlock = some q → q ≠ m := fun q hq => by
    obtain ⟨cs, hbq⟩ := irow_blk hr1 hq
    exact ownsMap_blk h1' hbq
  refine ⟨W', k1, fun W'' ho => ⟨rfl, v1, L ++ [x], (hb1.only k3 (by simpa using hgm)).only ho (by simp), ?_, ?_, hf, fun z hz => by simpa using hz, ?_⟩⟩
  · refine IsGr.quiet ⟨?_, ?_, fun z hz => ?_⟩ ho
    · rw [show nsG (L ++ [x]) = nsG L ++ [x.n] from by simp [nsG]]
      exact KRow.only hr1 k3 (fun q hq => by simpa using hm1 q hq)
    · rw [show refG (L ++ [x]) = refG L ++ [(x.n, some x.s)] from by simp [refG]]; exact k2
    · rcases List.mem_append.1 hz with e | e
      · exact ((h.ok z e).only ho1 (far z (h.ok z e))).only k3 (by simpa using h.blk_m (h.ok z e).row)
      · rw [List.mem_singleton.1 e]; exact (hx.only ho1 (far x hx)).only k3 (by simpa using h.blk_m hx.row)
  · unfold putG
    rw [gvG_keys, if_neg hm]
    simp [gvG]
  · refine (ho1.mono (fun k _ hk => ?_)).trans ((k3.mono (fun k _ hk => ?_)).trans (ho.mono (by simp)))
    · simp only [List.mem_cons] at hk ⊢
      rcases hk with e | e
      · exact .inl e
      · exact .inr (.inr e)
    · simp at hk; simp [hk]
set_option maxRecDepth 100000 in
set_option maxHeartbeats 1500000 in
theorem gwrite_old (hb : Blk w g 83 #[p0, .int .i64 a, .int .i64 sz, .int .u64 gen, v, .map (some m), bf, .int .i64 st, .int .i64 nx]) (h : IsGr w v m L) (x : GB) (hx : x.ok w) (hm : x.n ∈ nsG L) (hl : L.length < 4096) :
    Calls Try.prog 51 #[.pointer (some ⟨g, 4, none⟩), .int .i64 x.n, .slice (some ⟨x.b, 0, none⟩) 512 (512 + x.r.length)] w fun e w' => WroteG w w' e g m v p0 bf a sz gen st nx L x := by
  obtain ⟨D, h1, h2⟩ := h.own
  obtain ⟨y, hy, hyn⟩ := gr_find hm
  have hlk : (Instr.lookup 78 (.map (some m)) (.int .i64 x.n) true).run Try.prog w = .ok (.tuple #[.slice (some ⟨y.b, 0, none⟩) 512 (512 + y.r.length), .bool true]) w := lookY_ok h2 h1 (List.mem_map.2 ⟨y, hy, by rw [hyn]⟩)
  obtain ⟨W', k1, k2⟩ := wrote_old hb h x hx hm hl
  have HW := hide k2
  have c5 := hb.cell 5
  clear hb h hx hm k2 h1 h2 hy hyn
  go_enter Try.func51, Try.ntmps51
  go_wp2
  go_end0
  exact HW.out _ (Only.refl _ _)
set_option maxRecDepth 100000 in
set_option maxHeartbeats 1500000 in
theorem gwrite_new (hb : Blk w g 83 #[p0, .int .i64 a, .int .i64 sz, .int .u64 gen, v, .map (some m), bf, .int .i64 st, .int .i64 nx]) (h : IsGr w v m L) (x : GB) (hx : x.ok w) (hw : iW x.n) (hm : x.n ∉ nsG L) (hl : L.length < 4096) :
    Calls Try.prog 51 #[.pointer (some ⟨g, 4, none⟩), .int .i64 x.n, .slice (some ⟨x.b, 0, none⟩) 512 (512 + x.r.length)] w fun e w' => WroteG w w' e g m v p0 bf a sz gen st nx L x := by
  obtain ⟨D, h1, h2⟩ := h.own
  obtain ⟨A, c, hv, hA, hlc, hcm, hcl⟩ := h.row.form2
  have hlk : (Instr.lookup 78 (.map (some m)) (.int .i64 x.n) true).run Try.prog w = .ok (.tuple #[.slice none 0 0, .bool false]) w := lookY_nok h2 h1 hw (by rw [refG_keys]; exact hm)
  have H := hide h
  have HB := hide hb
  have HX := hide hx
  have HWF := hide hw
  have HM := hide hm
  have HL := hide hl
  have c4 := hb.cell 4
  have c5 := hb.cell 5
  simp only [hv] at c4
  have HV := hide hv
  have hn0 := hide (nsG_length L)
  clear hb h hx hm h1 h2 hl hw hA hlc hcm hcl hv
  go_enter Try.func51, Try.ntmps51
  go_wp2_with (at_builtin; refine wpList_append_any rfl _ _ rfl (.slice A (nsG L).length c) (nsG L) rfl (HV.out ▸ (H.out.quiet ((Only.refl [] _).alloc _)).row) (some ⟨_, 0, none⟩) 1 1 rfl (fun e => by cases e) [x.n] rfl (one_newsI (Blk.new _ 3 #[.int .i64 x.n])) (by have := hn0.out; have := HL.out; omega) ?_; intro v2 w3 k1 k2 k3; obtain ⟨A2, c2, rfl, -⟩ := k1.form2; obtain ⟨j1, j2, j3, j4, j5⟩ := grow_tail HB.out H.out k1 (HV.out ▸ k2) (HV.out ▸ k3); obtain ⟨W', t1, t2⟩ := wrote_new H.out x HX.out HWF.out HM.out HL.out j2 j3 j4 HB.out j5; have d4 := j1.cell 4; have f4 := j1.frozen 4; have d5 := j2.cell 5; simp only [List.length_append, List.length_cons, List.length_nil, Nat.zero_add] at d5 t1; have HT := hide t2; clear j1 j2 j3 j4 j5 k1 k2 k3 t2)
  go_end0
  exact HT.out _ (Only.refl _ _)
end
end Go.Proofs.Ytokdpldmoflnkaa
