/-
  Open files (parapet/fdtab): rows of pointers; the law's world, as it starts.
-/
import Derived.Test.YtfplfpfnlffnjaaFdAwake
import Derived.Test.YtfplfpfnlffnjaaFdMove
import Derived.Test.YtfplfpfnlffnjaaFdOn
import Derived.Test.YtfplfpfnlffnjaaFdAll
import Derived.Deep.RegionLaw
namespace Go.Proofs.Ytfplfpfnlffnjaa
open Go.ChangeShapes Go.WideShapes Go.ChangeAt Go.RowKit Go.Maps
set_option linter.unusedVariables false
set_option linter.unusedSimpArgs false
abbrev ptV (p : Nat) : Value := .pointer (some ⟨p, 0, none⟩)
/-- A row of pointers, of one's own. -/
def PRw (e : TypeId) (w : World) (v : Value) (ps : List Nat) : Prop := w.ownsRow 0 e 1 v ps.length (ps.map ptV)
theorem info_ptab : (Try.prog.info? 35).map (fun i => (i.zero, i.size, i.bytes)) = some (some (.pointer none), 1, 8) := by kernel_rfl
section
variable {e : TypeId} {w w' : World} {v : Value} {ps : List Nat} {S : List Nat}
theorem PRw.only (h : PRw e w v ps) (ho : Only S w w') (hs : ∀ q, v.ownBlock = some q → q ∉ S) : PRw e w' v ps := ownsRow_only' h ho hs
theorem PRw.quiet (h : PRw e w v ps) (ho : Only [] w w') : PRw e w' v ps := h.only ho (by simp)
theorem PRw.form (h : PRw e w v ps) : ∃ A cap, v = .slice A ps.length cap ∧ (0 < ps.length → ∃ b, A = some ⟨b, 0, none⟩ ∧ b < w.heap.size ∧ ∀ i p, ps[i]? = some p → w.cell? ⟨b, i, none⟩ = some (ptV p)) := by
  rcases h.2 with ⟨e, h0⟩ | ⟨b, cap, cur, e, hB, hg, hn, hm, hs, ht⟩
  · have h1 : ps.length = 0 := by simpa using h0
    exact ⟨none, 0, by rw [e, h1], fun hp => absurd hp (by omega)⟩
  · refine ⟨some ⟨b, 0, none⟩, cap, e, fun _ => ⟨b, rfl, Blk.lt hg, fun i p hi => ?_⟩⟩
    have hl := (List.getElem?_eq_some_iff.1 hi).1
    rw [Blk.cell hg]
    have : cur[i]? = (ps.map ptV)[i]? := by
      rw [← ht, List.getElem?_take]
      simp [hl]
    rw [this, List.getElem?_map, hi]
    rfl
theorem PRw.at_ (h : PRw e w v ps) {q : Nat} (hq : v.ownBlock = some q) : q < w.heap.size ∧ ∃ cs, Blk w q e cs := by
  rcases h.2 with ⟨e', h0⟩ | ⟨b, cap, cur, e', hB, hg, hn, hm, hs, ht⟩
  · rw [e'] at hq; simp [Value.ownBlock] at hq
  · rw [e'] at hq
    simp only [Value.ownBlock, Option.some.injEq] at hq
    subst hq
    exact ⟨Blk.lt hg, _, hg⟩
theorem PRw.one {q p : Nat} (hb : Blk w q e #[ptV p]) : PRw e w (.slice (some ⟨q, 0, none⟩) 1 1) [p] :=
  ⟨by simp, .inr ⟨q, 1, #[ptV p], rfl, Nat.zero_le _, hb, by simp, by unfold maxLen; omega, rfl, rfl⟩⟩
theorem wpList_append_p {ops : Array Oper} {rest : List Oper} {o : Oper} {a : Act} {Q : Exit → Act → World → Prop} {T : TypeId} (hT : Try.prog.underlying T = some (.slice e))
    (hinfo : (Try.prog.info? e).map (fun i => (i.zero, i.size, i.bytes)) = some (some (.pointer none), 1, 8)) (hgd : o.guard = none) (s x : Operand)
    (ho : o.op = .call { callee := .builtin .append, args := #[s, x], argTypes := #[T, T] }) (hs : a.eval s = v) (hrow : PRw e w v ps)
    (q z : Nat) (hx : a.eval x = .slice (some ⟨q, 0, none⟩) 1 1) (hc : w.cell? ⟨q, 0, none⟩ = some (ptV z)) (hlen : ps.length < 4000000000000)
    (h : ∀ v' w1, PRw e w1 v' (ps ++ [z]) → w.grownBy w1 v.ownBlock → wpList Try.prog ops Q rest (a.put o.dst v') w1) : wpList Try.prog ops Q (o :: rest) a w := by
  obtain ⟨i0, hi, hz0, hz1, hz2⟩ := info_parts hinfo
  refine wpList_append_own w hgd s x T ho 0 e i0 _ 1 8 hT hi hz0 hz1 hz2 rfl (by decide) v ps.length (ps.map ptV) hs hrow ⟨q, 0, none⟩ 1 1 [ptV z] hx rfl ?_ ?_ (by unfold maxLen; omega) ?_ (Nat.zero_le _) ?_
  · intro j u hj
    have h0 : j = 0 := by
      have := (List.getElem?_eq_some_iff.1 hj).1
      simp at this
      exact this
    subst h0
    rw [add_at, hc]
    exact hj
  · intro u hu
    obtain rfl := List.mem_singleton.1 hu
    rfl
  · omega
  · intro v' w1 hown hgrow _
    refine h v' w1 ?_ hgrow
    unfold PRw
    rw [List.length_append, List.length_singleton, List.map_append]
    exact hown
end
@[irreducible] def files0 : Array Value := (List.replicate 320 (.int .i64 0)).toArray
unseal files0 in
theorem build0 (u : World) : (Instr.build 66 #[]).run Try.prog u = .ok (.agg files0) u := by kernel_rfl
theorem wpList_build0 {ops : Array Oper} {rest : List Oper} {ds ty ps af} {a : Act} {w : World} {Q : Exit → Act → World → Prop}
    (h : wpList Try.prog ops Q rest (a.put ds (.agg files0)) w) : wpList Try.prog ops Q (⟨ds, .build 66 #[], ty, ps, af, none⟩ :: rest) a w := by
  refine wpList_plain rfl fun K hK => ?_
  have hb := build0 w
  unfold Oper.wp
  simp [execOp, Act.eval, hb, Result.andThen]
  exact hK _ _ h
def xtab0 (r : Nat) : Array Value := #[ptV r, .int .i64 0, .int .i64 0, .int .i64 0, .int .i64 0, .int .i64 0, .int .i64 0, .int .i64 0, .int .i64 0, .int .i64 0, .int .i64 0, .int .i64 0, .int .i64 0, .int .i64 0, .int .i64 0, .int .i64 0, .int .i64 0]
/-- The law's world: files and tables, of both. -/
structure IsLw (w0 w : World) (g f m r : Nat) (v u : Value) (ts xs : List Nat) : Prop where
  blk : Blk w g 34 #[ptV f, v, ptV r, u]
  row : PRw 35 w v ts
  xrow : PRw 67 w u xs
  lg : w0.heap.size ≤ g
  lr : w0.heap.size ≤ r
  lv : ∀ q, v.ownBlock = some q → w0.heap.size ≤ q
  lu : ∀ q, u.ownBlock = some q → w0.heap.size ≤ q
theorem blk5 (w : World) (c1 c2 c3 c4 c5 : Array Value) (t1 t2 t3 t4 t5 : TypeId) :
    Blk (((((w.alloc (.cells c1 t1)).alloc (.cells c2 t2)).alloc (.cells c3 t3)).alloc (.cells c4 t4)).alloc (.cells c5 t5)) w.heap.size t1 c1 ∧
    Blk (((((w.alloc (.cells c1 t1)).alloc (.cells c2 t2)).alloc (.cells c3 t3)).alloc (.cells c4 t4)).alloc (.cells c5 t5)) (w.heap.size + 1) t2 c2 ∧
    Blk (((((w.alloc (.cells c1 t1)).alloc (.cells c2 t2)).alloc (.cells c3 t3)).alloc (.cells c4 t4)).alloc (.cells c5 t5)) (w.heap.size + 1 + 1) t3 c3 ∧
    Blk (((((w.alloc (.cells c1 t1)).alloc (.cells c2 t2)).alloc (.cells c3 t3)).alloc (.cells c4 t4)).alloc (.cells c5 t5)) (w.heap.size + 1 + 1 + 1) t4 c4 ∧
    Blk (((((w.alloc (.cells c1 t1)).alloc (.cells c2 t2)).alloc (.cells c3 t3)).alloc (.cells c4 t4)).alloc (.cells c5 t5)) (w.heap.size + 1 + 1 + 1 + 1) t5 c5 ∧
    Only [] w (((((w.alloc (.cells c1 t1)).alloc (.cells c2 t2)).alloc (.cells c3 t3)).alloc (.cells c4 t4)).alloc (.cells c5 t5)) := by
  refine ⟨((((Blk.new w t1 c1).alloc _).alloc _).alloc _).alloc _, ?_, ?_, ?_, ?_, (((((Only.refl _ _).alloc _).alloc _).alloc _).alloc _).alloc _⟩
  · have := (((Blk.new (w.alloc (.cells c1 t1)) t2 c2).alloc (.cells c3 t3)).alloc (.cells c4 t4)).alloc (.cells c5 t5)
    rwa [World.size_alloc] at this
  · have := ((Blk.new ((w.alloc (.cells c1 t1)).alloc (.cells c2 t2)) t3 c3).alloc (.cells c4 t4)).alloc (.cells c5 t5)
    rwa [World.size_alloc, World.size_alloc] at this
  · have := (Blk.new (((w.alloc (.cells c1 t1)).alloc (.cells c2 t2)).alloc (.cells c3 t3)) t4 c4).alloc (.cells c5 t5)
    rwa [World.size_alloc, World.size_alloc, World.size_alloc] at this
  · have := Blk.new ((((w.alloc (.cells c1 t1)).alloc (.cells c2 t2)).alloc (.cells c3 t3)).alloc (.cells c4 t4)) t5 c5
    rwa [World.size_alloc, World.size_alloc, World.size_alloc, World.size_alloc] at this
section
variable {w : World}
set_option maxRecDepth 100000 in
theorem start_is (w : World) : Calls Try.prog 6 #[] w fun e w' => ∃ g f m r t x v u, e = .returned (ptV g) ∧ IsLw w w' g f m r v u [t] [x] ∧ Aw w w' f m t [] aT0 ∧ Blk w' r 66 files0 ∧ Blk w' x 69 (xtab0 r) ∧ w.heap.size ≤ x := by
  go_enter Try.func6, Try.ntmps6
  go_wp2_with (first | (with_reducible refine wp_region_lit (id := 7) ?_) | (with_reducible refine wpList_build0 ?_) | (go_at_call 25; refine (aw_new _).mono ?_; rintro e w1 ⟨f, m, rfl, h1, h2, h3, h4⟩; have H1 := hide (And.intro h1 (And.intro h2 (And.intro h3 h4))); clear h1 h2 h3 h4) | (go_at_call 18; refine (awake_is _).mono ?_; rintro e w2 ⟨rfl, ho⟩; have HO := hide ho; clear ho) | (go_at_call 23; refine (aw_table (H1.out.1.quiet HO.out) (H1.out.2.1.trans HO.out) H1.out.2.2.1 H1.out.2.2.2).mono ?_; rintro e w3 ⟨t, rfl, h⟩; have H2 := hide h; clear h))
  go_ret
  obtain ⟨b1, b2, b3, b4, b5, ho⟩ := blk5 w3 files0 #[ptV t] (xtab0 w3.heap.size) #[ptV (w3.heap.size + 1 + 1)] #[ptV f, .slice (some ⟨w3.heap.size + 1, 0, none⟩) 1 1, ptV w3.heap.size, .slice (some ⟨w3.heap.size + 1 + 1 + 1, 0, none⟩) 1 1] 66 35 69 67 34
  have hz := H2.out.on.size
  exact ⟨_, f, m, w3.heap.size, t, w3.heap.size + 1 + 1, _, _, rfl, ⟨b5, PRw.one b2, PRw.one b4, by omega, hz, fun q hq => by simp [Value.ownBlock] at hq; omega, fun q hq => by simp [Value.ownBlock] at hq; omega⟩, H2.out.quiet ho, b1, b3, by omega⟩
end
end Go.Proofs.Ytfplfpfnlffnjaa
