/-
  Sleepers (parapet/waitq): come.
-/
import Derived.Test.YtokclkiidhcffaaWqEntry
namespace Go.Proofs.Ytokclkiidhcffaa
open Go.ChangeShapes Go.WideShapes Go.ChangeAt Go.RowKit Go.Maps Go.ChangeMaps
set_option linter.unusedVariables false

section
variable {ops : Array Oper} {o : Oper} {a : Act} {w w1 : World} {K : Act → World → Prop} {Q : Exit → Act → World → Prop} {E : Prop}
theorem step_appendI12 (hgd : o.guard = none) (s x : Operand)
    (ho : o.op = .call { callee := .builtin .append, args := #[s, x], argTypes := #[35, 35] }) (v : Value) (ns : List Int) (hs : a.eval s = v) (hr : IRow w v ns)
    (A : Option Addr) (m c : Nat) (hx : a.eval x = .slice A m c) (hA : A = none → m = 0 ∧ c = 0) (zs : List Int) (hz : zs.length = m) (hnews : ∀ ad, A = some ad → ∀ j u, (i64l zs)[j]? = some u → w.cell? (ad.add j) = some u) (hbig : ns.length + m < 4000000000000)
    (hK : ∀ v' w2, IRow w2 v' (ns ++ zs) → Only v.ownBlock.toList w w2 → (∀ k, v'.ownBlock = some k → v.ownBlock = some k ∨ w.heap.size ≤ k) → K (a.put o.dst v') w2) :
    if Region.wanted o (yielded ops a.tmps) = true then Oper.wp Try.prog o a w K Q else E := by
  have hw : Region.wanted o (yielded ops a.tmps) = true := by simp [Region.wanted, hgd]
  rw [if_pos hw]
  exact wp_append_any s x ho v ns hs hr A m c hx hA zs hz hnews hbig hK
theorem step_mapEntry (hgd : o.guard = none) (m k : Operand) (ho : o.op = .mapEntry 52 m k) {b : Nat} {key v : Value} (hm : a.eval m = .map (some b)) (hk : a.eval k = key) (hrun : (Instr.mapEntry 52 (.map (some b)) key).run Try.prog w = .ok v w1) (hK : K (a.put o.dst v) w1) :
    if Region.wanted o (yielded ops a.tmps) = true then Oper.wp Try.prog o a w K Q else E := by
  have hw : Region.wanted o (yielded ops a.tmps) = true := by simp [Region.wanted, hgd]
  rw [if_pos hw]
  unfold Oper.wp
  simp [execOp, ho, hm, hk, hrun, Result.andThen]
  exact hK
theorem step_entryStore (hgd : o.guard = none) (m s x : Operand) (ho : o.op = .entryStore 52 m s x) {b : Nat} {sv v : Value} (hm : a.eval m = .map (some b)) (hs : a.eval s = sv) (hx : a.eval x = v) (hrun : (Instr.entryStore 52 (.map (some b)) sv v).run Try.prog w = .ok () w1) (hK : K (a.put o.dst undef) w1) :
    if Region.wanted o (yielded ops a.tmps) = true then Oper.wp Try.prog o a w K Q else E := by
  have hw : Region.wanted o (yielded ops a.tmps) = true := by simp [Region.wanted, hgd]
  rw [if_pos hw]
  unfold Oper.wp
  simp [execOp, ho, hm, hs, hx, hrun, Result.andThen]
  exact hK
end
theorem one_news12 {w : World} {k : Nat} {x : Int} (hb : Blk w k 3 #[.int .i64 x]) : ∀ ad, some (⟨k, 0, none⟩ : Addr) = some ad → ∀ j u, (i64l [x])[j]? = some u → w.cell? (ad.add j) = some u := by
  rintro ad e j u hu
  injection e with e
  subst e
  have h0 : j = 0 := by
    have := (List.getElem?_eq_some_iff.1 hu).1
    simp [i64l] at this
    exact this
  subst h0
  rw [add_at, hb.cell]
  exact hu

section
variable {ops : Array Oper} {o : Oper} {a : Act} {w0 W : World} {K : Act → World → Prop} {Q : Exit → Act → World → Prop} {E : Prop}
theorem step_entryE {m2 : Nat} {key sl : Value} {P : Nat → World → Prop} (H : ∀ W, Only [] w0 W → ∃ (st : Nat) (V1 : World), (Instr.mapEntry 52 (.map (some m2)) key).run Try.prog W = .ok (.tuple #[sl, goInt st]) V1 ∧ Only [m2] W V1 ∧ P st V1)
    (hgd : o.guard = none) (m k : Operand) (ho : o.op = .mapEntry 52 m k) (hm : a.eval m = .map (some m2)) (hk : a.eval k = key) (hw : Only [] w0 W) (hK : ∀ st V1, Only [m2] W V1 → P st V1 → K (a.put o.dst (.tuple #[sl, goInt st])) V1) :
    if Region.wanted o (yielded ops a.tmps) = true then Oper.wp Try.prog o a W K Q else E := by
  obtain ⟨st, V1, h1, h2, h3⟩ := H W hw
  exact step_mapEntry hgd m k ho hm hk h1 (hK st V1 h2 h3)
theorem step_appendE {sl : Value} {ns : List Int} {t : Int} {R : World → Value → World → Prop} (H : ∀ W, Only [] w0 W → IRow W sl ns ∧ ∀ v' w2, IRow w2 v' (ns ++ [t]) → Only sl.ownBlock.toList W w2 → (∀ k, v'.ownBlock = some k → sl.ownBlock = some k ∨ W.heap.size ≤ k) → R W v' w2)
    (hgd : o.guard = none) (s x : Operand) (ho : o.op = .call { callee := .builtin .append, args := #[s, x], argTypes := #[35, 35] }) (hs : a.eval s = sl) {b c : Nat} (hx : a.eval x = .slice (some ⟨b, 0, none⟩) 1 c) (hl : ns.length ≤ 64) (hw : Only [] w0 W) (hb : Blk W b 3 #[.int .i64 t])
    (hK : ∀ v' w2, R W v' w2 → K (a.put o.dst v') w2) : if Region.wanted o (yielded ops a.tmps) = true then Oper.wp Try.prog o a W K Q else E := by
  obtain ⟨h1, h2⟩ := H W hw
  exact step_appendI12 hgd s x ho sl ns hs h1 _ 1 c hx (fun e => by cases e) [t] rfl (one_news12 hb) (by omega) (fun v' w2 q1 q2 q3 => hK v' w2 (h2 v' w2 q1 q2 q3))
theorem step_storeE {m2 : Nat} {sv v : Value} {D : World → Prop} (H : ∀ W, Only [] w0 W → ∃ V, (Instr.entryStore 52 (.map (some m2)) sv v).run Try.prog W = .ok () V ∧ D V)
    (hgd : o.guard = none) (m s x : Operand) (ho : o.op = .entryStore 52 m s x) (hm : a.eval m = .map (some m2)) (hs : a.eval s = sv) (hx : a.eval x = v) (hw : Only [] w0 W) (hK : ∀ V, D V → K (a.put o.dst undef) V) :
    if Region.wanted o (yielded ops a.tmps) = true then Oper.wp Try.prog o a W K Q else E := by
  obtain ⟨V, h1, h2⟩ := H W hw
  exact step_entryStore hgd m s x ho hm hs hx h1 (hK V h2)
end
theorem sv_of_row' {w : World} {v : Value} {l : List Int} (h : IRow w v l) (hl : l ≠ []) : ∃ s : SV, v = svO (some s) ∧ s.n = l.length ∧ s.b < w.heap.size := by
  obtain ⟨b, cap, cur, rfl, hb, _⟩ := h.blk (List.length_pos_iff.2 hl)
  exact ⟨⟨b, l.length, cap⟩, rfl, rfl, hb.lt⟩
section
variable {w w' w1 : World} {g m1 m2 : Nat} {R1 : List (EN Int CH)} {R2 : List (EN CH Int)}
/-- What come leaves. -/
def CameW (n : Nat) (R2 : List (EN CH Int)) (c : CH) (t : Int) (R2' : List (EN CH Int)) : Prop :=
  (∃ e ∈ R2, e.k = c ∧ ∃ s : SV, (s.b = e.s.b ∨ n ≤ s.b) ∧ R2' = setE R2 c s (e.l ++ [t])) ∨ (c ∉ R2.map (·.k) ∧ ∃ s : SV, n ≤ s.b ∧ R2' = R2 ++ [⟨c, s, [t]⟩])
def DidCome (w w' : World) (g m1 m2 : Nat) (R1 : List (EN Int CH)) (R2 : List (EN CH Int)) (c : CH) (t : Int) : Prop :=
  ∃ R2', IsWq w' g m1 m2 R1 R2' ∧ CameW w.heap.size R2 c t R2' ∧ Only (footW g m1 m2 R1 R2) w w'
theorem come_fin (h : IsWq w g m1 m2 R1 R2) (hlen : R2.length < maxLen) {c : CH} (hc : c.wf) (t : Int) {sl : Value} {ns : List Int}
    (hsl : (∃ e ∈ R2, e.k = c ∧ sl = svO (some e.s) ∧ ns = e.l) ∨ (c ∉ R2.map (·.k) ∧ sl = .slice none 0 0 ∧ ns = [])) {W : World} (hw : Only [] w W) :
    ∃ (st : Nat) (V1 : World), (Instr.mapEntry 52 (.map (some m2)) (.agg (cC c))).run Try.prog W = .ok (.tuple #[sl, goInt st]) V1 ∧ Only [m2] W V1 ∧
      ∀ Wc, Only [] V1 Wc → IRow Wc sl ns ∧ ∀ v' w2, IRow w2 v' (ns ++ [t]) → Only sl.ownBlock.toList Wc w2 → (∀ k, v'.ownBlock = some k → sl.ownBlock = some k ∨ Wc.heap.size ≤ k) →
        ∀ W3, Only [] w2 W3 → ∃ V, (Instr.entryStore 52 (.map (some m2)) (goInt st) v').run Try.prog W3 = .ok () V ∧ DidCome w V g m1 m2 R1 R2 c t := by
  have hW := h.quiet hw
  have hm2 := hW.sl.ltm
  rcases hsl with ⟨e, he, rfl, rfl, rfl⟩ | ⟨hn, rfl, rfl⟩
  · obtain ⟨st, es1, k1, r1, r2, r3, r4⟩ := hW.entry hc (hW.look2 he)
    refine ⟨st, _, r1, r3, fun Wc hWc => ?_⟩
    have hb := hW.sl.lt e he
    have hrm := hW.sl.rm e he
    have o1 : Only [m2] W Wc := r3.trans (hWc.mono (by simp))
    refine ⟨KRow.only (hW.sl.row e he) o1 (fun q hq => by rw [own_sv hq]; simpa using hrm), fun v' w2 q1 q2 q3 W3 hW3 => ?_⟩
    obtain ⟨s, rfl, s1, s2⟩ := sv_of_row' q1 (by simp)
    have hm3 : W3.heap[m2]? = some (.map es1 k1) := by
      rw [hW3.block m2 (Nat.lt_of_lt_of_le hm2 (Nat.le_trans o1.size q2.size)) (by simp), q2.block m2 (Nat.lt_of_lt_of_le hm2 o1.size) (by simpa [svO, Value.ownBlock] using hrm.symm), hWc.block m2 (Nat.lt_of_lt_of_le hm2 r3.size) (by simp)]
      exact r2
    obtain ⟨es', k', t1, t2, t3, t4⟩ := r4 W3 (svO (some s)) hm3
    have o2 : Only [e.s.b, m2] W (setBlock W3 m2 (.map es' k')) := (((o1.mono (fun k _ h => by simp at h; simp [h])).trans (q2.mono (fun k _ h => by simp [svO, Value.ownBlock] at h; simp [h]))).trans (hW3.mono (by simp))).trans (t2.mono (fun k _ h => by simp at h; simp [h]))
    have hbs : s.b = e.s.b ∨ W.heap.size ≤ s.b := by
      rcases q3 s.b rfl with hq | hq
      · exact .inl (own_sv hq)
      · exact .inr (Nat.le_trans o1.size hq)
    have hsm : s.b ≠ m2 := by
      rcases hbs with hq | hq
      · rw [hq]; exact hrm
      · omega
    have hr2 : IRow (setBlock W3 m2 (.map es' k')) (svO (some s)) (e.l ++ [t]) := KRow.only (KRow.only q1 hW3 (by simp)) t2 (fun q hq => by rw [own_sv hq]; simpa using hsm)
    refine ⟨_, t1, _, hW.came_old hlen he o2 hr2 (by simp) (Nat.lt_of_lt_of_le s2 (Nat.le_trans hW3.size t2.size)) hbs t4 t3, .inl ⟨e, he, rfl, s, hbs.imp id (Nat.le_trans hw.size), rfl⟩, (hw.mono (by simp)).trans (o2.mono (fun k _ hk => ?_))⟩
    simp at hk
    rcases hk with rfl | rfl
    · exact mem_footW.2 (.inr (.inr (.inr (.inr ⟨e, he, rfl⟩))))
    · exact mem_footW.2 (.inr (.inr (.inl rfl)))
  · obtain ⟨st, es1, k1, r1, r2, r3, r4⟩ := hW.entry hc (hW.look2_no hc hn)
    refine ⟨st, _, r1, r3, fun Wc hWc => ?_⟩
    have o1 : Only [m2] W Wc := r3.trans (hWc.mono (by simp))
    refine ⟨KRow.nil _ _ _ _, fun v' w2 q1 q2 q3 W3 hW3 => ?_⟩
    obtain ⟨s, rfl, s1, s2⟩ := sv_of_row' q1 (by simp)
    have hm3 : W3.heap[m2]? = some (.map es1 k1) := by
      rw [hW3.block m2 (Nat.lt_of_lt_of_le hm2 (Nat.le_trans o1.size q2.size)) (by simp), q2.block m2 (Nat.lt_of_lt_of_le hm2 o1.size) (by simp [Value.ownBlock]), hWc.block m2 (Nat.lt_of_lt_of_le hm2 r3.size) (by simp)]
      exact r2
    obtain ⟨es', k', t1, t2, t3, t4⟩ := r4 W3 (svO (some s)) hm3
    have o2 : Only [m2] W (setBlock W3 m2 (.map es' k')) := ((o1.trans (q2.mono (by simp [Value.ownBlock]))).trans (hW3.mono (by simp))).trans t2
    have hbs : W.heap.size ≤ s.b := by
      rcases q3 s.b rfl with hq | hq
      · simp [Value.ownBlock] at hq
      · exact Nat.le_trans o1.size hq
    have hsm : s.b ≠ m2 := by omega
    have hr2 : IRow (setBlock W3 m2 (.map es' k')) (svO (some s)) [t] := KRow.only (KRow.only q1 hW3 (by simp)) t2 (fun q hq => by rw [own_sv hq]; simpa using hsm)
    refine ⟨_, t1, _, hW.came_new hlen hc hn o2 hr2 (by simp) (Nat.lt_of_lt_of_le s2 (Nat.le_trans hW3.size t2.size)) hbs t4 t3, .inr ⟨hn, s, Nat.le_trans hw.size hbs, rfl⟩, (hw.mono (by simp)).trans (o2.mono (fun k _ hk => ?_))⟩
    simp at hk
    rw [hk]
    exact mem_footW.2 (.inr (.inr (.inl rfl)))

set_option maxHeartbeats 2000000 in
set_option maxRecDepth 100000 in
theorem wcome_is (h : IsWq w g m1 m2 R1 R2) (hlen : R2.length < maxLen) {c : CH} (hc : c.wf) (t : Int) (hs : ∀ e ∈ R2, e.l.length ≤ 64) :
    Calls Try.prog 33 #[.pointer (some ⟨g, 0, none⟩), .int .i64 t, kV c] w fun r w' => r = .returned (.tuple #[]) ∧ DidCome w w' g m1 m2 R1 R2 c t := by
  obtain ⟨sl, ns, hsl, hns⟩ : ∃ (sl : Value) (ns : List Int), ((∃ e ∈ R2, e.k = c ∧ sl = svO (some e.s) ∧ ns = e.l) ∨ (c ∉ R2.map (·.k) ∧ sl = .slice none 0 0 ∧ ns = [])) ∧ ns.length ≤ 64 := by
    by_cases hm : c ∈ R2.map (·.k)
    · obtain ⟨e, he, hk⟩ := List.mem_map.1 hm
      exact ⟨_, _, .inl ⟨e, he, hk, rfl, rfl⟩, hs e he⟩
    · exact ⟨_, _, .inr ⟨hm, rfl, rfl⟩, by simp⟩
  have HME := hide (fun (W : World) (hw : Only [] w W) => come_fin h hlen hc t hsl hw)
  have HNS := hide hns
  have hk : Blk (w.alloc (.cells (cC c) 32)) w.heap.size 32 (cC c) := Blk.new w 32 (cC c)
  have h1 := h.quiet ((Only.refl [] w).alloc (.cells (cC c) 32))
  have c1 := h1.c1
  have k0 : (w.alloc (.cells (cC c) 32)).cell? ⟨w.heap.size, 0, none⟩ = some (.int .i64 c.kind) := hk.cell 0
  have k1 : (w.alloc (.cells (cC c) 32)).cell? ⟨w.heap.size, 1, none⟩ = some (.int .i64 c.a) := hk.cell 1
  have k2 : (w.alloc (.cells (cC c) 32)).cell? ⟨w.heap.size, 2, none⟩ = some (.int .i64 c.b) := hk.cell 2
  have h2 := h.quiet (((Only.refl [] w).alloc (.cells (cC c) 32)).alloc (.cells #[.int .i64 t] 3))
  have hk2 := hk.only ((Only.refl [] (w.alloc (.cells (cC c) 32))).alloc (.cells #[.int .i64 t] 3)) (by simp)
  have d1 := h2.c1
  have j0 := hk2.cell 0
  have j1 := hk2.cell 1
  have j2 := hk2.cell 2
  rw [show (cC c)[0]? = some (.int .i64 c.kind) from rfl] at j0
  rw [show (cC c)[1]? = some (.int .i64 c.a) from rfl] at j1
  rw [show (cC c)[2]? = some (.int .i64 c.b) from rfl] at j2
  have hm2 := h.sl.ltm
  obtain ⟨stA, VA, rA, oA, fA⟩ := HME.out _ ((Only.refl [] w).alloc (.cells (cC c) 32)).drew
  obtain ⟨stB, VB, rB, oB, fB⟩ := HME.out _ (((Only.refl [] w).alloc (.cells (cC c) 32)).alloc (.cells #[.int .i64 t] 3)).drew
  have HA := hide fA
  have HB := hide fB
  have HOB := hide oB
  have HBB := hide (Blk.only (Blk.new (w.alloc (.cells (cC c) 32)) 3 #[.int .i64 t]) (show Only [m2] ((w.alloc (.cells (cC c) 32)).alloc (.cells #[.int .i64 t] 3)) VB from ((Only.refl _ _).drew).trans oB) (by simp; omega))
  clear h h1 h2 hk hk2 hsl hns hs hc hlen HME fA fB oA oB
  go_enter Try.func33, Try.ntmps33
  go_wp2
  go_region_law (first | (refine step_appendE HA.out rfl _ _ rfl (by simp [Act.eval, Act.put]) (by simp [Act.eval, Act.put]) HNS.out ((Only.refl _ _).alloc _) (Blk.new _ _ _) ?_; intro v2 w2 q1; obtain ⟨V, s1, s2⟩ := q1 w2 (Only.refl _ _); have s3 : (Instr.entryStore 52 (.map (some m2)) (.int .i64 (stA : Int)) v2).run Try.prog w2 = .ok () V := s1; have HEND := hide s2; clear q1 s1 s2) | (refine step_appendE HB.out rfl _ _ rfl (by simp [Act.eval, Act.put]) (b := w.heap.size + 1) (c := 1) (by simp [Act.eval, Act.put]) HNS.out (Only.refl _ _) (by simpa using HBB.out) ?_; intro v2 w2 q1; obtain ⟨V, s1, s2⟩ := q1 w2 (Only.refl _ _); have s3 : (Instr.entryStore 52 (.map (some m2)) (.int .i64 (stB : Int)) v2).run Try.prog w2 = .ok () V := s1; have HEND := hide s2; clear q1 s1 s2))
  all_goals (first | (go_end0; exact ⟨rfl, HEND.out⟩) | (go_wp2; go_end0; exact ⟨rfl, HEND.out⟩))
end
end Go.Proofs.Ytokclkiidhcffaa
