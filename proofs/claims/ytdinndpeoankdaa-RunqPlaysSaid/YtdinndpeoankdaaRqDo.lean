/-
  The run queues (parapet/runq): the calls that turn them, as far as memory goes: New, cut, run, Put, Tick.
-/
import Derived.Test.YtdinndpeoankdaaRqCalls
import Derived.Maps.Own
namespace Go.Proofs.Ytdinndpeoankdaa
open Go.ChangeShapes Go.WideShapes Go.ChangeAt Go.RowKit Go.Maps
set_option linter.unusedVariables false

/-- append of some numbers behind a row, as a step of a region that draws. -/
theorem step_append_any {ops : Array Oper} {o : Oper} {a : Act} {w : World} {K : Act → World → Prop} {Q : Exit → Act → World → Prop} {E : Prop} (hgd : o.guard = none) (s x : Operand)
    (ho : o.op = .call { callee := .builtin .append, args := #[s, x], argTypes := #[38, 38] }) (v : Value) (ns : List Int) (hs : a.eval s = v) (hr : IRow w v ns)
    (A : Option Addr) (m c : Nat) (hx : a.eval x = .slice A m c) (hA : A = none → m = 0 ∧ c = 0) (zs : List Int) (hz : zs.length = m) (hnews : ∀ ad, A = some ad → ∀ j u, (i64l zs)[j]? = some u → w.cell? (ad.add j) = some u) (hbig : ns.length + m < 4000000000000)
    (hK : ∀ v' w2, IRow w2 v' (ns ++ zs) → Only v.ownBlock.toList w w2 → (∀ k, v'.ownBlock = some k → v.ownBlock = some k ∨ w.heap.size ≤ k) → K (a.put o.dst v') w2) :
    if Region.wanted o (yielded ops a.tmps) = true then Oper.wp Try.prog o a w K Q else E := by
  have hw : Region.wanted o (yielded ops a.tmps) = true := by simp [Region.wanted, hgd]
  rw [if_pos hw]
  exact wp_append_any s x ho v ns hs hr A m c hx hA zs hz hnews hbig hK
theorem one_news {w : World} {k : Nat} {x : Int} (hb : Blk w k 3 #[.int .i64 x]) : ∀ ad, some (⟨k, 0, none⟩ : Addr) = some ad → ∀ j u, (i64l [x])[j]? = some u → w.cell? (ad.add j) = some u := by
  rintro ad e j u hu
  injection e with e
  subst e
  have h0 : j = 0 := by
    have := (List.getElem?_eq_some_iff.1 hu).1
    simp [i64l] at this
    exact this
  subst h0
  rw [add_at, hb.cell]
  exact hu

section
variable {w w' : World} {g m : Nat} {s : RQ} {vs : Nat → Value} {S : List Nat}
/-- A call has come to the state s'. -/
def DidQ (w w' : World) (g m : Nat) (vs : Nat → Value) (s' : RQ) : Prop := ∃ vs', IsRq w' g m s' vs' ∧ Turn w w' (footQ g m vs) (footQ g m vs')
theorem IsRq.sameQ (R : IsRq w g m s vs) (ho : Only [] w w') : DidQ w w' g m vs s := ⟨vs, R.quiet ho, Turn.same _ ho⟩
theorem IsRq.nought (R : IsRq w g m s vs) : DidQ w w g m vs s := R.sameQ (Only.refl _ _)

set_option maxHeartbeats 1000000 in
theorem qcut_is (R : IsRq w g m s vs) (hs : SmallQ s) (h : Nat) (hh : h < 8) (i : Nat) (hi : i < (s.n h).length) :
    Calls Try.prog 39 #[.pointer (some ⟨g, 0, none⟩), .int .i64 h, .int .i64 i] w fun e w' => e = .returned (.tuple #[]) ∧ DidQ w w' g m vs { s with n := upd s.n h ((s.n h).eraseIdx i) } := by
  obtain ⟨A, c, hv, cn⟩ := R.form hh
  have fn := R.fr (9 + h)
  have hhi : (h : Int) < 8 := by omega
  have hl := hs.few h hh
  have hi1 : (i : Int) < 64 := by omega
  have e1 : IntKind.i64.wrap ((i : Int) + 1) = (i : Int) + 1 := by rw [IntKind.wrap_i64]; omega
  have HD := hide (delete1_is (w := w.drew) (hv ▸ R.drew.row h hh) i hi)
  have HP := hide (fun (v5 : Value) (w5 : World) (h1 : IRow w5 v5 ((s.n h).eraseIdx i)) (h2 : v5.ownBlock = (Value.slice A (s.n h).length c).ownBlock) (h3 : Only (Value.slice A (s.n h).length c).ownBlock.toList w.drew w5) =>
    (show w5.cell? ⟨g, 9 + h, none⟩ = some (.slice A (s.n h).length c) ∧ w5.frozen? ⟨g, 9 + h, none⟩ = false ∧ (∃ A5 c5, v5 = .slice A5 ((s.n h).eraseIdx i).length c5) ∧ DidQ w (w5.setCell ⟨g, 9 + h, none⟩ v5) g m vs { s with n := upd s.n h ((s.n h).eraseIdx i) } from by
      rw [← hv] at h2 h3
      have ho : Only (vs h).ownBlock.toList w w5 := (show Only (vs h).ownBlock.toList w w.drew from (Only.refl _ _).drew).trans h3
      have hb5 := R.blk.only ho (fun hm => R.rg hh (mem_own.1 hm) rfl)
      obtain ⟨A5, c5, e5, _⟩ := h1.form
      obtain ⟨R2, T2⟩ := R.putN hh ho h1 (fun k hk => .inl (h2 ▸ hk))
      refine ⟨?_, hb5.frozen _, ⟨A5, c5, e5⟩, _, R2, T2⟩
      rw [← cn, R.blk.cell, hb5.cell]))
  clear R hs hv
  go_enter Try.func39, Try.ntmps39
  go_wp2_with fail
  go_region_law (go_simp; go_at_call 42; refine HD.out.mono ?_; rintro e w5 ⟨v5, rfl, h1, h2, h3⟩; obtain ⟨k1, k2, ⟨A5, c5, rfl⟩, k3⟩ := HP.out v5 w5 h1 h2 h3; have HK := hide k3; clear h1 h2 h3 k3)
  all_goals
    go_end0
    exact ⟨rfl, HK.out⟩

set_option maxHeartbeats 1000000 in
theorem qrun_is (R : IsRq w g m s vs) (hs : SmallQ s) (h f : Nat) (hh : h < 8) (hf : f < 8) (i : Nat) (hi : i < (s.n f).length) {k : Int} (hk : (gb (s.n f) i, k) ∈ s.O) (hl : s.O.length ≤ 64) :
    Calls Try.prog 32 #[.pointer (some ⟨g, 0, none⟩), .int .i64 h, .int .i64 f, .int .i64 i] w fun e w' => e = .returned (.int .i64 (gb (s.n f) i)) ∧ DidQ w w' g m vs { s with r := upd s.r h (gb (s.n f) i), n := upd s.n f ((s.n f).eraseIdx i), O := setV s.O (gb (s.n f) i) h } := by
  obtain ⟨A, c, hv, cn⟩ := R.form hf
  have hrow := R.row f hf
  rw [hv] at hrow
  obtain ⟨A', c', e', hA, _, _, hc⟩ := hrow.form2
  injection e' with e1 _ e2
  subst e1; subst e2
  obtain ⟨ad, rfl⟩ : ∃ ad, A = some ad := by
    rcases A with _ | ad
    · have := (hA rfl).1; omega
    · exact ⟨ad, rfl⟩
  obtain ⟨b, rfl, _, hcell⟩ := hc ad rfl
  have ci := hcell i (.int .i64 (gb (s.n f) i)) (by simp [i64l, gb, List.getD, List.getElem?_eq_getElem hi])
  have hhi : (h : Int) < 8 := by omega
  have hfi : (f : Int) < 8 := by omega
  have hin : (i : Int) < (s.n f).length := by omega
  have HC := hide (qcut_is R hs f hf i hi)
  have HI := hide (show iW h from by
    have e1 : IntKind.i64.min = -9223372036854775808 := by decide
    have e2 : IntKind.i64.max = 9223372036854775807 := by decide
    simp only [iW, Lit.wf, e1, e2, Bool.and_eq_true, decide_eq_true_eq]
    omega)
  have HK := hide hk
  have HL := hide (show s.O.length < maxLen from Nat.lt_of_le_of_lt hl (by decide))
  generalize gb (s.n f) i = x at *
  have HP := hide (fun (w1 : World) (hd : DidQ w w1 g m vs { s with n := upd s.n f ((s.n f).eraseIdx i) }) =>
    (show ∃ w3, w1.cell? ⟨g, 1 + h, none⟩ = some (.int .i64 (s.r h)) ∧ w1.frozen? ⟨g, 1 + h, none⟩ = false ∧ (w1.setCell ⟨g, 1 + h, none⟩ (.int .i64 x)).cell? ⟨g, 17, none⟩ = some (.map (some m)) ∧
        (Instr.mapUpdate 36 (.map (some m)) (.int .i64 x) (.int .i64 h)).run Try.prog (w1.setCell ⟨g, 1 + h, none⟩ (.int .i64 x)) = .ok () w3 ∧
        DidQ w w3 g m vs { s with r := upd s.r h x, n := upd s.n f ((s.n f).eraseIdx i), O := setV s.O x h } from by
      obtain ⟨vs1, R1, T1⟩ := hd
      obtain ⟨R2, o2⟩ := R1.putR hh x
      obtain ⟨D, d1, d2⟩ := R2.own
      obtain ⟨w3, hr, hown, ho⟩ := storeI_old d2 d1 HL.out HK.out HI.out
      refine ⟨w3, R1.cR hh, R1.fr _, R2.cM, hr, vs1, R2.putM ho hown (d2.old HK.out _), ?_⟩
      exact (T1.trans ⟨o2.mono (fun q _ hq => mem_footQ.2 (.inl (by simpa using hq))), fun q hq => .inl hq⟩).trans ⟨ho.mono (fun q _ hq => mem_footQ.2 (.inr (.inl (by simpa using hq)))), fun q hq => .inl hq⟩))
  clear R hs hv hrow hA hc hcell hk
  go_enter Try.func32, Try.ntmps32
  go_wp2_with (go_at_call 39; refine HC.out.mono ?_; rintro e w1 ⟨rfl, hd⟩; obtain ⟨w3, k1, k2, k3, k4, k5⟩ := HP.out w1 hd; have HF := hide k5; clear hd k5)
  go_ret
  exact ⟨rfl, HF.out⟩

theorem qNew_bad (n : Int) (h : ¬ (1 ≤ n ∧ n ≤ 8)) : Calls Try.prog 4 #[.int .i64 n] w fun e w' => e = .returned (.tuple #[.pointer none, .int .i64 1]) ∧ w = w' := by
  go_enter Try.func4, Try.ntmps4
  by_cases h1 : n < 1
  · clear h
    go_wp2
    go_ret2
    exact ⟨rfl, rfl⟩
  · have h2 : 8 < n := by omega
    clear h
    go_wp2
    go_ret2
    exact ⟨rfl, rfl⟩
def emptyQ (n : Nat) : RQ := ⟨n, fun _ => 0, fun _ => [], []⟩
theorem ownsMap_emptyQ {w : World} {b : Nat} (h : w.heap[b]? = some (.map #[] 0)) (k : TypeId) (R : Value → Option (DataW Unit × List MemPlace)) : w.ownsMap Try.prog k R b 0 (.map []) := by
  obtain ⟨es, clock, h1, F, hs, hD⟩ := World.ownsMap_made w Try.prog k R
  rw [show (w.alloc (.map #[] 0)).heap[w.heap.size]? = some (.map #[] 0) from heap_alloc_new w _] at h1
  injection h1 with h1
  injection h1 with e1 e2
  subst e1; subst e2
  exact ⟨#[], 0, h, F, hs, hD⟩
def MadeQ (w : World) (n : Nat) (e : Ending) (w' : World) : Prop := ∃ g m vs, e = .returned (.tuple #[.pointer (some ⟨g, 0, none⟩), .int .i64 0]) ∧ IsRq w' g m (emptyQ n) vs ∧ (∀ q, q ∈ footQ g m vs → w.heap.size ≤ q) ∧ Only [] w w'
theorem qNew_ok (n : Nat) (h : 1 ≤ n ∧ n ≤ 8) : Calls Try.prog 4 #[.int .i64 n] w fun e w' => MadeQ w n e w' := by
  have h1 : ¬ (n : Int) < 1 := by omega
  have h2 : ¬ 8 < (n : Int) := by omega
  have hmm := @run_makeMap Try.prog
  clear h
  go_enter Try.func4, Try.ntmps4
  go_wp2
  go_ret2
  refine ⟨w.heap.size + 1, w.heap.size, fun _ => .slice none 0 0, rfl, ⟨?_, fun _ _ => KRow.nil _ _ _ _, ?_, ?_⟩, ?_, ((Only.refl [] w).alloc _).alloc _⟩
  · have h := Blk.new (w.alloc (.map #[] 0)) 41 (cellsQ (valQ (emptyQ n) w.heap.size fun _ => .slice none 0 0))
    rw [show (w.alloc (.map #[] 0)).heap.size = w.heap.size + 1 by simp] at h
    exact h
  · intro a b q _ _ _ e
    simp [Value.ownBlock] at e
  · refine ⟨.map [], ownsMap_emptyQ ?_ _ _, MHolds.empty⟩
    exact (((Only.refl [] (w.alloc (.map #[] 0))).alloc _).block _ (by simp) (by simp)).trans (heap_alloc_new w _)
  · intro q hq
    rcases mem_footQ.1 hq with rfl | rfl | ⟨o, _, e⟩
    · omega
    · exact Nat.le_refl _
    · simp [Value.ownBlock] at e

set_option maxHeartbeats 2000000 in
theorem qPut_ok (R : IsRq w g m s vs) (hs : SmallQ s) (h : Nat) (hh : h < s.H) (t : Int) (ht : 1 ≤ t) (hw : iW t) (hn : t ∉ s.O.map (·.1)) (hl : s.O.length < 64) :
    Calls Try.prog 9 #[.pointer (some ⟨g, 0, none⟩), .int .i64 h, .int .i64 t] w fun e w' => e = .returned (.int .i64 0) ∧ DidQ w w' g m vs { s with n := upd s.n h (s.n h ++ [t]), O := s.O ++ [(t, (h : Int))] } := by
  have h8 : h < 8 := by have := hs.h8; omega
  have hhi : (h : Int) < 8 := by omega
  have HC := hide (qclosed_is R hs)
  have HH := hide (qhas_is R hs h)
  have e1 : hasQ s h = true := by simp [hasQ, hh]
  rw [e1] at HH
  have HO := hide (qholds_no R hs hw hn)
  have c17 := R.cM
  have ht1 : ¬ t < 1 := by omega
  have hl64 : ((s.O.length : Int) == 64) = false := by simp only [beq_eq_false_iff_ne]; omega
  have hi : iW h := by
    have e1 : IntKind.i64.min = -9223372036854775808 := by decide
    have e2 : IntKind.i64.max = 9223372036854775807 := by decide
    simp only [iW, Lit.wf, e1, e2, Bool.and_eq_true, decide_eq_true_eq]
    omega
  obtain ⟨D, d1, d2⟩ := R.own
  have hln := fun ty => lenI d2 d1 ty
  obtain ⟨w1, hrun, hown, ho⟩ := storeI_new d2 d1 (Nat.lt_trans hl (by decide)) hw hn hi
  have R1 := R.putM ho hown (d2.new hw hn)
  have T1 : Turn w w1 (footQ g m vs) (footQ g m vs) := ⟨ho.mono (fun q _ hq => mem_footQ.2 (.inr (.inl (by simpa using hq)))), fun q hq => .inl hq⟩
  obtain ⟨A, c, hv, cn⟩ := R1.form h8
  have cn2 : ∀ o, (w1.alloc o).cell? ⟨g, 9 + h, none⟩ = some (.slice A (s.n h).length c) := fun o => (R1.quiet ((Only.refl [] w1).alloc o)).cN h8 |>.trans (by rw [hv])
  have fn := R1.fr (9 + h)
  have HRW := hide (fun o => show IRow (w1.drew.alloc o) (.slice A (s.n h).length c) (s.n h) from hv ▸ (R1.quiet ((Only.refl [] w1).drew.alloc o)).row h h8)
  have HNW := hide (one_news (Blk.new w1.drew 3 #[.int .i64 t]))
  have HBIG := hide (show (s.n h).length + 1 < 4000000000000 by have := hs.few h h8; omega)
  have HP := hide (fun (v5 : Value) (w5 : World) (h1 : IRow w5 v5 (s.n h ++ [t])) (h2 : Only (Value.slice A (s.n h).length c).ownBlock.toList (w1.drew.alloc (.cells #[.int .i64 t] 3)) w5)
      (h3 : ∀ k, v5.ownBlock = some k → (Value.slice A (s.n h).length c).ownBlock = some k ∨ (w1.drew.alloc (.cells #[.int .i64 t] 3)).heap.size ≤ k) =>
    (show w5.cell? ⟨g, 9 + h, none⟩ = some (.slice A (s.n h).length c) ∧ w5.frozen? ⟨g, 9 + h, none⟩ = false ∧ (∃ A5 c5, v5 = .slice A5 ((s.n h).length + 1) c5) ∧
        DidQ w (w5.setCell ⟨g, 9 + h, none⟩ v5) g m vs { s with n := upd s.n h (s.n h ++ [t]), O := s.O ++ [(t, (h : Int))] } from by
      rw [← hv] at h2 h3
      have ho : Only (vs h).ownBlock.toList w1 w5 := (((Only.refl [] w1).drew.alloc _).mono (by simp)).trans h2
      have hb5 := R1.blk.only ho (fun hm => R1.rg h8 (mem_own.1 hm) rfl)
      obtain ⟨A5, c5, e5, -⟩ := h1.form
      obtain ⟨R2, T2⟩ := R1.putN h8 ho h1 (fun k hk => (h3 k hk).imp id (fun h => by simp at h; have : w1.drew.heap.size = w1.heap.size := rfl; omega))
      refine ⟨?_, hb5.frozen _, ⟨A5, c5, by rw [e5, List.length_append]; rfl⟩, _, R2, T1.trans T2⟩
      rw [← cn, R1.blk.cell, hb5.cell]))
  clear R R1 T1 hv hs d1 d2 hown ho
  go_enter Try.func9, Try.ntmps9
  go_wp2_with (first | (go_at_call 29; refine HC.out.mono ?_; rintro e w' ⟨rfl, rfl⟩) | (go_at_call 30; refine HH.out.mono ?_; rintro e w' ⟨rfl, rfl⟩) | (go_at_call 31; refine HO.out.mono ?_; rintro e w' ⟨rfl, rfl⟩))
  clear hrun
  go_region_law (refine step_append_any rfl _ _ rfl (.slice A (s.n h).length c) (s.n h) (by simp [Act.eval]) (HRW.out _) (some ⟨w1.heap.size, 0, none⟩) 1 1 (by simp [Act.eval]) (fun e => by cases e) [t] rfl HNW.out HBIG.out ?_; intro v5 w5 h1 h2 h3; obtain ⟨k1, k2, ⟨A5, c5, rfl⟩, k3⟩ := HP.out v5 w5 h1 h2 h3; have HK := hide k3; clear h1 h2 h3 k3)
  all_goals
    go_wp2
    go_ret
    exact ⟨rfl, HK.out⟩
theorem qPut_arg (R : IsRq w g m s vs) (hs : SmallQ s) (h t : Int) (hb : hasQ s h = false ∨ t < 1) : Calls Try.prog 9 #[.pointer (some ⟨g, 0, none⟩), .int .i64 h, .int .i64 t] w fun e w' => e = .returned (.int .i64 1) ∧ w = w' := by
  have HC := hide (qclosed_is R hs)
  have HH := hide (qhas_is R hs h)
  clear R hs
  by_cases hh : hasQ s h = true
  · have ht : t < 1 := hb.resolve_left (by simp [hh])
    rw [hh] at HH
    clear hb hh
    go_enter Try.func9, Try.ntmps9
    go_wp2_with (first | (go_at_call 29; refine HC.out.mono ?_; rintro e w' ⟨rfl, rfl⟩) | (go_at_call 30; refine HH.out.mono ?_; rintro e w' ⟨rfl, rfl⟩))
    go_ret
    exact ⟨rfl, rfl⟩
  · have hh' : hasQ s h = false := by simpa using hh
    rw [hh'] at HH
    clear hb hh hh'
    go_enter Try.func9, Try.ntmps9
    go_wp2_with (first | (go_at_call 29; refine HC.out.mono ?_; rintro e w' ⟨rfl, rfl⟩) | (go_at_call 30; refine HH.out.mono ?_; rintro e w' ⟨rfl, rfl⟩))
    go_ret
    exact ⟨rfl, rfl⟩
theorem qPut_busy (R : IsRq w g m s vs) (hs : SmallQ s) (h t : Int) (hh : hasQ s h = true) (ht : 1 ≤ t) {f : Int} (hp : (t, f) ∈ s.O) : Calls Try.prog 9 #[.pointer (some ⟨g, 0, none⟩), .int .i64 h, .int .i64 t] w fun e w' => e = .returned (.int .i64 5) ∧ w = w' := by
  have HC := hide (qclosed_is R hs)
  have HH := hide (qhas_is R hs h)
  have HO := hide (qholds_yes R hs hp)
  have ht1 : ¬ t < 1 := by omega
  rw [hh] at HH
  clear R hs hh
  go_enter Try.func9, Try.ntmps9
  go_wp2_with (first | (go_at_call 29; refine HC.out.mono ?_; rintro e w' ⟨rfl, rfl⟩) | (go_at_call 30; refine HH.out.mono ?_; rintro e w' ⟨rfl, rfl⟩) | (go_at_call 31; refine HO.out.mono ?_; rintro e w' ⟨rfl, rfl⟩))
  go_ret
  exact ⟨rfl, rfl⟩
theorem qPut_full (R : IsRq w g m s vs) (hs : SmallQ s) (h t : Int) (hh : hasQ s h = true) (ht : 1 ≤ t) (hw : iW t) (hn : t ∉ s.O.map (·.1)) (hl : s.O.length = 64) : Calls Try.prog 9 #[.pointer (some ⟨g, 0, none⟩), .int .i64 h, .int .i64 t] w fun e w' => e = .returned (.int .i64 2) ∧ w = w' := by
  have HC := hide (qclosed_is R hs)
  have HH := hide (qhas_is R hs h)
  have HO := hide (qholds_no R hs hw hn)
  have ht1 : ¬ t < 1 := by omega
  have c17 := R.cM
  obtain ⟨D, d1, d2⟩ := R.own
  have hln := fun ty => lenI d2 d1 ty
  rw [hl] at hln
  rw [hh] at HH
  clear R hs hh d1 d2 hl hn
  go_enter Try.func9, Try.ntmps9
  go_wp2_with (first | (go_at_call 29; refine HC.out.mono ?_; rintro e w' ⟨rfl, rfl⟩) | (go_at_call 30; refine HH.out.mono ?_; rintro e w' ⟨rfl, rfl⟩) | (go_at_call 31; refine HO.out.mono ?_; rintro e w' ⟨rfl, rfl⟩))
  go_ret
  exact ⟨rfl, rfl⟩
theorem qPut_nil (w : World) (h t : Int) : Calls Try.prog 9 #[.pointer none, .int .i64 h, .int .i64 t] w fun e w' => e = .returned (.int .i64 6) ∧ w = w' := by
  have HC := hide (qclosed_nil w)
  go_enter Try.func9, Try.ntmps9
  go_wp2_with (go_at_call 29; refine HC.out.mono ?_; rintro e w' ⟨rfl, rfl⟩)
  go_ret
  exact ⟨rfl, rfl⟩

theorem qTick_no (R : IsRq w g m s vs) (hs : SmallQ s) (h : Int) (hb : hasQ s h = false ∨ s.r h.toNat = 0 ∨ s.n h.toNat = []) : Calls Try.prog 11 #[.pointer (some ⟨g, 0, none⟩), .int .i64 h] w fun e w' => e = .returned (.bool false) ∧ w = w' := by
  have HH := hide (qhas_is R hs h)
  by_cases hh : hasQ s h = true
  · have h2 := hh
    unfold hasQ at h2
    rw [decide_eq_true_eq] at h2
    have := hs.h8
    obtain ⟨k, rfl⟩ : ∃ k : Nat, h = k := ⟨h.toNat, by omega⟩
    have hk : k < 8 := by omega
    have cr := R.cR hk
    obtain ⟨A, c, hv, cn⟩ := R.form hk
    have hhi : (k : Int) < 8 := by omega
    rw [Int.toNat_natCast] at hb
    have hb2 := hb.resolve_left (by simp [hh])
    rw [hh] at HH
    clear R hs hb h2 this hv hh
    by_cases h0 : s.r k = 0
    · rw [h0] at cr
      clear hb2 h0
      go_enter Try.func11, Try.ntmps11
      go_wp2_with (go_at_call 30; refine HH.out.mono ?_; rintro e w' ⟨rfl, rfl⟩)
      go_ret
      exact ⟨rfl, rfl⟩
    · have hr : (s.r k == 0) = false := by simp [h0]
      have hn := hb2.resolve_left h0
      rw [hn] at cn
      clear hb2 h0 hn
      go_enter Try.func11, Try.ntmps11
      go_wp2_with (go_at_call 30; refine HH.out.mono ?_; rintro e w' ⟨rfl, rfl⟩)
      go_ret
      exact ⟨rfl, rfl⟩
  · have hh' : hasQ s h = false := by simpa using hh
    rw [hh'] at HH
    clear R hs hb hh hh'
    go_enter Try.func11, Try.ntmps11
    go_wp2_with (go_at_call 30; refine HH.out.mono ?_; rintro e w' ⟨rfl, rfl⟩)
    go_ret
    exact ⟨rfl, rfl⟩
theorem qTick_nil (w : World) (h : Int) : Calls Try.prog 11 #[.pointer none, .int .i64 h] w fun e w' => e = .returned (.bool false) ∧ w = w' := by
  have HH := hide (qhas_nil w h)
  go_enter Try.func11, Try.ntmps11
  go_wp2_with (go_at_call 30; refine HH.out.mono ?_; rintro e w' ⟨rfl, rfl⟩)
  go_ret
  exact ⟨rfl, rfl⟩
set_option maxHeartbeats 2000000 in
theorem qTick_ok (R : IsRq w g m s vs) (hs : SmallQ s) (h : Nat) (hh : h < s.H) (hr0 : s.r h ≠ 0) (hn0 : s.n h ≠ []) :
    Calls Try.prog 11 #[.pointer (some ⟨g, 0, none⟩), .int .i64 h] w fun e w' => e = .returned (.bool true) ∧ DidQ w w' g m vs { s with r := upd s.r h 0, n := upd s.n h (s.n h ++ [s.r h]) } := by
  have h8 : h < 8 := by have := hs.h8; omega
  have hhi : (h : Int) < 8 := by omega
  have HH := hide (qhas_is R hs h)
  have e1 : hasQ s h = true := by simp [hasQ, hh]
  rw [e1] at HH
  have cr := R.cR h8
  obtain ⟨A, c, hv, cn⟩ := R.form h8
  have hl0 : 0 < (s.n h).length := List.length_pos_iff.2 hn0
  have hb1 : (s.r h == 0) = false := by simp [hr0]
  have hb2 : (((s.n h).length : Int) == 0) = false := by simp only [beq_eq_false_iff_ne]; omega
  have cn2 : ∀ o, (w.alloc o).cell? ⟨g, 9 + h, none⟩ = some (.slice A (s.n h).length c) := fun o => (R.quiet ((Only.refl [] w).alloc o)).cN h8 |>.trans (by rw [hv])
  have fn := R.fr (9 + h)
  have HRW := hide (fun o => show IRow (w.drew.alloc o) (.slice A (s.n h).length c) (s.n h) from hv ▸ (R.quiet ((Only.refl [] w).drew.alloc o)).row h h8)
  have HNW := hide (one_news (Blk.new w.drew 3 #[.int .i64 (s.r h)]))
  have HBIG := hide (show (s.n h).length + 1 < 4000000000000 by have := hs.few h h8; omega)
  have HP := hide (fun (v5 : Value) (w5 : World) (h1 : IRow w5 v5 (s.n h ++ [s.r h])) (h2 : Only (Value.slice A (s.n h).length c).ownBlock.toList (w.drew.alloc (.cells #[.int .i64 (s.r h)] 3)) w5)
      (h3 : ∀ k, v5.ownBlock = some k → (Value.slice A (s.n h).length c).ownBlock = some k ∨ (w.drew.alloc (.cells #[.int .i64 (s.r h)] 3)).heap.size ≤ k) =>
    (show w5.cell? ⟨g, 9 + h, none⟩ = some (.slice A (s.n h).length c) ∧ w5.frozen? ⟨g, 9 + h, none⟩ = false ∧ (∃ A5 c5, v5 = .slice A5 ((s.n h).length + 1) c5) ∧
        (∀ w6, w6 = w5.setCell ⟨g, 9 + h, none⟩ v5 → w6.cell? ⟨g, 1 + h, none⟩ = some (.int .i64 (s.r h)) ∧ w6.frozen? ⟨g, 1 + h, none⟩ = false ∧
          DidQ w (w6.setCell ⟨g, 1 + h, none⟩ (.int .i64 0)) g m vs { s with r := upd s.r h 0, n := upd s.n h (s.n h ++ [s.r h]) }) from by
      rw [← hv] at h2 h3
      have ho : Only (vs h).ownBlock.toList w w5 := (((Only.refl [] w).drew.alloc _).mono (by simp)).trans h2
      have hb5 := R.blk.only ho (fun hm => R.rg h8 (mem_own.1 hm) rfl)
      obtain ⟨A5, c5, e5, -⟩ := h1.form
      obtain ⟨R2, T2⟩ := R.putN h8 ho h1 (fun k hk => (h3 k hk).imp id (fun h => by simp at h; have : w.drew.heap.size = w.heap.size := rfl; omega))
      refine ⟨?_, hb5.frozen _, ⟨A5, c5, by rw [e5, List.length_append]; rfl⟩, ?_⟩
      · rw [← cn, R.blk.cell, hb5.cell]
      · rintro w6 rfl
        obtain ⟨R3, o3⟩ := R2.putR h8 0
        exact ⟨R2.cR h8, R2.fr _, _, R3, T2.trans ⟨o3.mono (fun q _ hq => mem_footQ.2 (.inl (by simpa using hq))), fun q hq => .inl hq⟩⟩))
  clear R hv hs hr0 hn0
  go_enter Try.func11, Try.ntmps11
  go_wp2_with (go_at_call 30; refine HH.out.mono ?_; rintro e w' ⟨rfl, rfl⟩)
  go_region_law (refine step_append_any rfl _ _ rfl (.slice A (s.n h).length c) (s.n h) (by simp [Act.eval]) (HRW.out _) (some ⟨w.heap.size, 0, none⟩) 1 1 (by simp [Act.eval]) (fun e => by cases e) [s.r h] rfl HNW.out HBIG.out ?_; intro v5 w5 h1 h2 h3; obtain ⟨k1, k2, ⟨A5, c5, rfl⟩, k3⟩ := HP.out v5 w5 h1 h2 h3; have HK := hide k3; clear h1 h2 h3 k3)
  all_goals
    clear k1 k2 cr cn cn2 fn
    revert HK
    generalize hw6 : w5.setCell ⟨g, 9 + h, none⟩ (.slice A5 ((s.n h).length + 1) c5) = w6
    intro HK
    obtain ⟨k1, k2, k3⟩ := HK.out w6 rfl
    have HF := hide k3
    clear k3 HK hw6
    go_wp2
    go_ret
    exact ⟨rfl, HF.out⟩
end
end Go.Proofs.Ytdinndpeoankdaa
