/-
  Translations (parapet/tlb): slices.Collect of a hart's keys.
-/
import Derived.Test.YtdkbjnnflpopdaaTlbKeys
namespace Go.Proofs.Ytdkbjnnflpopdaa
open Go.ChangeShapes Go.WideShapes Go.ChangeAt Go.RowKit Go.Maps Go.Shelf
set_option linter.unusedVariables false
attribute [local go_sem] Oper.semAt_some

theorem blk_kept' {W W' : World} {g : Nat} {t : TypeId} {cs : Array Value} {row : Option Nat} (h : Blk W g t cs) (hg : W.grownBy W' row) (hr : ∀ r, row = some r → ∃ o : Obj, W.heap[r]? = some o ∧ o.isCells = false) : Blk W' g t cs := by
  refine (hg.block g h.lt (fun e => ?_)).trans h
  obtain ⟨o, ho, hc⟩ := hr g e.symm
  unfold Blk at h
  rw [h] at ho
  injection ho with ho
  subst ho
  cases hc
theorem grow_kept {W W' : World} {B : Nat} {v : Value} {ks : List K2} {row : Option Nat} (h : GRow W B v ks) (hg : W.grownBy W' row) (hr : ∀ r, row = some r → ∃ o : Obj, W.heap[r]? = some o ∧ o.isCells = false) : GRow W' B v ks := by
  obtain ⟨hl, h⟩ := h
  refine ⟨hl, ?_⟩
  rcases h with hn | ⟨q, cap, cur, rfl, hb, hq, rest⟩
  · exact .inl hn
  · exact .inr ⟨q, cap, cur, rfl, hb, blk_kept' hq hg hr, rest⟩

theorem grow_base {W : World} {B B' : Nat} {v : Value} {ks : List K2} (h : GRow W B v ks) (hB : B' ≤ B) : GRow W B' v ks := by
  obtain ⟨hl, h⟩ := h
  refine ⟨hl, ?_⟩
  rcases h with hn | ⟨q, cap, cur, rfl, hb, rest⟩
  · exact .inl hn
  · exact .inr ⟨q, cap, cur, rfl, Nat.le_trans hB hb, rest⟩
theorem grow_at {W : World} {B : Nat} {v : Value} {ks : List K2} (h : GRow W B v ks) {q : Nat} (hq : v.ownBlock = some q) : B ≤ q ∧ q < W.heap.size := by
  rcases h.2 with ⟨e', h0⟩ | ⟨b, cap, cur, e', hB, hg, hn, hm, hs, ht⟩
  · rw [e'] at hq; simp [Value.ownBlock] at hq
  · rw [e'] at hq
    simp only [Value.ownBlock, Option.some.injEq] at hq
    subst hq
    exact ⟨hB, Blk.lt (t := 33) hg⟩
/-- What holds between two keys. -/
def ColI (w : World) (pre : List K2) (W : World) : Prop := ∃ v, Blk W w.heap.size 46 #[v] ∧ GRow W (w.heap.size + 1) v pre ∧ Below w.heap.size w W ∧ w.heap.size + 1 ≤ W.heap.size
theorem ColI.kept {w W W' : World} {pre : List K2} {row : Option Nat} (h : ColI w pre W) (hg : W.grownBy W' row) (hr : ∀ r, row = some r → w.heap.size ≤ r ∧ ∃ o : Obj, W.heap[r]? = some o ∧ o.isCells = false) : ColI w pre W' := by
  obtain ⟨v, h1, h2, h3, h4⟩ := h
  exact ⟨v, blk_kept' h1 hg (fun r e => (hr r e).2), grow_kept h2 hg (fun r e => (hr r e).2), h3.grown hg h3.size (fun k e => (hr k e).1), Nat.le_trans h4 hg.size⟩

section
variable {w : World} {b Bm : Nat} {D : DataW Unit} {l : List (K2 × K2)}
set_option maxRecDepth 100000 in
set_option maxHeartbeats 4000000 in
theorem appendSeq_is (hBm : Bm < w.heap.size) (hm : w.cell? ⟨Bm, 0, none⟩ = some (.map (some b))) (hown : w.ownsMap Try.prog 33 elemF b l.length D) (H : Holds D l) (hlen : l.length ≤ 64) :
    Calls Try.prog 61 #[.slice none 0 0, .func (.func 48) #[] #[.pointer (some ⟨Bm, 0, none⟩)]] w fun e w' => ∃ v ks, e = .returned v ∧ GRow w' (w.heap.size + 1) v ks ∧ ks.Perm (l.map (·.1)) ∧ Below w.heap.size w w' := by
  (refine (callsIn_wide (n := 9)).1 ?_; refine callsIn_of_wp_marks Try.func61 rfl trivial ?_ rfl; simp only [Try.ntmps61, List.size_toArray, List.length_cons, List.length_nil, Nat.reduceAdd, Nat.reduceSub, Array.replicate_succ, Array.replicate_zero, List.push_toArray, List.append_toArray, List.nil_append, List.cons_append]; refine wpIn_wide.2 ?_)
  go_wp2
  have hE : ColI w [] (w.alloc (.cells #[.slice none 0 0] 46)) := ⟨_, Blk.new w _ _, World.ownsRow_nil _ _ _ _, (Below.refl _ w).alloc (Nat.le_refl _) _, by simp⟩
  have hs0 : (w.alloc (.cells #[.slice none 0 0] 46)).heap.size = w.heap.size + 1 := by simp
  refine (wpIn_wide (n := 9)).1 ?_
  refine wpIn_rangeFunc_ownH rfl (by decide) (gf := 48) (lb := #[.pointer (some ⟨Bm, 0, none⟩)]) rfl trivial (enters_of Try.func48 (by kernel_rfl) rfl)
    (keys1_is (w := w.alloc (.cells #[.slice none 0 0] 46)) (9 - 1) (by decide) (by simp; omega) (Lib.cell?_alloc_some _ hm) (hown.alloc _) H) (fun h k => h.trans k) (fun W l o o' _ h hc hw => KeepsWalks.putObj _ h hw) (Below.refl _ _) (fun x => rfl)
    (fun pre W => ColI w pre W) (fun _ _ _ => False)
    (fun s W W' row hs hg hr => hs.kept hg (fun r e => by have := hr r e; exact ⟨by omega, this.2⟩))
    (fun _ _ _ _ _ hs _ _ => hs)
    hE
    (fun x a' W => ∃ bk, a' = { tmps := #[.slice none 0 0, .func (.func 48) #[] #[.pointer (some ⟨Bm, 0, none⟩)], .pointer (some ⟨w.heap.size, 0, none⟩), undef, .slice none 0 0, .pointer (some ⟨bk, 0, none⟩), .func (.func 48) #[] #[.pointer (some ⟨Bm, 0, none⟩)], kV x, undef, undef, undef, undef, undef], defers := [] } ∧ Blk W bk 33 #[.int .i64 x.1, .int .i64 x.2])
    (fun x a' _ W W' row hs hg hr => by obtain ⟨bk, e, hb⟩ := hs; exact ⟨bk, e, blk_kept' hb hg (fun r e => (hr r e).2)⟩) ?assign ?body ?done ?stop
  case assign =>
    rintro l' pre ⟨k1, k2⟩ W K hI hK
    gi_wp2
    refine hK _ _ (KeepsFrom.of_grownBy (World.grownBy_alloc W _ none) (by simp)) (KeepsWalks.alloc _ _) (hI.kept (World.grownBy_alloc W _ none) (by simp)) ⟨W.heap.size, rfl, Blk.new W _ _⟩
  case body =>
    rintro l' pre ⟨k1, k2⟩ a' W hl' hr hI ⟨bk, rfl, hbk⟩ hlen'
    obtain ⟨v, hb1, hr1, hbw, hsz⟩ := hI
    have c0 : W.cell? ⟨w.heap.size, 0, none⟩ = some v := hb1.cell 0
    have k0 : W.cell? ⟨bk, 0, none⟩ = some (.int .i64 k1) := hbk.cell 0
    have k1' : W.cell? ⟨bk, 1, none⟩ = some (.int .i64 k2) := hbk.cell 1
    have HB1 := hide hb1
    have HR1 := hide hr1
    have HBW := hide hbw
    have HSZ := hide hsz
    have HC0 := hide (show (W.alloc (.cells #[.int .i64 k1, .int .i64 k2] 33)).cell? ⟨W.heap.size, 0, none⟩ = some (.int .i64 k1) from (Blk.new W 33 #[.int .i64 k1, .int .i64 k2]).cell 0)
    have HC1 := hide (show (W.alloc (.cells #[.int .i64 k1, .int .i64 k2] 33)).cell? ⟨W.heap.size, 1, none⟩ = some (.int .i64 k2) from (Blk.new W 33 #[.int .i64 k1, .int .i64 k2]).cell 1)
    have HLN := hide (show pre.length < 4000000000000 by omega)
    clear hb1 hr1 hbw hbk hE hr hlen' hsz
    gi_wp2_with (gi_at_builtin; refine wpListIn_append_key rfl _ _ rfl _ rfl (GRow.only HR1.out ((Only.refl [] W).alloc _) (by simp)) W.heap.size (k1, k2) rfl HC0.out HC1.out HLN.out (by have := HSZ.out; simp; omega) ?_; intro v' w2 hr2 hg2; obtain ⟨A, c, hv', -⟩ := hr2.form; subst hv'; have hap := Boxed.appended (t := 46) (e := 33) HB1.out (by decide) (grow_base HR1.out (Nat.le_succ _)) (Nat.le_trans (Nat.le_succ _) HSZ.out) (Nat.le_refl _) (grow_base hr2 (Nat.le_succ _)) hg2; have q0 := hap.1.cell; have q1 := hap.1.frozen; have HAP := hide hap; have HR2 := hide hr2; clear hap hr2 hg2)
    obtain ⟨-, e2, e3, e4, e5⟩ := HAP.out
    have hr2 := HR2.out
    have hv : (Value.slice A (pre ++ [((k1, k2) : K2)]).length c) = .slice A (pre.length + 1) c := by rw [List.length_append]; rfl
    rw [hv] at e2 e4 e5 hr2
    clear hv
    refine ⟨e4.from _, ⟨e4.size, fun k o hk hw => e4.same k o hk (Obj.not_cells_of_walk hw)⟩, _, e2, ?_, HBW.out.trans e5, Nat.le_trans HSZ.out e4.size⟩
    refine GRow.only hr2 ((Only.refl [w.heap.size] w2).setCell _ (by simp)) (fun q hq => ?_)
    have := (grow_at hr2 hq).1
    simp; omega
  case stop =>
    rintro D' c pre W hD _ h _
    exact h.elim
  case done =>
    rintro D' ys W hD hperm ⟨v, hb1, hr1, hbw, hsz⟩ hK
    have c0 : W.cell? ⟨w.heap.size, 0, none⟩ = some v := hb1.cell 0
    have hDw : w.heap.size ≤ D' := by omega
    have HR1 := hide hr1
    have HBW := hide hbw
    have HK := hide hK
    have HP := hide hperm
    clear hb1 hr1 hbw hK hperm hE hsz
    go_wp2
    refine ⟨by simp, .inl ⟨_, _, rfl, run_takeDeferred HK.out, ?_⟩⟩
    exact ⟨_, results_tmp rfl _ _ _, v, ys, rfl, grow_kept HR1.out (grownBy_putObj' W D' (.deferred none)) (fun r e => by cases e; exact ⟨_, HK.out, rfl⟩), HP.out, HBW.out.trans (belowK_b (w := w) (Nat.le_refl _) _ D' _ _ hDw HK.out rfl rfl)⟩
end
end Go.Proofs.Ytdkbjnnflpopdaa
