/-
  WaitDoes: one call of the law's does: Sleep, of a copy of the channels that is then overwritten.
-/
import Derived.Test.YtokclkiidhcffaaWqDoes2
namespace Go.Proofs.Ytokclkiidhcffaa
open Go.ChangeShapes Go.WideShapes Go.ChangeAt Go.RowKit Go.Maps
set_option linter.unusedVariables false
section
variable {w0 w w' W : World} {g r m m' : Nat} {s s' : LW} {R R' : List SE} {xs ys F F' S : List Nat}
theorem wpList_copy_chans {ops : Array Oper} {rest : List Oper} {o : Oper} {a : Act} {zs : List CH} {Q : Exit → Act → World → Prop} (hgd : o.guard = none) (sv y : Operand)
    (ho : o.op = .call { callee := .builtin .append, args := #[sv, y], argTypes := #[30, 30] }) (k0 : Nat) (hs : a.eval sv = .slice (some ⟨k0, 0, none⟩) 0 0) (hr : CRw w (.slice (some ⟨k0, 0, none⟩) 0 0) []) (A : Option Addr) (n c : Nat)
    (hx : a.eval y = .slice A n c) (hA : A = none → n = 0 ∧ c = 0) (hl : zs.length = n) (hz : ∀ ad, A = some ad → ∀ j u, (flatC zs)[j]? = some u → w.cell? (ad.add j) = some u) (hbig : n * 24 ≤ 140737488355328)
    (hK : ∀ A' c' w2, CRw w2 (.slice A' n c') zs → Only [k0] w w2 → (∀ k, (Value.slice A' n c').ownBlock = some k → k = k0 ∨ w.heap.size ≤ k) → wpList Try.prog ops Q rest (a.put o.dst (.slice A' n c')) w2) : wpList Try.prog ops Q (o :: rest) a w :=
  wpList_plain hgd fun K hK' => by
    obtain ⟨i0, hi0, hz0, hz1, hz2⟩ := info_parts info_chan3
    subst hl
    rcases A with _ | ad
    · obtain ⟨h0, h1⟩ := hA rfl
      obtain rfl : zs = [] := List.eq_nil_of_length_eq_zero h0
      subst h1
      have hrun := run_append_owned_none (P := Try.prog) (w := w) 0 30 o.type 32 i0 3 Try.underlying30 hi0 _ ([] : List CH).length (flatC []) hr
      unfold Oper.wp
      have hx' : a.eval y = .slice none 0 0 := hx
      simp [execOp, ho, resolve, invoke, builtin, hs, hx', hrun, Result.andThen]
      exact hK' _ _ (hK _ 0 w hr (Only.refl _ _) (fun k hk => .inl (by simp [Value.ownBlock] at hk; exact hk.symm)))
    · obtain ⟨v', w', hrun, h2, h3, _, h5⟩ := run_append_own_at (P := Try.prog) w 0 30 o.type 32 i0 _ 3 24 Try.underlying30 hi0 hz0 hz1 hz2 rfl (by decide) _ ([] : List CH).length (flatC []) hr ad zs.length c (flatC zs) (flatC_length zs) (hz ad rfl) (flatC_one _) (by unfold maxLen; simp; omega) (by simpa using hbig) (Nat.zero_le _)
      unfold Oper.wp
      simp [execOp, ho, resolve, invoke, builtin, hs, hx, hrun, Result.andThen]
      have hr' : CRw w' v' zs := by
        have h2' := h2
        rw [List.length_nil, Nat.zero_add, flatC_nil, List.nil_append] at h2'
        exact h2'
      obtain ⟨A', c', e, _⟩ := hr'.form
      subst e
      refine hK' _ _ (hK A' c' w' hr' ((only_grown' h3).mono (by simp [Value.ownBlock])) (fun k hk => ?_))
      rcases h5 with h5 | h5
      · rw [h5] at hk
        simp [Value.ownBlock] at hk
        exact .inl hk.symm
      · rw [h5] at hk
        injection hk with hk
        exact .inr (Nat.le_of_eq hk)
theorem Bm.growO (h : Bm w0 w g r m s R xs F) (ho : Only [] w w') {o : Option Nat} (hb : ∀ k, o = some k → w.heap.size ≤ k ∧ k < w'.heap.size) : Bm w0 w' g r m s R (o.toList ++ xs) F := by
  rcases o with _ | k
  · exact h.quiet ho
  · exact h.grow ho (hb k rfl).1 (hb k rfl).2
theorem Bm.ge (h : Bm w0 w g r m s R xs F) {k : Nat} (hk : k ∈ F) : w0.heap.size ≤ k := by
  obtain ⟨G, hq⟩ := h.q
  exact (hq.bs k (by simp [hk])).1
/-- A row of n channels whose second cells are ints. -/
def OwnAt (W : World) (A : Option Addr) (n : Nat) (B : Nat) (zs : List Nat) : Prop := 0 < n → ∃ b cs, A = some ⟨b, 0, none⟩ ∧ B ≤ b ∧ b ∈ zs ∧ Blk W b 32 cs ∧ ∀ j, j < n → ∃ z, cs[j * 3 + 1]? = some (.int .i64 z)
theorem ownC_at {A : Option Addr} {n c B : Nat} {l : List CH} (h : CRw W (.slice A n c) l) (hl : l.length = n) (hB : ∀ k, (Value.slice A n c).ownBlock = some k → B ≤ k) (hz : ∀ k, (Value.slice A n c).ownBlock = some k → k ∈ ys) : OwnAt W A n B ys := fun hn => by
  obtain ⟨b, cap, cur, e, hb, _⟩ := h.blk (by omega)
  injection e with e1 e2 e3
  subst e1
  refine ⟨b, _, rfl, hB b rfl, hz b rfl, hb, fun j hj => ?_⟩
  have hj' : j < l.length := by omega
  refine ⟨l[j].a, ?_⟩
  have := flatC_get (ss := l) (i := j) (s := l[j]) (by simp [hj']) (k := 1) (u := .int .i64 l[j].a) rfl
  rw [List.getElem?_toArray, List.getElem?_append_left (List.getElem?_eq_some_iff.1 this).1]
  exact this
theorem OwnAt.same {A : Option Addr} {n B : Nat} (h : OwnAt w A n B ys) (hs : ∀ k ∈ ys, w'.heap[k]? = w.heap[k]?) : OwnAt w' A n B ys := fun hn => by
  obtain ⟨b, cs, e, hB, hz, hb, hc⟩ := h hn
  exact ⟨b, cs, e, hB, hz, (hs b hz).trans hb, hc⟩
set_option maxHeartbeats 2000000 in
set_option maxRecDepth 100000 in
theorem does_sleep (h : Bm w0 w g r m s R xs F) (hR : RelW s R) (hm : m < 100000000000000000) {x : OP12} (hx : x.Ok w0) (hw : x.c * 24 ≤ reachBytes) (h0 : x.kind = 0) :
    Calls Try.prog 12 #[.pointer (some ⟨g, 0, none⟩), .pointer (some ⟨r, 0, none⟩), .agg x.cells.toArray] w fun e w' => e = .returned (.bool true) ∧ DidB w0 w w' g r (m + 1) xs := by
  have k0 : (x.kind == 0) = true := by simp [h0]
  have hB := h.add (.cells x.cells.toArray 34)
  have hBX := Blk.new w 34 x.cells.toArray
  have HX := hide (fun (W : World) (hW : ∀ k ∈ w.heap.size :: xs, W.heap[k]? = (w.alloc (.cells x.cells.toArray 34)).heap[k]?) => opD_cells (x := x) ((hW w.heap.size (by simp)).trans hBX))
  have HT := hide (fun (W : World) (hW : ∀ k ∈ w.heap.size :: xs, W.heap[k]? = (w.alloc (.cells x.cells.toArray 34)).heap[k]?) => (show ∀ k ∈ xs, W.heap[k]? = w.heap[k]? from fun k hk => (hW k (by simp [hk])).trans (((Only.refl [] w).alloc _).block k (h.lt hk) (by simp))))
  have HLT := hide (fun (k : Nat) (hk : k ∈ w.heap.size :: xs) => (show k < w.heap.size + 1 from (List.mem_cons.1 hk).elim (fun e => by omega) (fun hk => by have := h.lt hk; omega)))
  have hO2 : Only [] (w.alloc (.cells x.cells.toArray 34)) ((w.alloc (.cells x.cells.toArray 34)).alloc (.cells #[] 32)) := (Only.refl [] _).alloc _
  have hsz1 : (w.alloc (.cells x.cells.toArray 34)).heap.size = w.heap.size + 1 := by simp
  have HE := hide (show CRw ((w.alloc (.cells x.cells.toArray 34)).alloc (.cells #[] 32)) (.slice (some ⟨w.heap.size + 1, 0, none⟩) 0 0) [] from by
    have := crow_empty (Blk.new (w.alloc (.cells x.cells.toArray 34)) 32 #[])
    rwa [hsz1] at this)
  have HXA := hide (fun (W : World) (hW : Only [] w0 W) (hp : 0 < x.l.length) => (show ChansAt W (.slice x.A x.l.length x.c) x.l ∧ ∃ b o, x.A = some ⟨b, o, none⟩ ∧ b < W.heap.size from by
    obtain ⟨hc, b, o, e, hb⟩ := hx.at_ hp
    exact ⟨hc.quiet hW, b, o, e, Nat.lt_of_lt_of_le hb hW.size⟩))
  have HZ := hide (show ∀ ad, x.A = some ad → ∀ j u, (flatC x.l)[j]? = some u → ((w.alloc (.cells x.cells.toArray 34)).alloc (.cells #[] 32)).cell? (ad.add j) = some u from fun ad hA j u hu => by
    have hp : 0 < x.l.length := by
      have := (List.getElem?_eq_some_iff.1 hu).1
      rw [flatC_length] at this
      omega
    obtain ⟨hc, _⟩ := HXA.out _ (hB.base.trans hO2) hp
    rcases hc with ⟨_, e⟩ | ⟨b, o, c, e, _, hc⟩
    · rw [e] at hp; simp at hp
    · injection e with e _ _
      rw [hA] at e
      injection e with e
      subst e
      rw [add_at]
      exact hc j u hu)
  have HAF := hide (fun (F' : List Nat) (W : World) (s' : LW) (m' : Nat) (zs : List Nat) (hb : Bm w0 W g r m' s' R zs F') (hp : 0 < x.l.length) (b o : Nat) (e : x.A = some ⟨b, o, none⟩) => (show b ∉ F' from fun hm => by
    obtain ⟨_, b', o', e', hb'⟩ := hx.at_ hp
    rw [e] at e'
    injection e' with e'
    injection e' with e1 _
    subst e1
    have := hb.ge hm
    omega))
  have HCAP := hide hx.cap
  have HNIL := hide hx.nil_
  have HW24 := hide (show x.l.length * 24 ≤ 140737488355328 from by have := hx.cap; unfold reachBytes at hw; omega)
  -- behind the copy
  have HOWN := hide (fun (A' : Option Addr) (c' : Nat) (w2 : World) (hr : CRw w2 (.slice A' x.l.length c') x.l) (ho : Only [w.heap.size + 1] ((w.alloc (.cells x.cells.toArray 34)).alloc (.cells #[] 32)) w2) (hk : ∀ k, (Value.slice A' x.l.length c').ownBlock = some k → k = w.heap.size + 1 ∨ ((w.alloc (.cells x.cells.toArray 34)).alloc (.cells #[] 32)).heap.size ≤ k) =>
    (show Calls Try.prog 13 #[.pointer (some ⟨g, 0, none⟩), .int .i64 x.tid, .slice A' x.l.length c'] w2 (fun e w' => e = .returned (.int .i64 (sleepE s x.tid x.l)) ∧ ∃ zs, Bm w0 w' g r (m + 1) (sleepS s x.tid x.l) R (zs ++ w.heap.size :: xs) F ∧ (∀ k ∈ w.heap.size :: xs, w'.heap[k]? = (w.alloc (.cells x.cells.toArray 34)).heap[k]?) ∧ OwnAt w' A' x.l.length (w.heap.size + 1) (zs ++ w.heap.size :: xs)) from by
      have ho1 : Only [] (w.alloc (.cells x.cells.toArray 34)) w2 := hO2.trans' ho (fun k hk hm => by simp at hm; omega)
      have hkk : ∀ k, (Value.slice A' x.l.length c').ownBlock = some k → w.heap.size + 1 ≤ k := fun k h => by
        rcases hk k h with h | h
        · omega
        · simp at h; omega
      have hb2 := hB.growO ho1 (o := (Value.slice A' x.l.length c').ownBlock) (fun k h => ⟨by rw [hsz1]; exact hkk k h, (hr.at_ h).1⟩)
      have hcap : x.l.length ≤ c' := by
        rcases Nat.eq_zero_or_pos x.l.length with h | h
        · omega
        · obtain ⟨b, cap, cur, e, _, _, hc, _⟩ := hr.blk h
          injection e with _ _ e3
          omega
      refine (bm_sleep hb2 hm hx.tid rfl hcap (fun _ => hr.sees) (fun hp b o e => ?_) hx.l).mono ?_
      · obtain ⟨b', cap, cur, e', _⟩ := hr.blk hp
        injection e' with e1 _ _
        rw [e] at e1
        injection e1 with e1
        injection e1 with e1 e2
        subst e; subst e2
        simp [Value.ownBlock]
      · rintro e w' ⟨rfl, hb, hs⟩
        refine ⟨rfl, _, hb, fun k hk => (hs k (by simp only [List.mem_append]; exact .inr hk)).trans (ho1.block k (hB.lt hk) (by simp)), ?_⟩
        exact (ownC_at hr rfl hkk (fun k hk => by simp [hk])).same hs))
  have HC2 := hide (fun (w2 : World) (ho : Only [w.heap.size + 1] ((w.alloc (.cells x.cells.toArray 34)).alloc (.cells #[] 32)) w2) => (show ∀ k ∈ w.heap.size :: xs, w2.heap[k]? = (w.alloc (.cells x.cells.toArray 34)).heap[k]? from fun k hk => (ho.block k (by have := hB.lt hk; simp; rw [hsz1] at this; omega) (by have := HLT.out k hk; simp; omega)).trans (hO2.block k (hB.lt hk) (by simp))))
  have HRS := hide (fun (W : World) (s' : LW) (m' : Nat) (zs : List Nat) (hb : Bm w0 W g r m' s' R zs F) => bx_sleep hb hR x.tid rfl hx.cap (HXA.out W hb.base) (HAF.out F W s' m' zs hb))
  have HD := hide (fun (W : World) (F' zs : List Nat) (hb : Bm w0 W g r (m + 1) (sleepS s x.tid x.l) (sleepRf s R x.tid x.l) (zs ++ w.heap.size :: xs) F') (hs : ∀ k ∈ xs, W.heap[k]? = w.heap[k]?) => (show DidB w0 w W g r (m + 1) xs from ⟨_, _, F', hb.less (fun k hk => by simp [hk]), hR.sleep _ _, hs⟩))
  generalize sleepE s x.tid x.l = eE at *
  generalize sleepS s x.tid x.l = s2 at *
  clear h hB hBX hR h0 hO2 hsz1 hx hw HXA HAF hm
  unfold OP12.cells at *
  go_enter Try.func12, Try.ntmps12
  obtain ⟨d0, d1, d2, d3, d4, d5, d6, d7, d8, d9⟩ := HX.out (w.alloc _) (fun _ _ => rfl)
  go_wp2_with (first | (at_builtin; refine wpList_copy_chans rfl _ _ rfl (w.heap.size + 1) rfl HE.out x.A x.l.length x.c rfl HNIL.out rfl HZ.out HW24.out ?_; intro A' c' w2 hr ho hk; have HS := hide (HOWN.out A' c' w2 hr ho hk); obtain ⟨c0, c1, c2, c3, c4, c5, c6, c7, c8, c9⟩ := HX.out w2 (HC2.out w2 ho); clear hr ho hk) | (go_at_call 13; refine HS.out.mono ?_; rintro e w3 ⟨rfl, zs, hb, hs, hown⟩; have HB3 := hide hb; have HS3 := hide hs; have HW3 := hide hown; clear hb hs hown))
  go_loopw [26] (fun iv wr => ∃ i : Nat, i ≤ x.l.length ∧ iv = .int .i64 i ∧ Bm w0 wr g r (m + 1) s2 R (zs ++ w.heap.size :: xs) F ∧ (∀ k ∈ w.heap.size :: xs, wr.heap[k]? = w3.heap[k]?) ∧ OwnAt wr A' x.l.length (w.heap.size + 1) (zs ++ w.heap.size :: xs)) (fun iv _ => x.l.length - (intOf iv).toNat)
  case atStart => exact ⟨0, Nat.zero_le _, rfl, HB3.out, fun _ _ => rfl, HW3.out⟩
  case round =>
    obtain ⟨i, hi, rfl, hb, hs, hown⟩ := hrel
    by_cases hlt : i < x.l.length
    · have hltI : (i : Int) < x.l.length := by omega
      obtain ⟨b, cs, rfl, hBb, hbz, hblk, hcs⟩ := hown (by omega)
      obtain ⟨z, hz⟩ := hcs i hlt
      have hcell : wr.cell? ⟨b, i * 3 + 1, none⟩ = some (.int .i64 z) := (hblk.cell (i * 3 + 1)).trans hz
      have hfz := hblk.frozen (i * 3 + 1)
      have HST := hide (fun (v : Int) => (show Bm w0 (wr.setCell ⟨b, i * 3 + 1, none⟩ (.int .i64 v)) g r (m + 1) s2 R (zs ++ w.heap.size :: xs) F ∧ (∀ k ∈ w.heap.size :: xs, (wr.setCell ⟨b, i * 3 + 1, none⟩ (.int .i64 v)).heap[k]? = w3.heap[k]?) ∧ OwnAt (wr.setCell ⟨b, i * 3 + 1, none⟩ (.int .i64 v)) (some ⟨b, 0, none⟩) x.l.length (w.heap.size + 1) (zs ++ w.heap.size :: xs) from by
        have ho : Only [b] wr (wr.setCell ⟨b, i * 3 + 1, none⟩ (.int .i64 v)) := (Only.refl [b] wr).setCell (p := ⟨b, i * 3 + 1, none⟩) _ (by simp)
        refine ⟨hb.other ho (by simpa using hbz), fun k hk => (ho.block k (hb.lt (List.mem_append.2 (.inr hk))) (by have := HLT.out k hk; simp; omega)).trans (hs k hk), fun _ => ⟨b, _, rfl, hBb, hbz, hblk.set_ (i * 3 + 1) (.int .i64 v), fun j hj => ?_⟩⟩
        have hsz : i * 3 + 1 < cs.size := (Array.getElem?_eq_some_iff.1 hz).1
        by_cases e : j = i
        · subst e
          exact ⟨v, by simp [hsz]⟩
        · obtain ⟨z', hz'⟩ := hcs j hj
          exact ⟨z', by rw [Array.getElem?_setIfInBounds_ne (by omega)]; exact hz'⟩))
      have HI := hide (show i < 100000000000000 from by have := HW24.out; omega)
      clear hb hs hown hcs hblk hBb hbz hz
      go_wp2
      rw [show wrap64 ((i : Int) + 1) = ((i + 1 : Nat) : Int) by have := HI.out; rw [wrap64]; omega]
      refine ⟨⟨i + 1, hlt, rfl, HST.out _⟩, ?_⟩
      simp [intOf]
      omega
    · obtain rfl : i = x.l.length := by omega
      have HBR := hide hb
      have hs5 : ∀ k ∈ w.heap.size :: xs, wr.heap[k]? = (w.alloc (.cells [.int .i64 x.kind, .int .i64 x.tid, .slice x.A x.l.length x.c, .int .i64 x.f.kind, .int .i64 x.f.a, .int .i64 x.f.b, .int .i64 x.g.kind, .int .i64 x.g.a, .int .i64 x.g.b, .int .i64 x.n].toArray 34)).heap[k]? := fun k hk => (hs k hk).trans (HS3.out k hk)
      obtain ⟨f0, f1, f2, f3, f4, f5, f6, f7, f8, f9⟩ := HX.out wr hs5
      have HS5 := hide hs5
      clear hb hs hown hs5 hi hlt
      go_wp2_with (go_at_call 24; refine (HRS.out wr _ _ _ HBR.out).mono ?_; rintro e w5 ⟨rfl, F5, hb5, hs5⟩; have HB5 := hide hb5; have HK5 := hide hs5; clear hb5 hs5)
      go_ret
      refine ⟨by simp, HD.out _ _ zs HB5.out (HT.out _ (fun k hk => (HK5.out k (List.mem_append.2 (.inr hk))).trans (HS5.out k hk)))⟩
end
end Go.Proofs.Ytokclkiidhcffaa
