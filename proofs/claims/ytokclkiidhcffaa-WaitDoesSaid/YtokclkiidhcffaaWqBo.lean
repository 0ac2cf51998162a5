/-
  WaitDoes: the queue and the document's queue in one world ('Bm'), beside the law's own blocks xs; each call of either.
-/
import Derived.Test.YtokclkiidhcffaaWqSameC
namespace Go.Proofs.Ytokclkiidhcffaa
open Go.ChangeShapes Go.WideShapes Go.ChangeAt Go.RowKit Go.Maps
set_option linter.unusedVariables false
section
variable {w0 w w' W : World} {g r f m m' : Nat} {s s' : LW} {R R' : List SE} {xs bs F F' S : List Nat}
theorem Rf.same (h : Rf w r R F) (hs : ∀ k ∈ F, w'.heap[k]? = w.heap[k]?) : Rf w' r R F := by
  obtain ⟨v, h1, h2, rfl⟩ := h
  refine ⟨v, (hs r (by simp)).trans h1, ⟨h2.1, ?_⟩, rfl⟩
  rcases h2.2 with h0 | ⟨b, cap, cur, e, hB, hg, rest⟩
  · exact .inl h0
  · exact .inr ⟨b, cap, cur, e, hB, (hs b (by simp [e, Value.ownBlock])).trans hg, rest⟩
theorem ZsAt.same {v : Value} {zs : List Int} (h : ZsAt w v zs) (hs : ∀ b o n c, v = .slice (some ⟨b, o, none⟩) n c → w'.heap[b]? = w.heap[b]?) : ZsAt w' v zs := by
  obtain ⟨A, c, rfl, h1, h2, h3⟩ := h
  refine ⟨A, c, rfl, h1, h2, fun ad ha => ?_⟩
  obtain ⟨b, o, rfl, hb, hc⟩ := h3 ad ha
  have hbk := hs b o _ _ (by rw [ha])
  refine ⟨b, o, rfl, ?_, fun j u hu => (World.cell?_of_block (w := w) (a := ⟨b, o + j, none⟩) hbk).trans (hc j u hu)⟩
  rcases Nat.lt_or_ge b w'.heap.size with h | h
  · exact h
  · rw [Array.getElem?_eq_none h, Array.getElem?_eq_getElem hb] at hbk
    cases hbk
/-- The queue and the document's, both made behind w0. -/
structure Bm (w0 w : World) (g r m : Nat) (s : LW) (R : List SE) (xs F : List Nat) : Prop where
  q : LQ w0 w g s m (xs ++ F)
  x : Rf w r R F
  ap : ∀ k ∈ xs, k ∉ F
theorem Bm.base (h : Bm w0 w g r m s R xs F) : Only [] w0 w := h.q.base
theorem Bm.lt (h : Bm w0 w g r m s R xs F) {k : Nat} (hk : k ∈ xs) : k < w.heap.size := h.q.lt (by simp [hk])
theorem Bm.didq (h : Bm w0 w g r m s R xs F) (hd : DidQ w0 w w' g s' m' (xs ++ F)) : Bm w0 w' g r m' s' R xs F ∧ ∀ k ∈ xs, w'.heap[k]? = w.heap[k]? :=
  ⟨⟨hd.1, h.x.same (fun k hk => hd.2 k (by simp [hk])), h.ap⟩, fun k hk => hd.2 k (by simp [hk])⟩
theorem LQ.turn (h : LQ w0 w g s m (xs ++ F)) (hT : TurnW w w' F F') (hl : ∀ k ∈ F', k < w'.heap.size) : LQ w0 w' g s m (xs ++ F') := by
  obtain ⟨G, h⟩ := h
  have hsz := h.base.size
  refine ⟨G, h.q.only hT.only (fun k hk hm => (h.own k hk).2 (by simp [hm])), fun q hq => ⟨(h.own q hq).1, fun hm => ?_⟩, h.base.trans' hT.only (fun k hk hm => by have := (h.bs k (by simp [hm])).1; omega), fun b hb => ?_, h.ok, h.few⟩
  · rcases List.mem_append.1 hm with hm | hm
    · exact (h.own q hq).2 (by simp [hm])
    · rcases hT.foot q hm with hm | hm
      · exact (h.own q hq).2 (by simp [hm])
      · have := h.q.lt hq; omega
  · rcases List.mem_append.1 hb with hb | hb
    · have := h.bs b (by simp [hb]); exact ⟨this.1, Nat.lt_of_lt_of_le this.2 hT.only.size⟩
    · refine ⟨?_, hl b hb⟩
      rcases hT.foot b hb with hb | hb
      · exact (h.bs b (by simp [hb])).1
      · omega
theorem Bm.turn (h : Bm w0 w g r m s R xs F) (h1 : Rf w' r R' F') (h2 : TurnW w w' F F') : Bm w0 w' g r m s R' xs F' ∧ ∀ k ∈ xs, w'.heap[k]? = w.heap[k]? := by
  refine ⟨⟨h.q.turn h2 (fun k hk => h1.lt hk), h1, fun k hk hm => ?_⟩, fun k hk => h2.only.block k (h.lt hk) (h.ap k hk)⟩
  rcases h2.foot k hm with h3 | h3
  · exact h.ap k hk h3
  · have := h.lt hk; omega
theorem Bm.didx (h : Bm w0 w g r m s R xs F) (hd : DidF w w' r F R') : ∃ F', Bm w0 w' g r m s R' xs F' ∧ ∀ k ∈ xs, w'.heap[k]? = w.heap[k]? := by
  obtain ⟨F', h1, h2⟩ := hd
  exact ⟨F', h.turn h1 h2⟩
theorem Bm.quiet (h : Bm w0 w g r m s R xs F) (ho : Only [] w w') : Bm w0 w' g r m s R xs F := ⟨h.q.quiet ho, h.x.quiet ho, h.ap⟩
theorem Bm.grow (h : Bm w0 w g r m s R xs F) (ho : Only [] w w') {b : Nat} (hb : w.heap.size ≤ b) (hb' : b < w'.heap.size) : Bm w0 w' g r m s R (b :: xs) F := by
  refine ⟨h.q.grow ho hb hb', h.x.quiet ho, fun k hk hm => ?_⟩
  rcases List.mem_cons.1 hk with rfl | hk
  · have := h.x.lt hm; omega
  · exact h.ap k hk hm
theorem Bm.add (h : Bm w0 w g r m s R xs F) (o : Obj) : Bm w0 (w.alloc o) g r m s R (w.heap.size :: xs) F := h.grow ((Only.refl [] w).alloc o) (Nat.le_refl _) (by simp)
theorem Bm.less (h : Bm w0 w g r m s R xs F) {ys : List Nat} (hs : ∀ k ∈ ys, k ∈ xs) : Bm w0 w g r m s R ys F := ⟨h.q.less (fun k hk => by
    rcases List.mem_append.1 hk with hk | hk
    · simp [hs k hk]
    · simp [hk]), h.x, fun k hk => h.ap k (hs k hk)⟩
theorem Bm.more (h : Bm w0 w g r m s R xs F) (hm : m ≤ m') : Bm w0 w g r m' s R xs F := ⟨h.q.more hm, h.x, h.ap⟩
theorem Bm.other (h : Bm w0 w g r m s R xs F) (ho : Only S w w') (hs : ∀ k ∈ S, k ∈ xs) : Bm w0 w' g r m s R xs F :=
  ⟨h.q.other ho (fun k hk => by simp [hs k hk]), h.x.only ho (fun k hk hm => h.ap k (hs k hm) hk), h.ap⟩
theorem bm_wake (h : Bm w0 w g r m s R xs F) (hm : m < 100000000000000000) {c : CH} (hc : c.wf) (n : Int) :
    Calls Try.prog 10 #[.pointer (some ⟨g, 0, none⟩), kV c, .int .i64 n] w fun e w' => ∃ v ys, e = .returned v ∧ Bm w0 w' g r m (wakeS s c n) R (ys ++ xs) F ∧ (∀ k ∈ xs, w'.heap[k]? = w.heap[k]?) ∧ ∀ W, (∀ k ∈ ys, W.heap[k]? = w'.heap[k]?) → ZsAt W v ((atL s.2 c).take (wakeK s c n)) := by
  refine (lq_wwake h.q hm hc n).mono ?_
  rintro e w' ⟨v, rfl, hz, hn, F', hf, hF, hb⟩
  obtain ⟨A, cp, rfl, h1, h2, h3⟩ := id hz
  have hb1 := (h.didq ⟨⟨F', hf⟩, hb⟩)
  rcases A with _ | ad
  · exact ⟨_, [], rfl, hb1.1, hb1.2, fun W _ => hz.same (fun b o n c e => by injection e with e; cases e)⟩
  · obtain ⟨b, o, rfl, hlt, _⟩ := h3 ad rfl
    have hbn := hn _ _ _ _ rfl
    have hbF := hF _ _ _ _ rfl
    have hsz := h.base.size
    refine ⟨_, [b], rfl, ⟨⟨F', hf.q, fun q hq => ⟨(hf.own q hq).1, fun hm => ?_⟩, hf.base, fun x hx => ?_, hf.ok, hf.few⟩, hb1.1.x, fun k hk hm => ?_⟩, hb1.2, fun W hW => hz.same (fun b' o' n' c' e => by injection e with e; injection e with e; injection e with e1 _; subst e1; exact hW b (by simp))⟩
    · rcases List.mem_cons.1 hm with rfl | hm
      · exact hbF hq
      · exact (hf.own q hq).2 hm
    · rcases List.mem_cons.1 hx with rfl | hx
      · exact ⟨by omega, hlt⟩
      · exact hf.bs x hx
    · rcases List.mem_cons.1 hk with rfl | hk
      · have := h.x.lt hm; omega
      · exact h.ap k hk hm
theorem bx_wake (h : Bm w0 w g r m s R xs F) (hn : R.length ≤ 1024) (c : CH) (n : Int) :
    Calls Try.prog 25 #[.pointer (some ⟨r, 0, none⟩), kV c, .int .i64 n] w fun e w' => ∃ v ys F', e = .returned v ∧ Bm w0 w' g r m s (canAll R ((slpR R c).take (min n.toNat (slpR R c).length))) (ys ++ xs) F' ∧ (∀ k ∈ xs, w'.heap[k]? = w.heap[k]?) ∧ ∀ W, (∀ k ∈ ys, W.heap[k]? = w'.heap[k]?) → ZsAt W v ((slpR R c).take (min n.toNat (slpR R c).length)) := by
  refine (xwake_is h.x hn c n).mono ?_
  rintro e w' ⟨v, rfl, hr, F', h1, h2, h3⟩
  obtain ⟨hb, hx⟩ := h.turn h1 h2
  have hz := hr.sees
  obtain ⟨A, cp, rfl, _, _, h4⟩ := hr.form2
  rcases A with _ | ad
  · exact ⟨_, [], F', rfl, hb, hx, fun W _ => hz.same (fun b o n c e => by injection e with e; cases e)⟩
  · obtain ⟨b, rfl, hlt, _⟩ := h4.2 ad rfl
    obtain ⟨hbn, hbF⟩ := h3 b rfl
    have hq := h.q.turn (F' := b :: F') ⟨h2.only, fun k hk => (List.mem_cons.1 hk).elim (fun e => .inr (e ▸ hbn)) (h2.foot k)⟩ (fun k hk => (List.mem_cons.1 hk).elim (fun e => e ▸ hlt) (fun hk => h1.lt hk))
    refine ⟨_, [b], F', rfl, ⟨hq.less (fun k hk => ?_), h1, fun k hk hm => ?_⟩, hx, fun W hW => hz.same (fun b' o' n' c' e => by injection e with e; injection e with e; injection e with e1 _; subst e1; exact hW b (by simp))⟩
    · simp only [List.cons_append, List.nil_append, List.mem_cons, List.mem_append] at hk ⊢
      rcases hk with hk | hk | hk
      · exact .inr (.inl hk)
      · exact .inl hk
      · exact .inr (.inr hk)
    · rcases List.mem_cons.1 hk with rfl | hk
      · exact hbF hm
      · exact hb.ap k hk hm
/-- The other calls. -/
theorem bm_sleep (h : Bm w0 w g r m s R xs F) (hm : m < 100000000000000000) {t : Int} (ht : iW t) {A : Option Addr} {n c : Nat} {l : List CH} (hl : l.length = n) (hcap : n ≤ c) (hat : 0 < n → ChansAt w (.slice A n c) l) (hA : 0 < n → ∀ b o, A = some ⟨b, o, none⟩ → b ∈ xs) (hwf : ∀ x ∈ l, x.wf) :
    Calls Try.prog 13 #[.pointer (some ⟨g, 0, none⟩), .int .i64 t, .slice A n c] w fun e w' => e = .returned (.int .i64 (sleepE s t l)) ∧ Bm w0 w' g r (m + 1) (sleepS s t l) R xs F ∧ ∀ k ∈ xs, w'.heap[k]? = w.heap[k]? := by
  refine (lq_wsleep h.q hm ht hl hcap hat (fun hp b o e => .inr (by simp [hA hp b o e])) hwf).mono ?_
  rintro e w' ⟨rfl, hd⟩
  exact ⟨rfl, h.didq hd⟩
theorem bm_cancel (h : Bm w0 w g r m s R xs F) (hm : m < 100000000000000000) {t : Int} (ht : iW t) :
    Calls Try.prog 11 #[.pointer (some ⟨g, 0, none⟩), .int .i64 t] w fun e w' => e = .returned (.bool (decide (t ∈ s.1.map (·.1)))) ∧ Bm w0 w' g r m (offS s t) R xs F ∧ ∀ k ∈ xs, w'.heap[k]? = w.heap[k]? := by
  refine (lq_wcancel h.q hm ht).mono ?_
  rintro e w' ⟨rfl, hd⟩
  exact ⟨rfl, h.didq hd⟩
theorem bm_move (h : Bm w0 w g r m s R xs F) (hm : m < 100000000000000000) {c d : CH} (hc : c.wf) (hd : d.wf) (n : Int) :
    Calls Try.prog 15 #[.pointer (some ⟨g, 0, none⟩), kV c, kV d, .int .i64 n] w fun e w' => e = .returned (.int .i64 (moveQ s c d n).2) ∧ Bm w0 w' g r (m + 1) (moveQ s c d n).1 R xs F ∧ ∀ k ∈ xs, w'.heap[k]? = w.heap[k]? := by
  refine (lq_wmove h.q hm hc hd n).mono ?_
  rintro e w' ⟨rfl, hd⟩
  exact ⟨rfl, h.didq hd⟩
theorem bx_sleep (h : Bm w0 w g r m s R xs F) {s0 : LW} (hR : RelW s0 R) (t : Int) {A : Option Addr} {n c : Nat} {l : List CH} (hl : l.length = n) (hcap : n ≤ c) (hat : 0 < n → ChansAt w (.slice A n c) l ∧ ∃ b o, A = some ⟨b, o, none⟩ ∧ b < w.heap.size) (hAF : 0 < n → ∀ b o, A = some ⟨b, o, none⟩ → b ∉ F) :
    Calls Try.prog 24 #[.pointer (some ⟨r, 0, none⟩), .int .i64 t, .slice A n c] w fun e w' => e = .returned (.int .i64 (sleepE s0 t l)) ∧ ∃ F', Bm w0 w' g r m s (sleepRf s0 R t l) xs F' ∧ ∀ k ∈ xs, w'.heap[k]? = w.heap[k]? := by
  refine (xsleep_is h.x hR t hl hcap hat hAF).mono ?_
  rintro e w' ⟨rfl, hd⟩
  exact ⟨rfl, h.didx hd⟩
theorem bx_cancel (h : Bm w0 w g r m s R xs F) (hn : R.length ≤ 1024) (t : Int) :
    Calls Try.prog 26 #[.pointer (some ⟨r, 0, none⟩), .int .i64 t] w fun e w' => e = .returned (.bool (decide ((canR R t).length < R.length))) ∧ ∃ F', Bm w0 w' g r m s (canR R t) xs F' ∧ ∀ k ∈ xs, w'.heap[k]? = w.heap[k]? := by
  refine (xcan_is h.x hn t).mono ?_
  rintro e w' ⟨rfl, hd⟩
  exact ⟨rfl, h.didx hd⟩
theorem bx_move (h : Bm w0 w g r m s R xs F) {s0 : LW} (hR : RelW s0 R) (c d : CH) (n : Int) :
    Calls Try.prog 27 #[.pointer (some ⟨r, 0, none⟩), kV c, kV d, .int .i64 n] w fun e w' => e = .returned (.int .i64 (moveR c d n R).2) ∧ ∃ F', Bm w0 w' g r m s (moveR c d n R).1 xs F' ∧ ∀ k ∈ xs, w'.heap[k]? = w.heap[k]? := by
  refine (xmove_is h.x hR c d n).mono ?_
  rintro e w' ⟨rfl, hd⟩
  exact ⟨rfl, h.didx hd⟩
end
/-! Fork: the same lists in another order. -/
theorem atL_perm {κ α : Type} [DecidableEq κ] {L L' : List (κ × List α)} (hn : (L.map (·.1)).Nodup) (hp : L'.Perm L) (k : κ) : atL L' k = atL L k := by
  have hn' : (L'.map (·.1)).Nodup := (hp.map _).nodup_iff.2 hn
  by_cases h : k ∈ L.map (·.1)
  · obtain ⟨p, hm, rfl⟩ := List.mem_map.1 h
    rw [atL_of_mem hn hm, atL_of_mem hn' (hp.mem_iff.2 hm)]
  · rw [atL_none h, atL_none (fun hm => h ((hp.map _).mem_iff.1 hm))]
theorem RelW.perm {s s' : LW} {R : List SE} (h : RelW s R) (h1 : s'.1.Perm s.1) (h2 : s'.2.Perm s.2) : RelW s' R := by
  have e1 := fun k => atL_perm h.ok.k1 h1 k
  have e2 := fun k => atL_perm h.ok.k2 h2 k
  refine ⟨⟨(h1.map _).nodup_iff.2 h.ok.k1, (h2.map _).nodup_iff.2 h.ok.k2, fun t c => ?_, fun p hp => h.ok.ne1 p (h1.mem_iff.1 hp), fun p hp => h.ok.on16 p (h1.mem_iff.1 hp), fun t => ?_, fun c => ?_, ?_⟩, fun x => ?_, h.nd, fun c => ?_⟩
  · rw [e1, e2]; exact h.ok.both t c
  · rw [e1]; exact h.ok.nd1 t
  · rw [e2]; exact h.ok.nd2 c
  · rw [h1.length_eq]; exact h.ok.few
  · rw [e1]; exact h.at_ x
  · rw [e2]; exact h.ord c
section
variable {w0 w w' W : World} {g r f m m' : Nat} {s s' sx : LW} {R R' : List SE} {xs bs F F' G G' K S : List Nat}
/-- Both queues behind Fork: the old one at g (its blocks G), the new one at f (its blocks K). -/
structure Fk (w0 w : World) (g f r m : Nat) (sx s' : LW) (R : List SE) (xs F K G : List Nat) : Prop where
  q : LQf w0 w g sx m (K ++ (xs ++ F)) G
  f : Wq w f s'.1 s'.2 K
  new : ∀ k ∈ K, k ∉ xs ++ F
  x : Rf w r R F
  ap : ∀ k ∈ xs, k ∉ F
theorem Fk.did (h : Fk w0 w g f r m sx s' R xs F K G) {sy : LW} (h2 : LQf w0 w' g sy m' (K ++ (xs ++ F)) G') (ho : Only G w w') : Fk w0 w' g f r m' sy s' R xs F K G' ∧ ∀ k ∈ xs, w'.heap[k]? = w.heap[k]? := by
  have ha : ∀ k ∈ K ++ (xs ++ F), k ∉ G := fun k hk hm => (h.q.own k hm).2 hk
  exact ⟨⟨h2, h.f.only ho (fun k hk => ha k (by simp [hk])), h.new, h.x.only ho (fun k hk => ha k (by simp [hk])), h.ap⟩, fun k hk => ho.block k (h.q.bs k (by simp [hk])).2 (ha k (by simp [hk]))⟩
theorem Fk.take (h : Fk w0 w g f r m sx s' R xs F K G) (hr : RelW s' R) (hm : s'.2.length ≤ 64 * m) : Bm w0 w f r m s' R xs F :=
  ⟨⟨K, h.f, fun k hk => ⟨(h.q.bs k (by simp [hk])).1, h.new k hk⟩, h.q.base, fun b hb => h.q.bs b (List.mem_append.2 (.inr hb)), hr.ok, hm⟩, h.x, h.ap⟩
theorem LQf.growL (h : LQf w0 w g s m bs F) (ho : Only [] w w') {K : List Nat} (hk : ∀ k ∈ K, w.heap.size ≤ k ∧ k < w'.heap.size) : LQf w0 w' g s m (K ++ bs) F := by
  have hsz := h.base.size
  refine ⟨h.q.quiet ho, fun q hq => ⟨(h.own q hq).1, fun hm => ?_⟩, h.base.trans ho, fun x hx => ?_, h.ok, h.few⟩
  · rcases List.mem_append.1 hm with hm | hm
    · have := h.q.lt hq; have := (hk q hm).1; omega
    · exact (h.own q hq).2 hm
  · rcases List.mem_append.1 hx with hx | hx
    · have := hk x hx; exact ⟨by omega, this.2⟩
    · exact ⟨(h.bs x hx).1, Nat.lt_of_lt_of_le (h.bs x hx).2 ho.size⟩
theorem fk_fork (h : Bm w0 w g r m s R xs F) (hm : m < 100000000000000000) (hr : RelW s R) :
    Calls Try.prog 9 #[.pointer (some ⟨g, 0, none⟩)] w fun e w' => ∃ f s' K G, e = .returned (.pointer (some ⟨f, 0, none⟩)) ∧ Fk w0 w' g f r m s s' R xs F K G ∧ RelW s' R ∧ s'.2.length ≤ 64 * m ∧ ∀ k ∈ xs, w'.heap[k]? = w.heap[k]? := by
  obtain ⟨G, hq⟩ := h.q
  obtain ⟨m1, m2, R1, R2, hw, e1, e2, eG⟩ := id hq.q
  have hok := hq.ok
  have hfew := hq.few
  have k1 : (viewE R1).length ≤ 64 := by rw [e1]; exact hok.few
  have k2 : (viewE R2).length ≤ 64 * m := by rw [e2]; exact hfew
  have l1 : ∀ e ∈ R1, e.l.length ≤ 64 := fun e he => by
    have hp : (e.k, e.l) ∈ s.1 := by rw [← e1]; exact List.mem_map.2 ⟨e, he, rfl⟩
    exact Nat.le_trans (hok.on16 _ hp) (by decide)
  have l2 : ∀ e ∈ R2, e.l.length ≤ 64 := fun e he => by
    have hp : (e.k, e.l) ∈ s.2 := by rw [← e2]; exact List.mem_map.2 ⟨e, he, rfl⟩
    have h1 := wake_in hok e.k 0
    have h2 := atL_of_mem hok.k2 hp
    simp only at h2
    rwa [h2] at h1
  refine (wfork_is hw (by simpa [viewE] using k1) (by simp only [viewE, List.length_map] at k2; unfold maxLen; omega) l1 l2).mono ?_
  rintro e w' ⟨f, n1, n2, S1, S2, rfl, hf, p1, p2⟩
  rw [e1] at p1
  rw [e2] at p2
  have hlt : ∀ k ∈ footW f n1 n2 S1 S2, k < w'.heap.size := fun k hk => hf.q.lt hk
  refine ⟨f, (viewE S1, viewE S2), footW f n1 n2 S1 S2, G, rfl, ⟨hq.growL hf.only (fun k hk => ⟨hf.new k hk, hlt k hk⟩), ⟨n1, n2, S1, S2, hf.q, rfl, rfl, rfl⟩, fun k hk hm => ?_, h.x.quiet hf.only, h.ap⟩, hr.perm p1 p2, by rw [p2.length_eq]; exact hfew, fun k hk => hf.only.block k (h.lt hk) (by simp)⟩
  have := hf.new k hk
  have := (hq.bs k hm).2
  omega
theorem fk_wake (h : Fk w0 w g f r m sx s' R xs F K G) (hm : m < 100000000000000000) {c : CH} (hc : c.wf) (n : Int) :
    Calls Try.prog 10 #[.pointer (some ⟨g, 0, none⟩), kV c, .int .i64 n] w fun e w' => ∃ v, e = .returned v ∧ ∃ G', Fk w0 w' g f r m (wakeS sx c n) s' R xs F K G' ∧ ∀ k ∈ xs, w'.heap[k]? = w.heap[k]? := by
  have hq := h.q
  have hf := hq.few
  have hsm : SmallL sx.2 := hq.ok.smallL (by unfold maxLen; omega)
  have hk : wakeK sx c n ≤ (atL sx.2 c).length := Nat.min_le_right _ _
  have hn : (n < 0 ∧ wakeK sx c n = 0) ∨ n = wakeK sx c n ∨ (((atL sx.2 c).length : Int) < n ∧ wakeK sx c n = (atL sx.2 c).length) := by
    unfold wakeK
    omega
  refine (wq_wake hq.q hq.ok hsm hc n _ hk hn).mono ?_
  rintro e w' ⟨A, cap, rfl, hr, G', k1, k2, k3⟩
  obtain ⟨a, b⟩ := hq.did (s' := wakeS sx c n) (m' := m) k1 k2 (offAll_ok _ _ hq.ok) (Nat.le_trans (offAll_length _ sx) hf)
  exact ⟨_, rfl, G', h.did a k2.only⟩
theorem fk_cancel (h : Fk w0 w g f r m sx s' R xs F K G) (hm : m < 100000000000000000) {t : Int} (ht : iW t) :
    Calls Try.prog 11 #[.pointer (some ⟨g, 0, none⟩), .int .i64 t] w fun e w' => ∃ b, e = .returned (.bool b) ∧ ∃ sy G', Fk w0 w' g f r m sy s' R xs F K G' ∧ ∀ k ∈ xs, w'.heap[k]? = w.heap[k]? := by
  have hq := h.q
  have hf := hq.few
  have hsm : SmallL sx.2 := hq.ok.smallL (by unfold maxLen; omega)
  by_cases hin : t ∈ sx.1.map (·.1)
  · refine (wq_cancel hq.q (fun p hp => Nat.le_trans (hq.ok.on16 p hp) (by decide)) hsm t ht (at1_ne hq.ok hin) (hq.ok.nd1 t) (fun c hc => (hq.ok.both t c).1 hc)).mono ?_
    rintro e w' ⟨rfl, G', k1, k2⟩
    obtain ⟨a, b⟩ := hq.did (s' := offS sx t) (m' := m) k1 k2 (hq.ok.cancel t) (Nat.le_trans (leaveAll_length t _ _) hf)
    exact ⟨_, rfl, _, G', h.did a k2.only⟩
  · refine (wq_cancel_no hq.q (fun p hp => Nat.le_trans (hq.ok.on16 p hp) (by decide)) t ht (atL_none hin)).mono ?_
    rintro e w' ⟨rfl, G', k1, k2⟩
    have e1 : offS sx t = sx := by
      unfold offS
      rw [atL_none hin, outL_none hin]
      rfl
    obtain ⟨a, b⟩ := hq.did (s' := offS sx t) (m' := m) (by rw [e1]; first | exact k1 | (unfold offS at e1; simpa [e1] using k1)) k2 (hq.ok.cancel t) (Nat.le_trans (leaveAll_length t _ _) hf)
    exact ⟨_, rfl, _, G', h.did a k2.only⟩
end
end Go.Proofs.Ytokclkiidhcffaa
