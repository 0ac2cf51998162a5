/-
  The law NamecReaders: the cache over its domain, packed; every call.
-/
import Derived.Test.YtjpojoflbjhjjaaNcDomR
import Derived.Test.YtjpojoflbjhjjaaNcKb
namespace Go.Proofs.Ytjpojoflbjhjjaa
open Go.ChangeShapes Go.WideShapes Go.ChangeAt Go.RowKit Go.Maps
set_option linter.unusedVariables false
set_option linter.unusedSimpArgs false
def CS.withS (p : CS) (s : RS) : CS := { p with s := s }
theorem OkC.sameL {p : CS} (h : OkC p) {s : RS} (e : s.L = p.s.L) : OkC (p.withS s) :=
  ⟨h.r0, h.r1, h.len, h.nd, h.wf, h.ids, h.idn, by unfold CS.withS; simp only; rw [e]; exact h.apart, by unfold CS.withS; simp only; rw [e]; exact h.gone, by unfold CS.withS; simp only; rw [e]; exact h.cnt, h.top⟩
theorem OkC.dropS {p : CS} (h : OkC p) (k : Nat) : OkC (p.withS { p.s with L := p.s.L.drop k }) := by
  have hs := List.drop_sublist k p.s.L
  refine ⟨h.r0, h.r1, h.len, h.nd, h.wf, h.ids, h.idn, fun e he hm => h.apart e he ((hs.map _).mem hm), fun x hx => h.gone x (hs.mem hx), ?_, h.top⟩
  have := h.cnt
  unfold CS.withS
  simp only [List.length_drop]
  omega
/-- The domain has got more, since now. -/
def Ext (p p' : CS) : Prop := ∃ T, p'.s = { p.s with L := p.s.L ++ T } ∧ ∀ x ∈ T, x.2 = p.s.ep
theorem Ext.refl (p : CS) : Ext p p := ⟨[], by simp, by simp⟩
theorem Ext.trans {p q r : CS} (h : Ext p q) (h2 : Ext q r) : Ext p r := by
  obtain ⟨T, e, hT⟩ := h
  obtain ⟨U, f, hU⟩ := h2
  refine ⟨T ++ U, by rw [f, e]; simp, fun x hx => ?_⟩
  rcases List.mem_append.1 hx with h | h
  · exact hT x h
  · rw [hU x h, e]
theorem ext_drop (p : CS) (i : Nat) : Ext p (p.drop i) := by
  unfold CS.drop
  cases p.L[i]? with
  | none => exact Ext.refl p
  | some e => exact ⟨[(e.id, p.s.ep)], rfl, by simp⟩
theorem ext_forget (p : CS) (k : NM) : Ext p (p.forget k) := by
  unfold CS.forget
  cases p.at k with
  | none => exact Ext.refl p
  | some i => exact ext_drop p i
theorem ext_evict (p : CS) : Ext p p.evict := by
  unfold CS.evict
  split
  · exact ext_drop p 0
  · exact Ext.refl p
theorem ext_put (p : CS) (k : NM) (n : Int) : Ext p (putC19 p k n).2 := by
  unfold putC19
  split
  · exact Ext.refl p
  · exact (ext_forget p k).trans (ext_evict _)
section
variable {w0 w w' w1 : World} {c d : Nat} {p p' : CS} {k : NM} {G : List Nat}
theorem Ca.turn (h : Ca w c d p G) : ∃ FD, Rc w d p.s FD ∧ ∀ w' s', OkC (p.withS s') → DidR w w' d s' FD → DidC w w' c d (p.withS s') G := by
  obtain ⟨mm, v, FD, h1, h2, h3, h4, h5, h6⟩ := h
  obtain ⟨l1, l2, l3⟩ := h1.lt
  refine ⟨FD, h2, fun w' s' ok ⟨FD', ⟨ho, hf⟩, hr⟩ => ⟨c :: mm :: (v.ownBlock.toList ++ FD'), ⟨ho.mono (fun q _ hq => h5 q (by simp [hq])), fun q hq => ?_⟩, mm, v, FD', h1.only ho h3.1 h3.2.1 h3.2.2, hr, ⟨fun hm => ?_, fun hm => ?_, fun q hq hm => ?_⟩, ok, fun q hq => hq, fun q hq => ?_⟩⟩
  · rcases List.mem_cons.1 hq with e | e
    · exact .inl (h5 _ (by simp [e]))
    rcases List.mem_cons.1 e with e | e
    · exact .inl (h5 _ (by simp [e]))
    rcases List.mem_append.1 e with e | e
    · exact .inl (h5 _ (by simp at e; simp [e]))
    · exact (hf q e).imp_left (fun e => h5 _ (by simp [e]))
  · rcases hf c hm with e | e
    · exact h3.1 e
    · omega
  · rcases hf mm hm with e | e
    · exact h3.2.1 e
    · omega
  · rcases hf q hm with e | e
    · exact h3.2.2 q hq e
    · have := l3 q hq; omega
  · rcases List.mem_cons.1 hq with e | e
    · rw [e]; exact Nat.lt_of_lt_of_le l1 ho.size
    rcases List.mem_cons.1 e with e | e
    · rw [e]; exact Nat.lt_of_lt_of_le l2 ho.size
    rcases List.mem_append.1 e with e | e
    · exact Nat.lt_of_lt_of_le (l3 q (by simpa using e)) ho.size
    · exact hr.lt q e
def Kr (w0 w : World) (c d : Nat) (p : CS) : Prop := ∃ G, Ca w c d p G ∧ (∀ q ∈ G, w0.heap.size ≤ q) ∧ Only [] w0 w
theorem Kr.quiet (h : Kr w0 w c d p) (ho : Only [] w w') : Kr w0 w' c d p := by
  obtain ⟨G, h1, h2, h3⟩ := h
  exact ⟨G, h1.quiet ho, h2, h3.trans ho⟩
theorem Kr.ok (h : Kr w0 w c d p) : OkC p := by obtain ⟨G, h1, h2, h3⟩ := h; exact h1.ok
theorem Kr.on (h : Kr w0 w c d p) : Only [] w0 w := by obtain ⟨G, h1, h2, h3⟩ := h; exact h3
theorem Kr.okr (h : Kr w0 w c d p) : OkR p.s := by
  obtain ⟨G, h1, h2, h3⟩ := h
  obtain ⟨FD, h4⟩ := ca_dom h1
  exact h4.ok
theorem Kr.turn (h : Kr w0 w c d p) : ∃ G, Ca w c d p G ∧ ∀ w' p', DidC w w' c d p' G → Kr w0 w' c d p' := by
  obtain ⟨G, h1, h2, h3⟩ := h
  refine ⟨G, h1, fun w' p' ⟨G', t1, t2⟩ => ⟨G', t2, fun q hq => ?_, h3.trans' t1.1 (fun q hq hm => by have := h2 q hm; omega)⟩⟩
  rcases t1.2 q hq with e | e
  · exact h2 q e
  · exact Nat.le_trans h3.size e
theorem kr_put (h : Kr w0 w c d p) (hk : k.wf) (hks : k.name.size ≤ reachBytes) (n : Int) (ht : p.made + 1 < 3900000000000) : Calls Try.prog 14 #[.pointer (some ⟨c, 0, none⟩), kV k, .int .i64 n] w fun e w' => (∃ r : Int, e = .returned (.int .i64 r)) ∧ Kr w0 w' c d (putC19 p k n).2 := by
  obtain ⟨G, h1, h2⟩ := h.turn
  unfold putC19
  by_cases hn : n < 0
  · rw [if_pos hn]
    exact (ca_put_neg h1 n hn).mono fun e w' ⟨a, b⟩ => ⟨⟨_, a⟩, h.quiet b⟩
  · rw [if_neg hn]
    exact (ca_put h1 hk (by unfold reachBytes at hks; omega) n (by omega) ht).mono fun e w' ⟨a, b⟩ => ⟨⟨_, a⟩, h2 _ _ b⟩
theorem kr_forget (h : Kr w0 w c d p) (hk : k.wf) : Calls Try.prog 16 #[.pointer (some ⟨c, 0, none⟩), kV k] w fun e w' => (∃ r : Bool, e = .returned (.bool r)) ∧ Kr w0 w' c d (p.forget k) := by
  obtain ⟨G, h1, h2⟩ := h.turn
  exact (ca_forget h1 hk).mono fun e w' ⟨a, b⟩ => ⟨⟨_, a⟩, h2 _ _ b⟩
theorem kr_enter (h : Kr w0 w c d p) (i : Nat) {n : Int} (hi : p.s.ns[i]? = some n) (h0 : 0 ≤ n) (h1 : n < 16) : Calls Try.prog 22 #[.pointer (some ⟨d, 0, none⟩), .int .i64 i] w fun e w' => e = .returned (.int .i64 0) ∧ Kr w0 w' c d (p.withS { p.s with ns := p.s.ns.set i (n + 1) }) := by
  obtain ⟨G, g1, g2⟩ := h.turn
  obtain ⟨FD, f1, f2⟩ := g1.turn
  exact (rEnter_ok f1 i hi h0 h1).mono fun e w' ⟨a, b⟩ => ⟨a, g2 _ _ (f2 _ _ (g1.ok.sameL rfl) b)⟩
theorem kr_pass (h : Kr w0 w c d p) (i : Nat) (hi : p.s.ns[i]? = some 0) : Calls Try.prog 23 #[.pointer (some ⟨d, 0, none⟩), .int .i64 i] w fun e w' => e = .returned (.bool true) ∧ Kr w0 w' c d (p.withS { p.s with ps := p.s.ps.set i true }) := by
  obtain ⟨G, g1, g2⟩ := h.turn
  obtain ⟨FD, f1, f2⟩ := g1.turn
  exact (rPass_ok f1 i hi).mono fun e w' ⟨a, b⟩ => ⟨a, g2 _ _ (f2 _ _ (g1.ok.sameL rfl) b)⟩
theorem kr_leave (h : Kr w0 w c d p) (i : Nat) (hi : p.s.ns[i]? = some 1) : Calls Try.prog 26 #[.pointer (some ⟨d, 0, none⟩), .int .i64 i] w fun e w' => e = .returned (.int .i64 0) ∧ Kr w0 w' c d (p.withS { p.s with ns := p.s.ns.set i 0, ps := p.s.ps.set i true }) := by
  obtain ⟨G, g1, g2⟩ := h.turn
  obtain ⟨FD, f1, f2⟩ := g1.turn
  exact (rLeave_ok f1 i hi).mono fun e w' ⟨a, b⟩ => ⟨a, g2 _ _ (f2 _ _ (g1.ok.sameL rfl) b)⟩
/-- Step, whether the epoch goes on or not. -/
def stepR (s : RS) : RS := if false ∈ s.ps then s else { s with ep := s.ep + 1, ps := List.replicate s.ps.length false }
theorem stepR_L (s : RS) : (stepR s).L = s.L := by unfold stepR; split <;> rfl
theorem kr_step (h : Kr w0 w c d p) (he : p.s.ep + 1 < 4611686018427387904) : Calls Try.prog 24 #[.pointer (some ⟨d, 0, none⟩)] w fun e w' => (∃ r : Bool, e = .returned (.bool r)) ∧ Kr w0 w' c d (p.withS (stepR p.s)) := by
  obtain ⟨G, g1, g2⟩ := h.turn
  obtain ⟨FD, f1, f2⟩ := g1.turn
  by_cases hf : false ∈ p.s.ps
  · have e1 : stepR p.s = p.s := by unfold stepR; rw [if_pos hf]
    rw [e1]
    refine (rStep_no f1 hf).mono fun e w' ⟨a, b⟩ => ⟨⟨_, a⟩, ?_⟩
    subst b
    exact h
  · have e1 : stepR p.s = { p.s with ep := p.s.ep + 1, ps := List.replicate p.s.ps.length false } := by unfold stepR; rw [if_neg hf]
    rw [e1]
    exact (rStep_yes f1 hf he).mono fun e w' ⟨a, b⟩ => ⟨⟨_, a⟩, g2 _ _ (f2 _ _ (g1.ok.sameL rfl) b)⟩
theorem kr_ready (h : Kr w0 w c d p) (k : Nat) (hk : k ≤ p.s.L.length) (hold : ∀ j x, j < k → p.s.L[j]? = some x → 2 ≤ p.s.ep - x.2) (hnew : ∀ x, p.s.L[k]? = some x → p.s.ep - x.2 < 2) (hw : ∀ x ∈ p.s.L, 0 ≤ x.2 ∧ x.2 ≤ p.s.ep) :
    Calls Try.prog 25 #[.pointer (some ⟨d, 0, none⟩)] w fun e w' => (∃ A cp, e = .returned (.slice A k cp)) ∧ Kr w0 w' c d (p.withS { p.s with L := p.s.L.drop k }) := by
  obtain ⟨G, g1, g2⟩ := h.turn
  obtain ⟨FD, f1, f2⟩ := g1.turn
  exact (rReady_is f1 k hk hold hnew hw).mono fun e w' ⟨a, b⟩ => ⟨a, g2 _ _ (f2 _ _ (g1.ok.dropS k) b)⟩
theorem kr_waiting (h : Kr w0 w c d p) : Calls Try.prog 20 #[.pointer (some ⟨d, 0, none⟩)] w fun e w' => (∃ A cp, e = .returned (.slice A p.s.L.length cp)) ∧ Kr w0 w' c d p := by
  obtain ⟨G, g1, g2, g3⟩ := h
  obtain ⟨FD, f1⟩ := ca_dom g1
  refine (rWaiting_is f1).mono ?_
  rintro e w' ⟨v, rfl, hr, _, ho⟩
  obtain ⟨A, cp, rfl, _⟩ := KRow.form hr
  exact ⟨⟨A, cp, by rw [List.length_map]⟩, G, g1.quiet ho, g2, g3.trans ho⟩
end
/-- While hart 0 reads: i calls were made. -/
structure InvA (p : CS) (i : Int) : Prop where
  ns : p.s.ns = [1, 0]
  ph : (p.s.ep = 0 ∧ p.s.ps = [true, true] ∧ p.s.L = []) ∨ (p.s.ep = 1 ∧ ∃ b, p.s.ps = [false, b])
  old : ∀ x ∈ p.s.L, 0 ≤ x.2 ∧ x.2 ≤ p.s.ep
  made : p.made ≤ i
/-- In a round: the switch is done. -/
structure InvB (p : CS) (i : Int) : Prop where
  ns : p.s.ns = [1, 0]
  ph : (p.s.ep = 0 ∧ p.s.ps = [true, true]) ∨ (p.s.ep = 1 ∧ ∃ b, p.s.ps = [false, b])
  old : ∀ x ∈ p.s.L, 0 ≤ x.2 ∧ x.2 ≤ p.s.ep
  made : p.made ≤ i
theorem InvA.ext {p p' : CS} {i j : Int} (h : InvA p i) (hx : Ext p p') (hm : p'.made ≤ j) : InvB p' j := by
  obtain ⟨T, e, hT⟩ := hx
  refine ⟨by rw [e]; exact h.ns, ?_, ?_, hm⟩
  · rw [e]
    exact h.ph.imp (fun ⟨a, b, _⟩ => ⟨a, b⟩) id
  · rw [e]
    intro x hx
    rcases List.mem_append.1 hx with q | q
    · exact h.old x q
    · have h2 := hT x q
      have h3 : 0 ≤ p.s.ep := by rcases h.ph with ⟨a, _⟩ | ⟨a, _⟩ <;> omega
      exact ⟨by omega, by simp only; omega⟩
/-- What a round leaves: hart 1 passes, the epoch may go on, nothing is ready. -/
def roundS (s : RS) : RS := stepR { s with ps := s.ps.set 1 true }
theorem InvB.round {p : CS} {i : Int} (h : InvB p i) : InvA (p.withS (roundS p.s)) i ∧ (roundS p.s).ep ≤ 1 ∧ (∀ x ∈ (roundS p.s).L, 0 ≤ x.2 ∧ x.2 ≤ (roundS p.s).ep) := by
  have h3 : ∀ x ∈ p.s.L, 0 ≤ x.2 ∧ x.2 ≤ 1 := fun x hx => by
    have := h.old x hx
    rcases h.ph with ⟨a, _⟩ | ⟨a, _⟩ <;> omega
  rcases h.ph with ⟨a, b⟩ | ⟨a, b, e⟩
  · have e1 : roundS p.s = { p.s with ep := 1, ps := [false, false] } := by
      unfold roundS stepR
      rw [b, a]
      rfl
    rw [e1]
    exact ⟨⟨h.ns, .inr ⟨rfl, false, rfl⟩, h3, h.made⟩, Int.le_refl _, h3⟩
  · have e1 : roundS p.s = { p.s with ps := [false, true] } := by
      unfold roundS stepR
      rw [e]
      simp
    rw [e1]
    exact ⟨⟨h.ns, .inr ⟨a, true, rfl⟩, h.old, h.made⟩, by simp only; omega, h.old⟩
/-- Hart 0 has left; j rounds are over; n waited. -/
structure InvC (p : CS) (j : Nat) (n r : Int) : Prop where
  ns : p.s.ns = [0, 0]
  ps : ∃ a b, p.s.ps = [a, b]
  ep : (p.s.ep = 1 + j ∨ p.s.L = []) ∧ 0 ≤ p.s.ep ∧ p.s.ep ≤ 1 + j
  old : ∀ x ∈ p.s.L, 0 ≤ x.2 ∧ x.2 ≤ 1
  fit : ∀ x ∈ p.s.L, x.2 ≤ p.s.ep
  sum : r + p.s.L.length = n
  done : 2 ≤ j → p.s.L = []
theorem InvA.leave {p : CS} {i : Int} (h : InvA p i) : InvC (p.withS { p.s with ns := p.s.ns.set 0 0, ps := p.s.ps.set 0 true }) 0 p.s.L.length 0 := by
  refine ⟨by show p.s.ns.set 0 0 = _; rw [h.ns]; rfl, ?_, ?_, ?_, ?_, ?_, fun h => absurd h (by omega)⟩
  · show ∃ a b, p.s.ps.set 0 true = [a, b]
    rcases h.ph with ⟨_, e, _⟩ | ⟨_, b, e⟩ <;> rw [e]
    · exact ⟨true, true, rfl⟩
    · exact ⟨true, b, rfl⟩
  · show (p.s.ep = _ ∨ p.s.L = []) ∧ 0 ≤ p.s.ep ∧ p.s.ep ≤ _
    rcases h.ph with ⟨a, _, e⟩ | ⟨a, _⟩
    · exact ⟨.inr e, by omega, by omega⟩
    · exact ⟨.inl (by omega), by omega, by omega⟩
  · show ∀ x ∈ p.s.L, _
    intro x hx
    have := h.old x hx
    rcases h.ph with ⟨a, _⟩ | ⟨a, _⟩ <;> omega
  · show ∀ x ∈ p.s.L, x.2 ≤ p.s.ep
    exact fun x hx => (h.old x hx).2
  · show (0 : Int) + p.s.L.length = _
    omega
/-- How many are ready in a round. -/
def pre (e : Int) (L : List (Int × Int)) : Nat := (L.takeWhile (fun x => decide (2 ≤ e - x.2))).length
theorem pre_le (e : Int) (L : List (Int × Int)) : pre e L ≤ L.length := (List.takeWhile_sublist _).length_le
theorem pre_old (e : Int) : ∀ (L : List (Int × Int)) (j : Nat) (x : Int × Int), j < pre e L → L[j]? = some x → 2 ≤ e - x.2
  | [], j, x, h, _ => by simp [pre] at h
  | a :: L, j, x, h, hx => by
    unfold pre at h
    rw [List.takeWhile_cons] at h
    by_cases ha : 2 ≤ e - a.2
    · rw [if_pos (by simpa using ha)] at h
      cases j with
      | zero => simp at hx; rw [← hx]; exact ha
      | succ j => exact pre_old e L j x (by simpa [pre] using h) (by simpa using hx)
    · rw [if_neg (by simpa using ha)] at h
      simp at h
theorem pre_new (e : Int) : ∀ (L : List (Int × Int)) (x : Int × Int), L[pre e L]? = some x → e - x.2 < 2
  | [], x, h => by simp at h
  | a :: L, x, h => by
    unfold pre at h
    rw [List.takeWhile_cons] at h
    by_cases ha : 2 ≤ e - a.2
    · rw [if_pos (by simpa using ha)] at h
      simp only [List.length_cons, List.getElem?_cons_succ] at h
      exact pre_new e L x h
    · rw [if_neg (by simpa using ha)] at h
      simp at h
      rw [← h]
      omega
theorem pre_all {e : Int} : ∀ {L : List (Int × Int)}, (∀ x ∈ L, 2 ≤ e - x.2) → pre e L = L.length
  | [], _ => rfl
  | a :: L, h => by
    have h1 := h a (by simp)
    have h2 := pre_all (L := L) (fun x hx => h x (by simp [hx]))
    unfold pre at h2 ⊢
    rw [List.takeWhile_cons, if_pos (by simpa using h1), List.length_cons, List.length_cons, h2]
/-- A round of the end. -/
theorem InvC.round {p : CS} {j : Nat} {n r : Int} (h : InvC p j n r) :
    stepR { p.s with ps := (p.s.ps.set 0 true).set 1 true } = { p.s with ep := p.s.ep + 1, ps := [false, false] } ∧
    (∀ x ∈ p.s.L, 0 ≤ x.2 ∧ x.2 ≤ p.s.ep + 1) ∧
    InvC (p.withS { p.s with ep := p.s.ep + 1, ps := [false, false], L := p.s.L.drop (pre (p.s.ep + 1) p.s.L) }) (j + 1) n (r + pre (p.s.ep + 1) p.s.L) := by
  obtain ⟨a, b, e⟩ := h.ps
  have hle := pre_le (p.s.ep + 1) p.s.L
  have hsub := List.drop_sublist (pre (p.s.ep + 1) p.s.L) p.s.L
  refine ⟨by unfold stepR; rw [e]; simp, fun x hx => ⟨(h.old x hx).1, by have := h.fit x hx; omega⟩, h.ns, ⟨false, false, rfl⟩, ?_, ?_, ?_, ?_, ?_⟩
  · show (p.s.ep + 1 = _ ∨ p.s.L.drop _ = []) ∧ 0 ≤ p.s.ep + 1 ∧ p.s.ep + 1 ≤ _
    obtain ⟨h1, h2, h3⟩ := h.ep
    refine ⟨?_, by omega, by omega⟩
    rcases h1 with h1 | h1
    · exact .inl (by omega)
    · exact .inr (by rw [h1]; simp)
  · exact fun x hx => h.old x (hsub.mem hx)
  · show ∀ x ∈ p.s.L.drop _, x.2 ≤ p.s.ep + 1
    exact fun x hx => by have := h.fit x (hsub.mem hx); omega
  · show r + _ + ((p.s.L.drop _).length : Int) = n
    have := h.sum
    rw [List.length_drop]
    omega
  · intro hj
    show p.s.L.drop _ = []
    rcases h.ep.1 with h1 | h1
    · rw [pre_all (fun x hx => by have := h.old x hx; omega)]
      simp
    · rw [h1]; simp
/-- The states within a round of the end. -/
def endA (p : CS) : CS := p.withS { p.s with ps := p.s.ps.set 0 true }
def endB (p : CS) : CS := p.withS { p.s with ps := (p.s.ps.set 0 true).set 1 true }
def endC (p : CS) : CS := p.withS { p.s with ep := p.s.ep + 1, ps := [false, false] }
def endD (p : CS) : CS := p.withS { p.s with ep := p.s.ep + 1, ps := [false, false], L := p.s.L.drop (pre (p.s.ep + 1) p.s.L) }
section
variable {w0 w : World} {c d : Nat} {p : CS} {j : Nat} {n r : Int}
theorem end_pass0 (h : InvC p j n r) (hk : Kr w0 w c d p) : Calls Try.prog 23 #[.pointer (some ⟨d, 0, none⟩), .int .i64 0] w fun e w' => e = .returned (.bool true) ∧ Kr w0 w' c d (endA p) :=
  kr_pass hk 0 (by rw [h.ns]; rfl)
theorem end_pass1 (h : InvC p j n r) (hk : Kr w0 w c d (endA p)) : Calls Try.prog 23 #[.pointer (some ⟨d, 0, none⟩), .int .i64 1] w fun e w' => e = .returned (.bool true) ∧ Kr w0 w' c d (endB p) :=
  kr_pass hk 1 (show p.s.ns[1]? = some 0 by rw [h.ns]; rfl)
theorem end_step (h : InvC p j n r) (hj : j ≤ 3) (hk : Kr w0 w c d (endB p)) : Calls Try.prog 24 #[.pointer (some ⟨d, 0, none⟩)] w fun e w' => (∃ r : Bool, e = .returned (.bool r)) ∧ Kr w0 w' c d (endC p) := by
  have e1 : (endB p).withS (stepR (endB p).s) = endC p := congrArg p.withS h.round.1
  have h1 := kr_step hk (show p.s.ep + 1 < 4611686018427387904 by have := h.ep; omega)
  rw [e1] at h1
  exact h1
theorem end_ready (h : InvC p j n r) (hk : Kr w0 w c d (endC p)) : Calls Try.prog 25 #[.pointer (some ⟨d, 0, none⟩)] w fun e w' => (∃ A cp, e = .returned (.slice A (pre (p.s.ep + 1) p.s.L) cp)) ∧ Kr w0 w' c d (endD p) :=
  kr_ready hk (pre (p.s.ep + 1) p.s.L) (pre_le _ _) (fun j x hj hx => pre_old _ _ j x hj hx) (fun x hx => pre_new _ _ x hx) h.round.2.1
end
end Go.Proofs.Ytjpojoflbjhjjaa
