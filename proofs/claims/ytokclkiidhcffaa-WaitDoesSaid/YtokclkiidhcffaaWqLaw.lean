/-
  The laws of the sleepers: a queue made behind world w0, beside the law's own blocks bs ('LQ'), m calls old; each call as a function of its state.
-/
import Derived.Test.YtokclkiidhcffaaWqMove
namespace Go.Proofs.Ytokclkiidhcffaa
open Go.ChangeShapes Go.WideShapes Go.ChangeAt Go.RowKit Go.Maps
set_option linter.unusedVariables false

theorem leaveL_length (L : List (CH × List Int)) (c : CH) (t : Int) : (leaveL L c t).length ≤ L.length := by
  unfold leaveL
  split
  · exact List.length_filter_le _ _
  · simp [setL]
theorem leaveAll_length (t : Int) : ∀ (on : List CH) (L : List (CH × List Int)), (leaveAll L on t).length ≤ L.length
  | [], L => Nat.le_refl _
  | c :: r, L => Nat.le_trans (leaveAll_length t r (leaveL L c t)) (leaveL_length L c t)
theorem offAll_length : ∀ (ts : List Int) (s : LW), (offAll s ts).2.length ≤ s.2.length
  | [], s => Nat.le_refl _
  | t :: r, s => Nat.le_trans (offAll_length r (offS s t)) (leaveAll_length t _ s.2)
def sleepE (s : LW) (t : Int) (l : List CH) : Int := if t < 1 ∨ l = [] ∨ 16 < l.length ∨ ¬ l.Nodup then 1 else if t ∈ s.1.map (·.1) then 101 else if s.1.length = 64 then 2 else 0
def sleepS (s : LW) (t : Int) (l : List CH) : LW := if sleepE s t l = 0 then (s.1 ++ [(t, l)], comeAll s.2 l t) else s
def wakeK (s : LW) (c : CH) (n : Int) : Nat := min n.toNat (atL s.2 c).length
def wakeS (s : LW) (c : CH) (n : Int) : LW := offAll s ((atL s.2 c).take (wakeK s c n))
def moveQ (s : LW) (c d : CH) (n : Int) : LW × Nat := moveF c d n s (atL s.2 c)
theorem wake_in {s : LW} (o : OkW s.1 s.2) (c : CH) (n : Int) : (atL s.2 c).length ≤ 64 := Nat.le_trans (o.few2 c) o.few

structure LQf (w0 w : World) (g : Nat) (s : LW) (m : Nat) (bs F : List Nat) : Prop where
  q : Wq w g s.1 s.2 F
  own : ∀ q ∈ F, w0.heap.size ≤ q ∧ q ∉ bs
  base : Only [] w0 w
  bs : ∀ b ∈ bs, w0.heap.size ≤ b ∧ b < w.heap.size
  ok : OkW s.1 s.2
  few : s.2.length ≤ 64 * m
def LQ (w0 w : World) (g : Nat) (s : LW) (m : Nat) (bs : List Nat) : Prop := ∃ F, LQf w0 w g s m bs F
/-- A call came to s'; the law's own blocks are as they were. -/
def DidQ (w0 w w' : World) (g : Nat) (s' : LW) (m : Nat) (bs : List Nat) : Prop := LQ w0 w' g s' m bs ∧ ∀ b ∈ bs, w'.heap[b]? = w.heap[b]?
section
variable {w0 w w' : World} {g m : Nat} {s s' : LW} {bs S F : List Nat}
theorem LQ.ok (h : LQ w0 w g s m bs) : OkW s.1 s.2 := by obtain ⟨F, h⟩ := h; exact h.ok
theorem LQ.few (h : LQ w0 w g s m bs) : s.2.length ≤ 64 * m := by obtain ⟨F, h⟩ := h; exact h.few
theorem LQ.base (h : LQ w0 w g s m bs) : Only [] w0 w := by obtain ⟨F, h⟩ := h; exact h.base
theorem LQ.lt (h : LQ w0 w g s m bs) {b : Nat} (hb : b ∈ bs) : b < w.heap.size := by obtain ⟨F, h⟩ := h; exact (h.bs b hb).2
theorem LQ.other (h : LQ w0 w g s m bs) (ho : Only S w w') (hs : ∀ q ∈ S, q ∈ bs) : LQ w0 w' g s m bs := by
  obtain ⟨F, h⟩ := h
  have hsz := h.base.size
  exact ⟨F, h.q.only ho (fun k hk hm => (h.own k hk).2 (hs k hm)), h.own, h.base.trans' ho (fun k hk hm => by have := (h.bs k (hs k hm)).1; omega), fun b hb => ⟨(h.bs b hb).1, Nat.lt_of_lt_of_le (h.bs b hb).2 ho.size⟩, h.ok, h.few⟩
theorem LQ.quiet (h : LQ w0 w g s m bs) (ho : Only [] w w') : LQ w0 w' g s m bs := h.other ho (by simp)
/-- A block that came new is the law's own. -/
theorem LQ.grow (h : LQ w0 w g s m bs) (ho : Only [] w w') {b : Nat} (hb : w.heap.size ≤ b) (hb' : b < w'.heap.size) : LQ w0 w' g s m (b :: bs) := by
  obtain ⟨F, h⟩ := h
  have hsz := h.base.size
  refine ⟨F, h.q.only ho (by simp), fun q hq => ⟨(h.own q hq).1, fun hm => ?_⟩, h.base.trans ho, fun x hx => ?_, h.ok, h.few⟩
  · rcases List.mem_cons.1 hm with e | hm
    · have := h.q.lt hq; omega
    · exact (h.own q hq).2 hm
  · rcases List.mem_cons.1 hx with e | hx
    · subst e; exact ⟨by omega, hb'⟩
    · exact ⟨(h.bs x hx).1, Nat.lt_of_lt_of_le (h.bs x hx).2 ho.size⟩
theorem LQ.add (h : LQ w0 w g s m bs) (o : Obj) : LQ w0 (w.alloc o) g s m (w.heap.size :: bs) := h.grow ((Only.refl [] w).alloc o) (Nat.le_refl _) (by simp)
theorem LQ.less (h : LQ w0 w g s m bs) {bs' : List Nat} (hs : ∀ q ∈ bs', q ∈ bs) : LQ w0 w g s m bs' := by
  obtain ⟨F, h⟩ := h
  exact ⟨F, h.q, fun q hq => ⟨(h.own q hq).1, fun hm => (h.own q hq).2 (hs q hm)⟩, h.base, fun b hb => h.bs b (hs b hb), h.ok, h.few⟩
theorem LQ.more (h : LQ w0 w g s m bs) {m' : Nat} (hm : m ≤ m') : LQ w0 w g s m' bs := by
  obtain ⟨F, h⟩ := h
  exact ⟨F, h.q, h.own, h.base, h.bs, h.ok, Nat.le_trans h.few (Nat.mul_le_mul_left _ hm)⟩
theorem LQf.did (h : LQf w0 w g s m bs F) {F' : List Nat} {m' : Nat} (k1 : Wq w' g s'.1 s'.2 F') (k2 : TurnW w w' F F') (o : OkW s'.1 s'.2) (hf : s'.2.length ≤ 64 * m') : LQf w0 w' g s' m' bs F' ∧ ∀ b ∈ bs, w'.heap[b]? = w.heap[b]? := by
  have hsz := h.base.size
  refine ⟨⟨k1, fun q hq => ?_, h.base.trans' k2.only (fun k hk hm => by have := (h.own k hm).1; omega), fun b hb => ⟨(h.bs b hb).1, Nat.lt_of_lt_of_le (h.bs b hb).2 k2.only.size⟩, o, hf⟩, fun b hb => k2.only.block b (h.bs b hb).2 (fun hm => (h.own b hm).2 hb)⟩
  rcases k2.foot q hq with hq | hq
  · exact h.own q hq
  · refine ⟨by omega, fun hb => ?_⟩
    have := (h.bs q hb).2
    omega
theorem LQf.didW (h : LQf w0 w g s m bs F) {m' : Nat} (k : DidW w w' g F s'.1 s'.2) (o : OkW s'.1 s'.2) (hf : s'.2.length ≤ 64 * m') : DidQ w0 w w' g s' m' bs := by
  obtain ⟨F', k1, k2⟩ := k
  obtain ⟨a, b⟩ := h.did k1 k2 o hf
  exact ⟨⟨F', a⟩, b⟩
theorem lq_wnew (w : World) : Calls Try.prog 7 #[] w fun e w' => ∃ g, e = .returned (.pointer (some ⟨g, 0, none⟩)) ∧ LQ w w' g ([], []) 0 [] := by
  refine (wq_new w).mono ?_
  rintro e w' ⟨g, F, rfl, h1, h2, h3⟩
  exact ⟨g, rfl, F, h1, fun q hq => ⟨h2 q hq, by simp⟩, h3, by simp, OkW.empty, by simp⟩
theorem lq_wsleep (h : LQ w0 w g s m bs) (hm : m < 100000000000000000) {t : Int} (ht : iW t) {A : Option Addr} {n c : Nat} {l : List CH} (hl : l.length = n) (hcap : n ≤ c) (hat : 0 < n → ChansAt w (.slice A n c) l) (hA : 0 < n → ∀ b o, A = some ⟨b, o, none⟩ → b < w0.heap.size ∨ b ∈ bs) (hwf : ∀ x ∈ l, x.wf) :
    Calls Try.prog 13 #[.pointer (some ⟨g, 0, none⟩), .int .i64 t, .slice A n c] w fun e w' => e = .returned (.int .i64 (sleepE s t l)) ∧ DidQ w0 w w' g (sleepS s t l) (m + 1) bs := by
  have h0 := h
  obtain ⟨F, h⟩ := h
  have hf := h.few
  have big : 64 * m + 16 < maxLen := by unfold maxLen; omega
  have no : ∀ (e : Int), sleepE s t l = e → e ≠ 0 → ∀ {r : Ending} {w' : World}, r = .returned (.int .i64 e) ∧ Only [] w w' → r = .returned (.int .i64 (sleepE s t l)) ∧ DidQ w0 w w' g (sleepS s t l) (m + 1) bs := fun e he hne r w' hr => by
    refine ⟨by rw [he]; exact hr.1, ?_⟩
    unfold sleepS
    rw [he, if_neg hne]
    exact ⟨(h0.quiet hr.2).more (by omega), fun b hb => hr.2.block b (h0.lt hb) (by simp)⟩
  subst hl
  have hcp : ∀ A' n c', Value.slice A l.length c = .slice A' n c' → n ≤ c' := fun A' n c' e => by injection e with _ e1 e2; omega
  by_cases z1 : t < 1
  · exact (wq_sleep_low h.q z1 A _ c).mono fun r w' hr => no 1 (by unfold sleepE; rw [if_pos (.inl z1)]) (by decide) hr
  by_cases z2 : l = []
  · subst z2
    exact (wq_sleep_none h.q (by omega) A c).mono fun r w' hr => no 1 (by unfold sleepE; rw [if_pos (.inr (.inl rfl))]) (by decide) hr
  have hpos : 0 < l.length := List.length_pos_iff.2 z2
  by_cases z3 : 16 < l.length
  · exact (wq_sleep_many h.q (by omega) A _ c z3).mono fun r w' hr => no 1 (by unfold sleepE; rw [if_pos (.inr (.inr (.inl z3)))]) (by decide) hr
  by_cases z4 : l.Nodup
  · have e0 : ∀ x : Int, (if t < 1 ∨ l = [] ∨ 16 < l.length ∨ ¬ l.Nodup then (1 : Int) else x) = x := fun x => by
      rw [if_neg]
      rintro (h | h | h | h)
      · exact z1 h
      · exact z2 h
      · exact z3 h
      · exact h z4
    by_cases z5 : t ∈ s.1.map (·.1)
    · exact (wq_sleep_twice h.q (by omega) z5 (hat hpos) hcp (by omega) (by omega) z4).mono fun r w' hr => no 101 (by unfold sleepE; rw [e0, if_pos z5]) (by decide) hr
    by_cases z6 : s.1.length = 64
    · exact (wq_sleep_full h.q z6 (by omega) ht z5 (hat hpos) hcp (by omega) (by omega) z4).mono fun r w' hr => no 2 (by unfold sleepE; rw [e0, if_neg z5, if_pos z6]) (by decide) hr
    · have h64 : s.1.length < 64 := by have := h.ok.few; omega
      have hE : sleepE s t l = 0 := by unfold sleepE; rw [e0, if_neg z5, if_neg z6]
      refine (wq_sleep h.q h64 (by omega) (fun p hp => by have := h.ok.each p hp; omega) ht (by omega) z5 (hat hpos) hcp (fun b o n' c' e hb hF => ?_) (by omega) (by omega) z4 hwf).mono ?_
      · injection e with e _ _
        rcases hA hpos b o e with h1 | h1
        · have := (h.own b hF).1; omega
        · exact (h.own b hF).2 h1
      · rintro r w' ⟨rfl, hd⟩
        rw [hE]
        refine ⟨rfl, ?_⟩
        unfold sleepS
        rw [if_pos hE]
        refine h.didW hd (h.ok.sleep z5 z2 (by omega) z4 h64) ?_
        have := comeAll_length s.2 t l s.2
        show (comeAll s.2 l t).length ≤ _
        omega
  · exact (wq_sleep_same h.q (by omega) (hat hpos) hcp (by omega) (by omega) z4).mono fun r w' hr => no 1 (by unfold sleepE; rw [if_pos (.inr (.inr (.inr z4)))]) (by decide) hr

/-- The slice v shows the ints zs; behind its block's start, within the world. -/
def ZsAt (w : World) (v : Value) (zs : List Int) : Prop :=
  ∃ A c, v = .slice A zs.length c ∧ (A = none → zs.length = 0 ∧ c = 0) ∧ zs.length ≤ c ∧ ∀ ad, A = some ad → ∃ b o, ad = ⟨b, o, none⟩ ∧ b < w.heap.size ∧ ∀ j u, (i64l zs)[j]? = some u → w.cell? ⟨b, o + j, none⟩ = some u
theorem IRow.sees {v : Value} {ns : List Int} (h : IRow w v ns) : ZsAt w v ns := by
  obtain ⟨A, c, e, h1, h2, _, h3⟩ := h.form2
  refine ⟨A, c, e, h1, h2, fun ad ha => ?_⟩
  obtain ⟨b, rfl, hb, hc⟩ := h3 ad ha
  exact ⟨b, 0, rfl, hb, fun j u hu => by rw [Nat.zero_add]; exact hc j u hu⟩
theorem ZsAt.only {v : Value} {zs : List Int} (h : ZsAt w v zs) (ho : Only S w w') (hs : ∀ b o n c, v = .slice (some ⟨b, o, none⟩) n c → b ∉ S) : ZsAt w' v zs := by
  obtain ⟨A, c, rfl, h1, h2, h3⟩ := h
  refine ⟨A, c, rfl, h1, h2, fun ad ha => ?_⟩
  obtain ⟨b, o, rfl, hb, hc⟩ := h3 ad ha
  exact ⟨b, o, rfl, Nat.lt_of_lt_of_le hb ho.size, fun j u hu => (ho.cell hb (hs _ _ _ _ (by rw [ha]))).trans (hc j u hu)⟩
theorem ZsAt.quiet {v : Value} {zs : List Int} (h : ZsAt w v zs) (ho : Only [] w w') : ZsAt w' v zs := h.only ho (by simp)
theorem ZsAt.take {A : Option Addr} {n c : Nat} {zs : List Int} (h : ZsAt w (.slice A n c) zs) {k : Nat} (hk : k ≤ zs.length) : ZsAt w (.slice A k c) (zs.take k) := by
  obtain ⟨A', c', e, h1, h2, h3⟩ := h
  injection e with e1 e2 e3
  subst e1 e2 e3
  have hl : (zs.take k).length = k := by rw [List.length_take]; omega
  refine ⟨A, c, by rw [hl], fun ha => ?_, by omega, fun ad ha => ?_⟩
  · have := h1 ha
    exact ⟨by omega, this.2⟩
  · obtain ⟨b, o, rfl, hb, hc⟩ := h3 ad ha
    refine ⟨b, o, rfl, hb, fun j u hu => hc j u ?_⟩
    unfold i64l at hu ⊢
    rw [List.map_take, List.getElem?_take] at hu
    split at hu
    · exact hu
    · cases hu
theorem ZsAt.cell {A : Option Addr} {n c : Nat} {zs : List Int} (h : ZsAt w (.slice A n c) zs) {i : Nat} (hi : i < zs.length) : ∃ b o, A = some ⟨b, o, none⟩ ∧ w.cell? ⟨b, o + i, none⟩ = some (.int .i64 zs[i]) := by
  obtain ⟨A', c', e, h1, h2, h3⟩ := h
  injection e with e1 e2 e3
  subst e1 e2 e3
  rcases A with _ | ad
  · have := h1 rfl; omega
  · obtain ⟨b, o, rfl, hb, hc⟩ := h3 ad rfl
    exact ⟨b, o, rfl, hc i _ (by simp [i64l, hi])⟩
set_option maxHeartbeats 2000000 in
set_option maxRecDepth 100000 in
theorem same12_is {v x : Value} {xs zs : List Int} (h : ZsAt w v xs) (h' : ZsAt w x zs) (hbig : xs.length < 4000000000000) (hbig2 : zs.length < 4000000000000) : Calls Try.prog 18 #[v, x] w fun e w' => e = .returned (.bool (decide (xs = zs))) ∧ Only [] w w' := by
  obtain ⟨A, c, rfl, _⟩ := id h
  obtain ⟨B, d, rfl, _⟩ := id h'
  have HA := hide h
  have HB := hide h'
  have HG := hide (And.intro hbig hbig2)
  clear h h' hbig hbig2
  by_cases hl : xs.length = zs.length
  · have e1 : (((xs.length : Nat) : Int) != ((zs.length : Nat) : Int)) = false := by simp [hl]
    go_enter Try.func18, Try.ntmps18
    go_wp2
    go_loopw [13] (fun iv wr => ∃ i : Nat, i ≤ xs.length ∧ iv = .int .i64 i ∧ xs.take i = zs.take i ∧ Only [] w wr) (fun iv _ => xs.length - (intOf iv).toNat)
    case atStart => exact ⟨0, Nat.zero_le _, rfl, rfl, Only.refl _ _⟩
    case round =>
      obtain ⟨i, hi, rfl, ht, hw⟩ := hrel
      have HT := hide ht
      have HW := hide hw
      by_cases hlt : i < xs.length
      · have hltI : (i : Int) < xs.length := by omega
        have hltZ : (i : Int) < zs.length := by omega
        have hlt2 : i < zs.length := by omega
        obtain ⟨b, o, rfl, c0⟩ := (HA.out.quiet hw).cell hlt
        obtain ⟨b2, o2, rfl, c2⟩ := (HB.out.quiet hw).cell hlt2
        have HN := hide (show xs = xs.take i ++ xs[i] :: xs.drop (i + 1) by rw [List.getElem_cons_drop, List.take_append_drop])
        have HN2 := hide (show zs = zs.take i ++ zs[i] :: zs.drop (i + 1) by rw [List.getElem_cons_drop, List.take_append_drop])
        have HP := hide (show xs.take (i + 1) = xs.take i ++ [xs[i]] by rw [List.take_add_one]; simp [hlt])
        have HP2 := hide (show zs.take (i + 1) = zs.take i ++ [zs[i]] by rw [List.take_add_one]; simp [hlt2])
        have HLT := hide (show (xs.take i).length = (zs.take i).length by rw [ht])
        clear ht hw
        generalize xs[i] = p at *
        generalize zs[i] = q at *
        by_cases he : p = q
        · have e2 : (p != q) = false := by simp [he]
          go_wp2
          go_region
          go_wp2
          have e3 : wrap64 ((i : Int) + 1) = ((i + 1 : Nat) : Int) := by
            have := HG.out.1
            rw [wrap64]
            omega
          rw [e3]
          refine ⟨⟨i + 1, hlt, rfl, by rw [HP.out, HP2.out, HT.out, he], HW.out.drew⟩, ?_⟩
          simp [intOf]
          omega
        · have e2 : (p != q) = true := by simp [he]
          go_wp2
          go_region
          go_wp2
          go_ret
          refine ⟨?_, HW.out.drew⟩
          have : xs ≠ zs := fun e => by
            have h1 := HN.out.symm.trans (e.trans HN2.out)
            rw [HT.out] at h1
            have h2 := List.append_cancel_left h1
            injection h2 with h2 _
            exact he h2
          rw [show decide (xs = zs) = false by simp [this]]
          rfl
      · obtain rfl : i = xs.length := by omega
        go_wp2
        go_ret
        refine ⟨?_, hw⟩
        have : xs = zs := by
          have := ht
          rw [List.take_length, hl, List.take_length] at this
          exact this
        rw [show decide (xs = zs) = true by simp [this]]
        rfl
  · have e1 : (((xs.length : Nat) : Int) != ((zs.length : Nat) : Int)) = true := by simp; omega
    go_enter Try.func18, Try.ntmps18
    go_wp2
    go_ret
    refine ⟨?_, Only.refl _ _⟩
    rw [show decide (xs = zs) = false by simp; intro e; exact hl (by rw [e])]
    rfl
theorem lq_wwake (h : LQ w0 w g s m bs) (hm : m < 100000000000000000) {c : CH} (hc : c.wf) (n : Int) :
    Calls Try.prog 10 #[.pointer (some ⟨g, 0, none⟩), kV c, .int .i64 n] w fun e w' => ∃ v, e = .returned v ∧ ZsAt w' v ((atL s.2 c).take (wakeK s c n)) ∧ (∀ b o n c, v = .slice (some ⟨b, o, none⟩) n c → w.heap.size ≤ b) ∧ ∃ F', LQf w0 w' g (wakeS s c n) m bs F' ∧ (∀ b o n c, v = .slice (some ⟨b, o, none⟩) n c → b ∉ F') ∧ ∀ b ∈ bs, w'.heap[b]? = w.heap[b]? := by
  obtain ⟨F, h⟩ := h
  have hf := h.few
  have hsm : SmallL s.2 := h.ok.smallL (by unfold maxLen; omega)
  have hk : wakeK s c n ≤ (atL s.2 c).length := Nat.min_le_right _ _
  have hn : (n < 0 ∧ wakeK s c n = 0) ∨ n = wakeK s c n ∨ (((atL s.2 c).length : Int) < n ∧ wakeK s c n = (atL s.2 c).length) := by
    unfold wakeK
    omega
  refine (wq_wake h.q h.ok hsm hc n _ hk hn).mono ?_
  rintro e w' ⟨A, cap, rfl, hr, F', k1, k2, k3⟩
  obtain ⟨a, b⟩ := h.did (s' := wakeS s c n) (m' := m) k1 k2 (offAll_ok _ _ h.ok) (Nat.le_trans (offAll_length _ s) hf)
  have hA : ∀ b o n' c', Value.slice A (wakeK s c n) cap = .slice (some ⟨b, o, none⟩) n' c' → A = some ⟨b, 0, none⟩ := fun b o n' c' e => by
    injection e with e _ _
    obtain ⟨A', c2, e1, _, _, _, h3⟩ := hr.form2
    injection e1 with e1 _ _
    subst e1
    obtain ⟨b2, e2, _⟩ := h3 _ e
    rw [e]
    injection e2 with e2 e3
    rw [e3]
  exact ⟨_, rfl, hr.sees.take hk, fun b o n' c' e => (k3 b (hA b o n' c' e)).1, F', a, fun b o n' c' e => (k3 b (hA b o n' c' e)).2, b⟩
end
end Go.Proofs.Ytokclkiidhcffaa
