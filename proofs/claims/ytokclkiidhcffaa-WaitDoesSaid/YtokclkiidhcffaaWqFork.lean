/-
  Sleepers (parapet/waitq): Fork: another queue with the same two lists, in an order of its own.
-/
import Derived.Test.YtokclkiidhcffaaRef12g
import Derived.Maps.RangeWalk
import Derived.Lib.SlKeysI
namespace Go.Proofs.Ytokclkiidhcffaa
open Go.ChangeShapes Go.WideShapes Go.ChangeAt Go.RowKit Go.Maps
set_option linter.unusedVariables false
section
variable {κ α : Type} [DecidableEq κ] {E : Enc κ SO} {D : DataW Unit} {R S : List (EN κ α)} {left : Lit → Bool}
/-- Of a queue's half some entries have been copied. -/
structure Part (E : Enc κ SO) (R S : List (EN κ α)) (left : Lit → Bool) : Prop where
  sub : ∀ p ∈ viewE S, p ∈ viewE R
  lf : ∀ e ∈ R, left (E.kl e.k) = false ↔ (e.k, e.l) ∈ viewE S
omit [DecidableEq κ] in
theorem Part.start (h : MHolds E D (refsE R)) : Part E R [] (Maps.has D) := ⟨by simp [viewE], fun e he => by rw [h.some_ (mem_refsE he)]; simp [viewE]⟩
omit [DecidableEq κ] in
theorem Part.fresh [DecidableEq κ] (h : Part E R S left) (hn : (R.map (·.k)).Nodup) {e : EN κ α} (he : e ∈ R) (hl : left (E.kl e.k) = true) : e.k ∉ S.map (·.k) := fun hm => by
  obtain ⟨x, hx, hk⟩ := List.mem_map.1 hm
  have h1 : (x.k, x.l) ∈ viewE S := List.mem_map.2 ⟨x, hx, rfl⟩
  obtain ⟨y, hy, hyk⟩ := List.mem_map.1 (h.sub _ h1)
  simp only [Prod.mk.injEq] at hyk
  have := keys_uniq hn hy he (hyk.1.trans hk)
  subst this
  have h2 := (h.lf _ he).2 (by rw [hyk.1, hyk.2]; exact h1)
  rw [hl] at h2
  cases h2
omit [DecidableEq κ] in
theorem Part.step [DecidableEq κ] (h : Part E R S left) (hn : (R.map (·.k)).Nodup) (hw : ∀ e ∈ R, E.wf e.k) {e : EN κ α} (he : e ∈ R) (hl : left (E.kl e.k) = true) (s : SV) : Part E R (S ++ [⟨e.k, s, e.l⟩]) (fun z => left z && !z.sameKey (E.kl e.k)) := by
  have hv : viewE (S ++ [(⟨e.k, s, e.l⟩ : EN κ α)]) = viewE S ++ [(e.k, e.l)] := by simp [viewE]
  refine ⟨fun p hp => ?_, fun x hx => ?_⟩
  · rw [hv] at hp
    rcases List.mem_append.1 hp with hp | hp
    · exact h.sub p hp
    · rw [List.mem_singleton.1 hp]
      exact List.mem_map.2 ⟨e, he, rfl⟩
  · rw [hv, List.mem_append, ← h.lf x hx, List.mem_singleton]
    by_cases hxe : x.k = e.k
    · have := keys_uniq hn hx he hxe
      subst this
      simp [WideAt.sameKey_self (E.key x.k)]
    · have : (E.kl x.k).sameKey (E.kl e.k) = false := Maps.sameKey_ne (fun e' => hxe (E.inj (hw x hx) (hw e he) e'))
      simp [this, hxe]
omit [DecidableEq κ] in
theorem Part.done [DecidableEq κ] [DecidableEq α] (h : Part E R S left) (hn : (R.map (·.k)).Nodup) (hs : (S.map (·.k)).Nodup) (hl : ∀ kl, left kl = false) : (viewE S).Perm (viewE R) := by
  have nd : ∀ {T : List (EN κ α)}, (T.map (·.k)).Nodup → (viewE T).Nodup := fun {T} hT => by
    have : ((viewE T).map (·.1)).Nodup := by rw [viewE_keys]; exact hT
    exact (List.pairwise_map.1 this).imp fun h e => h (by rw [e])
  refine (List.perm_ext_iff_of_nodup (nd hs) (nd hn)).2 fun p => ⟨h.sub p, fun hp => ?_⟩
  obtain ⟨e, he, rfl⟩ := List.mem_map.1 hp
  exact (h.lf e he).1 (hl _)
end
theorem come1 {D : DataW Unit} {R : List (EN Int CH)} (H : MHolds encOn D (refsE R)) {x : Value} {f : SO} {kl : Lit} {y : DataW Unit × List MemPlace} (hk : keyOf Try.prog 3 x = some kl) (hy : elemSl (svO f) = some y) (hat : ∀ zd, D.atKey kl zd = y.1) : ∃ e ∈ R, x = .int .i64 e.k ∧ f = some e.s ∧ kl = encOn.kl e.k := by
  obtain ⟨p, hp, hpk⟩ := (H.has kl).1 (has_true_of_atKey hat)
  obtain ⟨e, he, rfl⟩ := List.mem_map.1 hp
  have hf := H.at_ _ hp .nil
  rw [hpk, hat] at hf
  rw [elemSl_mk] at hy
  injection hy with hy
  rw [← hy] at hf
  exact ⟨e, he, lawInt.inj hk (by rw [← hpk]; exact keyOn (H.wf _ hp)), fdO_inj hf, hpk.symm⟩
theorem come2 {D : DataW Unit} {R : List (EN CH Int)} (H : MHolds encSl D (refsE R)) {x : Value} {f : SO} {kl : Lit} {y : DataW Unit × List MemPlace} (hk : keyOf Try.prog 32 x = some kl) (hy : elemSl (svO f) = some y) (hat : ∀ zd, D.atKey kl zd = y.1) : ∃ e ∈ R, x = kV e.k ∧ f = some e.s ∧ kl = encSl.kl e.k := by
  obtain ⟨p, hp, hpk⟩ := (H.has kl).1 (has_true_of_atKey hat)
  obtain ⟨e, he, rfl⟩ := List.mem_map.1 hp
  have hf := H.at_ _ hp .nil
  rw [hpk, hat] at hf
  rw [elemSl_mk] at hy
  injection hy with hy
  rw [← hy] at hf
  exact ⟨e, he, lawKey.inj hk (by rw [← hpk]; exact keySl (H.wf _ hp)), fdO_inj hf, hpk.symm⟩
theorem ranges_only {P : Program} {k : TypeId} {Rr : Value → Option (DataW Unit × List MemPlace)} {w w' : World} {b r n : Nat} {D : DataW Unit} {left : Lit → Bool} {cnt : Nat} {S : List Nat} (h : w.ranges P k Rr b r n D left cnt) (ho : Only S w w') (hb : b ∉ S) (hr : r ∉ S) : w'.ranges P k Rr b r n D left cnt := by
  have h1 := h.lt
  obtain ⟨es, clock, since, seen, c0, e1, e2, e3, e4, e5, rest⟩ := h
  have h2 : b < w.heap.size := (Array.getElem?_eq_some_iff.1 e1).1
  exact ⟨es, clock, since, seen, c0, (ho.block b h2 hb).trans e1, e2, e3, e4, (ho.block r h1 hr).trans e5, rest⟩
/-- The new queue f under way: made behind world w. -/
structure Frk (w W : World) (f n1 n2 : Nat) (S1 : List (EN Int CH)) (S2 : List (EN CH Int)) : Prop where
  q : IsWq W f n1 n2 S1 S2
  new : ∀ k ∈ footW f n1 n2 S1 S2, w.heap.size ≤ k
  only : Only [] w W
section
variable {w w' w1 W W' : World} {g m1 m2 f n1 n2 : Nat} {R1 S1 : List (EN Int CH)} {R2 S2 : List (EN CH Int)}
theorem Frk.quiet (h : Frk w W f n1 n2 S1 S2) (ho : Only [] W W') : Frk w W' f n1 n2 S1 S2 := ⟨h.q.quiet ho, h.new, h.only.trans ho⟩
theorem Frk.other {S : List Nat} (h : Frk w W f n1 n2 S1 S2) (ho : Only S W W') (hs : ∀ k ∈ S, w.heap.size ≤ k ∧ k ∉ footW f n1 n2 S1 S2) : Frk w W' f n1 n2 S1 S2 := ⟨h.q.only ho (fun k hk hm => (hs k hm).2 hk), h.new, h.only.trans' ho (fun k hk hm => by have := (hs k hm).1; omega)⟩
theorem sv_crow {w : World} {v : Value} {l : List CH} (h : CRw w v l) (hl : l ≠ []) : ∃ s : SV, v = svO (some s) ∧ s.b < w.heap.size ∧ v.ownBlock = some s.b := sv_of_crow h hl
theorem Frk.put1 (h : Frk w W f n1 n2 S1 S2) (hl : S1.length < maxLen) {k : Int} (hk : iW k) (hn : k ∉ S1.map (·.k)) {v : Value} {l : List CH} (ho : Only [] W w1) (hr : CRw w1 v l) (hl2 : l ≠ []) (hf : ∀ q, v.ownBlock = some q → W.heap.size ≤ q) :
    ∃ s V, (Instr.mapUpdate 51 (.map (some n1)) (.int .i64 k) v).run Try.prog w1 = .ok () V ∧ Frk w V f n1 n2 (S1 ++ [⟨k, s, l⟩]) S2 ∧ Only [n1] W V ∧ W.heap.size ≤ s.b := by
  obtain ⟨s, rfl, hs, hq⟩ := sv_of_crow hr hl2
  obtain ⟨V, h1, h2, h3⟩ := h.q.new1 hl hk hn ho hr hl2 hs (hf _ hq)
  have hsz := h.only.size
  refine ⟨s, V, h1, ⟨h2, fun x hx => ?_, h.only.trans' h3 (fun x hx hm => by simp at hm; subst hm; have := h.new x (mem_footW.2 (.inr (.inl rfl))); omega)⟩, h3, hf _ hq⟩
  rcases mem_footW.1 hx with hx | hx | hx | ⟨y, hy, hx⟩ | hx
  · exact h.new x (mem_footW.2 (.inl hx))
  · exact h.new x (mem_footW.2 (.inr (.inl hx)))
  · exact h.new x (mem_footW.2 (.inr (.inr (.inl hx))))
  · rcases List.mem_append.1 hy with hy | hy
    · exact h.new x (mem_footW.2 (.inr (.inr (.inr (.inl ⟨y, hy, hx⟩)))))
    · rw [List.mem_singleton.1 hy] at hx
      have := hf _ hq
      have hx : s.b = x := hx
      omega
  · exact h.new x (mem_footW.2 (.inr (.inr (.inr (.inr hx)))))
theorem Frk.put2 (h : Frk w W f n1 n2 S1 S2) (hl : S2.length < maxLen) {k : CH} (hk : k.wf) (hn : k ∉ S2.map (·.k)) {v : Value} {l : List Int} (ho : Only [] W w1) (hr : IRow w1 v l) (hl2 : l ≠ []) (hf : ∀ q, v.ownBlock = some q → W.heap.size ≤ q) :
    ∃ s V, (Instr.mapUpdate 52 (.map (some n2)) (kV k) v).run Try.prog w1 = .ok () V ∧ Frk w V f n1 n2 S1 (S2 ++ [⟨k, s, l⟩]) ∧ Only [n2] W V ∧ W.heap.size ≤ s.b := by
  obtain ⟨s, rfl, hs⟩ := sv_of_row' hr hl2
  have hs := hs.2
  have hq : (svO (some s)).ownBlock = some s.b := rfl
  obtain ⟨V, h1, h2, h3⟩ := h.q.new2 hl hk hn ho hr hl2 hs (hf _ hq)
  have hsz := h.only.size
  refine ⟨s, V, h1, ⟨h2, fun x hx => ?_, h.only.trans' h3 (fun x hx hm => by simp at hm; subst hm; have := h.new x (mem_footW.2 (.inr (.inr (.inl rfl)))); omega)⟩, h3, hf _ hq⟩
  rcases mem_footW.1 hx with hx | hx | hx | hx | ⟨y, hy, hx⟩
  · exact h.new x (mem_footW.2 (.inl hx))
  · exact h.new x (mem_footW.2 (.inr (.inl hx)))
  · exact h.new x (mem_footW.2 (.inr (.inr (.inl hx))))
  · exact h.new x (mem_footW.2 (.inr (.inr (.inr (.inl hx)))))
  · rcases List.mem_append.1 hy with hy | hy
    · exact h.new x (mem_footW.2 (.inr (.inr (.inr (.inr ⟨y, hy, hx⟩)))))
    · rw [List.mem_singleton.1 hy] at hx
      have := hf _ hq
      have hx : s.b = x := hx
      omega
set_option maxHeartbeats 1500000 in
set_option maxRecDepth 100000 in
theorem wfork_is (h : IsWq w g m1 m2 R1 R2) (h1 : R1.length ≤ 64) (h2 : R2.length + 1 < maxLen) (l1 : ∀ e ∈ R1, e.l.length ≤ 64) (l2 : ∀ e ∈ R2, e.l.length ≤ 64) :
    Calls Try.prog 9 #[.pointer (some ⟨g, 0, none⟩)] w fun e w' => ∃ f n1 n2 S1 S2, e = .returned (.pointer (some ⟨f, 0, none⟩)) ∧ Frk w w' f n1 n2 S1 S2 ∧ (viewE S1).Perm (viewE R1) ∧ (viewE S2).Perm (viewE R2) := by
  have HC := hide (wclosed_is h)
  have H := hide h
  have HL := hide (And.intro (And.intro h1 h2) (And.intro l1 l2))
  obtain ⟨D1, hown1, hM1⟩ := h.on.own
  obtain ⟨D2, hown2, hM2⟩ := h.sl.own
  have HM1 := hide hM1
  have HM1nd := hide h.on.keys
  have HM2nd := hide h.sl.keys
  have HM2 := hide hM2
  have HO1 := hide hown1
  have HO2 := hide hown2
  clear h h1 h2 l1 l2 hown1 hM1 hown2 hM2
  go_enter Try.func9, Try.ntmps9
  go_wp2_with (first | (go_at_call 20; refine HC.out.mono ?_; rintro e w' ⟨rfl, rfl⟩) | (go_at_call 7; refine (wNew_is _).mono ?_; rintro e wa ⟨f, n1, n2, rfl, hf, hnew, ho⟩; have HF := hide (show Frk w wa f n1 n2 [] [] from ⟨hf, hnew, ho⟩); have c0 := (H.out.quiet ho).c0; clear hf hnew ho) | (at_range; refine wpList_range_own _ rfl _ 51 rfl 3 30 lawInt Try.underlying51 elemSl m1 _ D1 rfl (ownsMap_only12 HO1.out HF.out.only (by simp)) ?_; intro wb hrg0 hg0 hs0))
  go_frame
  have HWA := hide (show w.heap.size ≤ wa.heap.size from HF.out.only.size)
  have HNI := hide (show wa.heap.size ∉ footW f n1 n2 [] [] from fun hm => by have := HF.out.q.lt hm; omega)
  have HA := hide (show Frk w wb f n1 n2 [] [] from HF.out.quiet (Only.of_grown hg0 (by simp)))
  have HP0 := hide (Part.start HM1.out)
  have HRG0 := hide hrg0
  clear hrg0 hg0 hs0 c0
  generalize wa.heap.size = it at *
  go_loopw [4] (fun _ wr => ∃ left cnt S1, wr.ranges Try.prog 3 elemSl m1 it (refsE R1).length D1 left cnt ∧ Part encOn R1 S1 left ∧ Frk w wr f n1 n2 S1 [] ∧ it ∉ footW f n1 n2 S1 []) (fun _ wr => wr.rangeLeft m1 it)
  case atStart => exact ⟨_, _, [], HRG0.out, HP0.out, HA.out, HNI.out⟩
  case round =>
    obtain ⟨left, cnt, S1, hrg, hP, hF, hni⟩ := hrel
    go_wp2_with (at_next; refine wpList_next_ranges _ rfl _ rfl 3 lawInt elemSl (fun v => v) svO (fun key kl h => ⟨key, rfl⟩) (fun v y h => let ⟨f, e, _⟩ := elemSl_inv h; ⟨f, e⟩) m1 it _ D1 left cnt rfl hrg ?_ ?_)
    · intro _ hl0
      have hpm1 := hP.done HM1nd.out (by have := hF.q.on.keys; exact this) hl0
      have HPM1 := hide hpm1
      have HF1 := hide hF
      have HNI1 := hide hni
      have c1 := (H.out.quiet hF.only).c1
      clear hrg hP hF hni hl0 hpm1
      go_wp2_with (at_range; refine wpList_range_own _ rfl _ 52 rfl 32 35 lawKey Try.underlying52 elemSl m2 _ D2 rfl (ownsMap_only12 HO2.out HF1.out.only (by simp)) ?_; intro wc hrg0 hg0 hs0)
      go_frame
      have HWA2 := hide (show w.heap.size ≤ wr.heap.size from HF1.out.only.size)
      have HNI2 := hide (show wr.heap.size ∉ footW f n1 n2 S1 [] from fun hm => by have := HF1.out.q.lt hm; omega)
      have HA2 := hide (show Frk w wc f n1 n2 S1 [] from HF1.out.quiet (Only.of_grown hg0 (by simp)))
      have HP2 := hide (Part.start HM2.out)
      have HRG2 := hide hrg0
      clear hrg0 hg0 hs0 c1
      generalize wr.heap.size = it2 at *
      go_loopw [6] (fun _ wr2 => ∃ left cnt S2, wr2.ranges Try.prog 32 elemSl m2 it2 (refsE R2).length D2 left cnt ∧ Part encSl R2 S2 left ∧ Frk w wr2 f n1 n2 S1 S2 ∧ it2 ∉ footW f n1 n2 S1 S2) (fun _ wr2 => wr2.rangeLeft m2 it2)
      case atStart => exact ⟨_, _, [], HRG2.out, HP2.out, HA2.out, HNI2.out⟩
      case round =>
        obtain ⟨left, cnt, S2, hrg, hP, hF, hni⟩ := hrel
        go_wp2_with (at_next; refine wpList_next_ranges _ rfl _ rfl 32 lawKey elemSl (fun v => v) svO (fun key kl h => ⟨key, rfl⟩) (fun v y h => let ⟨f, e, _⟩ := elemSl_inv h; ⟨f, e⟩) m2 it2 _ D2 left cnt rfl hrg ?_ ?_)
        · intro _ hl0
          have hpm2 := hP.done HM2nd.out (by have := hF.q.sl.keys; exact this) hl0
          have HPM2 := hide hpm2
          have HF2 := hide hF
          clear hrg hP hF hni hl0 hpm2
          go_wp2
          go_ret
          exact ⟨f, n1, n2, S1, S2, rfl, HF2.out, HPM1.out, HPM2.out⟩
        · intro x sf kl y1 y2 w1 cnt1 hkx hlx hRy hat hrg1 hlt hg1 hs1 hen
          obtain ⟨e, he, rfl, rfl, rfl⟩ := come2 HM2.out hkx hRy hat
          have ho1 : Only [it2] wr w1 := ⟨hg1.os, hg1.tape, hg1.output, hg1.size, fun i hi hn => hg1.block i hi (fun e => hn (by injection e with e; simp [e]))⟩
          have hF1 := hF.other ho1 (fun k hk => by simp at hk; subst hk; exact ⟨HWA2.out, hni⟩)
          have hq1 := H.out.quiet hF1.only
          have hrow := hq1.sl.row e he
          have oB := (Only.refl [] w1).alloc (.cells (cC e.k) 32)
          have HK := hide (fun (W : World) (hw : Only [] (w1.alloc (.cells (cC e.k) 32)) W) => (cloneI_is (KRow.only hrow (oB.trans hw) (by simp)) (Nat.le_trans (HL.out.2.2 e he) (by decide))).mono (R' := fun e' w' => ∃ v', e' = .returned v' ∧ IRow w' v' e.l ∧ (∀ q, v'.ownBlock = some q → (w1.alloc (.cells (cC e.k) 32)).heap.size ≤ q) ∧ Only [] (w1.alloc (.cells (cC e.k) 32)) w') (fun e' w' ⟨v', p1, p2, p3, p4⟩ => ⟨v', p1, p2, fun q hq => Nat.le_trans hw.size (p3 q hq), hw.trans p4⟩))
          have hfr := hP.fresh HM2nd.out he hlx
          have hS64 : S2.length < maxLen := by
            have h1 := hP.sub
            have : (viewE S2).length ≤ (viewE R2).length := by
              refine nodup_sub_length _ _ ?_ h1
              have := hF.q.sl.keys
              rw [← viewE_keys] at this
              exact (List.pairwise_map.1 this).imp fun h e => h (by rw [e])
            simp only [viewE, List.length_map] at this
            have := HL.out.1.2
            omega
          have hF1b := hF1.quiet oB
          have HST := hide (fun (W1 : World) (v : Value) (hO : Only [] (w1.alloc (.cells (cC e.k) 32)) W1) (hr : IRow W1 v e.l) (hf : ∀ q, v.ownBlock = some q → (w1.alloc (.cells (cC e.k) 32)).heap.size ≤ q) => hF1b.put2 hS64 (hq1.sl.wf he) hfr hO hr (hq1.sl.ne e he) hf)
          have HC0 := hide (fun (W : World) (hW : Only [] (w1.alloc (.cells (cC e.k) 32)) W) => (hF1b.q.quiet hW).c1)
          have c1 := hF1b.q.c1
          obtain ⟨p0, hp0⟩ : ∃ p0, w1.heap.size = p0 := ⟨_, rfl⟩
          have HBX := hide (fun (W : World) (hW : Only [] (w1.alloc (.cells (cC e.k) 32)) W) => (show W.cell? ⟨w1.heap.size, 0, none⟩ = some (.int .i64 e.k.kind) ∧ W.cell? ⟨w1.heap.size, 1, none⟩ = some (.int .i64 e.k.a) ∧ W.cell? ⟨w1.heap.size, 2, none⟩ = some (.int .i64 e.k.b) from by
            have k := (Blk.new w1 32 (cC e.k)).only hW (by simp)
            exact ⟨k.cell 0, k.cell 1, k.cell 2⟩))
          have HN := hide (fun (s : SV) (V : World) (hV : Frk w V f n1 n2 S1 (S2 ++ [⟨e.k, s, e.l⟩])) (hO : Only [n2] (w1.alloc (.cells (cC e.k) 32)) V) (hs : (w1.alloc (.cells (cC e.k) 32)).heap.size ≤ s.b) => (show (V.ranges Try.prog 32 elemSl m2 it2 (refsE R2).length D2 (fun z => left z && !z.sameKey (encSl.kl e.k)) cnt1 ∧ Part encSl R2 (S2 ++ [⟨e.k, s, e.l⟩]) (fun z => left z && !z.sameKey (encSl.kl e.k)) ∧ Frk w V f n1 n2 S1 (S2 ++ [⟨e.k, s, e.l⟩]) ∧ it2 ∉ footW f n1 n2 S1 (S2 ++ [⟨e.k, s, e.l⟩])) ∧ V.rangeLeft m2 it2 < wr.rangeLeft m2 it2 from by
            have hn2 : n2 ∈ footW f n1 n2 S1 S2 := mem_footW.2 (.inr (.inr (.inl rfl)))
            have hm2 : m2 < w.heap.size := H.out.sl.ltm
            have hr1 := ranges_only hrg1 oB (by simp) (by simp)
            have hr2 := ranges_only hr1 hO (by simp; have := hF1.new n2 hn2; omega) (by simp; exact fun e => hni (e ▸ hn2))
            refine ⟨⟨hr2, hP.step HM2nd.out (fun x hx => H.out.sl.wf hx) he hlx s, hV, fun hm => ?_⟩, by rw [hr2.left_eq, hrg.left_eq]; exact hlt⟩
            rcases mem_footW.1 hm with hm | hm | hm | hm | ⟨y, hy, hm⟩
            · exact hni (mem_footW.2 (.inl hm))
            · exact hni (mem_footW.2 (.inr (.inl hm)))
            · exact hni (mem_footW.2 (.inr (.inr (.inl hm))))
            · exact hni (mem_footW.2 (.inr (.inr (.inr (.inl hm)))))
            · rcases List.mem_append.1 hy with hy | hy
              · exact hni (mem_footW.2 (.inr (.inr (.inr (.inr ⟨y, hy, hm⟩)))))
              · rw [List.mem_singleton.1 hy] at hm
                have hm : s.b = it2 := hm
                have := hrg1.lt
                simp at hs
                omega))
          obtain ⟨k0, k1, k2⟩ := HBX.out _ (Only.refl _ _)
          clear hkx hlx hRy hat hrg1 hlt hg1 hs1 hrg hP hF hni ho1 hF1 hq1 hrow hfr hS64 oB hF1b hp0
          go_wp2
          go_region_law (go_simp; go_at_call 22; refine (HK.out _ (by repeat (first | exact Only.refl _ _ | apply Only.drew | apply Only.drewN))).mono ?_; rintro e' w2 ⟨v', rfl, p1, p2, p3⟩; obtain ⟨s, V, s1, s2, s3, s4⟩ := HST.out w2 v' p3 p1 p2; have cc := HC0.out w2 p3; obtain ⟨j0, j1, j2⟩ := HBX.out w2 p3; have HE := hide (HN.out s V s2 s3 s4); clear p1 p2 p3 s2 s3 s4)
          all_goals
            go_wp2
            exact ⟨⟨_, cnt1, _, HE.out.1⟩, HE.out.2⟩
    · intro x sf kl y1 y2 w1 cnt1 hkx hlx hRy hat hrg1 hlt hg1 hs1 hen
      obtain ⟨e, he, rfl, rfl, rfl⟩ := come1 HM1.out hkx hRy hat
      have ho1 : Only [it] wr w1 := ⟨hg1.os, hg1.tape, hg1.output, hg1.size, fun i hi hn => hg1.block i hi (fun e => hn (by injection e with e; simp [e]))⟩
      have hF1 := hF.other ho1 (fun k hk => by simp at hk; subst hk; exact ⟨HWA.out, hni⟩)
      have hq1 := H.out.quiet hF1.only
      have hrow := hq1.on.row e he
      have HK := hide (fun (W : World) (hw : Only [] w1 W) => (cloneC_is (hrow.only hw (by simp)) (HL.out.2.1 e he)).mono (R' := fun e' w' => ∃ v', e' = .returned v' ∧ CRw w' v' e.l ∧ (∀ q, v'.ownBlock = some q → w1.heap.size ≤ q) ∧ Only [] w1 w') (fun e' w' ⟨v', p1, p2, p3, p4⟩ => ⟨v', p1, p2, fun q hq => Nat.le_trans hw.size (p3 q hq), hw.trans p4⟩))
      have hfr := hP.fresh HM1nd.out he hlx
      have hS64 : S1.length < maxLen := by
        have h1 := hP.sub
        have : (viewE S1).length ≤ (viewE R1).length := by
          refine nodup_sub_length _ _ ?_ h1
          have := hF.q.on.keys
          rw [← viewE_keys] at this
          exact (List.pairwise_map.1 this).imp fun h e => h (by rw [e])
        simp only [viewE, List.length_map] at this
        have := HL.out.1.1
        unfold maxLen
        omega
      have HST := hide (fun (W1 : World) (v : Value) (hO : Only [] w1 W1) (hr : CRw W1 v e.l) (hf : ∀ q, v.ownBlock = some q → w1.heap.size ≤ q) => hF1.put1 hS64 (hq1.on.wf he) hfr hO hr (hq1.on.ne e he) hf)
      have HC0 := hide (fun (W : World) (hW : Only [] w1 W) => (hF1.q.quiet hW).c0)
      have c0 := hF1.q.c0
      have HN := hide (fun (s : SV) (V : World) (hV : Frk w V f n1 n2 (S1 ++ [⟨e.k, s, e.l⟩]) []) (hO : Only [n1] w1 V) (hs : w1.heap.size ≤ s.b) => (show (V.ranges Try.prog 3 elemSl m1 it (refsE R1).length D1 (fun z => left z && !z.sameKey (encOn.kl e.k)) cnt1 ∧ Part encOn R1 (S1 ++ [⟨e.k, s, e.l⟩]) (fun z => left z && !z.sameKey (encOn.kl e.k)) ∧ Frk w V f n1 n2 (S1 ++ [⟨e.k, s, e.l⟩]) [] ∧ it ∉ footW f n1 n2 (S1 ++ [⟨e.k, s, e.l⟩]) []) ∧ V.rangeLeft m1 it < wr.rangeLeft m1 it from by
        have hn1 : n1 ∈ footW f n1 n2 S1 [] := mem_footW.2 (.inr (.inl rfl))
        have hm1 : m1 < w.heap.size := H.out.on.ltm
        have hr2 := ranges_only hrg1 hO (by simp; have := hF1.new n1 hn1; omega) (by simp; exact fun e => hni (e ▸ hn1))
        refine ⟨⟨hr2, hP.step HM1nd.out (fun x hx => H.out.on.wf hx) he hlx s, hV, fun hm => ?_⟩, by rw [hr2.left_eq, hrg.left_eq]; exact hlt⟩
        rcases mem_footW.1 hm with hm | hm | hm | ⟨y, hy, hm⟩ | hm
        · exact hni (mem_footW.2 (.inl hm))
        · exact hni (mem_footW.2 (.inr (.inl hm)))
        · exact hni (mem_footW.2 (.inr (.inr (.inl hm))))
        · rcases List.mem_append.1 hy with hy | hy
          · exact hni (mem_footW.2 (.inr (.inr (.inr (.inl ⟨y, hy, hm⟩)))))
          · rw [List.mem_singleton.1 hy] at hm
            have hm : s.b = it := hm
            have := hrg1.lt
            omega
        · exact hni (mem_footW.2 (.inr (.inr (.inr (.inr hm)))))))
      clear hkx hlx hRy hat hrg1 hlt hg1 hs1 hrg hP hF hni ho1 hF1 hq1 hrow hfr hS64
      go_wp2
      go_region_law (go_simp; go_at_call 21; refine (HK.out _ (by repeat (first | exact Only.refl _ _ | apply Only.drew | apply Only.drewN))).mono ?_; rintro e' w2 ⟨v', rfl, p1, p2, p3⟩; obtain ⟨s, V, s1, s2, s3, s4⟩ := HST.out w2 v' p3 p1 p2; have cc := HC0.out w2 p3; have HE := hide (HN.out s V s2 s3 s4); clear p1 p2 p3 s2 s3 s4)
      all_goals
        go_wp2
        exact ⟨⟨_, cnt1, _, HE.out.1⟩, HE.out.2⟩
end
end Go.Proofs.Ytokclkiidhcffaa
