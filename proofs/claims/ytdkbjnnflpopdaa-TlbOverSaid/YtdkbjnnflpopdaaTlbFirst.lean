/-
  Translations (parapet/tlb): which key was filled first.
-/
import Derived.Test.YtdkbjnnflpopdaaTlbKey
namespace Go.Proofs.Ytdkbjnnflpopdaa
open Go.ChangeShapes Go.WideShapes Go.ChangeAt Go.RowKit Go.Maps
set_option linter.unusedVariables false

set_option maxRecDepth 100000 in
theorem keyOf_inv {v : Value} {kl : Lit} (h : keyOf Try.prog 33 v = some kl) : ∃ k : K2, v = kV k ∧ k.wf ∧ kl = kL k := by
  have h0 := h
  have hsz : Try.prog.types.size + 1 = (Try.prog.types.size - 1) + 2 := by
    have : 1 ≤ Try.prog.types.size := Nat.le_trans (by decide) rowKey
    omega
  unfold keyOf at h
  rw [Try.underlying33] at h
  simp only at h
  split at h
  case isFalse => cases h
  case isTrue hc =>
    have hf : v.formed Try.prog 33 = true := by
      simp only [Bool.and_eq_true] at hc; exact hc.2
    have hv : ∃ c0 c1, v = .agg #[c0, c1] := by
      unfold Value.formed at hf
      split at hf
      · rw [Try.underlying33] at hf
        simp only [cellsKey, beq_iff_eq] at hf
        rename_i cs
        obtain ⟨l⟩ := cs
        match l, hf with
        | [c0, c1], _ => exact ⟨c0, c1, rfl⟩
      · cases hf
      · rw [Try.underlying33] at hf
        cases hf
    obtain ⟨c0, c1, rfl⟩ := hv
    rw [hsz, show (Value.agg #[c0, c1]).cells.toList = [c0, c1] from rfl] at h
    unfold Program.keyLits at h
    rw [Try.underlying33] at h
    simp [cellsKey, cellsInt] at h
    unfold Program.keyLits at h
    rw [Try.underlying3] at h
    cases c0 <;> simp at h
    rename_i q0 n0
    by_cases e0 : q0 = .i64 ∧ (Lit.int .i64 n0).wf = true
    · obtain ⟨rfl, w0⟩ := e0
      cases c1 <;> simp [w0] at h
      rename_i q1 n1
      by_cases e1 : q1 = .i64 ∧ (Lit.int .i64 n1).wf = true
      · obtain ⟨rfl, w1⟩ := e1
        have hk : K2.wf (n0, n1) := ⟨w0, w1⟩
        have := keyOf_kV hk
        rw [show kV (n0, n1) = .agg #[.int .i64 n0, .int .i64 n1] from rfl] at this
        rw [this] at h0
        injection h0 with h0
        exact ⟨(n0, n1), rfl, hk, h0.symm⟩
      · simp [e1] at h
    · simp [e0] at h

/-- An entry that has come is one of those. -/
theorem Holds.come {D : DataW Unit} {l : List (K2 × K2)} (h : Holds D l) {k f : K2} {kl : Lit} {y : DataW Unit × List MemPlace} (hk : keyOf Try.prog 33 (kV k) = some kl) (hR : elemF (fV f) = some y) (hat : ∀ z, D.atKey kl z = y.1) : kl = kL k ∧ k.wf ∧ (k, f) ∈ l := by
  obtain ⟨k', e, hw, rfl⟩ := keyOf_inv hk
  have e' : k = k' := by
    simp [kV] at e
    exact Prod.ext e.1 e.2
  subst e'
  obtain ⟨p, hp, ep⟩ := (h.has _).1 (Maps.has_true_of_atKey hat)
  have e1 := kL_inj (h.wf p hp) hw ep
  have e2 := h.at_ p hp (fD (0, 0))
  rw [ep, hat] at e2
  rw [elemF_mk] at hR
  injection hR with hR
  rw [← hR] at e2
  have e3 := fD_inj e2
  refine ⟨rfl, hw, ?_⟩
  rw [← e1, e3]
  exact hp
theorem only_grown {k : Nat} {w w' : World} (h : Only [k] w w') : w.grownBy w' (some k) := ⟨h.os, h.tape, h.output, h.size, fun i hi hn => h.block i hi (fun hm => hn (by rw [List.mem_singleton.1 hm]))⟩

theorem grown_of_only0 {w w' : World} (h : Only [] w w') : w.grownBy w' none := ⟨h.os, h.tape, h.output, h.size, fun k hk _ => h.block k hk (by simp)⟩

/-- Turns rise. -/
def Turns (l : List (K2 × K2)) : Prop := l.Pairwise fun p q => p.2.2 < q.2.2

/-- What is known of the first one while the entries are gone over. -/
def FirstR (w : World) (b n : Nat) (D : DataW Unit) (l : List (K2 × K2)) (next : Int) (lv : Value) (wr : World) : Prop :=
  ∃ (left : Lit → Bool) (cnt : Nat) (m : Int) (c : K2), lv = .int .i64 m ∧ wr.ranges Try.prog 33 elemF b (w.heap.size + 2) n D left cnt ∧
    Blk wr w.heap.size 33 #[.int .i64 0, .int .i64 0] ∧ Blk wr (w.heap.size + 1) 33 #[.int .i64 c.1, .int .i64 c.2] ∧ Below w.heap.size w wr ∧
    (∀ p ∈ l, left (kL p.1) = false → m ≤ p.2.2) ∧ ((m = next ∧ ∀ p ∈ l, left (kL p.1) = true) ∨ ∃ p ∈ l, m = p.2.2 ∧ c = p.1)

section
variable {w : World} {hb o b n : Nat} {D : DataW Unit} {l : List (K2 × K2)} {next : Int}
set_option maxRecDepth 100000 in
theorem first_is (c0 : w.cell? ⟨hb, o, none⟩ = some (.map (some b))) (c1 : w.cell? ⟨hb, o + 1, none⟩ = some (.int .i64 next)) (hown : w.ownsMap Try.prog 33 elemF b n D) (H : Holds D l) (p : K2 × K2) (r : List (K2 × K2)) (hl : l = p :: r) (ht : Turns l) (hn : ∀ q ∈ l, q.2.2 < next) :
    Calls Try.prog 43 #[.pointer (some ⟨hb, o, none⟩)] w fun e w' => e = .returned (kV p.1) ∧ Below w.heap.size w w' := by
  have hbl := hown.lt
  have HH := hide H
  have hd0 : ∀ o1 o2, ((w.alloc o1).alloc o2).cell? ⟨hb, o, none⟩ = some (.map (some b)) := fun o1 o2 => Lib.cell?_alloc_some _ (Lib.cell?_alloc_some _ c0)
  have hd1 : ∀ o1 o2, ((w.alloc o1).alloc o2).cell? ⟨hb, o + 1, none⟩ = some (.int .i64 next) := fun o1 o2 => Lib.cell?_alloc_some _ (Lib.cell?_alloc_some _ c1)
  have hown2 : ∀ o1 o2, ((w.alloc o1).alloc o2).ownsMap Try.prog 33 elemF b n D := fun o1 o2 => (hown.alloc _).alloc _
  clear H c0 c1
  go_enter Try.func43, Try.ntmps43
  go_wp2_with (first | (at_range; refine wpList_range_own _ rfl _ 59 rfl 33 81 lawKey Try.underlying59 _ b n _ rfl (hown2 _ _) ?_; intro w0 hrg0 hg0 hs0) | go_in)
  go_frame
  have hsz : ((w.alloc (.cells #[.int .i64 0, .int .i64 0] 33)).alloc (.cells #[.int .i64 0, .int .i64 0] 33)).heap.size = w.heap.size + 2 := by simp
  rw [hsz] at hrg0
  rw [hsz]
  have hA : FirstR w b n D l next (.int .i64 next) w0 := by
    have h1 : Blk ((w.alloc (.cells #[.int .i64 0, .int .i64 0] 33)).alloc (.cells #[.int .i64 0, .int .i64 0] 33)) w.heap.size 33 #[.int .i64 0, .int .i64 0] := (Blk.new w 33 _).alloc _
    have h2 : Blk ((w.alloc (.cells #[.int .i64 0, .int .i64 0] 33)).alloc (.cells #[.int .i64 0, .int .i64 0] 33)) (w.heap.size + 1) 33 #[.int .i64 0, .int .i64 0] := by
      have := Blk.new (w.alloc (.cells #[.int .i64 0, .int .i64 0] 33)) 33 #[.int .i64 0, .int .i64 0]
      simpa using this
    have ho : Only [] ((w.alloc (.cells #[.int .i64 0, .int .i64 0] 33)).alloc (.cells #[.int .i64 0, .int .i64 0] 33)) w0 := Only.of_grown hg0 (by simp)
    refine ⟨_, _, next, (0, 0), rfl, hrg0, h1.only ho (by simp), h2.only ho (by simp), (((Below.refl _ w).alloc (Nat.le_refl _) _).alloc (by simp) _).trans (ho.below (by simp; omega) (by simp)), fun p hp h => ?_, .inl ⟨rfl, fun p hp => HH.out.some_ hp⟩⟩
    rw [HH.out.some_ (k := p.1) (f := p.2) hp] at h
    cases h
  have HA := hide hA
  clear hA hrg0 hg0 hs0 hsz hd0 hd1 hown2
  go_loopw [4] (fun lv wr => FirstR w b n D l next lv wr) (fun _ wr => wr.rangeLeft b (w.heap.size + 2))
  case atStart => exact HA.out
  case round =>
    clear HA
    obtain ⟨left, cnt, m, c, rfl, hrg, h1, h2, hbw, hmin, hm⟩ := hrel
    go_wp2_with (first | (at_next; refine wpList_next_ranges _ rfl _ rfl 33 lawKey elemF kV fV (fun key kl h => let ⟨k, e, _⟩ := keyOf_inv h; ⟨k, e⟩) (fun v y h => let ⟨f, e, _⟩ := elemF_inv h; ⟨f, e⟩) b (w.heap.size + 2) n D left cnt rfl hrg ?_ ?_) | go_in)
    · intro _ hl0
      have hc : c = p.1 := by
        rcases hm with ⟨_, h⟩ | ⟨q, hq, em, ec⟩
        · have := h p (by rw [hl]; simp)
          rw [hl0] at this
          cases this
        · have h1 := hmin p (by rw [hl]; simp) (hl0 _)
          rw [hl] at hq ht
          rcases List.mem_cons.1 hq with rfl | hq
          · exact ec
          · have := (List.pairwise_cons.1 ht).1 q hq
            omega
      subst hc
      have HB := hide hbw
      have HR := hide h1
      have k0 := h2.cell 0
      have k1 := h2.cell 1
      have r0 := h1.cell 0
      have r1 := h1.cell 1
      have z0 := h1.frozen 0
      have z1 := h1.frozen 1
      clear hmin hm hl0 hrg hbw h1 h2 hl hn
      have HF := hide (show (((wr.setCell ⟨w.heap.size, 0, none⟩ (.int .i64 p.1.1)).setCell ⟨w.heap.size, 1, none⟩ (.int .i64 p.1.2)).cell? ⟨w.heap.size, 0, none⟩ = some (.int .i64 p.1.1) ∧ ((wr.setCell ⟨w.heap.size, 0, none⟩ (.int .i64 p.1.1)).setCell ⟨w.heap.size, 1, none⟩ (.int .i64 p.1.2)).cell? ⟨w.heap.size, 1, none⟩ = some (.int .i64 p.1.2)) ∧
          Below w.heap.size w ((wr.setCell ⟨w.heap.size, 0, none⟩ (.int .i64 p.1.1)).setCell ⟨w.heap.size, 1, none⟩ (.int .i64 p.1.2)) from by
        have hb := ((HR.out.set_ 0 (.int .i64 p.1.1)).set_ 1 (.int .i64 p.1.2))
        exact ⟨⟨hb.cell 0, hb.cell 1⟩, (HB.out.setCell (p := ⟨w.heap.size, 0, none⟩) (Nat.le_refl _) _).setCell (p := ⟨w.heap.size, 1, none⟩) (Nat.le_refl _) _⟩)
      go_wp2
      obtain ⟨⟨q0, q1⟩, hB⟩ := HF.out
      exact bodyPost_ret (v := kV p.1) (by simp [results, Try.f43, go_sem, q0, q1]) rfl ⟨rfl, hB⟩
    · intro k1 k2 f1 f2 kl y1 y2 w1 cnt1 hkx hlx hRy hat hrg1 hlt hg1 hs1 hen
      obtain ⟨rfl, hkw, hkl⟩ := HH.out.come (k := (k1, k2)) (f := (f1, f2)) hkx hRy hat
      have ho1 : Only [w.heap.size + 2] wr w1 := ⟨hg1.os, hg1.tape, hg1.output, hg1.size, fun i hi hn => hg1.block i hi (fun e => hn (by injection e with e; simp [e]))⟩
      have h1' := h1.only ho1 (by simp)
      have h2' := h2.only ho1 (by simp)
      have hbw' := hbw.trans (ho1.below hbw.size (by simp))
      have HR := hide (And.intro hrg1 (And.intro h1' (And.intro h2' hbw')))
      have HMN := hide hmin
      have HM := hide hm
      have HK := hide hkl
      have HL := hide (And.intro hrg.left_eq hlt)
      have HN := hide hn
      have HUQ := hide (fun (p : K2 × K2) (hp : p ∈ l) (h : (kL p.1).sameKey (kL (k1, k2)) = true) => (show p = ((k1, k2), (f1, f2)) from HH.out.uniq hp hkl (kL_inj (HH.out.wf p hp) hkw (WideAt.sameKey_eq h))))
      clear hrg h1 h2 hbw hmin hm hkx hlx hRy hat hrg1 hlt hg1 hs1 ho1 hkl hbw'
      have k0 := fun o1 o2 => ((h2'.alloc o1).alloc o2).cell 0
      have k1' := fun o1 o2 => ((h2'.alloc o1).alloc o2).cell 1
      have z0 := fun o1 o2 => ((h2'.alloc o1).alloc o2).frozen 0
      have z1 := fun o1 o2 => ((h2'.alloc o1).alloc o2).frozen 1
      have hlw := h2'.lt
      have hne : ¬ (w1.heap.size = w.heap.size) := by omega
      have hne' : ¬ (w.heap.size = w1.heap.size) := by omega
      have hld : ∀ (o1 : Obj) (u1 u2 : Value), (((((w1.alloc o1).alloc (.cells #[.int .u32 f1, .int .i64 f2] 81)).setCell ⟨w.heap.size + 1, 0, none⟩ u1).setCell ⟨w.heap.size + 1, 1, none⟩ u2)).cell? ⟨w1.heap.size + 1, 1, none⟩ = some (.int .i64 f2) := fun o1 u1 u2 => by
        have := (((Blk.new (w1.alloc o1) 81 #[.int .u32 f1, .int .i64 f2]).far (p := ⟨w.heap.size + 1, 0, none⟩) (by simp; omega) u1).far (p := ⟨w.heap.size + 1, 1, none⟩) (by simp; omega) u2).cell 1
        simpa using this
      clear h1' h2' hl ht hn hlw
      by_cases hlt2 : f2 < m
      · go_wp2
        go_region
        all_goals
          obtain ⟨hrg, h1, h2, hb⟩ := HR.out
          have hsz1 := h2.lt
          have ho : Only [w.heap.size + 1] w1 ((((w1.alloc (.cells #[.int .i64 k1, .int .i64 k2] 33)).alloc (.cells #[.int .u32 f1, .int .i64 f2] 81)).setCell ⟨w.heap.size + 1, 0, none⟩ (.int .i64 k1)).setCell ⟨w.heap.size + 1, 1, none⟩ (.int .i64 k2)).drew := (((((Only.refl _ w1).alloc _).alloc _).setCell _ (by simp)).setCell _ (by simp)).drew
          have hrg' := hrg.kept (only_grown ho) (by simp; omega) (by simp)
          have h2' := (((h2.alloc (.cells #[.int .i64 k1, .int .i64 k2] 33)).alloc (.cells #[.int .u32 f1, .int .i64 f2] 81)).set_ 0 (.int .i64 k1)).set_ 1 (.int .i64 k2)
          have HE := hide (show FirstR w b n D l next (.int .i64 f2) ((((w1.alloc (.cells #[.int .i64 k1, .int .i64 k2] 33)).alloc (.cells #[.int .u32 f1, .int .i64 f2] 81)).setCell ⟨w.heap.size + 1, 0, none⟩ (.int .i64 k1)).setCell ⟨w.heap.size + 1, 1, none⟩ (.int .i64 k2)).drew from by
            refine ⟨_, cnt1, f2, (k1, k2), rfl, hrg', h1.only ho (by simp), h2', hb.trans (ho.below hb.size (by simp)), fun p hp h => ?_, .inr ⟨((k1, k2), (f1, f2)), HK.out, rfl, rfl⟩⟩
            simp only [Bool.and_eq_false_iff, Bool.not_eq_false'] at h
            rcases h with h | h
            · have := HMN.out p hp h; omega
            · rw [HUQ.out p hp h]
              exact Int.le_refl _)
          have HM2 := hide (show World.rangeLeft ((((w1.alloc (.cells #[.int .i64 k1, .int .i64 k2] 33)).alloc (.cells #[.int .u32 f1, .int .i64 f2] 81)).setCell ⟨w.heap.size + 1, 0, none⟩ (.int .i64 k1)).setCell ⟨w.heap.size + 1, 1, none⟩ (.int .i64 k2)).drew b (w.heap.size + 2) < wr.rangeLeft b (w.heap.size + 2) from by rw [hrg'.left_eq, HL.out.1]; exact HL.out.2)
          clear hrg h1 h2 hb hsz1 ho hrg' h2'
          go_roundw
          case rel => exact ⟨_, _, _, _, _, _, _, _, _, _, _, _, _, _, _, HE.out, rfl⟩
          case measure => exact HM2.out
      · go_wp2
        obtain ⟨hrg, h1, h2, hb⟩ := HR.out
        have ho : Only [] w1 ((w1.alloc (.cells #[.int .i64 k1, .int .i64 k2] 33)).alloc (.cells #[.int .u32 f1, .int .i64 f2] 81)) := ((Only.refl _ w1).alloc _).alloc _
        have hrg' := hrg.kept (grown_of_only0 ho) (by simp) (by simp)
        refine ⟨⟨_, cnt1, m, c, rfl, hrg', h1.only ho (by simp), h2.only ho (by simp), hb.trans (ho.below hb.size (by simp)), fun p hp h => ?_, ?_⟩, by rw [hrg'.left_eq, HL.out.1]; exact HL.out.2⟩
        · simp only [Bool.and_eq_false_iff, Bool.not_eq_false'] at h
          rcases h with h | h
          · exact HMN.out p hp h
          · rw [HUQ.out p hp h]
            show m ≤ f2
            omega
        · rcases HM.out with ⟨e, _⟩ | h
          · have := HN.out _ HK.out
            simp only at this
            omega
          · exact .inr h
end
end Go.Proofs.Ytdkbjnnflpopdaa
