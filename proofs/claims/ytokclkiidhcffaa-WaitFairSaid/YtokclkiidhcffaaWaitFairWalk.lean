/-
  The walk of 'WaitFair'.
-/
import Derived.Test.YtokclkiidhcffaaWqLaw2
import Derived.Deep.RegionHeld3
namespace Go.Proofs.Ytokclkiidhcffaa
open Go.ChangeShapes Go.WideShapes Go.ChangeAt Go.RowKit Go.Maps
set_option linter.unusedVariables false
theorem IRow.keep {w w' : World} {v : Value} {ns : List Int} (h : IRow w v ns) (hb : ∀ q, v.ownBlock = some q → w'.heap[q]? = w.heap[q]?) : IRow w' v ns := by
  obtain ⟨h1, h2⟩ := h
  rcases h2 with h2 | ⟨b, cap, cur, e, hB, hg, rest⟩
  · exact ⟨h1, .inl h2⟩
  · exact ⟨h1, .inr ⟨b, cap, cur, e, hB, (hb b (by rw [e]; rfl)).trans hg, rest⟩⟩
theorem LQ.row {w0 w w' : World} {g m : Nat} {s : LW} {bs bs' S : List Nat} (h : LQ w0 w g s m bs) (ho : Only S w w') (hS : ∀ q ∈ S, q ∈ bs) (hbs : ∀ b ∈ bs', b ∈ bs ∨ (w.heap.size ≤ b ∧ b < w'.heap.size)) : LQ w0 w' g s m bs' := by
  have h2 := h.other ho hS
  obtain ⟨F, h⟩ := h
  obtain ⟨F2, h2⟩ := h2
  have hsz := h.base.size
  refine ⟨F, h.q.only ho (fun k hk hm => (h.own k hk).2 (hS k hm)), fun q hq => ⟨(h.own q hq).1, fun hm => ?_⟩, h2.base, fun b hb => ?_, h.ok, h.few⟩
  · rcases hbs q hm with h3 | h3
    · exact (h.own q hq).2 h3
    · have := h.q.lt hq; omega
  · rcases hbs b hb with h3 | h3
    · exact h2.bs b h3
    · exact ⟨by omega, h3.2⟩
theorem wake_left : ∀ (k : Nat) (s : LW) (c : CH), OkW s.1 s.2 → atL (offAll s ((atL s.2 c).take k)).2 c = (atL s.2 c).drop k
  | 0, s, c, _ => by simp [offAll]
  | k + 1, s, c, o => by
    cases hl : atL s.2 c with
    | nil => simp [offAll, hl]
    | cons t r =>
      have hc : c ∈ atL s.1 t := (o.both t c).2 (by rw [hl]; simp)
      have h1 : atL (offS s t).2 c = r := by
        show atL (leaveAll s.2 (atL s.1 t) t) c = r
        rw [atL_leaveAll c _ (o.nd1 t), if_pos hc, hl, List.erase_cons_head]
      have h2 := wake_left k (offS s t) c (o.cancel t)
      rw [h1] at h2
      rw [List.take_succ_cons, List.drop_succ_cons]
      exact h2
theorem own_slice {A : Option Addr} {n c q : Nat} (h : (Value.slice A n c).ownBlock = some q) : ∃ o s, A = some ⟨q, o, s⟩ := by
  cases A with
  | none => simp [Value.ownBlock] at h
  | some ad =>
    obtain ⟨b, o, s⟩ := ad
    simp [Value.ownBlock] at h
    exact ⟨o, s, by rw [h]⟩
/-- Ints that came in. -/
def TsIn (w : World) (A : Option Addr) (n : Nat) : Prop := ∀ i, i < n → ∃ b o t, A = some ⟨b, o, none⟩ ∧ b < w.heap.size ∧ iW t ∧ w.cell? ⟨b, o + i, none⟩ = some (.int .i64 t)
theorem TsIn.quiet {w : World} {A : Option Addr} {n i : Nat} (h : TsIn w A n) (hi : i < n) : ∃ b o t, A = some ⟨b, o, none⟩ ∧ iW t ∧ ∀ W, Only [] w W → W.cell? ⟨b, o + i, none⟩ = some (.int .i64 t) := by
  obtain ⟨b, o, t, e, hb, hw, hc⟩ := h i hi
  exact ⟨b, o, t, e, hw, fun W hW => (hW.cell hb (by simp)).trans hc⟩
/-- Some threads have come. -/
def Fair1 (w1 : World) (g : Nat) (c : CH) (i : Nat) (wv : Value) (W : World) : Prop := ∃ ns s, IRow W wv ns ∧ LQ w1 W g s i wv.ownBlock.toList ∧ atL s.2 c = ns
theorem Fair1.base {w1 W : World} {g i : Nat} {c : CH} {wv : Value} (h : Fair1 w1 g c i wv W) : Only [] w1 W := by obtain ⟨ns, s, h1, h2, h3⟩ := h; exact h2.base
/-- A thread t has come, and is not in the row yet. -/
def Fair1t (w1 : World) (g : Nat) (c : CH) (i : Nat) (t : Int) (wv : Value) (W : World) : Prop := ∃ ns s, IRow W wv ns ∧ LQ w1 W g s i wv.ownBlock.toList ∧ atL s.2 c = ns ++ [t] ∧ ns.length ≤ 64
theorem Fair1t.base {w1 W : World} {g i : Nat} {c : CH} {t : Int} {wv : Value} (h : Fair1t w1 g c i t wv W) : Only [] w1 W := by obtain ⟨ns, s, h1, h2, h3⟩ := h; exact h2.base
theorem fair1_sleep {w1 W : World} {g i : Nat} {c : CH} {wv : Value} (h : Fair1 w1 g c i wv W) (hm : i < 100000000000000) {t : Int} (ht : iW t) (hc : c.wf) {k : Nat} (hk : W.heap.size = k) :
    Calls Try.prog 13 #[.pointer (some ⟨g, 0, none⟩), .int .i64 t, .slice (some ⟨k, 0, none⟩) 1 1] (W.alloc (.cells (cC c) 32)) fun e w' => ∃ E : Int, e = .returned (.int .i64 E) ∧ (E ≠ 0 → Fair1 w1 g c (i + 1) wv w') ∧ (E = 0 → Fair1t w1 g c (i + 1) t wv w') := by
  subst hk
  obtain ⟨ns, s, hr, hq, hat⟩ := h
  have ho := (Only.refl [] W).alloc (.cells (cC c) 32)
  have hq2 := hq.add (.cells (cC c) 32)
  refine (lq_wsleep hq2 (by omega) ht (l := [c]) rfl (Nat.le_refl _) (fun _ => chans_new W [c] (by simp)) (fun b o e => by injection e with e; injection e with e _; subst e; exact .inr (by simp)) (by simpa using hc)).mono ?_
  rintro e w' ⟨rfl, hd, hb⟩
  have hr2 : IRow w' wv ns := IRow.keep (hr.only ho (by simp)) (fun q hq => hb q (by rw [hq]; simp))
  have hd2 := hd.less (bs' := wv.ownBlock.toList) (fun q hq => List.mem_cons_of_mem _ hq)
  refine ⟨_, rfl, fun hne => ?_, fun he => ?_⟩
  · unfold sleepS at hd2
    rw [if_neg hne] at hd2
    exact ⟨ns, s, hr2, hd2, hat⟩
  · unfold sleepS at hd2
    rw [if_pos he] at hd2
    refine ⟨ns, _, hr2, hd2, ?_, ?_⟩
    · show atL (comeAll s.2 [c] t) c = _
      rw [atL_comeAll c [c] (by simp), if_pos (by simp), hat]
    · rw [← hat]; exact wake_in hq.ok c 0
theorem fair1t_app {w1 W : World} {g i : Nat} {c : CH} {t : Int} {wv : Value} (h : Fair1t w1 g c i t wv W) {v' : Value} {w2 : World} {ns : List Int} (hr0 : IRow W wv ns) (hr : IRow w2 v' (ns ++ [t])) (ho : Only wv.ownBlock.toList (W.alloc (.cells #[.int .i64 t] 3)) w2)
    (hb : ∀ k, v'.ownBlock = some k → wv.ownBlock = some k ∨ (W.alloc (.cells #[.int .i64 t] 3)).heap.size ≤ k) : Fair1 w1 g c i v' w2 := by
  obtain ⟨ns', s, hr', hq, hat, _⟩ := h
  have e : ns' = ns := by
    have h1 := hr'.sees
    obtain ⟨A, cc, e1, g1, _, h3⟩ := hr'.sees
    obtain ⟨A2, c2, e2, _, _, h4⟩ := hr0.sees
    rw [e1] at e2
    injection e2 with e2 e3 e4
    subst e2
    refine List.ext_getElem e3 fun j hj hj2 => ?_
    rcases A with _ | ad
    · have := (g1 rfl).1
      omega
    · obtain ⟨b, o, rfl, _, k1⟩ := h3 ad rfl
      obtain ⟨b2, o2, e5, _, k2⟩ := h4 _ rfl
      injection e5 with e5 e6
      subst e5; subst e6
      have m1 := k1 j (.int .i64 ns'[j]) (by simp [i64l, hj])
      have m2 := k2 j (.int .i64 ns[j]) (by simp [i64l, hj2])
      rw [m1] at m2
      injection m2 with m2
      injection m2 with _ m2
  subst e
  have ho1 := (Only.refl [] W).alloc (.cells #[.int .i64 t] 3)
  refine ⟨_, s, hr, (hq.quiet ho1).row ho (by simp) (fun b hb' => ?_), hat⟩
  simp only [Option.mem_toList] at hb' ⊢
  rcases hb b hb' with h1 | h1
  · exact .inl h1
  · exact .inr ⟨h1, (KRow.at_ hr hb').2.1⟩
/-- What a slice shows behind its first k. -/
theorem ZsAt.drop {w : World} {A : Option Addr} {n c : Nat} {zs : List Int} (h : ZsAt w (.slice A n c) zs) {k : Nat} (hk : k ≤ zs.length) : (∃ b o, A = some ⟨b, o, none⟩ ∧ ZsAt w (.slice (some ⟨b, o + k, none⟩) (n - k) (c - k)) (zs.drop k)) ∨ (A = none ∧ zs = [] ∧ k = 0) := by
  obtain ⟨A', c', e, h1, h2, h3⟩ := h
  injection e with e1 e2 e3
  subst e1 e2 e3
  rcases A with _ | ad
  · have := (h1 rfl).1
    exact .inr ⟨rfl, List.eq_nil_of_length_eq_zero this, by omega⟩
  · obtain ⟨b, o, rfl, hb, hc⟩ := h3 ad rfl
    refine .inl ⟨b, o, rfl, _, c - k, by rw [List.length_drop], (fun e => by cases e), by rw [List.length_drop]; omega, fun ad e => ?_⟩
    injection e with e
    refine ⟨b, o + k, e.symm, hb, fun j u hu => ?_⟩
    rw [Nat.add_assoc]
    refine hc (k + j) u ?_
    unfold i64l at hu ⊢
    rw [List.map_drop, List.getElem?_drop] at hu
    exact hu
/-- Some are woken. -/
structure Fair2 (w1 : World) (g : Nat) (c : CH) (want : List Int) (wv : Value) (m : Nat) (gv : Value) (got zs : List Int) (s : LW) (W : World) : Prop where
  rw_ : IRow W wv want
  rg : IRow W gv got
  q : LQ w1 W g s m (wv.ownBlock.toList ++ gv.ownBlock.toList)
  all : got ++ zs ++ atL s.2 c = want
  apart : ∀ q, gv.ownBlock = some q → wv.ownBlock ≠ some q
section
variable {w1 W w2 : World} {g m : Nat} {c : CH} {want got zs : List Int} {wv gv v' : Value} {s : LW}
theorem fair2_wake (h : Fair2 w1 g c want wv m gv got [] s W) (hm : m < 100000000000000) (hc : c.wf) (n : Int) :
    Calls Try.prog 10 #[.pointer (some ⟨g, 0, none⟩), kV c, .int .i64 n] W fun e w' => ∃ A2 m2 c2 zs s', e = .returned (.slice A2 m2 c2) ∧ zs.length = m2 ∧ (A2 = none → m2 = 0 ∧ c2 = 0) ∧ (∀ ad, A2 = some ad → ∀ j u, (i64l zs)[j]? = some u → w'.cell? (ad.add j) = some u) ∧ Fair2 w1 g c want wv m gv got zs s' w' := by
  refine (lq_wwake h.q (by omega) hc n).mono ?_
  rintro e w' ⟨v, rfl, hz, _, F', hf, _, hb⟩
  obtain ⟨A2, c2, rfl, k1, _, k3⟩ := hz
  refine ⟨A2, _, c2, _, _, rfl, rfl, k1, fun ad ha j u hu => ?_, IRow.keep h.rw_ (fun q hq => hb q (by simp [hq])), IRow.keep h.rg (fun q hq => hb q (by simp [hq])), ⟨F', hf⟩, ?_, h.apart⟩
  · obtain ⟨b, o, rfl, _, hc⟩ := k3 ad ha
    have : (⟨b, o, none⟩ : Addr).add j = ⟨b, o + j, none⟩ := by
      unfold Addr.add
      by_cases hj : j = 0
      · rw [if_pos hj, hj]; rfl
      · rw [if_neg hj]
    rw [this]
    exact hc j u hu
  · have h1 := h.all
    rw [List.append_nil] at h1
    show got ++ (atL s.2 c).take (wakeK s c n) ++ atL (offAll s ((atL s.2 c).take (wakeK s c n))).2 c = want
    rw [wake_left _ _ _ h.q.ok, List.append_assoc, List.take_append_drop]
    exact h1
theorem fair2_app (h : Fair2 w1 g c want wv m gv got zs s W) (hr : IRow w2 v' (got ++ zs)) (ho : Only gv.ownBlock.toList W w2) (hb : ∀ k, v'.ownBlock = some k → gv.ownBlock = some k ∨ W.heap.size ≤ k) : Fair2 w1 g c want wv m v' (got ++ zs) [] s w2 := by
  refine ⟨h.rw_.only ho (fun q hq => ?_), hr, h.q.row ho (fun q hq => List.mem_append_right _ hq) (fun b hb' => ?_), by rw [List.append_nil]; exact h.all, fun q hq e => ?_⟩
  · simp only [Option.mem_toList]
    exact fun e => h.apart q e hq
  · rcases List.mem_append.1 hb' with h1 | h1
    · exact .inl (List.mem_append_left _ h1)
    · simp only [Option.mem_toList] at h1
      rcases hb b h1 with h2 | h2
      · exact .inl (List.mem_append_right _ (by simpa using h2))
      · exact .inr ⟨h2, (KRow.at_ hr h1).2.1⟩
  · rcases hb q hq with h2 | h2
    · exact h.apart q h2 e
    · have := (KRow.at_ h.rw_ e).2.1
      omega
end
set_option maxHeartbeats 800000 in
set_option maxRecDepth 100000 in
theorem waitFair_is (c : CH) (hc : c.wf) (A B : Option Addr) (n cp k cq : Nat) (w : World) (hA : TsIn w A n) (hB : TsIn w B k) (hn : n < 100000000000000) (hk : k < 100000000000000) :
    Calls Try.prog 5 #[kV c, .slice A n cp, .slice B k cq] w fun e w' => e = .returned (.bool true) ∧ Below w.heap.size w w' := by
  have HA := hide hA
  have HB := hide hB
  have HN := hide (And.intro hn hk)
  have HC := hide hc
  have HO0 := hide ((Only.refl [] w).alloc (.cells (cC c) 32))
  have HBX := hide (fun (W : World) (hw : Only [] (w.alloc (.cells (cC c) 32)) W) => (show W.cell? ⟨w.heap.size, 0, none⟩ = some (.int .i64 c.kind) ∧ W.cell? ⟨w.heap.size, 1, none⟩ = some (.int .i64 c.a) ∧ W.cell? ⟨w.heap.size, 2, none⟩ = some (.int .i64 c.b) from by
    have k := (Blk.new w 32 (cC c)).only hw (by simp)
    exact ⟨k.cell 0, k.cell 1, k.cell 2⟩))
  clear hA hB hn hk hc
  go_enter Try.func5, Try.ntmps5
  go_wp2_with (first | (go_at_call 7; refine (lq_wnew _).mono ?_; rintro e w1 ⟨g, rfl, h1⟩; have H1 := hide h1; clear h1) | (go_at_call 8; refine (awake12 _).mono ?_; rintro e w2 ⟨rfl, ho⟩; have H2 := hide (H1.out.quiet ho); clear ho))
  go_loopw [8, 23] (fun wv iv wr => ∃ i : Nat, i ≤ n ∧ iv = .int .i64 i ∧ Fair1 (w.alloc (.cells (cC c) 32)) g c i wv wr) (fun wv iv _ => n - (intOf iv).toNat)
  case atStart => exact ⟨0, Nat.zero_le _, rfl, [], ([], []), KRow.nil _ _ _ _, H2.out, rfl⟩
  case round =>
    rename_i wv iv
    obtain ⟨i, hi, rfl, hF⟩ := hrel
    by_cases hlt : i < n
    · have hltI : (i : Int) < n := by omega
      obtain ⟨b, o, t, rfl, ht, hcell⟩ := HA.out.quiet hlt
      have c0 := hcell wr (HO0.out.trans hF.base)
      obtain ⟨d0, d1, d2⟩ := HBX.out wr hF.base
      have HS := hide (fair1_sleep hF (by have := HN.out.1; omega) ht HC.out rfl)
      have HF := hide hF
      clear hcell ht hF
      go_wp2_with fail
      with_reducible refine HS.out.mono ?_
      rintro e w3 ⟨E, rfl, hno, hyes⟩
      have HNO := hide hno
      have HYES := hide hyes
      clear hno hyes
      simp only []
      by_cases hE : E = 0
      · have e1 : (E == 0) = true := by simp [hE]
        obtain ⟨ns, s, hr, _, _, hl⟩ := HYES.out hE
        obtain ⟨Aw, cw, hwv, _⟩ := hr.form2
        subst hwv
        have HR := hide (hr.only ((Only.refl [] w3).alloc (.cells #[.int .i64 t] 3)) (by simp))
        have HR0 := hide hr
        have HL := hide hl
        have HFT := hide (HYES.out hE)
        have HNW := hide (show ∀ ad, some (⟨w3.heap.size, 0, none⟩ : Addr) = some ad → ∀ j u, (i64l [t])[j]? = some u → (w3.alloc (.cells #[.int .i64 t] 3)).cell? (ad.add j) = some u from fun ad e j u hu => by
          injection e with e
          subst e
          match j with
          | 0 =>
            injection hu with hu
            subst hu
            exact (Blk.new w3 3 #[.int .i64 t]).cell 0
          | j + 1 => simp [i64l] at hu)
        have HBIG := hide (show ns.length + 1 < 4000000000000 by omega)
        clear hr hl
        go_wp2_with (at_builtin; refine wpList_append_any rfl _ _ rfl (.slice Aw ns.length cw) ns rfl HR.out (some ⟨w3.heap.size, 0, none⟩) 1 1 rfl (fun e => by cases e) [t] rfl HNW.out HBIG.out ?_; intro v5 w5 h1 h2 h3; have HK := hide (fair1t_app HFT.out HR0.out h1 h2 h3); clear h1 h2 h3)
        go_wp2
        rw [show wrap64 ((i : Int) + 1) = ((i + 1 : Nat) : Int) by have := HN.out.1; rw [wrap64]; omega]
        refine ⟨⟨i + 1, hlt, rfl, HK.out⟩, ?_⟩
        simp [intOf]
        omega
      · have e1 : (E == 0) = false := by simp [hE]
        have HNO2 := hide (HNO.out hE)
        go_wp2
        rw [show wrap64 ((i : Int) + 1) = ((i + 1 : Nat) : Int) by have := HN.out.1; rw [wrap64]; omega]
        refine ⟨⟨i + 1, hlt, rfl, HNO2.out⟩, ?_⟩
        simp [intOf]
        omega
    · obtain ⟨ns, s, hr, hq, hat⟩ := hF
      have hl : ns.length ≤ 64 := by rw [← hat]; exact wake_in hq.ok c 0
      obtain ⟨Aw, cw, hwv, _⟩ := hr.form2
      subst hwv
      have hlI : ¬ (64 : Int) < ns.length := by omega
      have HR := hide hr
      have HQ := hide hq
      have HAT := hide hat
      have HL := hide hl
      clear hr hq hat hl
      go_wp2
      go_loopw [11, 43] (fun gv iv wr => ∃ i : Nat, i ≤ k ∧ iv = .int .i64 i ∧ ∃ got s, Fair2 (w.alloc (.cells (cC c) 32)) g c ns (.slice Aw ns.length cw) n gv got [] s wr) (fun gv iv _ => k - (intOf iv).toNat)
      case atStart => exact ⟨0, Nat.zero_le _, rfl, [], s, HR.out, KRow.nil _ _ _ _, (HQ.out.more (by omega)).less (by simp [Value.ownBlock]), by simpa using HAT.out, fun q hq => by simp [Value.ownBlock] at hq⟩
      case round =>
        rename_i gv iv2
        obtain ⟨j, hj, rfl, got, s2, hF⟩ := hrel
        obtain ⟨d0, d1, d2⟩ := HBX.out wr hF.q.base
        obtain ⟨Ag, cg, hgv, _⟩ := hF.rg.form2
        subst hgv
        by_cases hlt : j < k
        · have hltI : (j : Int) < k := by omega
          obtain ⟨b, o, t, rfl, ht, hcell⟩ := HB.out.quiet hlt
          have c0 := hcell wr (HO0.out.trans hF.q.base)
          have HW := hide (fair2_wake hF HN.out.1 HC.out t)
          clear hcell ht hF
          go_wp2_with fail
          with_reducible refine HW.out.mono ?_
          rintro e w4 ⟨A2, m2, c2, zs, s3, rfl, hzl, hz0, hnew, hF2⟩
          have HNEW := hide hnew
          have HZ0 := hide hz0
          have HF2 := hide hF2
          have HZL := hide hzl
          have HBIG := hide (show got.length + m2 < 4000000000000 by
            have h1 := congrArg List.length hF2.all
            have h2 := HL.out
            simp only [List.length_append] at h1
            omega)
          clear hnew hz0 hF2 hzl
          simp only []
          go_wp2_with (at_builtin; refine wpList_append_any rfl _ _ rfl (.slice Ag got.length cg) got rfl HF2.out.rg A2 m2 c2 rfl HZ0.out zs HZL.out HNEW.out HBIG.out ?_; intro v5 w5 h1 h2 h3; have HK := hide (fair2_app HF2.out h1 h2 h3); clear h1 h2 h3)
          go_wp2
          rw [show wrap64 ((j : Int) + 1) = ((j + 1 : Nat) : Int) by have := HN.out.2; rw [wrap64]; omega]
          refine ⟨⟨j + 1, hlt, rfl, _, _, HK.out⟩, ?_⟩
          simp [intOf]
          omega
        · have hall := hF.all
          rw [List.append_nil] at hall
          have hle : got.length ≤ ns.length := by rw [← hall]; simp
          have hleI : (got.length : Int) ≤ ns.length := by omega
          obtain ⟨Aw2, cw2, hAw, hAn, hcw, _, hAs⟩ := HR.out.form2
          injection hAw with hAw _ hcw2
          subst hAw hcw2
          rcases Aw with _ | ad
          · obtain ⟨hn0, hc0⟩ := hAn rfl
            obtain rfl : ns = [] := List.eq_nil_of_length_eq_zero hn0
            obtain ⟨rfl, hz⟩ := List.append_eq_nil_iff.1 hall
            subst hc0
            clear hAn hAs hcw hleI hle hall hn0
            have HF := hide hF
            have HS1 := hide (fun (W : World) (hW : Only [] wr W) => (same12_is (xs := []) (hF.rg.sees.quiet hW) (hF.rw_.sees.quiet hW) (by simp) (by simp)).mono (R' := fun e w' => e = .returned (.bool true) ∧ Only [] wr w') (fun e w' ⟨q1, q2⟩ => ⟨by rw [q1]; rfl, hW.trans q2⟩))
            have HS2 := hide (fun (W : World) (hW : Only [] wr W) => (lq_wsleepers (hF.q.quiet hW) (by have := HN.out.1; omega) HC.out).mono (R' := fun e w' => ∃ AB cB, e = .returned (.slice AB (atL s2.2 c).length cB) ∧ Hid (ZsAt w' (.slice AB (atL s2.2 c).length cB) (atL s2.2 c)) ∧ Only [] wr w') (fun e w' ⟨v', q1, q2, _, q3⟩ => by
              have h2 := q2.sees
              obtain ⟨AB, cB, rfl, _⟩ := id h2
              exact ⟨AB, cB, q1, hide h2, hW.trans q3⟩))
            have HS3 := hide (fun (W : World) (v x : Value) (hW : Only [] wr W) (hv : ZsAt W v (atL s2.2 c)) (hx : ZsAt W x (atL s2.2 c)) => (same12_is hv hx (by rw [hz]; simp) (by rw [hz]; simp)).mono (R' := fun e w' => e = .returned (.bool true) ∧ Only [] wr w') (fun e w' ⟨q1, q2⟩ => ⟨by rw [q1]; simp, hW.trans q2⟩))
            clear hF
            have HCL := hide (fun (W : World) (hW : Only [] wr W) => HBX.out W (HF.out.q.base.trans hW))
            have HD2 := hide (fun (W : World) (hW : Only [] wr W) => (show ZsAt W (.slice none 0 0) (atL s2.2 c) from by
              rw [hz]
              exact ⟨none, 0, rfl, fun _ => ⟨rfl, rfl⟩, Nat.le_refl _, (fun ad e => by cases e)⟩))
            rw [hz] at HS2 HS3 HD2
            clear hz
            go_wp2
            go_region_held3 (fun w' => w'.cell? ⟨w.heap.size, 0, none⟩ = some (.int .i64 c.kind) ∧ w'.cell? ⟨w.heap.size, 1, none⟩ = some (.int .i64 c.a) ∧ w'.cell? ⟨w.heap.size, 2, none⟩ = some (.int .i64 c.b)) (first | go_keep | exact HCL.out _ kC | exact HCL.out _ kB | exact HCL.out _ kA) (first | (go_at_call 18; have hg := hvB.out; refine (HS3.out _ _ _ (kB.trans (by repeat (first | exact Only.refl _ _ | apply Only.drew | apply Only.drewN))) (hg.quiet (by repeat (first | exact Only.refl _ _ | apply Only.drew | apply Only.drewN))) (HD2.out _ (kB.trans (by repeat (first | exact Only.refl _ _ | apply Only.drew | apply Only.drewN))))).mono ?_; rintro e wC ⟨rfl, kC⟩) | (go_at_call 18; refine (HS1.out _ (by repeat (first | exact Only.refl _ _ | apply Only.drew | apply Only.drewN))).mono ?_; rintro e wA ⟨rfl, kA⟩) | (go_at_call 14; refine (HS2.out _ (kA.trans (by repeat (first | exact Only.refl _ _ | apply Only.drew | apply Only.drewN)))).mono ?_; rintro e wB ⟨AB, cB, rfl, hvB, kB⟩))
            go_wp2
            go_ret
            exact ⟨rfl, ((HO0.out.trans (HF.out.q.base.trans kC))).below (Nat.le_refl _) (by simp)⟩
          · obtain ⟨bw, rfl, _, _⟩ := hAs _ rfl
            have hcI : (got.length : Int) ≤ cw := by omega
            clear hAs hAn
            have HF := hide hF
            have HALL := hide hall
            have htk : ns.take got.length = got := by rw [← hall, List.take_left]
            have hdr : ns.drop got.length = atL s2.2 c := by rw [← hall, List.drop_left]
            have hbg : got.length < 4000000000000 := by have := HL.out; omega
            have hbr : (atL s2.2 c).length < 4000000000000 := by have := wake_in hF.q.ok c 0; omega
            have HS1 := hide (fun (W : World) (hW : Only [] wr W) => (same12_is (hF.rg.sees.quiet hW) (show ZsAt W (.slice (some ⟨bw, 0, none⟩) got.length cw) got by have := (hF.rw_.sees.quiet hW).take hle; rwa [htk] at this) hbg hbg).mono (R' := fun e w' => e = .returned (.bool true) ∧ Only [] wr w') (fun e w' ⟨q1, q2⟩ => ⟨by rw [q1]; simp, hW.trans q2⟩))
            have HS2 := hide (fun (W : World) (hW : Only [] wr W) => (lq_wsleepers (hF.q.quiet hW) (by have := HN.out.1; omega) HC.out).mono (R' := fun e w' => ∃ AB cB, e = .returned (.slice AB (atL s2.2 c).length cB) ∧ Hid (ZsAt w' (.slice AB (atL s2.2 c).length cB) (atL s2.2 c)) ∧ Only [] wr w') (fun e w' ⟨v', q1, q2, _, q3⟩ => by
              have h2 := q2.sees
              obtain ⟨AB, cB, rfl, _⟩ := id h2
              exact ⟨AB, cB, q1, hide h2, hW.trans q3⟩))
            have HS3 := hide (fun (W : World) (v x : Value) (hW : Only [] wr W) (hv : ZsAt W v (atL s2.2 c)) (hx : ZsAt W x (atL s2.2 c)) => (same12_is hv hx hbr hbr).mono (R' := fun e w' => e = .returned (.bool true) ∧ Only [] wr w') (fun e w' ⟨q1, q2⟩ => ⟨by rw [q1]; simp, hW.trans q2⟩))
            have HD := hide (fun (W : World) (hW : Only [] wr W) => (hF.rw_.sees.quiet hW).drop hle)
            have HDR := hide hdr
            clear hF hall htk hdr hbg hbr
            go_wp2
            have hlI2 : (got.length : Int) ≤ ns.length := hleI
            have HCL := hide (fun (W : World) (hW : Only [] wr W) => HBX.out W (HF.out.q.base.trans hW))
            have hbw := (KRow.at_ HF.out.rw_ (q := bw) rfl).2.1
            have hsum : ns.length = got.length + (atL s2.2 c).length := by rw [← HALL.out]; simp
            by_cases hcc : cw = got.length
            · have hz : atL s2.2 c = [] := List.eq_nil_of_length_eq_zero (by omega)
              have HD2 := hide (fun (W : World) (hW : Only [] wr W) => (show ZsAt W (.slice (some ⟨bw, 0, none⟩) 0 0) (atL s2.2 c) from by
                refine ⟨some ⟨bw, 0, none⟩, 0, by rw [hz]; rfl, (fun e => by cases e), by rw [hz]; simp, fun ad e => ?_⟩
                injection e with e
                exact ⟨bw, 0, e.symm, Nat.lt_of_lt_of_le hbw hW.size, fun j u hu => by rw [hz] at hu; simp [i64l] at hu⟩))
              subst hcc
              clear hz hbw hsum hcI
              go_region_held3 (fun w' => w'.cell? ⟨w.heap.size, 0, none⟩ = some (.int .i64 c.kind) ∧ w'.cell? ⟨w.heap.size, 1, none⟩ = some (.int .i64 c.a) ∧ w'.cell? ⟨w.heap.size, 2, none⟩ = some (.int .i64 c.b)) (first | go_keep | exact HCL.out _ kC | exact HCL.out _ kB | exact HCL.out _ kA) (first | (go_at_call 18; have hg := hvB.out; refine (HS3.out _ _ _ (kB.trans (by repeat (first | exact Only.refl _ _ | apply Only.drew | apply Only.drewN))) (hg.quiet (by repeat (first | exact Only.refl _ _ | apply Only.drew | apply Only.drewN))) (HD2.out _ (kB.trans (by repeat (first | exact Only.refl _ _ | apply Only.drew | apply Only.drewN))))).mono ?_; rintro e wC ⟨rfl, kC⟩) | (go_at_call 18; refine (HS1.out _ (by repeat (first | exact Only.refl _ _ | apply Only.drew | apply Only.drewN))).mono ?_; rintro e wA ⟨rfl, kA⟩) | (go_at_call 14; refine (HS2.out _ (kA.trans (by repeat (first | exact Only.refl _ _ | apply Only.drew | apply Only.drewN)))).mono ?_; rintro e wB ⟨AB, cB, rfl, hvB, kB⟩))
              go_wp2
              go_ret
              exact ⟨rfl, ((HO0.out.trans (HF.out.q.base.trans kC))).below (Nat.le_refl _) (by simp)⟩
            · have HD2 := hide (fun (W : World) (hW : Only [] wr W) => (show ZsAt W (.slice (some ⟨bw, got.length, none⟩) (ns.length - got.length) (cw - got.length)) (atL s2.2 c) from by
                rcases HD.out W hW with ⟨b, o, e, hz⟩ | ⟨e, _⟩
                · injection e with e
                  injection e with e1 e2
                  subst e1; subst e2
                  rw [HDR.out, Nat.zero_add] at hz
                  exact hz
                · cases e))
              clear hbw hsum
              go_region_held3 (fun w' => w'.cell? ⟨w.heap.size, 0, none⟩ = some (.int .i64 c.kind) ∧ w'.cell? ⟨w.heap.size, 1, none⟩ = some (.int .i64 c.a) ∧ w'.cell? ⟨w.heap.size, 2, none⟩ = some (.int .i64 c.b)) (first | go_keep | exact HCL.out _ kC | exact HCL.out _ kB | exact HCL.out _ kA) (first | (go_at_call 18; have hg := hvB.out; refine (HS3.out _ _ _ (kB.trans (by repeat (first | exact Only.refl _ _ | apply Only.drew | apply Only.drewN))) (hg.quiet (by repeat (first | exact Only.refl _ _ | apply Only.drew | apply Only.drewN))) (HD2.out _ (kB.trans (by repeat (first | exact Only.refl _ _ | apply Only.drew | apply Only.drewN))))).mono ?_; rintro e wC ⟨rfl, kC⟩) | (go_at_call 18; refine (HS1.out _ (by repeat (first | exact Only.refl _ _ | apply Only.drew | apply Only.drewN))).mono ?_; rintro e wA ⟨rfl, kA⟩) | (go_at_call 14; refine (HS2.out _ (kA.trans (by repeat (first | exact Only.refl _ _ | apply Only.drew | apply Only.drewN)))).mono ?_; rintro e wB ⟨AB, cB, rfl, hvB, kB⟩))
              go_wp2
              go_ret
              exact ⟨rfl, ((HO0.out.trans (HF.out.q.base.trans kC))).below (Nat.le_refl _) (by simp)⟩
theorem Rd.tsIn {H : Type} {enc : TypeId × Value → H} {D : DataW H} {w : World} {A : Option Addr} {n c : Nat} (h : Rd enc Try.prog w 35 [.slice A n c] D) : TsIn w A n ∧ n < 100000000000000 := by
  obtain ⟨A', n', c', zs, hv, hr, hb⟩ := h.ints Try.underlying35 Try.underlying3 (by kernel_rfl)
  injection hv with hv _
  injection hv with e1 e2 e3
  subst e1 e2 e3
  have hby : Try.prog.bytesOf 3 = 8 := by kernel_rfl
  rw [hby] at hb
  have hbig : c < 100000000000000 := by unfold reachBytes at hb; omega
  refine ⟨fun i hi => ?_, ?_⟩
  · obtain ⟨b, o, rfl, hbl, hl, hm, hz, hc, hw⟩ := hr.at_ (by omega)
    exact ⟨b, o, _, rfl, hbl, hw i (by omega), hc i (by omega)⟩
  · by_cases h0 : 0 < n
    · obtain ⟨b, o, rfl, hbl, hl, _⟩ := hr.at_ h0
      omega
    · omega
theorem waitFair_walk {H : Type} {enc : TypeId × Value → H} {d0 d1 d2 : DataW H} {w : World} {v : Value} {base : Nat} {A B : Option Addr} {n cp k cq : Nat} (o : Value.okWide Try.prog w .any base 32 v) (h : Rd enc Try.prog w 32 v.cells.toList d0) (h1 : Rd enc Try.prog w 35 [.slice A n cp] d1) (h2 : Rd enc Try.prog w 35 [.slice B k cq] d2) :
    Calls Try.prog 5 #[v, .slice A n cp, .slice B k cq] w fun e w' => e = .returned (.bool true) ∧ Below w.heap.size w w' := by
  obtain ⟨c, hc, rfl⟩ := Rd.chan12 o h
  exact waitFair_is c hc A B n cp k cq w h1.tsIn.1 h2.tsIn.1 h1.tsIn.2 h2.tsIn.2
end Go.Proofs.Ytokclkiidhcffaa
