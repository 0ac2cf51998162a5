/-
  Sleepers (parapet/waitq): Wake.
-/
import Derived.Test.YtokclkiidhcffaaWqOk
namespace Go.Proofs.Ytokclkiidhcffaa
open Go.ChangeShapes Go.WideShapes Go.ChangeAt Go.RowKit Go.Maps
set_option linter.unusedVariables false

abbrev LW := List (Int × List CH) × List (CH × List Int)
/-- A thread is called off. -/
def offS (s : LW) (t : Int) : LW := (outL s.1 t, leaveAll s.2 (atL s.1 t) t)
def offAll (s : LW) (ts : List Int) : LW := ts.foldl offS s
theorem offAll_snoc (s : LW) (ts : List Int) (t : Int) : offAll s (ts ++ [t]) = offS (offAll s ts) t := by simp [offAll]
theorem offAll_far {t : Int} : ∀ (ts : List Int) (s : LW), t ∉ ts → atL (offAll s ts).1 t = atL s.1 t
  | [], s, _ => rfl
  | x :: r, s, h => by
    simp at h
    show atL (offAll (offS s x) r).1 t = _
    rw [offAll_far r _ h.2]
    exact atL_out_far h.1
theorem offAll_ok : ∀ (ts : List Int) (s : LW), OkW s.1 s.2 → OkW (offAll s ts).1 (offAll s ts).2
  | [], s, h => h
  | x :: r, s, h => offAll_ok r (offS s x) (h.cancel x)
theorem offAll_small : ∀ (ts : List Int) (s : LW), SmallL s.2 → SmallL (offAll s ts).2
  | [], s, h => h
  | x :: r, s, h => offAll_small r (offS s x) (h.leaveAll _ _)
section
variable {w w' w1 : World} {g : Nat} {L1 : List (Int × List CH)} {L2 : List (CH × List Int)} {F : List Nat} {S : List Nat}
theorem Wq.wf1 (h : Wq w g L1 L2 F) {t : Int} (ht : t ∈ L1.map (·.1)) : iW t := by
  obtain ⟨m1, m2, R1, R2, h, rfl, rfl, rfl⟩ := h
  rw [viewE_keys] at ht
  obtain ⟨e, he, rfl⟩ := List.mem_map.1 ht
  exact h.on.wf he
set_option maxHeartbeats 2000000 in
set_option maxRecDepth 100000 in
theorem wq_wake (h : Wq w g L1 L2 F) (o : OkW L1 L2) (hs : SmallL L2) {c : CH} (hc : c.wf) (n : Int) (k : Nat) (hk : k ≤ (atL L2 c).length) (hn : (n < 0 ∧ k = 0) ∨ n = k ∨ (((atL L2 c).length : Int) < n ∧ k = (atL L2 c).length)) :
    Calls Try.prog 10 #[.pointer (some ⟨g, 0, none⟩), kV c, .int .i64 n] w fun e w' => ∃ A cap, e = .returned (.slice A k cap) ∧ IRow w' (.slice A (atL L2 c).length cap) (atL L2 c) ∧ ∃ F', Wq w' g (offAll (L1, L2) ((atL L2 c).take k)).1 (offAll (L1, L2) ((atL L2 c).take k)).2 F' ∧ TurnW w w' F F' ∧ ∀ b, A = some ⟨b, 0, none⟩ → w.heap.size ≤ b ∧ b ∉ F' := by
  have HSL := hide (fun o => wq_sleepers (h.quiet ((Only.refl [] w).alloc o)) hs.each c hc)
  have H := hide h
  have HO := hide o
  have HS := hide hs
  have HA0 := hide (fun o => (Only.refl [] w).alloc o)
  have HIN := hide (fun t (ht : t ∈ atL L2 c) => (o.both t c).2 ht)
  have HND := hide (o.nd2 c)
  have hfew := hs.leave c 0
  have hll : (atL L2 c).length ≤ 64 := by
    unfold atL
    cases hf : L2.find? fun p => decide (p.1 = c) with
    | none => simp
    | some x => simpa using hs.each x (List.mem_of_find?_eq_some hf)
  generalize atL L2 c = l at *
  have HL := hide hll
  have HK := hide hk
  clear hfew h o hs hc
  rcases hn with ⟨hn, rfl⟩ | rfl | ⟨hn, rfl⟩
  · skip
    go_enter Try.func10, Try.ntmps10
    go_wp2_with (go_at_call 14; refine (HSL.out _).mono ?_; rintro e w1 ⟨v, rfl, hr, hb, ho⟩; have HR := hide hr; obtain ⟨A, cap, rfl, _, hlc, _, hA⟩ := hr.form2; have hkc : ((0 : Nat) : Int) ≤ cap := (by have := HK.out; omega); have HA := hide hA; have HB := hide hb; have HO1 := hide ((HA0.out _).trans ho); clear hA hr hb ho)
    all_goals
      have HW1 := hide (H.out.quiet HO1.out)
      have HFR := hide (fun (F' : List Nat) {W : World} (hT : TurnW w1 W F F') (b : Nat) (e : A = some ⟨b, 0, none⟩) => (show w.heap.size ≤ b ∧ b ∉ F' from by
        have h1 := HB.out b (by rw [e]; rfl)
        have h2 := (KRow.at_ HR.out (q := b) (by rw [e]; rfl)).2.1
        simp at h1
        refine ⟨by omega, fun hf => ?_⟩
        rcases hT.foot b hf with h | h
        · have := H.out.lt h; omega
        · omega))
      have HF := hide (fun (W : World) (hw : Only F w1 W) => show IRow W (.slice A l.length cap) l from KRow.only HR.out hw (fun q hq hf => by have := H.out.lt hf; have := HB.out q hq; simp at this; omega))
      go_loopw [22] (fun iv wr => ∃ i : Nat, i ≤ 0 ∧ iv = .int .i64 i ∧ DidW w1 wr g F (offAll (L1, L2) (l.take i)).1 (offAll (L1, L2) (l.take i)).2) (fun iv _ => 0 - (intOf iv).toNat)
      case atStart => exact ⟨0, Nat.zero_le _, rfl, DidW.start HW1.out⟩
      case round =>
        obtain ⟨i, hi, rfl, F', hw, hT⟩ := hrel
        have HTT := hide hT
        by_cases hlt : i < 0
        · have hll : i < l.length := by have := HK.out; omega
          have hltI : (i : Int) < ((0 : Nat) : Int) := by omega
          obtain ⟨A2, c2, e2, _, _, _, hcl⟩ := (HF.out wr hT.only).form2
          injection e2 with e2 _ e3
          subst e2
          subst e3
          obtain ⟨ad, rfl⟩ : ∃ ad, A = some ad := by
            rcases A with _ | ad
            · obtain ⟨b', _, _, e', _⟩ := HR.out.blk (by omega)
              cases e'
            · exact ⟨ad, rfl⟩
          obtain ⟨b, rfl, _, hcell⟩ := hcl ad rfl
          have c0 := hcell i (.int .i64 l[i]) (by simp [i64l, hll])
          have HTK := hide (show l.take (i + 1) = l.take i ++ [l[i]] by rw [List.take_add_one]; simp [hll])
          have hfar : l[i] ∉ l.take i := fun hm => by
            have hs := HND.out
            rw [show l = l.take i ++ l[i] :: l.drop (i + 1) by rw [List.getElem_cons_drop, List.take_append_drop], List.nodup_append] at hs
            exact hs.2.2 _ hm _ List.mem_cons_self rfl
          have hin := HIN.out _ (List.getElem_mem hll)
          have hok := offAll_ok (l.take i) (L1, L2) HO.out
          have hne : atL L1 l[i] ≠ [] := fun e => by rw [e] at hin; cases hin
          have HQ := hide (wq_cancel hw (fun p hp => Nat.le_trans (hok.on16 p hp) (by decide)) (offAll_small _ _ HS.out) l[i] (H.out.wf1 (mem_atL hne)) (by rw [offAll_far _ _ hfar]; exact hne) (hok.nd1 _) (fun c' hc' => (hok.both _ c').1 hc'))
          generalize l[i] = x at *
          clear hw hT hfar hin hok hne hcell hcl
          go_wp2_with (go_at_call 11; refine HQ.out.mono ?_; rintro e w3 ⟨rfl, hd⟩; have HD := hide hd; clear hd)
          all_goals
            have e3 : ((i : Int) + 1) = ((i + 1 : Nat) : Int) := by omega
            rw [e3]
            obtain ⟨F2, q1, q2⟩ := HD.out
            refine ⟨⟨i + 1, hlt, rfl, F2, ?_, HTT.out.trans q2⟩, ?_⟩
            · rw [HTK.out, offAll_snoc]
              exact q1
            · simp [intOf]
              omega
        · obtain rfl : i = 0 := by omega
          have HDD := hide hw
          clear hw hT
          go_wp2
          go_ret
          exact ⟨_, _, (by first | rfl | (show Ending.returned (.slice A l.length cap) = Ending.returned (.slice A _ cap); congr 2; omega)), HF.out _ HTT.out.only, F', HDD.out, (TurnW.same F HO1.out).trans HTT.out, HFR.out F' HTT.out⟩
  · have hkl : (k : Int) ≤ l.length := by omega
    go_enter Try.func10, Try.ntmps10
    go_wp2_with (go_at_call 14; refine (HSL.out _).mono ?_; rintro e w1 ⟨v, rfl, hr, hb, ho⟩; have HR := hide hr; obtain ⟨A, cap, rfl, _, hlc, _, hA⟩ := hr.form2; have hkc : ((k : Nat) : Int) ≤ cap := (by have := HK.out; omega); have HA := hide hA; have HB := hide hb; have HO1 := hide ((HA0.out _).trans ho); clear hA hr hb ho)
    all_goals
      have HW1 := hide (H.out.quiet HO1.out)
      have HFR := hide (fun (F' : List Nat) {W : World} (hT : TurnW w1 W F F') (b : Nat) (e : A = some ⟨b, 0, none⟩) => (show w.heap.size ≤ b ∧ b ∉ F' from by
        have h1 := HB.out b (by rw [e]; rfl)
        have h2 := (KRow.at_ HR.out (q := b) (by rw [e]; rfl)).2.1
        simp at h1
        refine ⟨by omega, fun hf => ?_⟩
        rcases hT.foot b hf with h | h
        · have := H.out.lt h; omega
        · omega))
      have HF := hide (fun (W : World) (hw : Only F w1 W) => show IRow W (.slice A l.length cap) l from KRow.only HR.out hw (fun q hq hf => by have := H.out.lt hf; have := HB.out q hq; simp at this; omega))
      go_loopw [22] (fun iv wr => ∃ i : Nat, i ≤ k ∧ iv = .int .i64 i ∧ DidW w1 wr g F (offAll (L1, L2) (l.take i)).1 (offAll (L1, L2) (l.take i)).2) (fun iv _ => k - (intOf iv).toNat)
      case atStart => exact ⟨0, Nat.zero_le _, rfl, DidW.start HW1.out⟩
      case round =>
        obtain ⟨i, hi, rfl, F', hw, hT⟩ := hrel
        have HTT := hide hT
        by_cases hlt : i < k
        · have hll : i < l.length := by have := HK.out; omega
          have hltI : (i : Int) < ((k : Nat) : Int) := by omega
          obtain ⟨A2, c2, e2, _, _, _, hcl⟩ := (HF.out wr hT.only).form2
          injection e2 with e2 _ e3
          subst e2
          subst e3
          obtain ⟨ad, rfl⟩ : ∃ ad, A = some ad := by
            rcases A with _ | ad
            · obtain ⟨b', _, _, e', _⟩ := HR.out.blk (by omega)
              cases e'
            · exact ⟨ad, rfl⟩
          obtain ⟨b, rfl, _, hcell⟩ := hcl ad rfl
          have c0 := hcell i (.int .i64 l[i]) (by simp [i64l, hll])
          have HTK := hide (show l.take (i + 1) = l.take i ++ [l[i]] by rw [List.take_add_one]; simp [hll])
          have hfar : l[i] ∉ l.take i := fun hm => by
            have hs := HND.out
            rw [show l = l.take i ++ l[i] :: l.drop (i + 1) by rw [List.getElem_cons_drop, List.take_append_drop], List.nodup_append] at hs
            exact hs.2.2 _ hm _ List.mem_cons_self rfl
          have hin := HIN.out _ (List.getElem_mem hll)
          have hok := offAll_ok (l.take i) (L1, L2) HO.out
          have hne : atL L1 l[i] ≠ [] := fun e => by rw [e] at hin; cases hin
          have HQ := hide (wq_cancel hw (fun p hp => Nat.le_trans (hok.on16 p hp) (by decide)) (offAll_small _ _ HS.out) l[i] (H.out.wf1 (mem_atL hne)) (by rw [offAll_far _ _ hfar]; exact hne) (hok.nd1 _) (fun c' hc' => (hok.both _ c').1 hc'))
          generalize l[i] = x at *
          clear hw hT hfar hin hok hne hcell hcl
          go_wp2_with (go_at_call 11; refine HQ.out.mono ?_; rintro e w3 ⟨rfl, hd⟩; have HD := hide hd; clear hd)
          all_goals
            have e3 : ((i : Int) + 1) = ((i + 1 : Nat) : Int) := by omega
            rw [e3]
            obtain ⟨F2, q1, q2⟩ := HD.out
            refine ⟨⟨i + 1, hlt, rfl, F2, ?_, HTT.out.trans q2⟩, ?_⟩
            · rw [HTK.out, offAll_snoc]
              exact q1
            · simp [intOf]
              omega
        · obtain rfl : i = k := by omega
          have HDD := hide hw
          clear hw hT
          go_wp2
          go_ret
          exact ⟨_, _, (by first | rfl | (show Ending.returned (.slice A l.length cap) = Ending.returned (.slice A _ cap); congr 2; omega)), HF.out _ HTT.out.only, F', HDD.out, (TurnW.same F HO1.out).trans HTT.out, HFR.out F' HTT.out⟩
  · skip
    go_enter Try.func10, Try.ntmps10
    go_wp2_with (go_at_call 14; refine (HSL.out _).mono ?_; rintro e w1 ⟨v, rfl, hr, hb, ho⟩; have HR := hide hr; obtain ⟨A, cap, rfl, _, hlc, _, hA⟩ := hr.form2; have hkc : ((l.length : Nat) : Int) ≤ cap := (by have := HK.out; omega); have HA := hide hA; have HB := hide hb; have HO1 := hide ((HA0.out _).trans ho); clear hA hr hb ho)
    all_goals
      have HW1 := hide (H.out.quiet HO1.out)
      have HFR := hide (fun (F' : List Nat) {W : World} (hT : TurnW w1 W F F') (b : Nat) (e : A = some ⟨b, 0, none⟩) => (show w.heap.size ≤ b ∧ b ∉ F' from by
        have h1 := HB.out b (by rw [e]; rfl)
        have h2 := (KRow.at_ HR.out (q := b) (by rw [e]; rfl)).2.1
        simp at h1
        refine ⟨by omega, fun hf => ?_⟩
        rcases hT.foot b hf with h | h
        · have := H.out.lt h; omega
        · omega))
      have HF := hide (fun (W : World) (hw : Only F w1 W) => show IRow W (.slice A l.length cap) l from KRow.only HR.out hw (fun q hq hf => by have := H.out.lt hf; have := HB.out q hq; simp at this; omega))
      go_loopw [22] (fun iv wr => ∃ i : Nat, i ≤ l.length ∧ iv = .int .i64 i ∧ DidW w1 wr g F (offAll (L1, L2) (l.take i)).1 (offAll (L1, L2) (l.take i)).2) (fun iv _ => l.length - (intOf iv).toNat)
      case atStart => exact ⟨0, Nat.zero_le _, rfl, DidW.start HW1.out⟩
      case round =>
        obtain ⟨i, hi, rfl, F', hw, hT⟩ := hrel
        have HTT := hide hT
        by_cases hlt : i < l.length
        · have hll : i < l.length := by have := HK.out; omega
          have hltI : (i : Int) < ((l.length : Nat) : Int) := by omega
          obtain ⟨A2, c2, e2, _, _, _, hcl⟩ := (HF.out wr hT.only).form2
          injection e2 with e2 _ e3
          subst e2
          subst e3
          obtain ⟨ad, rfl⟩ : ∃ ad, A = some ad := by
            rcases A with _ | ad
            · obtain ⟨b', _, _, e', _⟩ := HR.out.blk (by omega)
              cases e'
            · exact ⟨ad, rfl⟩
          obtain ⟨b, rfl, _, hcell⟩ := hcl ad rfl
          have c0 := hcell i (.int .i64 l[i]) (by simp [i64l, hll])
          have HTK := hide (show l.take (i + 1) = l.take i ++ [l[i]] by rw [List.take_add_one]; simp [hll])
          have hfar : l[i] ∉ l.take i := fun hm => by
            have hs := HND.out
            rw [show l = l.take i ++ l[i] :: l.drop (i + 1) by rw [List.getElem_cons_drop, List.take_append_drop], List.nodup_append] at hs
            exact hs.2.2 _ hm _ List.mem_cons_self rfl
          have hin := HIN.out _ (List.getElem_mem hll)
          have hok := offAll_ok (l.take i) (L1, L2) HO.out
          have hne : atL L1 l[i] ≠ [] := fun e => by rw [e] at hin; cases hin
          have HQ := hide (wq_cancel hw (fun p hp => Nat.le_trans (hok.on16 p hp) (by decide)) (offAll_small _ _ HS.out) l[i] (H.out.wf1 (mem_atL hne)) (by rw [offAll_far _ _ hfar]; exact hne) (hok.nd1 _) (fun c' hc' => (hok.both _ c').1 hc'))
          generalize l[i] = x at *
          clear hw hT hfar hin hok hne hcell hcl
          go_wp2_with (go_at_call 11; refine HQ.out.mono ?_; rintro e w3 ⟨rfl, hd⟩; have HD := hide hd; clear hd)
          all_goals
            have e3 : ((i : Int) + 1) = ((i + 1 : Nat) : Int) := by omega
            rw [e3]
            obtain ⟨F2, q1, q2⟩ := HD.out
            refine ⟨⟨i + 1, hlt, rfl, F2, ?_, HTT.out.trans q2⟩, ?_⟩
            · rw [HTK.out, offAll_snoc]
              exact q1
            · simp [intOf]
              omega
        · obtain rfl : i = l.length := by omega
          have HDD := hide hw
          clear hw hT
          go_wp2
          go_ret
          exact ⟨_, _, (by first | rfl | (show Ending.returned (.slice A l.length cap) = Ending.returned (.slice A _ cap); congr 2; omega)), HF.out _ HTT.out.only, F', HDD.out, (TurnW.same F HO1.out).trans HTT.out, HFR.out F' HTT.out⟩
end
end Go.Proofs.Ytokclkiidhcffaa
