/-
  Sleepers (parapet/waitq): Move.
-/
import Derived.Test.YtokclkiidhcffaaWqRd
namespace Go.Proofs.Ytokclkiidhcffaa
open Go.ChangeShapes Go.WideShapes Go.ChangeAt Go.RowKit Go.Maps
set_option linter.unusedVariables false

/-- A thread's channels: where they stand, and what it means to write one. -/
theorem CRw.set3 {w : World} {b n cap : Nat} {ss : List CH} (h : CRw w (.slice (some ⟨b, 0, none⟩) n cap) ss) {i : Nat} (hi : i < ss.length) (d : CH) :
    CRw (w.setCells b (i * 3) [.int .i64 d.kind, .int .i64 d.a, .int .i64 d.b]) (.slice (some ⟨b, 0, none⟩) n cap) (ss.set i d) := by
  have h0 : ss[i]? = some ss[i] := by simp [hi]
  have h1 := h.put (s' := ⟨d.kind, (ss[i]).a, (ss[i]).b⟩) rfl rfl (k := 0) (by decide) h0 rfl
  have h2 := h1.put (s := ⟨d.kind, (ss[i]).a, (ss[i]).b⟩) (s' := ⟨d.kind, d.a, (ss[i]).b⟩) rfl rfl (i := i) (k := 1) (by decide) (by simp [hi]) rfl
  have h3 := h2.put (s := ⟨d.kind, d.a, (ss[i]).b⟩) (s' := d) rfl rfl (i := i) (k := 2) (by decide) (by simp [hi]) rfl
  rw [List.set_set, List.set_set] at h3
  exact h3
section
variable {w w' w1 : World} {g : Nat} {L1 : List (Int × List CH)} {L2 : List (CH × List Int)} {F : List Nat} {S : List Nat}
theorem wq_row (h : Wq w g L1 L2 F) {t : Int} (ht : t ∈ L1.map (·.1)) : ∃ m1 b cap, b ∈ F ∧
    (∀ W, Only [] w W → W.cell? ⟨g, 0, none⟩ = some (.map (some m1)) ∧ (Instr.lookup 51 (.map (some m1)) (.int .i64 t) false).run Try.prog W = .ok (.slice (some ⟨b, 0, none⟩) (atL L1 t).length cap) W ∧ ChansAt W (.slice (some ⟨b, 0, none⟩) (atL L1 t).length cap) (atL L1 t) ∧ ∃ cs, Blk W b 32 cs) ∧
    ∀ W i d, Only [] w W → i < (atL L1 t).length → DidW w (W.setCells b (i * 3) [.int .i64 d.kind, .int .i64 d.a, .int .i64 d.b]) g F (setL L1 t (·.set i d)) L2 := by
  obtain ⟨m1, m2, R1, R2, h, rfl, rfl, rfl⟩ := h
  rw [viewE_keys] at ht
  obtain ⟨e, he, rfl⟩ := List.mem_map.1 ht
  rw [atL_view, atE_mem h.on.keys he]
  have hr := h.on.row e he
  have hne := h.on.ne e he
  obtain ⟨b, cap, cur, e1, _⟩ := hr.blk (List.length_pos_iff.2 hne)
  have hb : e.s.b = b := by
    simp only [svO, Value.slice.injEq, Option.some.injEq, Addr.mk.injEq] at e1
    exact e1.1.1
  have hF : b ∈ footW g m1 m2 R1 R2 := mem_footW.2 (.inr (.inr (.inr (.inl ⟨e, he, hb⟩))))
  refine ⟨m1, b, cap, hF, fun W hw => ?_, fun W i d hw hi => ?_⟩
  · have hq := h.quiet hw
    have hl := hq.look1 he
    rw [e1] at hl
    refine ⟨hq.c0, hl, ?_, ?_⟩
    · have := (hq.on.row e he).sees
      rwa [e1] at this
    · rw [← hb]
      exact hq.blk1 he
  · have hq := h.quiet hw
    have hr2 := hq.on.row e he
    rw [e1] at hr2
    have h3 := hr2.set3 hi d
    rw [← e1] at h3
    have ho : Only [e.s.b] W (W.setCells b (i * 3) [.int .i64 d.kind, .int .i64 d.a, .int .i64 d.b]) := by rw [hb]; exact conly_setCells _ _ _
    have hm := hq.mod1 he ho h3 (by intro e'; rw [List.set_eq_nil_iff] at e'; exact hne e')
    refine ⟨_, ⟨m1, m2, _, R2, hm, viewE_set h.on.keys he e.s (·.set i d), rfl, rfl⟩, (hw.mono (by simp)).trans (ho.mono (fun k _ hk => ?_)), fun k hk => .inl ?_⟩
    · simp at hk
      rw [hk, hb]
      exact hF
    · rcases mem_footW.1 hk with hk | hk | hk | ⟨y, hy, hk⟩ | hk
      · exact mem_footW.2 (.inl hk)
      · exact mem_footW.2 (.inr (.inl hk))
      · exact mem_footW.2 (.inr (.inr (.inl hk)))
      · rcases mem_setE hy with rfl | ⟨hy, _⟩
        · exact mem_footW.2 (.inr (.inr (.inr (.inl ⟨e, he, hk⟩))))
        · exact mem_footW.2 (.inr (.inr (.inr (.inl ⟨y, hy, hk⟩))))
      · exact mem_footW.2 (.inr (.inr (.inr (.inr hk))))
theorem setL_inPlace {c d : CH} {t : Int} (hn : (L1.map (·.1)).Nodup) (hnd : (atL L1 t).Nodup) (hc : c ∈ atL L1 t) : setL L1 t (·.set ((atL L1 t).idxOf c) d) = setL L1 t (inPlace c d) := by
  unfold setL
  refine List.map_congr_left fun p hp => ?_
  by_cases e : p.1 = t
  · rw [if_pos e, if_pos e]
    have := atL_of_mem hn hp
    rw [e] at this
    rw [this] at hnd hc ⊢
    show (t, p.2.set (List.idxOf c p.2) d) = _
    rw [inPlace_set hnd hc]
  · rw [if_neg e, if_neg e]
set_option maxHeartbeats 2000000 in
set_option maxRecDepth 100000 in
theorem wq_move (h : Wq w g L1 L2 F) (o : OkW L1 L2) (hs : L2.length + 65 < maxLen) {c d : CH} (hc : c.wf) (hd : d.wf) (n : Int) :
    Calls Try.prog 15 #[.pointer (some ⟨g, 0, none⟩), kV c, kV d, .int .i64 n] w fun e w' => e = .returned (.int .i64 (moveF c d n (L1, L2) (atL L2 c)).2) ∧ DidW w w' g F (moveF c d n (L1, L2) (atL L2 c)).1.1 (moveF c d n (L1, L2) (atL L2 c)).1.2 := by
  have hsm := o.smallL (by omega)
  have HSL := hide (fun o o' => wq_sleepers (h.quiet (((Only.refl [] w).alloc o).alloc o')) hsm.each c hc)
  have H := hide h
  have HIV := hide (fun i (hi : i ≤ (atL L2 c).length) => moveF_invs (c := c) (d := d) (n := n) (s := (L1, L2)) o rfl i hi)
  have HIN := hide (fun t (ht : t ∈ atL L2 c) => (o.both t c).2 ht)
  have HSS := hide hs
  have HCW := hide hc
  have HDW := hide hd
  have HO := hide ((((Only.refl [] w).alloc (.cells (cC c) 32)).alloc (.cells (cC d) 32)))
  have HKC := hide (((Blk.new w 32 (cC c)).alloc (.cells (cC d) 32)))
  have HKD := hide ((Blk.new (w.alloc (.cells (cC c) 32)) 32 (cC d)))
  have hll : (atL L2 c).length ≤ 64 := by
    unfold atL
    cases hf : L2.find? fun p => decide (p.1 = c) with
    | none => simp
    | some x => simpa using hsm.each x (List.mem_of_find?_eq_some hf)
  generalize atL L2 c = l at *
  have HL := hide hll
  have k0 := HKC.out.cell 0
  have k1 := HKC.out.cell 1
  have k2 := HKC.out.cell 2
  rw [show (cC c)[0]? = some (.int .i64 c.kind) from rfl] at k0
  rw [show (cC c)[1]? = some (.int .i64 c.a) from rfl] at k1
  rw [show (cC c)[2]? = some (.int .i64 c.b) from rfl] at k2
  clear h o hs hc hd hsm hll
  go_enter Try.func15, Try.ntmps15
  go_wp2_with (go_at_call 14; refine (HSL.out _ _).mono ?_; rintro e w1 ⟨v, rfl, hr, hb, ho⟩; have HR := hide hr; obtain ⟨A, cap, rfl, _, hlc, _, hA⟩ := hr.form2; have HB := hide hb; have HO1 := hide (HO.out.trans ho); have HO2 := hide ho; clear hA hr hb ho)
  have HW1 := hide (H.out.quiet HO1.out)
  have HF := hide (fun (W : World) (hw : Only F w1 W) => show IRow W (.slice A l.length cap) l from KRow.only HR.out hw (fun q hq hf => by have := H.out.lt hf; have := HB.out q hq; simp at this; omega))
  have HC1 := hide (fun (W : World) (hw : Only F w1 W) => (HKC.out.only HO2.out (by simp)).only hw (fun hf => by have := H.out.lt hf; omega))
  have HD1 := hide (fun (W : World) (hw : Only F w1 W) => (HKD.out.only HO2.out (by simp)).only hw (fun hf => by have := H.out.lt hf; simp at this; omega))
  go_loopw [9, 17] (fun mv iv wr => ∃ i : Nat, i ≤ l.length ∧ iv = .int .i64 i ∧ mv = .int .i64 (moveF c d n (L1, L2) (l.take i)).2 ∧ DidW w1 wr g F (moveF c d n (L1, L2) (l.take i)).1.1 (moveF c d n (L1, L2) (l.take i)).1.2) (fun mv iv _ => l.length - (intOf iv).toNat)
  case atStart => exact ⟨0, Nat.zero_le _, rfl, rfl, by simpa [moveF] using DidW.start HW1.out⟩
  case round =>
    obtain ⟨i, hi, rfl, rfl, F', hw, hT⟩ := hrel
    have HTT := hide hT
    by_cases hlt : i < l.length
    · have hltI : (i : Int) < l.length := by omega
      obtain ⟨A2, c2, e2, _, _, _, hcl⟩ := (HF.out wr hT.only).form2
      injection e2 with e2 _ e3
      subst e2
      subst e3
      obtain ⟨ad, rfl⟩ : ∃ ad, A = some ad := by
        rcases A with _ | ad
        · obtain ⟨b', _, _, e', _⟩ := HR.out.blk (by omega)
          cases e'
        · exact ⟨ad, rfl⟩
      obtain ⟨b, rfl, _, hcell⟩ := hcl ad rfl
      have c0 := hcell i (.int .i64 l[i]) (by simp [i64l, hlt])
      obtain ⟨i1, i2, i3⟩ := HIV.out i hi
      have hati := i2 i hlt (Nat.le_refl _)
      have hci := HIN.out _ (List.getElem_mem hlt)
      rw [← hati] at hci
      have HNX := hide (show moveF c d n (L1, L2) (l.take (i + 1)) = stepMv c d n (moveF c d n (L1, L2) (l.take i)) l[i] by rw [List.take_add_one, show l[i]?.toList = [l[i]] by simp [hlt], moveF_snoc])
      have hple := moveF_le c d n (L1, L2) i l
      have HST := hide (fun h => moveF_stop (c := c) (d := d) (n := n) (s := (L1, L2)) (l := l) (i := i) h)
      obtain ⟨m1, br, rcap, hbF, hrow1, hrow2⟩ := wq_row hw (mem_atL (fun e => by rw [e] at hci; cases hci))
      have HR1 := hide hrow1
      have HR2 := hide hrow2
      have hHC := HC1.out wr hT.only
      have hHD := HD1.out wr hT.only
      generalize hp : moveF c d n (L1, L2) (l.take i) = p at *
      have h16 : (atL p.1.1 l[i]).length ≤ 16 := by
        have := mem_atL (L := p.1.1) (k := l[i]) (fun e => by rw [e] at hci; cases hci)
        obtain ⟨q, hq, hqe⟩ := List.mem_map.1 this
        have h1 := i1.on16 q hq
        rw [← atL_of_mem i1.k1 hq, hqe] at h1
        exact h1
      have HWW := hide hw
      have hck : c ∈ atL p.1.1 l[i] := hci
      have HSAME := hide (setL_inPlace (d := d) i1.k1 (i1.nd1 l[i]) hck)
      have HK1 := hide i1
      have HI3 := hide i3
      generalize l[i] = x at *
      by_cases hn : n ≤ (p.2 : Int)
      · clear hp hw hT hcell hcl i1 i2 i3 hati hci hrow1 hrow2 hHC hHD h16
        go_wp2
        go_ret
        rw [HST.out hn]
        exact ⟨rfl, F', HWW.out, (TurnW.same F HO1.out).trans HTT.out⟩
      · have hwrap : IntKind.i64.wrap ((p.2 : Int) + 1) = ((p.2 + 1 : Nat) : Int) := by
          have := HL.out
          rw [IntKind.wrap_i64]
          omega
        have hwrap2 : wrap64 ((i : Int) + 1) = ((i + 1 : Nat) : Int) := by
          have := HL.out
          rw [wrap64]
          omega
        have HCT := hide (fun (W : World) (hW : Only [] wr W) => (containsC_is (HR1.out W hW).2.2.1 (by omega) d).mono (R' := fun e w' => e = .returned (.bool (decide (d ∈ atL p.1.1 x))) ∧ Only [] wr w') (fun e w' ⟨q1, q2⟩ => ⟨q1, hW.trans q2⟩))
        obtain ⟨r0, r1, _⟩ := HR1.out wr (Only.refl _ _)
        have d0 := hHD.cell 0
        have d1 := hHD.cell 1
        have d2 := hHD.cell 2
        rw [show (cC d)[0]? = some (.int .i64 d.kind) from rfl] at d0
        rw [show (cC d)[1]? = some (.int .i64 d.a) from rfl] at d1
        rw [show (cC d)[2]? = some (.int .i64 d.b) from rfl] at d2
        rw [show (w.alloc (.cells (cC c) 32)).heap.size = w.heap.size + 1 by simp] at d0 d1 d2
        have HHC := hide hHC
        have HHD := hide hHD
        have h16' := hide h16
        have hci' := hide hck
        clear hp hw hT hcell hcl i1 i2 i3 hati hci hck hrow1 hrow2 hHC hHD h16
        by_cases hd : d ∈ atL p.1.1 x
        · have e1 : decide (d ∈ atL p.1.1 x) = true := by simp [hd]
          rw [e1] at HCT
          have hd' := hide hd
          clear hd
          go_wp2_with (go_at_call 34; refine (HCT.out _ (Only.refl _ _)).mono ?_; rintro e w3 ⟨rfl, ho⟩; have HO3 := hide ho; clear ho)
          have e5 : moveF c d n (L1, L2) (l.take (i + 1)) = p := by rw [HNX.out]; unfold stepMv; rw [if_neg (by omega), if_pos hd'.out]
          rw [hwrap2]
          refine ⟨⟨i + 1, hlt, rfl, by rw [e5], F', ?_, HTT.out.trans (TurnW.same _ HO3.out)⟩, ?_⟩
          · rw [e5]
            exact HWW.out.quiet HO3.out
          · simp [intOf]
            omega
        · have e1 : decide (d ∈ atL p.1.1 x) = false := by simp [hd]
          rw [e1] at HCT
          have hd' := hide hd
          clear hd
          go_wp2_with (go_at_call 34; refine (HCT.out _ (Only.refl _ _)).mono ?_; rintro e w3 ⟨rfl, ho⟩; have HO3 := hide ho; clear ho)
          have hk : (atL p.1.1 x).idxOf c < (atL p.1.1 x).length := List.idxOf_lt_length_iff.2 hci'.out
          have hkI : (((atL p.1.1 x).idxOf c : Nat) : Int) < ((atL p.1.1 x).length : Nat) := by omega
          have HIX := hide (fun (W : World) (hW : Only [] wr W) => (indexC_is (HR1.out W hW).2.2.1 (by have := h16'.out; omega) c).mono (R' := fun e w' => e = .returned (.int .i64 ((atL p.1.1 x).idxOf c : Nat)) ∧ Only [] wr w' ∧ ∃ s : CH, w'.cell? ⟨br, (atL p.1.1 x).idxOf c * 3, none⟩ = some (.int .i64 s.kind) ∧ w'.cell? ⟨br, (atL p.1.1 x).idxOf c * 3 + 1, none⟩ = some (.int .i64 s.a) ∧ w'.cell? ⟨br, (atL p.1.1 x).idxOf c * 3 + 2, none⟩ = some (.int .i64 s.b)) (fun e w' ⟨q1, q2⟩ => ⟨by rw [q1, firstC, if_pos hci'.out], hW.trans q2, _, by
            have h := (HR1.out w' (hW.trans q2)).2.2.1.cells (List.getElem?_eq_getElem hk)
            rw [Nat.zero_add] at h
            exact h⟩))
          have HSM := HSAME
          generalize (atL p.1.1 x).idxOf c = k at *
          have hDD := HHD.out.only HO3.out (by simp)
          have hCC := HHC.out.only HO3.out (by simp)
          have f0 := hDD.cell 0
          have f1 := hDD.cell 1
          have f2 := hDD.cell 2
          rw [show (cC d)[0]? = some (.int .i64 d.kind) from rfl, show (w.alloc (.cells (cC c) 32)).heap.size = w.heap.size + 1 by simp] at f0
          rw [show (cC d)[1]? = some (.int .i64 d.a) from rfl, show (w.alloc (.cells (cC c) 32)).heap.size = w.heap.size + 1 by simp] at f1
          rw [show (cC d)[2]? = some (.int .i64 d.b) from rfl, show (w.alloc (.cells (cC c) 32)).heap.size = w.heap.size + 1 by simp] at f2
          have g0 := hCC.cell 0
          have g1 := hCC.cell 1
          have g2 := hCC.cell 2
          rw [show (cC c)[0]? = some (.int .i64 c.kind) from rfl] at g0
          rw [show (cC c)[1]? = some (.int .i64 c.a) from rfl] at g1
          rw [show (cC c)[2]? = some (.int .i64 c.b) from rfl] at g2
          have HDF := hide (fun (W : World) (hW : Only [] wr W) => (show W.cell? ⟨w.heap.size + 1, 0, none⟩ = some (.int .i64 d.kind) ∧ W.cell? ⟨w.heap.size + 1, 1, none⟩ = some (.int .i64 d.a) ∧ W.cell? ⟨w.heap.size + 1, 2, none⟩ = some (.int .i64 d.b) from by
            have k := HHD.out.only hW (by simp)
            rw [show (w.alloc (.cells (cC c) 32)).heap.size = w.heap.size + 1 by simp] at k
            exact ⟨k.cell 0, k.cell 1, k.cell 2⟩))
          clear hDD hCC r0 r1
          go_region_law (go_simp; go_at_call 35; refine (HIX.out _ (by repeat (first | exact HO3.out | apply Only.drew | apply Only.drewN))).mono ?_; rintro e w4 ⟨rfl, ho, s4, q0, q1, q2⟩; obtain ⟨j0, j1, j2⟩ := HDF.out w4 ho; obtain ⟨bcs, hbc⟩ := (HR1.out w4 ho).2.2.2; have z0 := hbc.frozen (k * 3); have z1 := hbc.frozen (k * 3 + 1); have z2 := hbc.frozen (k * 3 + 2); clear hbc; have HO4 := hide ho; clear ho)
          all_goals
            have hX : DidW wr (((w4.setCell ⟨br, k * 3, none⟩ (.int .i64 d.kind)).setCell ⟨br, k * 3 + 1, none⟩ (.int .i64 d.a)).setCell ⟨br, k * 3 + 2, none⟩ (.int .i64 d.b)) g F' (setL p.1.1 x (·.set k d)) p.1.2 := HR2.out w4 k d HO4.out hk
            rw [HSM.out] at hX
            clear j0 j1 j2 z0 z1 z2 q0 q1 q2 f0 f1 f2 g0 g1 g2 hkI c0
            generalize (((w4.setCell ⟨br, k * 3, none⟩ (.int .i64 d.kind)).setCell ⟨br, k * 3 + 1, none⟩ (.int .i64 d.a)).setCell ⟨br, k * 3 + 2, none⟩ (.int .i64 d.b)) = W5 at *
            obtain ⟨F5, q1, q2⟩ := hX
            have HT5 := hide (HTT.out.trans q2)
            have hsm5 : SmallL p.1.2 := HK1.out.smallL (by have := HI3.out; have := HSS.out; have := HL.out; omega)
            have HLV := hide (wq_leave q1 hsm5.len hsm5.each ((HK1.out.both x c).1 hci'.out))
            have HCM := hide (fun (W : World) (F6 : List Nat) (q : Wq W g (setL p.1.1 x (inPlace c d)) (leaveL p.1.2 c x) F6) => wq_come q (hsm5.leave c x).len (hsm5.leave c x).each HDW.out x)
            have g0 := (HC1.out W5 HT5.out.only).cell 0
            have g1 := (HC1.out W5 HT5.out.only).cell 1
            have g2 := (HC1.out W5 HT5.out.only).cell 2
            rw [show (cC c)[0]? = some (.int .i64 c.kind) from rfl] at g0
            rw [show (cC c)[1]? = some (.int .i64 c.a) from rfl] at g1
            rw [show (cC c)[2]? = some (.int .i64 c.b) from rfl] at g2
            have HD6 := hide (fun (W : World) (hW : Only F w1 W) => (show W.cell? ⟨w.heap.size + 1, 0, none⟩ = some (.int .i64 d.kind) ∧ W.cell? ⟨w.heap.size + 1, 1, none⟩ = some (.int .i64 d.a) ∧ W.cell? ⟨w.heap.size + 1, 2, none⟩ = some (.int .i64 d.b) from by
              have k := HD1.out W hW
              rw [show (w.alloc (.cells (cC c) 32)).heap.size = w.heap.size + 1 by simp] at k
              exact ⟨k.cell 0, k.cell 1, k.cell 2⟩))
            clear q1 q2 hsm5
            go_wp2_with (first | (go_at_call 23; refine HLV.out.mono ?_; rintro e w6 ⟨rfl, F6, q3, q4⟩; have HQ3 := hide q3; have HQ4 := hide (HT5.out.trans q4); obtain ⟨j0, j1, j2⟩ := HD6.out w6 (HT5.out.trans q4).only; clear q3 q4) | (go_at_call 33; refine (HCM.out _ _ HQ3.out).mono ?_; rintro e w7 ⟨rfl, F7, q5, q6⟩; have HQ5 := hide q5; have HQ6 := hide (HQ4.out.trans q6); clear q5 q6))
            have e5 : moveF c d n (L1, L2) (l.take (i + 1)) = (moveS c d p.1 x, p.2 + 1) := by rw [HNX.out]; unfold stepMv; rw [if_neg (by omega), if_neg hd'.out]
            rw [hwrap2]
            refine ⟨⟨i + 1, hlt, rfl, by rw [e5]; rfl, F7, ?_, HQ6.out⟩, ?_⟩
            · rw [e5]
              exact HQ5.out
            · simp [intOf]
              omega
    · obtain rfl : i = l.length := by omega
      rw [List.take_length] at hw ⊢
      have HWW := hide hw
      clear hw hT
      go_wp2
      go_ret
      exact ⟨rfl, F', HWW.out, (TurnW.same F HO1.out).trans HTT.out⟩
end
end Go.Proofs.Ytokclkiidhcffaa
