/-
  Sleepers (parapet/waitq): Sleep that lets a thread sleep.
-/
import Derived.Test.YtokclkiidhcffaaWqCancel
namespace Go.Proofs.Ytokclkiidhcffaa
open Go.ChangeShapes Go.WideShapes Go.ChangeAt Go.RowKit Go.Maps
set_option linter.unusedVariables false

def comeAll (L : List (CH × List Int)) (on : List CH) (t : Int) : List (CH × List Int) := on.foldl (fun L c => comeL L c t) L
theorem comeAll_snoc (L : List (CH × List Int)) (on : List CH) (c : CH) (t : Int) : comeAll L (on ++ [c]) t = comeL (comeAll L on t) c t := by simp [comeAll]
theorem comeL_length (L : List (CH × List Int)) (c : CH) (t : Int) : (comeL L c t).length ≤ L.length + 1 := by
  unfold comeL
  split
  · simp [setL]
  · simp
theorem mem_comeL {L : List (CH × List Int)} {c : CH} {t : Int} {p : CH × List Int} (h : p ∈ comeL L c t) : (p.1 ≠ c ∧ p ∈ L) ∨ (p.1 = c ∧ (p.2 = [t] ∨ ∃ q ∈ L, q.1 = c ∧ p.2 = q.2 ++ [t])) := by
  unfold comeL at h
  split at h
  · obtain ⟨x, hx, hp⟩ := List.mem_map.1 h
    by_cases e : x.1 = c
    · have hp' : p = (c, x.2 ++ [t]) := by rw [← hp]; simp [e]
      rw [hp']
      exact .inr ⟨rfl, .inr ⟨x, hx, e, rfl⟩⟩
    · have hp' : p = x := by rw [← hp]; simp [e]
      rw [hp']
      exact .inl ⟨e, hx⟩
  · rename_i hn
    rcases List.mem_append.1 h with h | h
    · exact .inl ⟨fun e => hn (List.mem_map.2 ⟨p, h, e⟩), h⟩
    · rw [List.mem_singleton.1 h]
      exact .inr ⟨rfl, .inl rfl⟩
/-- While some come: no list is longer than 64, and no longer than 63 where nobody has come. -/
theorem comeAll_room {L : List (CH × List Int)} (h : ∀ p ∈ L, p.2.length ≤ 63) {t : Int} : ∀ (on : List CH), on.Nodup → (∀ p ∈ comeAll L on t, p.2.length ≤ 64 ∧ (p.1 ∉ on → p.2.length ≤ 63)) := by
  intro on
  suffices H : ∀ (n : Nat) (on : List CH), on.length = n → on.Nodup → (∀ p ∈ comeAll L on t, p.2.length ≤ 64 ∧ (p.1 ∉ on → p.2.length ≤ 63)) from H _ on rfl
  intro n
  induction n with
  | zero =>
    intro on hl _ p hp
    obtain rfl := List.eq_nil_of_length_eq_zero hl
    have := h p hp
    exact ⟨by omega, fun _ => this⟩
  | succ n ih =>
    intro on hl hn p hp
    obtain ⟨r, c, rfl⟩ : ∃ r c, on = r ++ [c] := ⟨on.dropLast, on.getLast (by intro e; rw [e] at hl; simp at hl), by rw [List.dropLast_concat_getLast]⟩
    rw [comeAll_snoc] at hp
    rw [List.nodup_append] at hn
    have ihr := ih r (by simpa using hl) hn.1
    rcases mem_comeL hp with ⟨hk, hp⟩ | ⟨hk, he | ⟨q, hq, hqc, he⟩⟩
    · have := ihr p hp
      exact ⟨this.1, fun hm => this.2 (fun h' => hm (by simp [h']))⟩
    · rw [he]
      exact ⟨by simp, fun _ => by simp⟩
    · have := (ihr q hq).2 (fun h' => hn.2.2 _ h' c (by simp) hqc)
      rw [he]
      refine ⟨by simp; omega, fun hm => absurd ?_ hm⟩
      rw [hk]; simp
theorem comeAll_length (L : List (CH × List Int)) (t : Int) : ∀ (on : List CH) (L : List (CH × List Int)), (comeAll L on t).length ≤ L.length + on.length
  | [], L => by simp [comeAll]
  | c :: r, L => by
    have h1 := comeAll_length L t r (comeL L c t)
    have h2 := comeL_length L c t
    show (comeAll (comeL L c t) r t).length ≤ _
    simp only [List.length_cons]
    omega
section
variable {w w' w1 : World} {g : Nat} {L1 : List (Int × List CH)} {L2 : List (CH × List Int)} {F : List Nat} {S : List Nat}
theorem wq_closed (h : Wq w g L1 L2 F) : Calls Try.prog 20 #[.pointer (some ⟨g, 0, none⟩)] w fun e w' => e = .returned (.bool false) ∧ w = w' := by
  obtain ⟨m1, m2, R1, R2, h, rfl, rfl, rfl⟩ := h
  exact wclosed_is h
theorem sv_of_crow {w : World} {v : Value} {l : List CH} (h : CRw w v l) (hl : l ≠ []) : ∃ s : SV, v = svO (some s) ∧ s.b < w.heap.size ∧ v.ownBlock = some s.b := by
  obtain ⟨b, cap, cur, rfl, hb, _⟩ := h.blk (List.length_pos_iff.2 hl)
  exact ⟨⟨b, l.length, cap⟩, rfl, hb.lt, rfl⟩
/-- The map of what threads sleep on: a lookup, its length, a key that comes. -/
theorem wq_on_map (h : Wq w g L1 L2 F) {t : Int} (ht : iW t) (hn : t ∉ L1.map (·.1)) (hl : L1.length < maxLen) : ∃ m1, (∀ W, Only [] w W → W.cell? ⟨g, 0, none⟩ = some (.map (some m1)) ∧ (Instr.lookup 51 (.map (some m1)) (.int .i64 t) false).run Try.prog W = .ok (.slice none 0 0) W ∧ ∀ ty, (Builtin.len_ #[51] ty #[.map (some m1)]).run Try.prog W = .ok (.int .i64 L1.length) W) ∧
    ∀ W v l, Only [] w W → CRw W v l → l ≠ [] → (∀ q, v.ownBlock = some q → w.heap.size ≤ q) → ∃ V, (Instr.mapUpdate 51 (.map (some m1)) (.int .i64 t) v).run Try.prog W = .ok () V ∧ DidW w V g F (L1 ++ [(t, l)]) L2 := by
  obtain ⟨m1, m2, R1, R2, h, rfl, rfl, rfl⟩ := h
  rw [viewE_keys] at hn
  have e0 : (viewE R1).length = R1.length := by simp [viewE]
  rw [e0] at hl ⊢
  refine ⟨m1, fun W hw => ⟨(h.quiet hw).c0, (h.quiet hw).look1_no ht hn, (h.quiet hw).len1⟩, fun W v l hw hr hne hb => ?_⟩
  obtain ⟨s, rfl, hs, hq⟩ := sv_of_crow hr hne
  obtain ⟨V, h1, h2, h3⟩ := h.new1 hl ht hn hw hr hne hs (hb _ hq)
  refine ⟨V, h1, _, ⟨m1, m2, _, R2, h2, by simp [viewE], rfl, rfl⟩, h3.mono (fun k _ hk => ?_), fun k hk => ?_⟩
  · simp at hk
    rw [hk]
    exact mem_footW.2 (.inr (.inl rfl))
  · rcases mem_footW.1 hk with hk | hk | hk | ⟨y, hy, hk⟩ | hk
    · exact .inl (mem_footW.2 (.inl hk))
    · exact .inl (mem_footW.2 (.inr (.inl hk)))
    · exact .inl (mem_footW.2 (.inr (.inr (.inl hk))))
    · rcases List.mem_append.1 hy with hy | hy
      · exact .inl (mem_footW.2 (.inr (.inr (.inr (.inl ⟨y, hy, hk⟩)))))
      · rw [List.mem_singleton.1 hy] at hk
        exact .inr (hk ▸ hb _ hq)
    · exact .inl (mem_footW.2 (.inr (.inr (.inr (.inr hk)))))
set_option maxHeartbeats 2000000 in
set_option maxRecDepth 100000 in
theorem wq_sleep (h : Wq w g L1 L2 F) (h1 : L1.length < 64) (h2 : L2.length + 16 < maxLen) (hs : ∀ p ∈ L2, p.2.length ≤ 63) {t : Int} (ht : iW t) (ht1 : 1 ≤ t) (hn : t ∉ L1.map (·.1))
    {v : Value} {l : List CH} (hv : ChansAt w v l) (hcap : ∀ A n c, v = .slice A n c → n ≤ c) (hvF : ∀ b o n c, v = .slice (some ⟨b, o, none⟩) n c → b < w.heap.size → b ∉ F) (hl1 : 1 ≤ l.length) (hl16 : l.length ≤ 16) (hnd : l.Nodup) (hwf : ∀ c ∈ l, c.wf) :
    Calls Try.prog 13 #[.pointer (some ⟨g, 0, none⟩), .int .i64 t, v] w fun e w' => e = .returned (.int .i64 0) ∧ DidW w w' g F (L1 ++ [(t, l)]) (comeAll L2 l t) := by
  have HC := hide (wq_closed h)
  have HR := hide (repeats_is hv hcap (by omega))
  rw [show (!decide l.Nodup) = false by simp [hnd]] at HR
  obtain ⟨m1, hm, hst⟩ := wq_on_map h ht hn (Nat.lt_trans h1 (by decide))
  have HM := hide hm
  have HST := hide hst
  have HK := hide (fun (W : World) (hw : Only [] w W) => (cloneC_at (hv.quiet hw) (by omega)).mono (R' := fun e w' => ∃ v', e = .returned v' ∧ CRw w' v' l ∧ (∀ q, v'.ownBlock = some q → w.heap.size ≤ q) ∧ Only [] w w') (fun e w' ⟨v', p1, p2, p3, p4⟩ => ⟨v', p1, p2, fun q hq => Nat.le_trans hw.size (p3 q hq), hw.trans p4⟩))
  have HV := hide (fun (W : World) (hw : Only F w W) => hv.only hw hvF)
  have H1 := hide h1
  have H2 := hide h2
  have HS := hide hs
  have HN := hide hnd
  have HW := hide hwf
  have HL := hide (And.intro hl1 hl16)
  have hne : l ≠ [] := by intro e; rw [e] at hl1; simp at hl1
  have HNE := hide hne
  obtain ⟨A, cap, rfl, hA⟩ := hv.parts
  have HA := hide hA
  have z1 : ¬ t < 1 := by omega
  have z2 : ((l.length : Int) == 0) = false := by simp only [beq_eq_false_iff_ne]; omega
  have z3 : ¬ (16 : Int) < l.length := by omega
  have z4 : ((L1.length : Int) == 64) = false := by simp only [beq_eq_false_iff_ne]; omega
  have z5 : decide ((16 : Int) < l.length) = false := by simp; omega
  have z6 : decide (t < 1) = false := by simp; omega
  clear h h1 h2 hs hv hcap hvF hl1 hl16 hnd hwf hA hm hst hne
  go_enter Try.func13, Try.ntmps13
  go_wp2_with (first | (go_at_call 20; refine HC.out.mono ?_; rintro e w' ⟨rfl, rfl⟩) | (go_at_call 32; refine HR.out.mono ?_; rintro e w1 ⟨rfl, ho⟩; obtain ⟨x1, x2, x3⟩ := HM.out w1 ho; obtain ⟨y1, _, _⟩ := HM.out w1.drew ho.drew; have HO := hide ho; clear ho))
  go_region_law (go_simp; go_at_call 21; refine (HK.out _ (by repeat (first | exact HO.out | apply Only.drew | apply Only.drewN))).mono ?_; rintro e w2 ⟨v', rfl, p1, p2, p3⟩; obtain ⟨V, s1, s2⟩ := HST.out w2 v' l p3 p1 HNE.out p2; obtain ⟨y2, _, _⟩ := HM.out w2 p3; have HP3 := hide p3; have HV2 := hide s2; clear p1 p2 p3 s2)
  all_goals
    go_wp2
    go_loopw [54] (fun iv wr => ∃ i : Nat, i ≤ l.length ∧ iv = .int .i64 i ∧ DidW w wr g F (L1 ++ [(t, l)]) (comeAll L2 (l.take i) t)) (fun iv _ => l.length - (intOf iv).toNat)
    case atStart =>
      refine ⟨0, Nat.zero_le _, rfl, ?_⟩
      obtain ⟨F2, q1, q2⟩ := HV2.out
      exact ⟨F2, q1, q2⟩
    case round =>
      obtain ⟨i, hi, rfl, F', hw, hT⟩ := hrel
      have HW9 := hide hw
      have HTT := hide hT
      by_cases hlt : i < l.length
      · have hltI : (i : Int) < l.length := by omega
        obtain ⟨b, o, rfl⟩ := HA.out (by omega)
        obtain ⟨c0, c1, c2⟩ := (HV.out wr hT.only).cells (show l[i]? = some l[i] by simp [hlt])
        have HTK := hide (show l.take (i + 1) = l.take i ++ [l[i]] by rw [List.take_add_one]; simp [hlt])
        have hnt : (l.take i).Nodup := List.Nodup.sublist (List.take_sublist _ _) HN.out
        have hlen := comeAll_length L2 t (l.take i) L2
        have HQ := hide (wq_come (c := l[i]) (hw.quiet ((Only.refl [] wr).alloc (.cells (cC l[i]) 32))) (by have := H2.out; have := HL.out.2; rw [List.length_take] at hlen; omega) (fun p hp => (comeAll_room HS.out _ hnt p hp).1) (HW.out _ (List.getElem_mem hlt)) t)
        generalize l[i] = x at *
        clear hw hT hnt hlen
        go_wp2_with (go_at_call 33; refine HQ.out.mono ?_; rintro e w3 ⟨rfl, hd⟩; have HD := hide hd; clear hd)
        have e3 : ((i : Int) + 1) = ((i + 1 : Nat) : Int) := by omega
        rw [e3]
        obtain ⟨F2, q1, q2⟩ := HD.out
        refine ⟨⟨i + 1, hlt, rfl, F2, ?_, (HTT.out.trans (TurnW.same _ ((Only.refl [] wr).alloc _))).trans q2⟩, ?_⟩
        · rw [HTK.out, comeAll_snoc]
          exact q1
        · simp [intOf]
          omega
      · obtain rfl : i = l.length := by omega
        rw [List.take_length] at hw
        clear hT
        have HDD := hide hw
        clear hw
        go_wp2
        go_ret
        exact ⟨rfl, _, HDD.out, HTT.out⟩
end
end Go.Proofs.Ytokclkiidhcffaa
