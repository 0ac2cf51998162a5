/-
  Sleepers (parapet/waitq): Cancel.
-/
import Derived.Test.YtokclkiidhcffaaWqPack
namespace Go.Proofs.Ytokclkiidhcffaa
open Go.ChangeShapes Go.WideShapes Go.ChangeAt Go.RowKit Go.Maps
set_option linter.unusedVariables false

def leaveAll (L : List (CH × List Int)) (on : List CH) (t : Int) : List (CH × List Int) := on.foldl (fun L c => leaveL L c t) L
theorem leaveAll_snoc (L : List (CH × List Int)) (on : List CH) (c : CH) (t : Int) : leaveAll L (on ++ [c]) t = leaveL (leaveAll L on t) c t := by simp [leaveAll]
/-- The list of a channel's sleepers is short, and there are not too many. -/
structure SmallL (L : List (CH × List Int)) : Prop where
  len : L.length < maxLen
  each : ∀ p ∈ L, p.2.length ≤ 64
theorem SmallL.leave {L : List (CH × List Int)} (h : SmallL L) (c : CH) (t : Int) : SmallL (leaveL L c t) := by
  unfold leaveL
  split
  · exact ⟨Nat.lt_of_le_of_lt (List.length_filter_le _ _) h.len, fun p hp => h.each p (List.mem_filter.1 hp).1⟩
  · refine ⟨by simpa [setL] using h.len, fun p hp => ?_⟩
    obtain ⟨x, hx, rfl⟩ := List.mem_map.1 hp
    have := h.each x hx
    by_cases e : x.1 = c
    · simp only [if_pos e]
      exact Nat.le_trans (List.length_erase_le) this
    · simp only [if_neg e]
      exact this
theorem SmallL.leaveAll {L : List (CH × List Int)} (h : SmallL L) (on : List CH) (t : Int) : SmallL (leaveAll L on t) := by
  induction on generalizing L with
  | nil => exact h
  | cons c r ih => exact ih (h.leave c t)
theorem atL_leaveAll_far {on : List CH} {c : CH} {t : Int} : ∀ {L : List (CH × List Int)}, c ∉ on → atL (leaveAll L on t) c = atL L c := by
  induction on with
  | nil => intro L _; rfl
  | cons x r ih =>
    intro L hn
    simp at hn
    exact (ih (L := leaveL L x t) hn.2).trans (atL_leave_far hn.1)
section
variable {w w' w1 : World} {g : Nat} {L1 : List (Int × List CH)} {L2 : List (CH × List Int)} {F : List Nat} {S : List Nat}
theorem DidW.start (h : Wq w g L1 L2 F) : DidW w w g F L1 L2 := ⟨F, h, TurnW.refl _ _⟩
theorem wq_del (h : Wq w g L1 L2 F) {t : Int} (ht : t ∈ L1.map (·.1)) : ∃ m1, w.cell? ⟨g, 0, none⟩ = some (.map (some m1)) ∧ ∃ w2, (∀ ty, (Builtin.delete_ #[51, 3] ty #[.map (some m1), .int .i64 t]).run Try.prog w = .ok (.tuple #[]) w2) ∧ DidW w w2 g F (outL L1 t) L2 := by
  obtain ⟨m1, m2, R1, R2, h, rfl, rfl, rfl⟩ := h
  rw [viewE_keys] at ht
  obtain ⟨e, he, rfl⟩ := List.mem_map.1 ht
  obtain ⟨w2, h1, h2, h3⟩ := h.del1 he 0
  refine ⟨m1, h.c0, w2, fun ty => ?_, _, ⟨m1, m2, outE R1 e.k, R2, h2, viewE_out _ _, rfl, rfl⟩, h3.mono (fun k _ hk => ?_), fun k hk => .inl ?_⟩
  · obtain ⟨w3, h4, _, _⟩ := h.del1 he ty
    rw [← h1]
    rfl
  · simp at hk
    rw [hk]
    exact mem_footW.2 (.inr (.inl rfl))
  · rcases mem_footW.1 hk with hk | hk | hk | ⟨y, hy, hk⟩ | hk
    · exact mem_footW.2 (.inl hk)
    · exact mem_footW.2 (.inr (.inl hk))
    · exact mem_footW.2 (.inr (.inr (.inl hk)))
    · exact mem_footW.2 (.inr (.inr (.inr (.inl ⟨y, (mem_outE hy).1, hk⟩))))
    · exact mem_footW.2 (.inr (.inr (.inr (.inr hk))))
theorem mem_atL {κ α : Type} [DecidableEq κ] {L : List (κ × List α)} {k : κ} (h : atL L k ≠ []) : k ∈ L.map (·.1) := by
  refine Classical.byContradiction fun hn => h ?_
  unfold atL
  rw [List.find?_eq_none.2 (fun x hx e => hn (List.mem_map.2 ⟨x, hx, by simpa using e⟩))]
  rfl
set_option maxHeartbeats 2000000 in
set_option maxRecDepth 100000 in
theorem wq_cancel (h : Wq w g L1 L2 F) (hs1 : ∀ p ∈ L1, p.2.length ≤ 64) (hs : SmallL L2) (t : Int) (ht : iW t) (hne : atL L1 t ≠ []) (hnd : (atL L1 t).Nodup) (hin : ∀ c ∈ atL L1 t, t ∈ atL L2 c) :
    Calls Try.prog 11 #[.pointer (some ⟨g, 0, none⟩), .int .i64 t] w fun e w' => e = .returned (.bool true) ∧ DidW w w' g F (outL L1 t) (leaveAll L2 (atL L1 t) t) := by
  have HO := hide (wq_on h hs1 t ht)
  have HT := hide (mem_atL hne)
  have H := hide h
  have HS := hide hs
  have HN := hide hnd
  have HI := hide hin
  have HP := hide (List.length_pos_iff.2 hne)
  have h64 : (atL L1 t).length ≤ 64 := by
    have hm := mem_atL hne
    unfold atL
    cases hf : L1.find? fun p => decide (p.1 = t) with
    | none => simp
    | some x => simpa using hs1 x (List.mem_of_find?_eq_some hf)
  have HL := hide h64
  generalize atL L1 t = l at *
  clear h hs1 hs hne hnd hin h64
  go_enter Try.func11, Try.ntmps11
  go_wp2_with (go_at_call 19; refine HO.out.mono ?_; rintro e w1 ⟨v, rfl, hr, hb, ho⟩; obtain ⟨A, cap, rfl, hA⟩ := hr.form; have HA := hide hA; have HR := hide hr; have HB := hide hb; have HO1 := hide ho; clear hA hr hb ho)
  have HW1 := hide (H.out.quiet HO1.out)
  have HF := hide (fun (W : World) (hw : Only F w1 W) => HR.out.only hw (fun q hq hf => by have := H.out.lt hf; have := HB.out q hq; omega))
  go_loopw [13] (fun iv wr => ∃ i : Nat, i ≤ l.length ∧ iv = .int .i64 i ∧ DidW w1 wr g F L1 (leaveAll L2 (l.take i) t)) (fun iv _ => l.length - (intOf iv).toNat)
  case atStart => exact ⟨0, Nat.zero_le _, rfl, DidW.start HW1.out⟩
  case round =>
    obtain ⟨i, hi, rfl, F', hw, hT⟩ := hrel
    have HW := hide hw
    have HTT := hide hT
    by_cases hlt : i < l.length
    · have hltI : (i : Int) < l.length := by omega
      obtain ⟨b, rfl, _⟩ := HA.out (by omega)
      obtain ⟨c0, c1, c2⟩ := (HF.out wr hT.only).cell rfl rfl (show l[i]? = some l[i] by simp [hlt])
      have HTK := hide (show l.take (i + 1) = l.take i ++ [l[i]] by rw [List.take_add_one]; simp [hlt])
      have hfar : l[i] ∉ l.take i := fun hm => by
        have hs := HN.out
        rw [show l = l.take i ++ l[i] :: l.drop (i + 1) by rw [List.getElem_cons_drop, List.take_append_drop], List.nodup_append] at hs
        exact hs.2.2 _ hm _ List.mem_cons_self rfl
      have HQ := hide (wq_leave (c := l[i]) (t := t) (hw.quiet ((Only.refl [] wr).alloc (.cells (cC l[i]) 32))) (HS.out.leaveAll _ _).len (HS.out.leaveAll _ _).each (by rw [atL_leaveAll_far hfar]; exact HI.out _ (List.getElem_mem hlt)))
      generalize l[i] = x at *
      clear hw hT hfar
      go_wp2_with (go_at_call 23; refine HQ.out.mono ?_; rintro e w2 ⟨rfl, hd⟩; have HD := hide hd; clear hd)
      have e3 : wrap64 ((i : Int) + 1) = ((i + 1 : Nat) : Int) := by
        have := HL.out
        rw [wrap64]
        omega
      rw [e3]
      obtain ⟨F2, q1, q2⟩ := HD.out
      refine ⟨⟨i + 1, hlt, rfl, F2, ?_, (HTT.out.trans (TurnW.same _ ((Only.refl [] wr).alloc _))).trans q2⟩, ?_⟩
      · rw [HTK.out, leaveAll_snoc]
        exact q1
      · simp [intOf]
        omega
    · obtain rfl : i = l.length := by omega
      rw [List.take_length] at hw
      obtain ⟨m1, d0, w2, d1, d2⟩ := wq_del hw HT.out
      have hz : ((l.length : Int) == 0) = false := by have := HP.out; simp only [beq_eq_false_iff_ne]; omega
      have HD := hide d2
      clear hw hT d2
      go_wp2
      go_ret
      obtain ⟨F2, q1, q2⟩ := HD.out
      exact ⟨rfl, F2, q1, ((TurnW.same F HO1.out).trans HTT.out).trans q2⟩
end
end Go.Proofs.Ytokclkiidhcffaa
