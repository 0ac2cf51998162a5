/-
  Sleepers (parapet/waitq): slices.Index of ints (as in RqCalls); leave.
-/
import Derived.Test.YtokclkiidhcffaaWqCalls
namespace Go.Proofs.Ytokclkiidhcffaa
open Go.ChangeShapes Go.WideShapes Go.ChangeAt Go.RowKit Go.Maps
set_option linter.unusedVariables false

section
variable {w w' : World}
theorem index_is {v : Value} {ns : List Int} {t : Int} (h : IRow w v ns) (hf : ns.length ≤ 1000) (ht : t ∈ ns) : Calls Try.prog 38 #[v, .int .i64 t] w fun e w' => ∃ i : Nat, e = .returned (.int .i64 i) ∧ i < ns.length ∧ ns.eraseIdx i = ns.erase t ∧ w = w' := by
  obtain ⟨A, c, rfl, hA, _, _, hc⟩ := h.form2
  have HA := hide hc
  have HAN := hide hA
  have HT := hide ht
  clear h hc ht hA
  go_enter Try.func38, Try.ntmps38
  go_wp2_with fail
  go_loopw [8] (fun iv wr => ∃ i : Nat, i ≤ ns.length ∧ iv = .int .i64 i ∧ t ∉ ns.take i ∧ wr = w) (fun iv _ => ns.length - (intOf iv).toNat)
  case atStart => exact ⟨0, Nat.zero_le _, rfl, by simp, rfl⟩
  case round =>
    obtain ⟨i, hi, rfl, hn, rfl⟩ := hrel
    by_cases hlt : i < ns.length
    · have hltI : (i : Int) < ns.length := by omega
      obtain ⟨ad, rfl⟩ : ∃ ad, A = some ad := by
        rcases A with _ | ad
        · have := (HAN.out rfl).1; omega
        · exact ⟨ad, rfl⟩
      obtain ⟨b, rfl, _, hcell⟩ := HA.out ad rfl
      have ci := hcell i (.int .i64 ns[i]) (by simp [i64l, hlt])
      have HN := hide hn
      have HX := hide (show ns[i] ∈ ns from List.getElem_mem hlt)
      have HS := hide (show ns = ns.take i ++ ns[i] :: ns.drop (i + 1) by rw [List.getElem_cons_drop, List.take_append_drop])
      have HTK := hide (show ns.take (i + 1) = ns.take i ++ [ns[i]] by rw [List.take_add_one]; simp [hlt])
      generalize ns[i] = x at *
      clear hcell hn
      by_cases he : t = x
      · subst he
        have heb : (t == t) = true := by simp
        go_wp2_with fail
        go_ret
        refine ⟨i, rfl, hlt, ?_, rfl⟩
        rw [List.eraseIdx_eq_take_drop_succ]
        conv => rhs; rw [HS.out]
        rw [List.erase_append_right _ HN.out, List.erase_cons_head]
      · have heb : (t == x) = false := by simp [he]
        go_wp2_with fail
        go_roundw
        case rel => exact ⟨i + 1, hlt, by go_num, by rw [HTK.out]; simp [HN.out, he], trivial⟩
        case measure => simp [intOf]; omega
    · exfalso
      rw [List.take_of_length_le (by omega)] at hn
      exact hn HT.out
end

theorem skolem12 {A : World → Prop} {P : World → World → Prop} (h : ∀ W, A W → ∃ V, P W V) : ∃ f : World → World, ∀ W, A W → P W (f W) := by
  have h1 : ∀ W, ∃ V, A W → P W V := fun W => by
    by_cases ha : A W
    · obtain ⟨V, hV⟩ := h W ha; exact ⟨V, fun _ => hV⟩
    · exact ⟨W, fun h' => absurd h' ha⟩
  exact ⟨fun W => (h1 W).choose, fun W => (h1 W).choose_spec⟩
theorem sv_of_row {w : World} {v : Value} {l : List Int} {q : Nat} (h : IRow w v l) (hq : v.ownBlock = some q) : ∃ s : SV, v = svO (some s) ∧ s.b = q ∧ s.n = l.length ∧ q < w.heap.size := by
  obtain ⟨A, c, rfl, _, _, _, hc⟩ := h.form2
  rcases A with _ | ad
  · simp [Value.ownBlock] at hq
  · obtain ⟨b, rfl, hb, _⟩ := hc ad rfl
    simp [Value.ownBlock] at hq
    subst hq
    exact ⟨⟨b, l.length, c⟩, rfl, rfl, rfl, hb⟩
theorem n_of_row {w : World} {s : SV} {l : List Int} (h : IRow w (svO (some s)) l) : s.n = l.length := by
  obtain ⟨A, c, e, _⟩ := h.form2
  simp [svO] at e
  exact e.2.1

section
variable {w w' w1 : World} {g m1 m2 : Nat} {R1 : List (EN Int CH)} {R2 : List (EN CH Int)}
/-- What leave leaves. -/
def LeftW (R2 : List (EN CH Int)) (e : EN CH Int) (l : List Int) (R2' : List (EN CH Int)) : Prop := (l = [] ∧ R2' = outE R2 e.k) ∨ (l ≠ [] ∧ ∃ s, s.b = e.s.b ∧ R2' = setE R2 e.k s l)
set_option maxHeartbeats 1500000 in
set_option maxRecDepth 100000 in
theorem wleave_is (h : IsWq w g m1 m2 R1 R2) (hlen : R2.length < maxLen) {e : EN CH Int} (he : e ∈ R2) {t : Int} (ht : t ∈ e.l) (h64 : e.l.length ≤ 64) :
    Calls Try.prog 23 #[.pointer (some ⟨g, 0, none⟩), .int .i64 t, kV e.k] w fun r w' => r = .returned (.tuple #[]) ∧ ∃ R2', IsWq w' g m1 m2 R1 R2' ∧ LeftW R2 e (e.l.erase t) R2' ∧ Only [e.s.b, m2] w w' := by
  have h0 : Only [] w (w.alloc (.cells (cC e.k) 32)) := (Only.refl [] w).alloc _
  have hk : Blk (w.alloc (.cells (cC e.k) 32)) w.heap.size 32 (cC e.k) := Blk.new w 32 (cC e.k)
  have hb := h.sl.lt e he
  have h1 := h.quiet h0
  have HX := hide (fun W (hw : Only [] (w.alloc (.cells (cC e.k) 32)) W) => index_is (h.quiet (h0.trans hw) |>.sl.row e he) (Nat.le_trans h64 (by decide)) ht)
  have HD := hide (fun W (hw : Only [] (w.alloc (.cells (cC e.k) 32)) W) (i : Nat) (hi : i < e.l.length) => (delete1_is (h.quiet (h0.trans hw) |>.sl.row e he) i hi).mono
    (R' := fun r w5 => ∃ s : SV, r = .returned (.slice (some ⟨s.b, 0, none⟩) s.n s.c) ∧ s.b = e.s.b ∧ s.n = (e.l.eraseIdx i).length ∧ IRow w5 (svO (some s)) (e.l.eraseIdx i) ∧ Only [e.s.b] (w.alloc (.cells (cC e.k) 32)) w5)
    (fun r w5 ⟨v', q1, q2, q3, q4⟩ => by
      obtain ⟨s, rfl, k1, k2, k3⟩ := sv_of_row q2 (q3.trans rfl)
      exact ⟨s, q1, k1, k2, q2, (hw.mono (by simp)).trans q4⟩))
  have HF := hide (fun (w5 : World) (ho : Only [e.s.b] (w.alloc (.cells (cC e.k) 32)) w5) => show w5.cell? ⟨g, 1, none⟩ = some (.map (some m2)) ∧ w5.cell? ⟨w.heap.size, 0, none⟩ = some (.int .i64 e.k.kind) ∧ w5.cell? ⟨w.heap.size, 1, none⟩ = some (.int .i64 e.k.a) ∧ w5.cell? ⟨w.heap.size, 2, none⟩ = some (.int .i64 e.k.b) from by
    have k1 := hk.only ho (by simp; omega)
    have k2 := h1.blk.only ho (by simpa using (h.r2g he).symm)
    exact ⟨k2.cell 1, k1.cell 0, k1.cell 1, k1.cell 2⟩)
  have HDEL := hide (fun (w5 : World) (ho : Only [e.s.b] (w.alloc (.cells (cC e.k) 32)) w5) => skolem12 (A := fun W => Only [] w5 W) (P := fun W w6 => (∀ ty, (Builtin.delete_ #[52, 32] ty #[.map (some m2), .agg (cC e.k)]).run Try.prog W = .ok (.tuple #[]) w6) ∧ IsWq w6 g m1 m2 R1 (outE R2 e.k) ∧ Only [e.s.b, m2] w w6) (fun W hw => by
    have o2 : Only [e.s.b] w W := ((h0.mono (by simp)).trans ho).trans (hw.mono (by simp))
    obtain ⟨w6, q1, q2, q3⟩ := h.del2 he o2 0
    refine ⟨w6, fun ty => ?_, q2, q3⟩
    obtain ⟨w7, q4, _, _⟩ := h.del2 he o2 ty
    rw [← q1]
    rfl))
  have HSET := hide (fun (w5 : World) (s : SV) (l : List Int) (ho : Only [e.s.b] (w.alloc (.cells (cC e.k) 32)) w5) (hr : IRow w5 (svO (some s)) l) (hl : l ≠ []) (hs : s.b = e.s.b) => skolem12 (A := fun W => Only [] w5 W) (P := fun W w6 => (Instr.mapUpdate 52 (.map (some m2)) (.agg (cC e.k)) (.slice (some ⟨s.b, 0, none⟩) s.n s.c)).run Try.prog W = .ok () w6 ∧ IsWq w6 g m1 m2 R1 (setE R2 e.k s l) ∧ Only [e.s.b, m2] w w6) (fun W hw => by
    have o2 : Only [e.s.b] w W := ((h0.mono (by simp)).trans ho).trans (hw.mono (by simp))
    exact h.set2 hlen he o2 (KRow.only hr hw (by simp)) hl (by rw [hs]; exact Nat.lt_of_lt_of_le hb o2.size) (.inl hs)))
  have c1 := h1.c1
  have k0 : (w.alloc (.cells (cC e.k) 32)).cell? ⟨w.heap.size, 0, none⟩ = some (.int .i64 e.k.kind) := hk.cell 0
  have k1 : (w.alloc (.cells (cC e.k) 32)).cell? ⟨w.heap.size, 1, none⟩ = some (.int .i64 e.k.a) := hk.cell 1
  have k2 : (w.alloc (.cells (cC e.k) 32)).cell? ⟨w.heap.size, 2, none⟩ = some (.int .i64 e.k.b) := hk.cell 2
  have l0 := h1.look2 he
  have l1 := (h1.quiet (Only.refl _ _).drew).look2 he
  have l2 := fun n => (h1.quiet ((Only.refl _ _).drewN n)).look2 he
  have HN := hide (n_of_row (h.sl.row e he))
  have HE := hide h64
  generalize e.l = ns at *
  generalize hs0 : e.s = s0 at *
  obtain ⟨b0, n0, c0⟩ := s0
  clear h h1 he hb h0 hk ht h64
  by_cases hE : ns.erase t = []
  · go_enter Try.func23, Try.ntmps23
    go_wp2
    go_region
    go_wp2_with (first | (go_at_call 38; refine (HX.out _ (by repeat (first | exact Only.refl _ _ | apply Only.drew | apply Only.drewN))).mono ?_; rintro r w' ⟨i, rfl, hi, hei, rfl⟩; have e1 : IntKind.i64.wrap ((i : Int) + 1) = (i : Int) + 1 := (by rw [IntKind.wrap_i64]; have := HE.out; omega); have HI := hide hi; have HEI := hide hei; clear hi hei) | (go_at_call 39; refine (HD.out _ (by repeat (first | exact Only.refl _ _ | apply Only.drew | apply Only.drewN)) _ HI.out).mono ?_; rintro r w5 ⟨s, rfl, q1, q2, q3, q4⟩; rw [HEI.out] at q2 q3; obtain ⟨x1, x2, x3, x4⟩ := HF.out w5 q4; have hz : ((s.n : Int) == 0) = true := (by rw [q2, hE]; rfl); obtain ⟨f, hf⟩ := HDEL.out w5 q4; have d0 := (hf _ (Only.refl _ _)).1; have d1 := (hf _ (Only.refl _ _).drew).1; have d2 := fun n => (hf _ ((Only.refl _ _).drewN n)).1; have HFF := hide hf; have HQ1 := hide q1; clear hf q1 q2 q3 q4))
    go_region
    go_wp2
    refine bodyPost_ret (results_none rfl _ _ _) rfl ?_
    exact ⟨rfl, _, (HFF.out _ (by repeat (first | exact Only.refl _ _ | apply Only.drew | apply Only.drewN))).2.1, .inl ⟨hE, rfl⟩, (HFF.out _ (by repeat (first | exact Only.refl _ _ | apply Only.drew | apply Only.drewN))).2.2⟩
  · go_enter Try.func23, Try.ntmps23
    go_wp2
    go_region
    go_wp2_with (first | (go_at_call 38; refine (HX.out _ (by repeat (first | exact Only.refl _ _ | apply Only.drew | apply Only.drewN))).mono ?_; rintro r w' ⟨i, rfl, hi, hei, rfl⟩; have e1 : IntKind.i64.wrap ((i : Int) + 1) = (i : Int) + 1 := (by rw [IntKind.wrap_i64]; have := HE.out; omega); have HI := hide hi; have HEI := hide hei; clear hi hei) | (go_at_call 39; refine (HD.out _ (by repeat (first | exact Only.refl _ _ | apply Only.drew | apply Only.drewN)) _ HI.out).mono ?_; rintro r w5 ⟨s, rfl, q1, q2, q3, q4⟩; rw [HEI.out] at q2 q3; obtain ⟨x1, x2, x3, x4⟩ := HF.out w5 q4; have hz : ((s.n : Int) == 0) = false := (by have hp := List.length_pos_iff.2 hE; rw [← q2] at hp; simp only [beq_eq_false_iff_ne]; omega); obtain ⟨f, hf⟩ := HSET.out w5 s _ q4 q3 hE q1; have d0 := (hf _ (Only.refl _ _)).1; have d1 := (hf _ (Only.refl _ _).drew).1; have d2 := fun n => (hf _ ((Only.refl _ _).drewN n)).1; have HFF := hide hf; have HQ1 := hide q1; clear hf q1 q2 q3 q4))
    go_region
    go_end0
    exact ⟨rfl, _, (HFF.out _ (by repeat (first | exact Only.refl _ _ | apply Only.drew | apply Only.drewN))).2.1, .inr ⟨hE, s, HQ1.out.trans (by rw [hs0]), rfl⟩, (HFF.out _ (by repeat (first | exact Only.refl _ _ | apply Only.drew | apply Only.drewN))).2.2⟩
end
end Go.Proofs.Ytokclkiidhcffaa
