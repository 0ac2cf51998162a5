/-
  Buffers (parapet/buf): keep: a block that is kept already; one more; one in the place of another. (Written by a program: the three ways end alike.)
-/
import Derived.Test.YtenpifamklnkmaaBuKeep
namespace Go.Proofs.Ytenpifamklnkmaa
open Go.ChangeShapes Go.WideShapes Go.ChangeAt Go.RowKit Go.Maps
set_option linter.unusedVariables false

theorem one_news {W : World} {q : Nat} {n : Int} (hb : Blk W q 3 #[.int .i64 n]) : ∀ ad, some (⟨q, 0, none⟩ : Addr) = some ad → ∀ j u, (i64l [n])[j]? = some u → W.cell? (ad.add j) = some u := by
  intro ad e j u hu
  injection e with e
  subst e
  have h0 : j = 0 := by
    have := (List.getElem?_eq_some_iff.1 hu).1
    simp [i64l] at this
    exact this
  subst h0
  rw [add_at, hb.cell]
  exact hu
/-- What keep leaves: only its own blocks have turned. -/
def DidV (w w' : World) (g m : Nat) (v v' : Value) : Prop := Only (footB g m v) w w' ∧ ∀ k, v'.ownBlock = some k → v.ownBlock = some k ∨ w.heap.size ≤ k
section
variable {w w' w1 w3 : World} {g m gd : Nat} {room : Int} {v v1 v2 u : Value} {ns ns1 xs : List Int} {O O1 : List (Int × BV)} {hi mi ev wr : Int} {cl : Int → Bool}
theorem DidV.mk2 {wA w1 wE : World} {v1 v2 : Value} (hA : Only [] w wA) (h1 : Only (footB g m v) wA w1) (hv1 : ∀ k, v1.ownBlock = some k → v.ownBlock = some k ∨ w.heap.size ≤ k) (hE : Only (footB g m v1) w1 wE) (hv2 : ∀ k, v2.ownBlock = some k → v1.ownBlock = some k ∨ w1.heap.size ≤ k) : DidV w wE g m v v2 := by
  have hs := Nat.le_trans hA.size h1.size
  refine ⟨((hA.mono (by simp)).trans h1).trans' hE (fun k hk hm => ?_), fun k hk => ?_⟩
  · rcases mem_footB.1 hm with rfl | rfl | e
    · exact mem_footB.2 (.inl rfl)
    · exact mem_footB.2 (.inr (.inl rfl))
    · rcases hv1 k e with e1 | e1
      · exact mem_footB.2 (.inr (.inr e1))
      · omega
  · rcases hv2 k hk with e | e
    · exact hv1 k e
    · exact .inr (Nat.le_trans hs e)

set_option maxHeartbeats 1500000 in
set_option maxRecDepth 100000 in
theorem keep_more (h : IsBu w g m gd room v ns O hi mi ev wr) (hf : ns.length < 1024) (hr : (ns.length : Int) ≠ room) {n : Int} (hn : iW n) (hno : n ∉ ns) (hl : O.length < maxLen) (f : BV) :
    Calls Try.prog 27 #[.pointer (some ⟨g, 0, none⟩), .int .i64 n, bvV f] w fun e w' => e = .returned (.tuple #[]) ∧ ∃ v', IsBu w' g m gd room v' (ns ++ [n]) (putO O n f) hi mi ev wr ∧ DidV w w' g m v v' := by
  obtain ⟨fs, dd⟩ := f
  show Calls Try.prog 27 #[.pointer (some ⟨g, 0, none⟩), .int .i64 n, .agg #[svO fs, .bool dd]] w _
  obtain ⟨A, c, rfl, -⟩ := h.row.form2
  have HN := hide hn
  have HLEN := hide hl
  have HBIG := hide (show ns.length + 1 < 4000000000000 by omega)
  generalize hsv : svO fs = sv
  have HSV := hide hsv
  clear hsv
  have hA : Only [] w (w.alloc (.cells #[sv, .bool dd] 57)) := (Only.refl [] w).alloc _
  have hq := Blk.new w 57 #[sv, .bool dd]
  have h1 := h.quiet hA
  have HIX := hide (indexI_is h1.row (by omega) n)
  rw [fstI_no (fun s hs => by simp; rintro rfl; exact hno hs)] at HIX
  have c1 := h1.c1
  have c3 := h1.c3
  have hreq : ((ns.length : Int) == room) = false := by simp only [beq_eq_false_iff_ne]; exact hr
  have HA1 := hide (fun W (hW : Only [] (w.alloc (.cells #[sv, .bool dd] 57)) W) => And.intro (h1.quiet hW) (hq.only hW (by simp)))
  have HOA := hide hA
  have HNEW := hide (fun k => show Blk (((w.alloc (.cells #[sv, .bool dd] 57)).drewN k).alloc (.cells #[.int .i64 n] 3)) (w.heap.size + 1) 3 #[.int .i64 n] from by
    have := Blk.new ((w.alloc (.cells #[sv, .bool dd] 57)).drewN k) 3 #[.int .i64 n]
    simpa using this)
  have c3d := fun k => (h1.quiet ((Only.refl [] _).drewN k)).c3
  clear h h1 hA hq hno hl hn hr
  go_enter Try.func27, Try.ntmps27
  go_wp2_with (go_at_call 43; refine HIX.out.mono ?_; rintro e w' ⟨rfl, rfl⟩)
  go_quiet (fail)
  go_wp2_with (first | (at_builtin; refine wpList_append_any rfl _ _ rfl (.slice A ns.length c) ns rfl (((HA1.out _ ((Only.refl [] _).drewN _)).1.quiet ((Only.refl [] _).alloc _)).row) (some ⟨_, 0, none⟩) 1 1 rfl (fun e => by cases e) [n] rfl (one_news (HNEW.out _)) HBIG.out ?_; intro v2 w3 k1 k2 k3; obtain ⟨A2, c2', rfl, -⟩ := k1.form2; obtain ⟨t1, t2, t3, ⟨t4, t4'⟩, ⟨t5, t5'⟩, t6, fW, hfW⟩ := keep_tail (f := (fs, dd)) ((HA1.out _ ((Only.refl [] _).drewN _)).1) (by rw [show svO (fs, dd).1 = sv from HSV.out]; exact (HA1.out _ ((Only.refl [] _).drewN _)).2) HN.out HLEN.out k1 k2; rw [show svO (fs, dd).1 = sv from HSV.out] at t4 t4' hfW; have d0 := (hfW _ (Only.refl _ _)).1; have d1 := (hfW _ (Only.refl _ _).drew).1; have d2 := fun n => (hfW _ ((Only.refl _ _).drewN n)).1; simp only [List.length_append, List.length_cons, List.length_nil, Nat.zero_add] at d0 d1 d2 t4 t5; have HFW := hide hfW; have HK3 := hide k3; clear hfW k1 k2 k3))
  go_region
  all_goals
    go_end0
    have hz := HFW.out _ (Only.refl _ _).drew
    simp only [List.length_append, List.length_cons, List.length_nil, Nat.zero_add] at hz
    refine ⟨rfl, _, hz.2.1, ?_⟩
    exact DidV.mk2 HOA.out (((Only.refl [] _).drewN _).mono (by simp)) (fun k hk => .inl hk) hz.2.2 (fun k hk => (HK3.out k (by simpa using hk)).imp id (fun e => by simp at e; simp; omega))

set_option maxHeartbeats 1500000 in
set_option maxRecDepth 100000 in
theorem keep_old (h : IsBu w g m gd room v ns O hi mi ev wr) (hf : ns.length ≤ 1024) {n : Int} (hn : iW n) {i : Nat} (hi0 : ns[i]? = some n) (hfi : ∀ j s', j < i → ns[j]? = some s' → s' ≠ n) (hl : O.length < maxLen) (f : BV) :
    Calls Try.prog 27 #[.pointer (some ⟨g, 0, none⟩), .int .i64 n, bvV f] w fun e w' => e = .returned (.tuple #[]) ∧ ∃ v', IsBu w' g m gd room v' (ns.eraseIdx i ++ [n]) (putO O n f) hi mi ev wr ∧ DidV w w' g m v v' := by
  obtain ⟨fs, dd⟩ := f
  show Calls Try.prog 27 #[.pointer (some ⟨g, 0, none⟩), .int .i64 n, .agg #[svO fs, .bool dd]] w _
  have hil := (List.getElem?_eq_some_iff.1 hi0).1
  have hlE : (ns.eraseIdx i).length ≤ ns.length := List.length_eraseIdx_le _ _
  have HN := hide hn
  have HLEN := hide hl
  have HBIG := hide (show (ns.eraseIdx i).length + 1 < 4000000000000 by omega)
  generalize hsv : svO fs = sv
  have HSV := hide hsv
  clear hsv
  have hA : Only [] w (w.alloc (.cells #[sv, .bool dd] 57)) := (Only.refl [] w).alloc _
  have hq := Blk.new w 57 #[sv, .bool dd]
  have h1 := h.quiet hA
  have HIX := hide (indexI_is h1.row hf n)
  rw [fstI_yes hi0 (by simp) (fun j s' hj hs => by simp; exact hfi j s' hj hs)] at HIX
  have c3 := h1.c3
  have e1 : IntKind.i64.wrap ((i : Int) + 1) = (i : Int) + 1 := by rw [IntKind.wrap_i64]; omega
  have hiI : (i : Int) < 1024 := by omega
  have HD := hide ((delete1_is h1.row i hil).mono (R' := fun r w5 => ∃ A c, r = .returned (.slice A (ns.eraseIdx i).length c) ∧ w5.cell? ⟨g, 3, none⟩ = some v ∧ w5.frozen? ⟨g, 3, none⟩ = false ∧ (w5.setCell ⟨g, 3, none⟩ (.slice A (ns.eraseIdx i).length c)).cell? ⟨g, 3, none⟩ = some (.slice A (ns.eraseIdx i).length c) ∧
      IsBu (w5.setCell ⟨g, 3, none⟩ (.slice A (ns.eraseIdx i).length c)) g m gd room (.slice A (ns.eraseIdx i).length c) (ns.eraseIdx i) O hi mi ev wr ∧ Blk (w5.setCell ⟨g, 3, none⟩ (.slice A (ns.eraseIdx i).length c)) w.heap.size 57 #[sv, .bool dd] ∧
      (Value.slice A (ns.eraseIdx i).length c).ownBlock = v.ownBlock ∧ Only (footB g m v) (w.alloc (.cells #[sv, .bool dd] 57)) (w5.setCell ⟨g, 3, none⟩ (.slice A (ns.eraseIdx i).length c)) ∧
      Blk ((w5.setCell ⟨g, 3, none⟩ (.slice A (ns.eraseIdx i).length c)).alloc (.cells #[.int .i64 n] 3)) w5.heap.size 3 #[.int .i64 n])
    (fun r w5 ⟨v', q1, q2, q3, q4⟩ => by
      obtain ⟨A, c, rfl, -⟩ := q2.form2
      obtain ⟨p1, p2⟩ := h1.putN q4 q2
      have hg5 := h1.blk.only q4 (fun e => h1.vg (mem_own.1 e) rfl)
      have hq5 := hq.only q4 (fun e => h1.row.apart hq (by decide) _ (mem_own.1 e) rfl)
      have hn5 := Blk.new (w5.setCell ⟨g, 3, none⟩ (.slice A (ns.eraseIdx i).length c)) 3 #[.int .i64 n]
      have hsz : (w5.setCell ⟨g, 3, none⟩ (.slice A (ns.eraseIdx i).length c)).heap.size = w5.heap.size := by simp [World.setCell]
      rw [hsz] at hn5
      exact ⟨A, c, q1, hg5.cell 3, hg5.frozen 3, p1.c3, p1, hq5.far (hq.ne_ h1.blk (by decide)) _, q3, p2, hn5⟩))
  have HOA := hide hA
  have hform := h.row.form2
  obtain ⟨A0, c0, rfl, -⟩ := hform
  clear h h1 hA hq hl hn hi0 hfi
  go_enter Try.func27, Try.ntmps27
  go_wp2_with (first | (go_at_call 43; refine HIX.out.mono ?_; rintro e w' ⟨rfl, rfl⟩) | (go_at_call 44; refine HD.out.mono ?_; rintro r w5 ⟨A, c, rfl, q1, q2, q3, q4, q5, q6, q7, q8⟩; have H4 := hide q4; have H5 := hide q5; have H6 := hide q6; have H7 := hide q7; have HNEW := hide (fun (_ : Nat) => q8); clear q4 q5 q6 q7 q8) | (at_builtin; refine wpList_append_any rfl _ _ rfl (.slice A (ns.eraseIdx i).length c) (ns.eraseIdx i) rfl ((H4.out.quiet ((Only.refl [] _).alloc _)).row) (some ⟨_, 0, none⟩) 1 1 rfl (fun e => by cases e) [n] rfl (one_news (HNEW.out 0)) HBIG.out ?_; intro v2 w3 k1 k2 k3; obtain ⟨A2, c2', rfl, -⟩ := k1.form2; obtain ⟨t1, t2, t3, ⟨t4, t4'⟩, ⟨t5, t5'⟩, t6, fW, hfW⟩ := keep_tail (f := (fs, dd)) (H4.out) (by rw [show svO (fs, dd).1 = sv from HSV.out]; exact H5.out) HN.out HLEN.out k1 k2; rw [show svO (fs, dd).1 = sv from HSV.out] at t4 t4' hfW; have d0 := (hfW _ (Only.refl _ _)).1; have d1 := (hfW _ (Only.refl _ _).drew).1; have d2 := fun n => (hfW _ ((Only.refl _ _).drewN n)).1; simp only [List.length_append, List.length_cons, List.length_nil, Nat.zero_add] at d0 d1 d2 t4 t5; have HFW := hide hfW; have HK3 := hide k3; clear hfW k1 k2 k3))
  go_region
  all_goals
    go_end0
    have hz := HFW.out _ (Only.refl _ _).drew
    simp only [List.length_append, List.length_cons, List.length_nil, Nat.zero_add] at hz
    refine ⟨rfl, _, hz.2.1, ?_⟩
    exact DidV.mk2 HOA.out H7.out (fun k hk => .inl (H6.out ▸ hk)) hz.2.2 (fun k hk => (HK3.out k (by simpa using hk)).imp id (fun e => by simp at e; simp [World.setCell]; omega))

set_option maxHeartbeats 1500000 in
set_option maxRecDepth 100000 in
theorem keep_full (h : IsBu w g m gd room v ns O hi mi ev wr) (hf : ns.length ≤ 1024) (hr : (ns.length : Int) = room) {n : Int} (hn : iW n) (hno : n ∉ ns) (hl : O.length < maxLen) (hc : ClOn cl O ns) {i : Nat} {t : Int} (hi0 : ns[i]? = some t) (he : cl t = true) (hfi : ∀ j s', j < i → ns[j]? = some s' → cl s' = false) (hev0 : 0 ≤ ev) (hev : ev < 9223372036854775807) (f : BV) :
    Calls Try.prog 27 #[.pointer (some ⟨g, 0, none⟩), .int .i64 n, bvV f] w fun e w' => e = .returned (.tuple #[]) ∧ ∃ v', IsBu w' g m gd room v' (ns.eraseIdx i ++ [n]) (putO (outV O t) n f) hi mi (ev + 1) wr ∧ DidV w w' g m v v' := by
  obtain ⟨fs, dd⟩ := f
  show Calls Try.prog 27 #[.pointer (some ⟨g, 0, none⟩), .int .i64 n, .agg #[svO fs, .bool dd]] w _
  have hlE : (ns.eraseIdx i).length ≤ ns.length := List.length_eraseIdx_le _ _
  have HN := hide hn
  have HLEN := hide (show (outV O t).length < maxLen from Nat.lt_of_le_of_lt (List.length_filter_le _ _) hl)
  have HBIG := hide (show (ns.eraseIdx i).length + 1 < 4000000000000 by omega)
  generalize hsv : svO fs = sv
  have HSV := hide hsv
  clear hsv
  have hA : Only [] w (w.alloc (.cells #[sv, .bool dd] 57)) := (Only.refl [] w).alloc _
  have hq := Blk.new w 57 #[sv, .bool dd]
  have h1 := h.quiet hA
  have HIX := hide (indexI_is h1.row hf n)
  rw [fstI_no (fun s hs => by simp; rintro rfl; exact hno hs)] at HIX
  have c1 := h1.c1
  have c3 := h1.c3
  have hreq : ((ns.length : Int) == room) = true := by simp only [beq_iff_eq]; exact hr
  have HOA := hide hA
  have HEV := hide (fun (k : Nat) => (evict_is (h1.quiet ((Only.refl [] _).drewN k)) hf hc hi0 he hfi hev0 hev).mono (R' := fun r w1 => r = .returned (.tuple #[]) ∧ ∃ A c, w1.cell? ⟨g, 3, none⟩ = some (.slice A (ns.eraseIdx i).length c) ∧
      IsBu w1 g m gd room (.slice A (ns.eraseIdx i).length c) (ns.eraseIdx i) (outV O t) hi mi (ev + 1) wr ∧ Blk w1 w.heap.size 57 #[sv, .bool dd] ∧ (Value.slice A (ns.eraseIdx i).length c).ownBlock = v.ownBlock ∧ Only (footB g m v) (w.alloc (.cells #[sv, .bool dd] 57)) w1)
    (fun r w1 ⟨q1, v', q2, q3, q4⟩ => by
      obtain ⟨A, c, rfl, -⟩ := q2.row.form2
      have hb := hq.only ((Only.refl [] _).drewN k) (by simp)
      have hm : w.heap.size ∉ footB g m v := fun e => by
        have := h.foot_lt e
        omega
      exact ⟨q1, A, c, q2.c3, q2, hb.only q4 hm, q3, (((Only.refl [] _).drewN k).mono (by simp)).trans q4⟩))
  have hform := h.row.form2
  obtain ⟨A0, c0, rfl, -⟩ := hform
  have c3d := fun k => (h1.quiet ((Only.refl [] _).drewN k)).c3
  clear h h1 hA hq hno hl hn hr hc hi0 hfi
  go_enter Try.func27, Try.ntmps27
  go_wp2_with (go_at_call 43; refine HIX.out.mono ?_; rintro e w' ⟨rfl, rfl⟩)
  go_quiet (fail)
  go_wp2_with (first | (go_at_call 45; refine (HEV.out _).mono ?_; rintro r w1 ⟨rfl, A, c, q1, q4, q5, q6, q7⟩; have H4 := hide q4; have H5 := hide q5; have H6 := hide q6; have H7 := hide q7; clear q4 q5 q6 q7) | (at_builtin; refine wpList_append_any rfl _ _ rfl (.slice A (ns.eraseIdx i).length c) (ns.eraseIdx i) rfl ((H4.out.quiet ((Only.refl [] _).alloc _)).row) (some ⟨_, 0, none⟩) 1 1 rfl (fun e => by cases e) [n] rfl (one_news (Blk.new _ 3 #[.int .i64 n])) HBIG.out ?_; intro v2 w3 k1 k2 k3; obtain ⟨A2, c2', rfl, -⟩ := k1.form2; obtain ⟨t1, t2, t3, ⟨t4, t4'⟩, ⟨t5, t5'⟩, t6, fW, hfW⟩ := keep_tail (f := (fs, dd)) (H4.out) (by rw [show svO (fs, dd).1 = sv from HSV.out]; exact H5.out) HN.out HLEN.out k1 k2; rw [show svO (fs, dd).1 = sv from HSV.out] at t4 t4' hfW; have d0 := (hfW _ (Only.refl _ _)).1; have d1 := (hfW _ (Only.refl _ _).drew).1; have d2 := fun n => (hfW _ ((Only.refl _ _).drewN n)).1; simp only [List.length_append, List.length_cons, List.length_nil, Nat.zero_add] at d0 d1 d2 t4 t5; have HFW := hide hfW; have HK3 := hide k3; clear hfW k1 k2 k3))
  go_region
  all_goals
    go_end0
    have hz := HFW.out _ (Only.refl _ _).drew
    simp only [List.length_append, List.length_cons, List.length_nil, Nat.zero_add] at hz
    refine ⟨rfl, _, hz.2.1, ?_⟩
    exact DidV.mk2 HOA.out H7.out (fun k hk => .inl (H6.out ▸ hk)) hz.2.2 (fun k hk => (HK3.out k (by simpa using hk)).imp id (fun e => by simp at e; omega))
end
end Go.Proofs.Ytenpifamklnkmaa
