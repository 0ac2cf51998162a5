/-
  Buffers (parapet/buf): slices.Index; evict; keep.
-/
import Derived.Test.YtenpifamklnkmaaBuDelF
namespace Go.Proofs.Ytenpifamklnkmaa
open Go.ChangeShapes Go.WideShapes Go.ChangeAt Go.RowKit Go.Maps
set_option linter.unusedVariables false

theorem skolemB {A : World → Prop} {P : World → World → Prop} (h : ∀ W, A W → ∃ V, P W V) : ∃ f : World → World, ∀ W, A W → P W (f W) := by
  have h1 : ∀ W, ∃ V, A W → P W V := fun W => by
    by_cases ha : A W
    · obtain ⟨V, hV⟩ := h W ha; exact ⟨V, fun _ => hV⟩
    · exact ⟨W, fun h' => absurd h' ha⟩
  exact ⟨fun W => (h1 W).choose, fun W => (h1 W).choose_spec⟩

theorem indexI_is {w : World} {u : Value} {xs : List Int} (hr : IRow w u xs) (hf : xs.length ≤ 1024) (t : Int) : Calls Try.prog 43 #[u, .int .i64 t] w fun e w' => e = .returned (.int .i64 (fstI (fun x => decide (x = t)) xs)) ∧ w = w' := by
  obtain ⟨A, c, rfl, hA, _, _, hc⟩ := hr.form2
  have HA := hide hc
  have HAN := hide hA
  clear hr hc hA
  go_enter Try.func43, Try.ntmps43
  go_wp2_with fail
  go_loopw [8] (fun iv wr => ∃ i : Nat, i ≤ xs.length ∧ iv = .int .i64 i ∧ (∀ j s', j < i → xs[j]? = some s' → decide (s' = t) = false) ∧ wr = w) (fun iv _ => xs.length - (intOf iv).toNat)
  case atStart => exact ⟨0, Nat.zero_le _, rfl, fun j s' hj => absurd hj (by omega), rfl⟩
  case round =>
    obtain ⟨i, hi, rfl, hn, rfl⟩ := hrel
    have HN := hide hn
    clear hn
    by_cases hlt : i < xs.length
    · have hltI : (i : Int) < xs.length := by omega
      obtain ⟨ad, rfl⟩ : ∃ ad, A = some ad := by
        rcases A with _ | ad
        · have := (HAN.out rfl).1; omega
        · exact ⟨ad, rfl⟩
      obtain ⟨b, rfl, _, hcell⟩ := HA.out ad rfl
      have ci := hcell i (.int .i64 xs[i]) (by simp [i64l, hlt])
      have HS := hide (show xs[i]? = some xs[i] from List.getElem?_eq_getElem hlt)
      generalize xs[i] = x at *
      clear hcell
      by_cases he : t = x
      · subst he
        have heb : (t == t) = true := by simp
        go_wp2_with fail
        go_ret
        exact ⟨by rw [fstI_yes HS.out (by simp) HN.out]; rfl, rfl⟩
      · have heb : (t == x) = false := by simp [he]
        go_wp2_with fail
        go_roundw
        case rel =>
          refine ⟨i + 1, hlt, by go_num, fun j s' hj hs' => ?_, trivial⟩
          by_cases hjk : j = i
          · subst hjk
            rw [HS.out] at hs'
            injection hs' with hs'
            rw [← hs']; simp; exact fun e => he e.symm
          · exact HN.out j s' (by omega) hs'
        case measure => simp [intOf]; omega
    · obtain rfl : i = xs.length := by omega
      go_wp2
      go_ret
      exact ⟨by rw [fstI_no fun s hs => by obtain ⟨j, hj, e⟩ := List.getElem_of_mem hs; exact HN.out j s hj (by rw [List.getElem?_eq_getElem hj, e])]; rfl, rfl⟩

section
variable {w w' w1 w3 : World} {g m gd : Nat} {room : Int} {v v1 v2 u : Value} {ns ns1 xs : List Int} {O O1 : List (Int × BV)} {hi mi ev wr : Int} {cl : Int → Bool}
/-- The block that is given up is the first clean one. -/
theorem evict_is (h : IsBu w g m gd room v ns O hi mi ev wr) (hf : ns.length ≤ 1024) (hc : ClOn cl O ns) {i : Nat} {t : Int} (hi0 : ns[i]? = some t) (he : cl t = true) (hfi : ∀ j s', j < i → ns[j]? = some s' → cl s' = false) (hev0 : 0 ≤ ev) (hev : ev < 9223372036854775807) :
    Calls Try.prog 45 #[.pointer (some ⟨g, 0, none⟩)] w fun e w' => e = .returned (.tuple #[]) ∧ ∃ v', IsBu w' g m gd room v' (ns.eraseIdx i) (outV O t) hi mi (ev + 1) wr ∧ v'.ownBlock = v.ownBlock ∧ Only (footB g m v) w w' := by
  have HI := hide (idxCl_is h h.row hf hc)
  rw [fstI_yes hi0 he hfi] at HI
  obtain ⟨hil, hti⟩ := List.getElem?_eq_some_iff.1 hi0
  obtain ⟨b, cap, cur, rfl, hb, hcl, hm⟩ := h.row.blk (by omega)
  have hm' := hm
  unfold maxLen at hm'
  have c1 := h.c3
  have c2 := h.c2
  have ci : w.cell? ⟨b, i, none⟩ = some (.int .i64 t) := by
    rw [hb.cell, List.getElem?_toArray, List.getElem?_append_left (by simp [i64l]; omega)]
    simp [i64l, hi0]
  have hiI : (i : Int) < ns.length := by omega
  have hcI : (ns.length : Int) ≤ cap := by omega
  have e1 : IntKind.i64.wrap ((i : Int) + 1) = (i : Int) + 1 := by rw [IntKind.wrap_i64]; omega
  obtain ⟨f, hft, _⟩ := hc t (List.mem_of_getElem? hi0)
  have hvb : (Value.slice (some ⟨b, 0, none⟩) ns.length cap).ownBlock = some b := rfl
  have HDEL := hide (skolemB (A := fun W => Only [] w W) (P := fun W V => (∀ ty, (Builtin.delete_ #[53, 3] ty #[.map (some m), .int .i64 t]).run Try.prog W = .ok (.tuple #[]) V) ∧ IsBu V g m gd room (.slice (some ⟨b, 0, none⟩) ns.length cap) ns (outV O t) hi mi ev wr ∧ Only [m] w V) (fun W hw => by
    have hq := h.quiet hw
    obtain ⟨D, k1, k2⟩ := hq.own
    obtain ⟨V, r1, r2, r3⟩ := dropB k2 k1 hft
    exact ⟨V, r1, hq.putM r3 r2, (hw.mono (by simp)).trans r3⟩))
  obtain ⟨fW, hfW⟩ := HDEL.out
  have HF := hide hfW
  have HD2 := hide (fun (W : World) (hw : Only [] w W) => (delete1_is (HF.out W hw).2.1.row i hil).mono (R' := fun r w5 => ∃ A c, r = .returned (.slice A (ns.eraseIdx i).length c) ∧ w5.cell? ⟨g, 3, none⟩ = some (.slice (some ⟨b, 0, none⟩) ns.length cap) ∧ w5.frozen? ⟨g, 3, none⟩ = false ∧
      (w5.setCell ⟨g, 3, none⟩ (.slice A (ns.eraseIdx i).length c)).cell? ⟨g, 6, none⟩ = some (.int .i64 ev) ∧ (w5.setCell ⟨g, 3, none⟩ (.slice A (ns.eraseIdx i).length c)).frozen? ⟨g, 6, none⟩ = false ∧
      IsBu ((w5.setCell ⟨g, 3, none⟩ (.slice A (ns.eraseIdx i).length c)).setCell ⟨g, 6, none⟩ (.int .i64 (ev + 1))) g m gd room (.slice A (ns.eraseIdx i).length c) (ns.eraseIdx i) (outV O t) hi mi (ev + 1) wr ∧ (Value.slice A (ns.eraseIdx i).length c).ownBlock = some b ∧
      Only (footB g m (.slice (some ⟨b, 0, none⟩) ns.length cap)) w ((w5.setCell ⟨g, 3, none⟩ (.slice A (ns.eraseIdx i).length c)).setCell ⟨g, 6, none⟩ (.int .i64 (ev + 1))))
    (fun r w5 ⟨v', q1, q2, q3, q4⟩ => by
      obtain ⟨A, c, rfl, _⟩ := q2.form2
      have hB := (HF.out W hw).2.1
      obtain ⟨p1, p2⟩ := hB.putN q4 q2
      have hg5 := hB.blk.only q4 (fun e => hB.vg (mem_own.1 e) rfl)
      have ho6 : Only [g] (w5.setCell ⟨g, 3, none⟩ (.slice A (ns.eraseIdx i).length c)) ((w5.setCell ⟨g, 3, none⟩ (.slice A (ns.eraseIdx i).length c)).setCell ⟨g, 6, none⟩ (.int .i64 (ev + 1))) := (Only.refl _ _).setCell _ (by simp)
      refine ⟨A, c, q1, hg5.cell 3, hg5.frozen 3, p1.c6, p1.fr 6, p1.restr ho6 (p1.blk.set_ 6 _), q3, ?_⟩
      have o1 : Only (footB g m (.slice (some ⟨b, 0, none⟩) ns.length cap)) w (fW W) := (HF.out W hw).2.2.mono (fun q _ hq => mem_footB.2 (.inr (.inl (by simpa using hq))))
      exact (o1.trans p2).trans (ho6.mono (fun q _ hq => mem_footB.2 (.inl (by simpa using hq))))))
  have d0 := (hfW _ (Only.refl _ _)).1
  have d1 := (hfW _ (Only.refl _ _).drew).1
  have d2 := fun n => (hfW _ ((Only.refl _ _).drewN n)).1
  have k0 := (hfW _ (Only.refl _ _)).2.1.c3
  have k1 := (hfW _ (Only.refl _ _).drew).2.1.c3
  have k2 := fun n => (hfW _ ((Only.refl _ _).drewN n)).2.1.c3
  clear h hb hcl hm HDEL hfW hti hft hi0 hc hfi
  go_enter Try.func45, Try.ntmps45
  go_wp2_with (go_at_call 47; refine HI.out.mono ?_; rintro e w' ⟨rfl, rfl⟩)
  go_region
  all_goals
    go_wp2_with (go_at_call 44; refine (HD2.out _ (by repeat (first | exact Only.refl _ _ | apply Only.drew | apply Only.drewN))).mono ?_; rintro r w5 ⟨A, c, rfl, q1, q2, q3, q4, q5, q6, q7⟩; have HQ := hide (And.intro q5 (And.intro q6 q7)); clear q5 q6 q7)
    go_end0
    exact ⟨rfl, _, HQ.out.1, HQ.out.2.1, HQ.out.2.2⟩

/-- What is kept under n is f from now on. -/
def putO (O : List (Int × BV)) (n : Int) (f : BV) : List (Int × BV) := if n ∈ O.map (·.1) then setV O n f else O ++ [(n, f)]
theorem putO_store {W : World} {n : Int} {f : BV} (h : IsBu W g m gd room v ns O hi mi ev wr) (hn : iW n) (hl : O.length < maxLen) :
    ∃ V, (Instr.mapUpdate 53 (.map (some m)) (.int .i64 n) (bvV f)).run Try.prog W = .ok () V ∧ IsBu V g m gd room v ns (putO O n f) hi mi ev wr ∧ Only [m] W V := by
  obtain ⟨D, h1, h2⟩ := h.own
  unfold putO
  by_cases hm : n ∈ O.map (·.1)
  · rw [if_pos hm]
    obtain ⟨p, hp, rfl⟩ := List.mem_map.1 hm
    obtain ⟨V, r1, r2, r3⟩ := storeB_old (f := f) h2 h1 hl (f' := p.2) hp
    exact ⟨V, r1, h.putM r3 r2, r3⟩
  · rw [if_neg hm]
    obtain ⟨V, r1, r2, r3⟩ := storeB_new (f := f) h2 h1 hl hn hm
    exact ⟨V, r1, h.putM r3 r2, r3⟩
theorem keep_tail {q : Nat} {n : Int} {f : BV} {o : Obj} (h : IsBu w1 g m gd room v1 ns1 O1 hi mi ev wr) (hq : Blk w1 q 57 #[svO f.1, .bool f.2]) (hn : iW n) (hl : O1.length < maxLen)
    (k1 : IRow w3 v2 (ns1 ++ [n])) (k2 : Only v1.ownBlock.toList (w1.alloc o) w3) :
    w3.frozen? ⟨g, 3, none⟩ = false ∧ w3.cell? ⟨g, 3, none⟩ = some v1 ∧ w3.cell? ⟨g, 2, none⟩ = some (.map (some m)) ∧ ((w3.setCell ⟨g, 3, none⟩ v2).cell? ⟨q, 0, none⟩ = some (svO f.1) ∧ w3.cell? ⟨q, 0, none⟩ = some (svO f.1)) ∧ ((w3.setCell ⟨g, 3, none⟩ v2).cell? ⟨q, 1, none⟩ = some (.bool f.2) ∧ w3.cell? ⟨q, 1, none⟩ = some (.bool f.2)) ∧ q ≠ g ∧
      ∃ fW : World → World, ∀ W, Only [] (w3.setCell ⟨g, 3, none⟩ v2) W → (Instr.mapUpdate 53 (.map (some m)) (.int .i64 n) (.agg #[svO f.1, .bool f.2])).run Try.prog W = .ok () (fW W) ∧ IsBu (fW W) g m gd room v2 (ns1 ++ [n]) (putO O1 n f) hi mi ev wr ∧ Only (footB g m v1) w1 (fW W) := by
  have h1 := h.quiet ((Only.refl [] w1).alloc o)
  have hg3 := h1.blk.only k2 (fun e => h1.vg (mem_own.1 e) rfl)
  obtain ⟨p1, p2⟩ := h1.putN k2 k1
  have hq3 : Blk w3 q 57 #[svO f.1, .bool f.2] := (hq.alloc o).only k2 (fun e => h1.row.apart (hq.alloc o) (by decide) q (mem_own.1 e) rfl)
  have hqg : q ≠ g := hq.ne_ h.blk (by decide)
  have hq4 := hq3.far (p := ⟨g, 3, none⟩) hqg v2
  refine ⟨hg3.frozen 3, hg3.cell 3, hg3.cell 2, ⟨hq4.cell 0, hq3.cell 0⟩, ⟨hq4.cell 1, hq3.cell 1⟩, hqg, skolemB (A := fun W => Only [] (w3.setCell ⟨g, 3, none⟩ v2) W) (P := fun W V => (Instr.mapUpdate 53 (.map (some m)) (.int .i64 n) (.agg #[svO f.1, .bool f.2])).run Try.prog W = .ok () V ∧ IsBu V g m gd room v2 (ns1 ++ [n]) (putO O1 n f) hi mi ev wr ∧ Only (footB g m v1) w1 V) (fun W hW => ?_)⟩
  obtain ⟨V, r1, r2, r3⟩ := putO_store (f := f) (p1.quiet hW) hn hl
  refine ⟨V, r1, r2, ?_⟩
  have o1 : Only (footB g m v1) w1 (w1.alloc o) := ((Only.refl [] w1).alloc o).mono (by simp)
  exact ((o1.trans p2).trans (hW.mono (by simp))).trans (r3.mono (fun k _ hk => mem_footB.2 (.inr (.inl (by simpa using hk)))))
end
end Go.Proofs.Ytenpifamklnkmaa
