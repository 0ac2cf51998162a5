/-
  Open files (parapet/fdtab): the law FdCounts: each call, in the law's world.
-/
import Derived.Test.YtfplfpfnlffnjaaFdCtW
namespace Go.Proofs.Ytfplfpfnlffnjaa
open Go.ChangeShapes Go.WideShapes Go.ChangeAt Go.RowKit Go.Maps Go.Deep
set_option linter.unusedVariables false
set_option linter.unusedSimpArgs false
theorem set_self {β : Type} {L : List β} {k : Nat} {p : β} (h : L[k]? = some p) : L.set k p = L := by
  refine List.ext_getElem? fun i => ?_
  rw [List.getElem?_set]
  split
  · rename_i e
    subst e
    split
    · exact h.symm
    · rename_i hn
      rw [List.getElem?_eq_none (by omega)]
  · rfl
theorem free_all {T : List Int} (h : freeT T = -1) (hl : T.length = 16) : (fdsN T 16).length = 16 := by
  rcases fstI_cases isN T with ⟨_, hn⟩ | ⟨i, s, hs, e1, e2, _⟩
  · unfold fdsN
    rw [List.length_map, List.filter_eq_self.2, List.length_range]
    intro i hi
    have hi := List.mem_range.1 hi
    have h1 := hn (gb T i) (by
      have := gb_get (T := T) (j := i) (by omega)
      exact List.mem_of_getElem? this)
    have : (-1 == gb T i) = false := h1
    simp only [beq_eq_false_iff_ne] at this
    simp only [bne_iff_ne]
    exact fun e => this e.symm
  · exfalso
    have : freeT T = (i : Int) := e2
    omega
theorem PRw.rebase {e : TypeId} {w : World} {v : Value} {ps : List Nat} {B : Nat} (h : PRw e w v ps) (hB : ∀ q, v.ownBlock = some q → B ≤ q) : w.ownsRow B e 1 v ps.length (ps.map ptV) := by
  obtain ⟨h1, ⟨e, h0⟩ | ⟨g, cap, cur, rfl, hb, rest⟩⟩ := h
  · exact ⟨h1, .inl ⟨e, h0⟩⟩
  · exact ⟨h1, .inr ⟨g, cap, cur, rfl, hB g rfl, rest⟩⟩
theorem wpList_append_pB {e : TypeId} {w : World} {v : Value} {ps : List Nat} {ops : Array Oper} {rest : List Oper} {o : Oper} {a : Act} {Q : Exit → Act → World → Prop} {T : TypeId} (hT : Try.prog.underlying T = some (.slice e))
    (hinfo : (Try.prog.info? e).map (fun i => (i.zero, i.size, i.bytes)) = some (some (.pointer none), 1, 8)) (hgd : o.guard = none) (s x : Operand)
    (ho : o.op = .call { callee := .builtin .append, args := #[s, x], argTypes := #[T, T] }) (hs : a.eval s = v) (hrow : PRw e w v ps)
    (q z : Nat) (hx : a.eval x = .slice (some ⟨q, 0, none⟩) 1 1) (hc : w.cell? ⟨q, 0, none⟩ = some (ptV z)) (hlen : ps.length < 4000000000000) (B : Nat) (hBv : ∀ q, v.ownBlock = some q → B ≤ q) (hBw : B ≤ w.heap.size)
    (h : ∀ v' w1, PRw e w1 v' (ps ++ [z]) → w.grownBy w1 v.ownBlock → (∀ q, v'.ownBlock = some q → B ≤ q) → (∃ A c, v' = .slice A (ps.length + 1) c) → wpList Try.prog ops Q rest (a.put o.dst v') w1) : wpList Try.prog ops Q (o :: rest) a w := by
  obtain ⟨i0, hi, hz0, hz1, hz2⟩ := info_parts hinfo
  refine wpList_append_own w hgd s x T ho B e i0 _ 1 8 hT hi hz0 hz1 hz2 rfl (by decide) v ps.length (ps.map ptV) hs (hrow.rebase hBv) ⟨q, 0, none⟩ 1 1 [ptV z] hx rfl ?_ ?_ (by unfold maxLen; omega) ?_ hBw ?_
  · intro j u hj
    have h0 : j = 0 := by
      have := (List.getElem?_eq_some_iff.1 hj).1
      simp at this
      exact this
    subst h0
    rw [add_at, hc]
    exact hj
  · intro u hu
    obtain rfl := List.mem_singleton.1 hu
    rfl
  · omega
  · intro v' w1 hown hgrow _
    have hp : PRw e w1 v' (ps ++ [z]) := by
      unfold PRw
      rw [List.length_append, List.length_singleton, List.map_append]
      obtain ⟨h1, ⟨e, h0⟩ | ⟨g, cap, cur, e, hb, rest⟩⟩ := hown
      · exact ⟨h1, .inl ⟨e, h0⟩⟩
      · exact ⟨h1, .inr ⟨g, cap, cur, e, Nat.zero_le _, rest⟩⟩
    refine h v' w1 hp hgrow (fun q hq => ?_) ?_
    · obtain ⟨h1, ⟨e, h0⟩ | ⟨g, cap, cur, e, hb, rest⟩⟩ := hown
      · rw [e] at hq; simp [Value.ownBlock] at hq
      · rw [e] at hq
        simp only [Value.ownBlock, Option.some.injEq] at hq
        omega
    · obtain ⟨A, c, e, _⟩ := hp.form
      rw [List.length_append, List.length_singleton] at e
      exact ⟨A, c, e⟩
section
variable {w0 w w' : World} {g f m r t t' : Nat} {v v' u : Value} {xs : List Nat} {L : List (Nat × List Int)} {O O' : List (Int × F5)} {n : Nat} {T T' : List Int}
theorem cw_dup (h : CW w0 w g f m r v u xs L O) (hK : OkC L O) (hn : L[n]? = some (t, T)) (a : Int) : Calls Try.prog 12 #[ptV t, .int .i64 a] w fun e w' => ∃ r1 r2 L' O', e = .returned (.tuple #[.int .i64 r1, .int .i64 r2]) ∧ CW w0 w' g f m r v u xs L' O' ∧ OkC L' O' ∧ O'.length = O.length ∧ L'.length = L.length := by
  have ht := h.tabs _ (List.mem_of_getElem? hn)
  refine (dup_is ht h.fi (h.refB hK) (by decide) a).mono ?_
  rintro e w' ⟨q1, q2, q3, q4⟩
  refine ⟨_, _, L.set n (t, (dupS O T a).2.2), (dupS O T a).2.1, q1, h.turn hn q4 q2 q3, ?_, ?_, by rw [List.length_set]⟩
  · unfold dupS
    cases hg : getT T a with
    | none => dsimp only; rw [set_self hn]; exact hK
    | some k =>
      dsimp only
      cases hl : lookO O k with
      | none => dsimp only; rw [set_self hn]; exact hK
      | some x =>
        obtain ⟨i, hi, rfl, hgi, hk⟩ := getT_some hg
        dsimp only
        rcases freeT_cases (T := T) ht.len with e | ⟨j, hj, e, hj2⟩
        · rw [if_pos e]; dsimp only; rw [set_self hn]; exact hK
        · rw [if_neg (by omega), e]
          dsimp only
          exact hK.dup hk (lookO_some hl) hn (by have := ht.len; rw [Int.toNat_natCast, gb_get (T := T) (j := j) (by dsimp only at this; omega), hj2])
  · unfold dupS
    split
    · rfl
    · split
      · rfl
      · split <;> simp [setV]
theorem cw_close (h : CW w0 w g f m r v u xs L O) (hK : OkC L O) (hn : L[n]? = some (t, T)) (a : Int) : Calls Try.prog 13 #[ptV t, .int .i64 a] w fun e w' => ∃ y gone er L' O', e = .returned (.tuple #[fV y, .bool gone, .int .i64 er]) ∧ CW w0 w' g f m r v u xs L' O' ∧ OkC L' O' ∧ L'.length = L.length ∧ ((gone = true ∧ er = 0 ∧ O'.length + 1 = O.length) ∨ (gone = false ∧ (er = 0 ∨ er = 220) ∧ O'.length = O.length)) := by
  have ht := h.tabs _ (List.mem_of_getElem? hn)
  refine (close_is ht h.fi (h.refB hK) (by decide) a).mono ?_
  rintro e w' ⟨q1, q2, q3, q4⟩
  refine ⟨_, _, _, L.set n (t, (closeS O T a).2.2), (closeS O T a).2.1, q1, h.turn hn q4 q2 q3, ?_⟩
  unfold closeS
  cases hg : getT T a with
  | none => dsimp only; rw [set_self hn]; exact ⟨hK, rfl, .inr ⟨rfl, .inr rfl, rfl⟩⟩
  | some k =>
    obtain ⟨i, hi, rfl, hgi, hk⟩ := getT_some hg
    have hl16 := ht.len
    dsimp only at hl16 ⊢
    rw [Int.toNat_natCast]
    have hmem : k ∈ O.map (·.1) := hK.named k hk (by
      have := sum_set (fun p : Nat × List Int => p.2.count k) (t, []) hn
      have h2 : 0 < T.count k := List.count_pos_iff.2 (by
        have := gb_get (T := T) (j := i) (by omega)
        rw [hgi] at this
        exact List.mem_of_getElem? this)
      unfold nmL
      dsimp only at this
      simp only [List.count_nil] at this
      omega)
    obtain ⟨x, hx⟩ : ∃ x, lookO O k = some x := by
      cases hl : lookO O k with
      | none => exact absurd hmem (lookO_none hl)
      | some x => exact ⟨x, rfl⟩
    obtain ⟨k1, k2, k3⟩ := hK.close hk hx h.fi.nd hn (by rw [gb_get (T := T) (j := i) (by omega), hgi])
    refine ⟨k1, by rw [List.length_set], ?_⟩
    cases hgone : (dropS O k).1.2.1
    · rw [hgone] at k3
      exact .inr ⟨rfl, .inl k2, by simpa using k3⟩
    · rw [hgone] at k3
      exact .inl ⟨rfl, k2, by simpa using k3⟩
theorem cw_fork (h : CW w0 w g f m r v u xs L O) (hK : OkC L O) (hl : L.length < 12) (hn : L[n]? = some (t, T)) : Calls Try.prog 14 #[ptV t] w fun e w' => ∃ t' O', e = .returned (.tuple #[ptV t', .int .i64 0]) ∧ CW w0 w' g f m r v u xs L O' ∧ IsTa w' t' f T ∧ t' ∉ L.map (·.1) ∧ w0.heap.size ≤ t' ∧ OkC (L ++ [(t', T)]) O' ∧ O'.length = O.length := by
  have ht := h.tabs _ (List.mem_of_getElem? hn)
  refine (fork_is ht h.fi (h.refB hK) (by decide)).mono ?_
  rintro e w' ⟨t', h1, q1, q2, q3, q4, q5, q6⟩
  refine ⟨t', _, q1, h.turnF q6 q4, q2, fun hm => ?_, Nat.le_trans h.on.size h1, hK.fork hl hn ht.len t', ?_⟩
  · obtain ⟨p, hp, e2⟩ := List.mem_map.1 hm
    have := (h.tabs p hp).blk.lt
    omega
  · have := congrArg List.length (shares_keys (T.take 16) O)
    simpa [forkN] using this
theorem CW.gblk {w1 : World} (h : CW w0 w g f m r v u xs L O) (hg : w.grownBy w1 v.ownBlock) : Blk w1 g 34 #[ptV f, v, ptV r, u] := by
  refine h.lw.blk.only (only_grown' hg) (fun hm => ?_)
  have hm' : v.ownBlock = some g := by simpa using hm
  obtain ⟨_, cs, hb⟩ := h.lw.row.at_ hm'
  exact h.lw.blk.ne_ hb (by decide) rfl
theorem CW.app {w1 : World} (h : CW w0 w g f m r v u xs L O) (ht : IsTa w t' f T) (hn : t' ∉ L.map (·.1)) (hf : w0.heap.size ≤ t') (hr : PRw 35 w1 v' (L.map (·.1) ++ [t'])) (hg : w.grownBy w1 v.ownBlock) (hv : ∀ q, v'.ownBlock = some q → w0.heap.size ≤ q) : CW w0 (w1.setCell ⟨g, 1, none⟩ v') g f m r v' u xs (L ++ [(t', T)]) O := by
  have hoG : Only v.ownBlock.toList w w1 := only_grown' hg
  obtain ⟨D, d1, d2⟩ := h.fi.own
  have hqv : ∀ q, v.ownBlock = some q → q < w.heap.size ∧ (∀ ty cs, Blk w q ty cs → ty = 35) ∧ q ≠ m := fun q hq => by
    obtain ⟨h1, cs, hb⟩ := h.lw.row.at_ hq
    refine ⟨h1, fun ty cs' hb' => ?_, (ownsMap_ne d1 hb).symm⟩
    unfold Blk at hb hb'
    rw [hb] at hb'
    injection hb' with hb'
    injection hb' with _ hb'
    exact hb'.symm
  have hap : ∀ q ty cs, Blk w q ty cs → ty ≠ 35 → q ∉ v.ownBlock.toList := fun q ty cs hb hne hm => by
    have hm' : v.ownBlock = some q := by simpa using hm
    exact hne ((hqv q hm').2.1 ty cs hb)
  have hg1 : Blk w1 g 34 _ := h.lw.blk.only hoG (hap g _ _ h.lw.blk (by decide))
  have hgm : m ≠ g := ownsMap_ne d1 h.lw.blk
  have hmv : m ∉ v.ownBlock.toList := fun hm => by
    have hm' : v.ownBlock = some m := by simpa using hm
    exact (hqv m hm').2.2 rfl
  have hs : Only [g] w1 (w1.setCell ⟨g, 1, none⟩ v') := (Only.refl _ _).setCell _ (by simp)
  have hgs := hg1.set_ 1 v'
  have hfi1 : IsFi w1 f m O := h.fi.only hoG (hap f _ _ h.fi.blk (by decide)) hmv
  have hfg : g ≠ f := h.lw.blk.ne_ h.fi.blk (by decide)
  have hv'g : ∀ q, v'.ownBlock = some q → q ≠ g := fun q hq e => by
    subst e
    obtain ⟨_, cs, hb⟩ := hr.at_ hq
    exact hg1.ne_ hb (by decide) rfl
  refine ⟨⟨hgs, ?_, ?_, h.lw.lg, h.lw.lr, fun q hq => ?_, h.lw.lu⟩, hfi1.only hs (by simpa using hfg.symm) (by simpa using hgm), fun p hp => ?_, ?_, ?_, h.lf, h.lm, fun p hp => ?_⟩
  · rw [List.map_append]
    exact hr.only hs (fun q hq hm => by simp at hm; exact hv'g q hq hm)
  · refine (h.lw.xrow.only hoG (fun q hq => ?_)).only hs (fun q hq hm => ?_)
    · obtain ⟨_, cs, hb⟩ := h.lw.xrow.at_ hq
      exact hap q _ _ hb (by decide)
    · obtain ⟨_, cs, hb⟩ := h.lw.xrow.at_ hq
      simp at hm
      exact h.lw.blk.ne_ hb (by decide) hm.symm
  · exact hv q hq
  · rcases List.mem_append.1 hp with hp | hp
    · have hb := h.tabs p hp
      exact (hb.only hoG (hap _ _ _ hb.blk (by decide))).only hs (by simpa using (h.lw.blk.ne_ hb.blk (by decide)).symm)
    · rw [List.mem_singleton.1 hp]
      exact (ht.only hoG (hap _ _ _ ht.blk (by decide))).only hs (by simpa using (h.lw.blk.ne_ ht.blk (by decide)).symm)
  · rw [List.map_append]
    refine List.nodup_append.2 ⟨h.nd, by simp, ?_⟩
    intro a ha b hb e
    simp at hb
    subst hb; subst e
    exact hn ha
  · refine (h.on.trans' hoG (fun q hq hm => ?_)).trans' hs (fun q hq hm => ?_)
    · have hm' : v.ownBlock = some q := by simpa using hm
      have := h.lw.lv q hm'
      omega
    · have := h.lw.lg
      simp at hm
      omega
  · rcases List.mem_append.1 hp with hp | hp
    · exact h.lt p hp
    · rw [List.mem_singleton.1 hp]; exact hf
theorem cw_move (h : CW w0 w g f m r v u xs L O) (hK : OkC L O) {k : Int} (hk : iW k) (a : Int) : Calls Try.prog 16 #[ptV f, .int .i64 k, .int .i64 a] w fun e w' => ∃ er O', e = .returned (.int .i64 er) ∧ CW w0 w' g f m r v u xs L O' ∧ OkC L O' ∧ O'.length = O.length := by
  refine (move_is h.fi hk a).mono ?_
  rintro e w' ⟨q1, q2, q3⟩
  exact ⟨_, _, q1, h.turnF q3 q2, hK.move k a, moveS_len O k a⟩
theorem cw_open (h : CW w0 w g f m r v u xs L O) (hK : OkC L O) (a b : Int) : Calls Try.prog 10 #[ptV f, .int .i64 a, .int .i64 b, .int .i64 0] w fun e w' => ∃ i er O', e = .returned (.tuple #[.int .i64 i, .int .i64 er]) ∧ CW w0 w' g f m r v u xs L O' ∧
    (((er = 1 ∨ er = 2) ∧ O' = O) ∨ (er = 0 ∧ 0 ≤ i ∧ i < 64 ∧ i ∉ O.map (·.1) ∧ ∃ x : F5, x.refs = 1 ∧ O' = O ++ [(i, x)])) := by
  by_cases ha : a < 1 ∨ 4 < a
  · refine (open_bad h.fi b 0 ha).mono ?_
    rintro e w' ⟨rfl, rfl⟩
    exact ⟨0, 1, O, rfl, h, .inl ⟨.inl rfl, rfl⟩⟩
  · by_cases hf : O.length = 64
    · refine (open_full h.fi b 0 (by omega) (by omega) hf).mono ?_
      rintro e w' ⟨rfl, rfl⟩
      exact ⟨0, 2, O, rfl, h, .inl ⟨.inr rfl, rfl⟩⟩
    · refine (open_ok h.fi b 0 (by omega) (by omega) hf).mono ?_
      rintro e w' ⟨i, hi, rfl, h1, h2, h3, h4⟩
      exact ⟨i, 0, _, rfl, h.turnF h4 h3, .inr ⟨rfl, by omega, by omega, h1, _, rfl, rfl⟩⟩
theorem cw_install {i : Int} {x : F5} (h : CW w0 w g f m r v u xs L (O ++ [(i, x)])) (hK : OkC L O) (hn : L[n]? = some (t, T)) (h0 : 0 ≤ i) (h64 : i < 64) (hi : i ∉ O.map (·.1)) (hx : x.refs = 1) (hF : freeT T ≠ -1) : Calls Try.prog 11 #[ptV t, .int .i64 i] w fun e w' => ∃ j L', e = .returned (.tuple #[.int .i64 j, .int .i64 0]) ∧ CW w0 w' g f m r v u xs L' (O ++ [(i, x)]) ∧ OkC L' (O ++ [(i, x)]) ∧ L'.length = L.length := by
  have ht := h.tabs _ (List.mem_of_getElem? hn)
  have hl16 := ht.len
  dsimp only at hl16
  rcases freeT_cases (T := T) ht.len with e | ⟨j, hj, e, hj2⟩
  · exact absurd e hF
  · refine (install_ok ht h.fi (iW_small (x := i) (by omega) (by omega)) (List.mem_map.2 ⟨(i, x), by simp, rfl⟩) hj e).mono ?_
    rintro e w' ⟨q1, q2, q3⟩
    have hti := ht.tf h.fi
    exact ⟨_, _, q1, h.turn hn (q3.mono (fun q _ hq => by simp at hq; simp [hq])) q2 (h.fi.only q3 (by simpa using hti.1.symm) (by simpa using hti.2.symm)), hK.open_ (by omega) hi hx hn (by rw [gb_get (T := T) (j := j) (by omega), hj2]), by rw [List.length_set]⟩
end
end Go.Proofs.Ytfplfpfnlffnjaa
