/-
  The document's cache of names (parapetref19): rows of what is kept, each four cells ('XkR'); the texts for rows of seats by substitution.
-/
import Derived.Test.YtjpojoflbjhjjaaNcPack
import Derived.Deep.RegionLaw
import Derived.Deep.AppendLies
namespace Go.Proofs.Ytjpojoflbjhjjaa
open Go.ChangeShapes Go.WideShapes Go.ChangeAt Go.RowKit
set_option linter.unusedVariables false
def KE.cells (s : KE) : List Value := [.int .i64 s.key.dir, .string s.key.name, .int .i64 s.inode, .int .i64 s.id]
def flatX (ss : List KE) : List Value := ss.flatMap KE.cells
theorem flatX_nil : flatX [] = [] := rfl
theorem flatX_cons (s : KE) (r : List KE) : flatX (s :: r) = s.cells ++ flatX r := rfl
theorem flatX_append (a b : List KE) : flatX (a ++ b) = flatX a ++ flatX b := by simp [flatX]
theorem flatX_length : ∀ ss : List KE, (flatX ss).length = ss.length * 4
  | [] => rfl
  | s :: r => by
    rw [flatX_cons, List.length_append, flatX_length r, List.length_cons]
    show 4 + r.length * 4 = _
    omega
theorem flatX_take : ∀ (ss : List KE) (i : Nat), (flatX ss).take (i * 4) = flatX (ss.take i)
  | [], i => by simp [flatX]
  | s :: r, 0 => by simp [flatX]
  | s :: r, i + 1 => by
    rw [flatX_cons, List.take_succ_cons, flatX_cons, ← flatX_take r i, show (i + 1) * 4 = s.cells.length + i * 4 by show _ = 4 + i * 4; omega, List.take_length_add_append]
theorem flatX_drop : ∀ (ss : List KE) (i : Nat), (flatX ss).drop (i * 4) = flatX (ss.drop i)
  | [], i => by simp [flatX]
  | s :: r, 0 => by simp
  | s :: r, i + 1 => by
    rw [flatX_cons, List.drop_succ_cons, ← flatX_drop r i, show (i + 1) * 4 = s.cells.length + i * 4 by show _ = 4 + i * 4; omega, List.drop_length_add_append]
theorem flatX_get {s : KE} : ∀ {ss : List KE} {i : Nat}, ss[i]? = some s → ∀ {k : Nat} {u : Value}, s.cells[k]? = some u → (flatX ss)[i * 4 + k]? = some u
  | [], i, h, _, _, _ => by simp at h
  | x :: r, 0, h, k, u, hu => by
    simp only [List.getElem?_cons_zero, Option.some.injEq] at h
    subst h
    rw [flatX_cons, List.getElem?_append_left (by have := (List.getElem?_eq_some_iff.1 hu).1; omega)]
    rw [Nat.zero_mul, Nat.zero_add]; exact hu
  | x :: r, i + 1, h, k, u, hu => by
    have := flatX_get (ss := r) (i := i) (by simpa using h) hu
    rw [flatX_cons, List.getElem?_append_right (by show 4 ≤ _; omega)]
    rw [show (i + 1) * 4 + k - x.cells.length = i * 4 + k by show (i + 1) * 4 + k - 4 = _; omega]
    exact this
theorem flatX_set {s s' : KE} {k : Nat} {u : Value} (hk : k < 4) (hc : s.cells.set k u = s'.cells) : ∀ {ss : List KE} {i : Nat}, ss[i]? = some s → (flatX ss).set (i * 4 + k) u = flatX (ss.set i s')
  | [], i, h => by simp at h
  | x :: r, 0, h => by
    simp only [List.getElem?_cons_zero, Option.some.injEq] at h
    subst h
    rw [flatX_cons, Nat.zero_mul, Nat.zero_add, List.set_append_left _ _ (by show k < 4; omega), hc]
    rfl
  | x :: r, i + 1, h => by
    have := flatX_set (s' := s') hk hc (ss := r) (i := i) (by simpa using h)
    rw [flatX_cons, List.set_append_right _ _ (by show 4 ≤ _; omega), show (i + 1) * 4 + k - x.cells.length = i * 4 + k by show (i + 1) * 4 + k - 4 = _; omega, this]
    rfl

def XkR (w : World) (v : Value) (ss : List KE) : Prop := w.ownsRow 0 54 4 v ss.length (flatX ss)
theorem info_kept19 : (Try.prog.info? 54).map (fun i => (i.size, i.bytes)) = some (4, 40) := by kernel_rfl

section
variable {w w' : World} {v : Value} {ss : List KE} {S : List Nat}
theorem XkR.nil (w : World) : XkR w (.slice none 0 0) [] := ⟨by simp [flatX], .inl ⟨rfl, by simp⟩⟩
theorem XkR.blk (h : XkR w v ss) (hn : 0 < ss.length) : ∃ b cap cur, v = .slice (some ⟨b, 0, none⟩) ss.length cap ∧ Blk w b 54 (flatX ss ++ cur).toArray ∧ ss.length * 4 + cur.length = cap * 4 ∧ ss.length ≤ cap ∧ cap ≤ maxLen := by
  rcases h.2 with ⟨_, h0⟩ | ⟨b, cap, cur, e, hB, hg, hnc, hm, hs, ht⟩
  · omega
  · refine ⟨b, cap, cur.toList.drop (ss.length * 4), e, ?_, ?_, hnc, hm⟩
    · have : flatX ss ++ cur.toList.drop (ss.length * 4) = cur.toList := by
        rw [show flatX ss = cur.toList.take (ss.length * 4) from ht.symm, List.take_append_drop]
      rw [this]
      exact hg
    · simp [hs]; omega
theorem XkR.of_blk {b cap : Nat} {cur : List Value} (hb : Blk w b 54 (flatX ss ++ cur).toArray) (hl : ss.length * 4 + cur.length = cap * 4) (hm : cap ≤ maxLen) : XkR w (.slice (some ⟨b, 0, none⟩) ss.length cap) ss := by
  refine ⟨flatX_length ss, .inr ⟨b, cap, _, rfl, Nat.zero_le _, hb, by omega, hm, by simp [flatX_length]; omega, ?_⟩⟩
  have := flatX_length ss
  simp [this]
theorem XkR.form (h : XkR w v ss) : ∃ A cap, v = .slice A ss.length cap ∧ (0 < ss.length → ∃ b, A = some ⟨b, 0, none⟩ ∧ b < w.heap.size) := by
  rcases h.2 with ⟨e, h0⟩ | ⟨b, cap, cur, e, hB, hg, rest⟩
  · exact ⟨none, 0, by rw [e, h0], fun hp => absurd hp (by omega)⟩
  · exact ⟨some ⟨b, 0, none⟩, cap, e, fun _ => ⟨b, rfl, Blk.lt (t := 54) hg⟩⟩
theorem XkR.cell (h : XkR w v ss) {A : Option Addr} {n cap : Nat} (hv : v = .slice A n cap) {b : Nat} {o : Nat} (hA : A = some ⟨b, o, none⟩) {i : Nat} {s : KE} (hs : ss[i]? = some s) :
    w.cell? ⟨b, i * 4, none⟩ = some (.int .i64 s.key.dir) ∧ w.cell? ⟨b, i * 4 + 1, none⟩ = some (.string s.key.name) ∧ w.cell? ⟨b, i * 4 + 2, none⟩ = some (.int .i64 s.inode) ∧ w.cell? ⟨b, i * 4 + 3, none⟩ = some (.int .i64 s.id) := by
  have hi := (List.getElem?_eq_some_iff.1 hs).1
  obtain ⟨b', cap', cur, e, hb, _⟩ := h.blk (by omega)
  rw [hv, hA] at e
  injection e with e
  injection e with e
  injection e with e
  subst e
  have hc : ∀ k u, s.cells[k]? = some u → w.cell? ⟨b, i * 4 + k, none⟩ = some u := fun k u hk => by
    have h1 := flatX_get hs hk
    rw [hb.cell, List.getElem?_toArray, List.getElem?_append_left (List.getElem?_eq_some_iff.1 h1).1]
    exact h1
  exact ⟨hc 0 _ rfl, hc 1 _ rfl, hc 2 _ rfl, hc 3 _ rfl⟩
theorem XkR.only (h : XkR w v ss) (ho : Only S w w') (hs : ∀ k, v.ownBlock = some k → k ∉ S) : XkR w' v ss := ownsRow_only' h ho hs
theorem XkR.drewN (h : XkR w v ss) (n : Nat) : XkR (w.drewN n) v ss := h
theorem XkR.at_ (h : XkR w v ss) {q : Nat} (hq : v.ownBlock = some q) : q < w.heap.size ∧ ∀ t cs, Blk w q t cs → t = 54 := by
  rcases h.2 with ⟨e', h0⟩ | ⟨b, cap, cur, e', hB, hg, hn, hm, hs, ht⟩
  · rw [e'] at hq; simp [Value.ownBlock] at hq
  · rw [e'] at hq
    simp only [Value.ownBlock, Option.some.injEq] at hq
    subst hq
    refine ⟨Blk.lt hg, fun t cs hb => ?_⟩
    unfold Blk at hb
    rw [hg] at hb
    injection hb with hb
    injection hb with _ hb
    exact hb.symm
theorem XkR.apart (h : XkR w v ss) {q : Nat} {t : TypeId} {cs : Array Value} (hb : Blk w q t cs) (ht : t ≠ 54) : ∀ j, v.ownBlock = some j → j ≠ q := by
  rintro j hj rfl
  exact ht ((h.at_ hj).2 _ _ hb)
end
/-- The slice x shows the seats zs. -/
def KeptsAt (w : World) (x : Value) (zs : List KE) : Prop :=
  (x = .slice none 0 0 ∧ zs = []) ∨ ∃ b o c, x = .slice (some ⟨b, o, none⟩) zs.length c ∧ (0 < zs.length → b < w.heap.size) ∧ ∀ j u, (flatX zs)[j]? = some u → w.cell? ⟨b, o + j, none⟩ = some u
def keptZero : Value := .agg #[.int .i64 0, .string ⟨#[]⟩, .int .i64 0, .int .i64 0]
theorem info_kept5 : (Try.prog.info? 54).map (fun i => (i.zero, i.size, i.bytes)) = some (some keptZero, 4, 40) := by kernel_rfl
theorem flatX_one (ss : List KE) : ∀ u ∈ flatX ss, u.oneCell' = true := by
  intro u hu
  simp only [flatX, List.mem_flatMap] at hu
  obtain ⟨s, _, hs⟩ := hu
  simp only [KE.cells, List.mem_cons, List.not_mem_nil, or_false] at hs
  rcases hs with rfl | rfl | rfl | rfl <;> rfl
theorem kept_zero : ∀ w, (zeroValue 54).run Try.prog w = .ok keptZero w := by
  intro w
  obtain ⟨i, hi, hz, _, _⟩ := info_parts info_kept5
  simp [zeroValue, typeInfo, hi, hz]

section
variable {w w' : World} {v x : Value} {ss zs : List KE} {S : List Nat}
theorem KeptsAt.only (h : KeptsAt w x zs) (ho : Only S w w') (hs : ∀ b o n c, x = .slice (some ⟨b, o, none⟩) n c → b < w.heap.size → b ∉ S) : KeptsAt w' x zs := by
  rcases h with h | ⟨b, o, c, e, hb, hc⟩
  · exact .inl h
  · refine .inr ⟨b, o, c, e, fun hp => Nat.lt_of_lt_of_le (hb hp) ho.size, fun j u hu => ?_⟩
    have h1 := hc j u hu
    have hlt := World.block_lt_of_cell? w _ h1
    exact (ho.cell hlt (hs _ _ _ _ e hlt)).trans h1
theorem XkR.sees (h : XkR w v ss) : KeptsAt w v ss := by
  rcases h.2 with ⟨e, h0⟩ | ⟨b, cap, cur, e, hB, hg, hnc, hm, hs, ht⟩
  · exact .inl ⟨e, List.eq_nil_of_length_eq_zero (by omega)⟩
  · refine .inr ⟨b, 0, cap, e, fun _ => Blk.lt (t := 54) hg, fun j u hu => ?_⟩
    have hj := (List.getElem?_eq_some_iff.1 hu).1
    rw [flatX_length] at hj
    rw [Nat.zero_add, Blk.cell (t := 54) hg, ← Array.getElem?_toList, ← hu, show flatX ss = cur.toList.take (ss.length * 4) from ht.symm, List.getElem?_take, if_pos hj]
theorem wp_append_kepts {o : Oper} {a : Act} {K : Act → World → Prop} {Q : Exit → Act → World → Prop} (s y : Operand)
    (ho : o.op = .call { callee := .builtin .append, args := #[s, y], argTypes := #[37, 37] }) (hs : a.eval s = v) (hr : XkR w v ss)
    (hx : a.eval y = x) (hz : KeptsAt w x zs) (hbig : ss.length + zs.length < 1000000)
    (hK : ∀ v' w2, XkR w2 v' (ss ++ zs) → Only v.ownBlock.toList w w2 → (∀ k, v'.ownBlock = some k → v.ownBlock = some k ∨ w.heap.size ≤ k) → (∃ A c, v' = .slice A (ss ++ zs).length c) → K (a.put o.dst v') w2) : Oper.wp Try.prog o a w K Q := by
  obtain ⟨i0, hi0, hz0, hz1, hz2⟩ := info_parts info_kept5
  rcases hz with ⟨rfl, rfl⟩ | ⟨b, q, c, rfl, _, hc⟩
  · have hrun := run_append_owned_none (P := Try.prog) (w := w) 0 37 o.type 54 i0 4 Try.underlying37 hi0 v ss.length (flatX ss) hr
    unfold Oper.wp
    simp [execOp, ho, resolve, invoke, builtin, hs, hx, hrun, Result.andThen]
    have hr' : XkR w v (ss ++ []) := by simpa using hr
    obtain ⟨A, c, e, _⟩ := hr'.form
    exact hK v w hr' (Only.refl _ _) (fun k hk => .inl hk) ⟨A, c, e⟩
  · obtain ⟨v', w', hrun, h2, h3, _, h5⟩ := run_append_own_at (P := Try.prog) w 0 37 o.type 54 i0 _ 4 40 Try.underlying37 hi0 hz0 hz1 hz2 rfl (by decide) v ss.length (flatX ss) hr ⟨b, q, none⟩ zs.length c (flatX zs) (flatX_length zs) (fun j u hj => by rw [add_at]; exact hc j u hj) (flatX_one _) (by unfold maxLen; omega) (by omega) (Nat.zero_le _)
    unfold Oper.wp
    simp [execOp, ho, resolve, invoke, builtin, hs, hx, hrun, Result.andThen]
    have hr' : XkR w' v' (ss ++ zs) := by
      unfold XkR
      rw [List.length_append, flatX_append]
      exact h2
    obtain ⟨A, c, e, _⟩ := hr'.form
    refine hK v' w' hr' (only_grown' h3) (fun k hk => ?_) ⟨A, c, e⟩
    rcases h5 with h5 | h5
    · exact .inl (h5 ▸ hk)
    · rw [h5] at hk
      injection hk with hk
      exact .inr (Nat.le_of_eq hk)
theorem wpList_append_kepts {ops : Array Oper} {rest : List Oper} {o : Oper} {a : Act} {Q : Exit → Act → World → Prop} (hgd : o.guard = none) (s y : Operand)
    (ho : o.op = .call { callee := .builtin .append, args := #[s, y], argTypes := #[37, 37] }) (hs : a.eval s = v) (hr : XkR w v ss)
    (hx : a.eval y = x) (hz : KeptsAt w x zs) (hbig : ss.length + zs.length < 1000000)
    (hK : ∀ v' w2, XkR w2 v' (ss ++ zs) → Only v.ownBlock.toList w w2 → (∀ k, v'.ownBlock = some k → v.ownBlock = some k ∨ w.heap.size ≤ k) → (∃ A c, v' = .slice A (ss ++ zs).length c) → wpList Try.prog ops Q rest (a.put o.dst v') w2) : wpList Try.prog ops Q (o :: rest) a w :=
  wpList_plain hgd fun _ hK' => wp_append_kepts s y ho hs hr hx hz hbig fun v' w2 h1 h2 h3 h4 => hK' _ _ (hK v' w2 h1 h2 h3 h4)
theorem xkrow_empty {k : Nat} (hb : Blk w k 54 #[]) : XkR w (.slice (some ⟨k, 0, none⟩) 0 0) [] :=
  ⟨by simp [flatX], .inr ⟨k, 0, #[], rfl, Nat.zero_le _, hb, Nat.le_refl _, Nat.zero_le _, rfl, by simp [flatX]⟩⟩

end
end Go.Proofs.Ytjpojoflbjhjjaa
