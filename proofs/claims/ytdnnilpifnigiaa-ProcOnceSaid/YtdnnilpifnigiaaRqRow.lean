/-
  Rows of ints of one's own: how their blocks look, slices.Delete of one of them (the texts of parapet/frame and parapet/resv have the same for their rows).
-/
import Derived.Test.YtdnnilpifnigiaaAppAny
namespace Go.Proofs.Ytdnnilpifnigiaa
open Go.ChangeShapes Go.WideShapes Go.ChangeAt Go.RowKit
set_option linter.unusedVariables false

theorem IRow.blk {w : World} {v : Value} {ns : List Int} (h : IRow w v ns) (hn : 0 < ns.length) :
    ∃ b cap cur, v = .slice (some ⟨b, 0, none⟩) ns.length cap ∧ Blk w b 3 (i64l ns ++ cur).toArray ∧ ns.length + cur.length = cap ∧ cap ≤ maxLen := by
  rcases h.2 with ⟨_, h0⟩ | ⟨b, cap, cur, e, hB, hg, hnc, hm, hs, ht⟩
  · omega
  · rw [Nat.mul_one] at ht hs
    refine ⟨b, cap, cur.toList.drop ns.length, e, ?_, ?_, hm⟩
    · have : i64l ns ++ cur.toList.drop ns.length = cur.toList := by
        rw [show i64l ns = cur.toList.take ns.length from ht.symm, List.take_append_drop]
      rw [this]
      exact hg
    · simp [hs]; omega
theorem IRow.of_blk {w : World} {ns : List Int} {b cap : Nat} {cur : List Value} (hb : Blk w b 3 (i64l ns ++ cur).toArray) (hl : ns.length + cur.length = cap) (hm : cap ≤ maxLen) : IRow w (.slice (some ⟨b, 0, none⟩) ns.length cap) ns := by
  refine ⟨by simp, .inr ⟨b, cap, _, rfl, Nat.zero_le _, hb, by omega, hm, by simp [i64l]; omega, ?_⟩⟩
  simp [i64l]
theorem i64l_append (a b : List Int) : i64l (a ++ b) = i64l a ++ i64l b := by simp [i64l]
theorem i64l_get (xs : List Int) (r : List Value) (i : Nat) (h : i < xs.length) : (i64l xs ++ r).toArray[i]? = some (.int .i64 (gb xs i)) := by
  have h' : i < (i64l xs).length := by simpa [i64l] using h
  rw [List.getElem?_toArray, List.getElem?_append_left h']
  simp [i64l, gb, List.getElem?_eq_getElem h, List.getD]
theorem IRow.form2 {w : World} {v : Value} {ns : List Int} (h : IRow w v ns) : ∃ A c, v = .slice A ns.length c ∧ (A = none → ns.length = 0 ∧ c = 0) ∧ ns.length ≤ c ∧ c ≤ maxLen ∧ (∀ ad, A = some ad → ∃ b, ad = ⟨b, 0, none⟩ ∧ b < w.heap.size ∧ ∀ j u, (i64l ns)[j]? = some u → w.cell? ⟨b, j, none⟩ = some u) := by
  rcases h.2 with ⟨e, h0⟩ | ⟨b, cap, cur, e, _, hg, h1, h2, hs, ht⟩
  · exact ⟨none, 0, by rw [e, h0], fun _ => ⟨h0, rfl⟩, by omega, Nat.zero_le _, fun ad e => by cases e⟩
  · refine ⟨_, cap, e, fun h => (by cases h), h1, h2, fun ad e => ?_⟩
    injection e with e
    refine ⟨b, e.symm, Blk.lt hg, fun j u hu => ?_⟩
    have hj : j < ns.length := by
      have := (List.getElem?_eq_some_iff.1 hu).1
      rwa [i64l_length] at this
    rw [Blk.cell hg, ← Array.getElem?_toList, ← hu, show i64l ns = cur.toList.take (ns.length * 1) from ht.symm, List.getElem?_take, if_pos (by omega)]

theorem blk_setCells {b : Nat} {t : TypeId} : ∀ (vs : List Value) (o : Nat) (w : World) (cs : List Value), Blk w b t cs.toArray → o + vs.length ≤ cs.length → Blk (w.setCells b o vs) b t (cs.take o ++ vs ++ cs.drop (o + vs.length)).toArray
  | [], o, w, cs, h, _ => by simpa [World.setCells] using h
  | v :: vs, o, w, cs, h, hl => by
    have h1 := h.set_ o v
    rw [List.setIfInBounds_toArray] at h1
    have hlt : o < cs.length := by simp at hl; omega
    have h2 := blk_setCells vs (o + 1) _ _ h1 (by simp at hl ⊢; omega)
    have e : (cs.set o v).take (o + 1) ++ vs ++ (cs.set o v).drop (o + 1 + vs.length) = cs.take o ++ (v :: vs) ++ cs.drop (o + (v :: vs).length) := by
      have e1 : (cs.set o v).take (o + 1) = cs.take o ++ [v] := by
        rw [List.take_add_one, List.take_set_of_le (Nat.le_refl _)]
        simp [hlt]
      have e2 : (cs.set o v).drop (o + 1 + vs.length) = cs.drop (o + (v :: vs).length) := by
        rw [List.drop_set_of_lt (by omega)]
        congr 1
        simp; omega
      rw [e1, e2]
      simp
    rw [e] at h2
    exact h2
theorem only_setCells {b : Nat} : ∀ (vs : List Value) (o : Nat) (w : World), Only [b] w (w.setCells b o vs)
  | [], o, w => Only.refl _ _
  | v :: vs, o, w => ((Only.refl [b] w).setCell (p := ⟨b, o, none⟩) v (by simp)).trans (only_setCells vs (o + 1) _)
theorem int_zero {P : Program} {t : TypeId} (h : (P.info? t).map (fun i => (i.zero, i.size, i.bytes)) = some (some (.int .i64 0), 1, 8)) : ∀ w, (zeroValue t).run P w = .ok (.int .i64 0) w := by
  intro w
  obtain ⟨i, hi, hz, _, _⟩ := info_parts h
  simp [zeroValue, typeInfo, hi, hz]
theorem run_clear_int {w : World} {b : Nat} {cur : List Value} (hb : Blk w b 3 cur.toArray) (i n c : Nat) (hn : 0 < n) (hi : i + n ≤ cur.length) :
    ∃ w1, (∀ ty, (Builtin.clear_ #[33] ty #[.slice (some ⟨b, i, none⟩) n c]).run Try.prog w = .ok (.tuple #[]) w1) ∧ Only [b] w w1 ∧
      Blk w1 b 3 (cur.take i ++ List.replicate n (Value.int .i64 0) ++ cur.drop (i + n)).toArray := by
  refine ⟨w.setCells b i (List.replicate n (Value.int .i64 0)), fun ty => ?_, only_setCells _ _ _, ?_⟩
  · refine Lib.run_clear_slice w 33 3 ty (.int .i64 0) Try.underlying33 (int_zero info_int) rfl rfl b i n c hn (fun j hj => ?_) (fun j hj => hb.frozen _)
    rw [hb.cell, List.getElem?_toArray, List.getElem?_eq_getElem (by omega)]
    rfl
  · have := blk_setCells (List.replicate n (Value.int .i64 0)) i w cur hb (by simpa using hi)
    simpa using this

/-- append of what stands behind a place onto what stands ahead of it, as a step of a region that draws. -/
theorem step_delI {ops : Array Oper} {o : Oper} {a : Act} {w : World} {K : Act → World → Prop} {Q : Exit → Act → World → Prop} {E : Prop} (hgd : o.guard = none) (s y : Operand)
    (ho : o.op = .call { callee := .builtin .append, args := #[s, y], argTypes := #[33, 33] }) (b i cap m c k : Nat) (hk : i + m = k) (hs : a.eval s = .slice (some ⟨b, 0, none⟩) i cap) (A : Addr) (hx : a.eval y = .slice (some A) m c)
    (cur : List Value) (hb : Blk w b 3 cur.toArray) (zs : List Int) (hzm : zs.length = m) (hnews : ∀ j u, (i64l zs)[j]? = some u → w.cell? (A.add j) = some u) (hroom : i + m ≤ cap) (hcap : cap = cur.length)
    (hK : ∀ w2, Blk w2 b 3 (cur.take i ++ i64l zs ++ cur.drop (i + m)).toArray → Only [b] w w2 → K (a.put o.dst (.slice (some ⟨b, 0, none⟩) k cap)) w2) :
    if Region.wanted o (yielded ops a.tmps) = true then Oper.wp Try.prog o a w K Q else E := by
  obtain ⟨i0, hi0, hz0, hz1, hz2⟩ := info_parts info_int
  subst hzm hk
  have hl := i64l_length zs
  refine step_append_room hgd s y 33 ho 3 i0 1 Try.underlying33 hi0 hz1 b 0 i cap hs A zs.length c (i64l zs) hx (by rw [hl, Nat.mul_one]) hnews (i64l_one _) hroom (fun j hj => ⟨?_, hb.frozen _⟩) ?_
  · rw [hb.cell, List.getElem?_toArray, List.getElem?_eq_getElem (by omega)]
    rfl
  · refine hK _ ?_ (only_setCells _ _ _)
    have := blk_setCells (i64l zs) i w cur hb (by omega)
    rw [hl] at this
    rw [Nat.zero_add, Nat.mul_one]
    exact this



end Go.Proofs.Ytdnnilpifnigiaa