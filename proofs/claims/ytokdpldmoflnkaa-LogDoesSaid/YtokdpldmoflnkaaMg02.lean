/-
  Rows of integers of one's own that grow by append: 'KRow k e w B v ns': v is a slice of the numbers ns (kind k, element type e) whose block, if it has one, lies at B or beyond and is nobody else's.
-/
import Derived.Test.YtokdpldmoflnkaaMg01
import Derived.Deep.RegionLaw
import Derived.Deep.AppendLies
import Derived.Laws.AppendOwnNone
namespace Go.Proofs.Ytokdpldmoflnkaa
open Go.ChangeShapes Go.WideShapes Go.ChangeAt Go.RowKit
set_option linter.unusedVariables false

def KRow (k : IntKind) (e : TypeId) (w : World) (B : Nat) (v : Value) (ns : List Int) : Prop := w.ownsRow B e 1 v ns.length (ns.map (Value.int k))
theorem info_int : (Try.prog.info? 3).map (fun i => (i.zero, i.size, i.bytes)) = some (some (.int .i64 0), 1, 8) := by kernel_rfl

theorem ownsRow_only' {w w' : World} {base e size n : Nat} {v : Value} {xs : List Value} {S : List Nat} (h : w.ownsRow base e size v n xs) (ho : Only S w w') (hs : ∀ k, v.ownBlock = some k → k ∉ S) : w'.ownsRow base e size v n xs := by
  obtain ⟨hl, h⟩ := h
  refine ⟨hl, ?_⟩
  rcases h with hn | ⟨k, cap, cur, rfl, hb, hg, rest⟩
  · exact .inl hn
  · exact .inr ⟨k, cap, cur, rfl, hb, Blk.only hg ho (hs k rfl), rest⟩

theorem only_grown' {w w' : World} {row : Option Nat} (h : w.grownBy w' row) : Only row.toList w w' := Only.of_grown h (fun k hk _ => by rw [hk]; simp)

section
variable {k : IntKind} {e : TypeId} {w w' : World} {B : Nat} {v : Value} {ns : List Int} {S : List Nat}
theorem KRow.only (h : KRow k e w B v ns) (ho : Only S w w') (hs : ∀ q, v.ownBlock = some q → q ∉ S) : KRow k e w' B v ns := ownsRow_only' h ho hs
theorem KRow.nil (k : IntKind) (e : TypeId) (w : World) (B : Nat) : KRow k e w B (.slice none 0 0) [] := ⟨by simp, .inl ⟨rfl, by simp⟩⟩
theorem KRow.form (h : KRow k e w B v ns) : ∃ A cap, v = .slice A ns.length cap ∧ (0 < ns.length → ∃ b, A = some ⟨b, 0, none⟩ ∧ B ≤ b ∧ b < w.heap.size ∧ ∀ i, i < ns.length → w.cell? ⟨b, i, none⟩ = some (.int k (gb ns i))) := by
  rcases h.2 with ⟨e, h0⟩ | ⟨b, cap, cur, e, hB, hg, hn, hm, hs, ht⟩
  · have h1 : ns.length = 0 := by simpa using h0
    exact ⟨none, 0, by rw [e, h1], fun hp => absurd hp (by omega)⟩
  · refine ⟨some ⟨b, 0, none⟩, cap, e, fun _ => ⟨b, rfl, hB, Blk.lt hg, fun i hi => ?_⟩⟩
    rw [Blk.cell hg]
    have : cur[i]? = (ns.map (Value.int k))[i]? := by
      rw [← ht, List.getElem?_take]
      simp [hi]
    rw [this]
    simp [gb, List.getD, List.getElem?_eq_getElem hi]
theorem KRow.at_ (h : KRow k e w B v ns) {q : Nat} (hq : v.ownBlock = some q) : B ≤ q ∧ q < w.heap.size ∧ ∀ t cs, Blk w q t cs → t = e := by
  rcases h.2 with ⟨e', h0⟩ | ⟨b, cap, cur, e', hB, hg, hn, hm, hs, ht⟩
  · rw [e'] at hq; simp [Value.ownBlock] at hq
  · rw [e'] at hq
    simp only [Value.ownBlock, Option.some.injEq] at hq
    subst hq
    refine ⟨hB, Blk.lt hg, fun t cs hb => ?_⟩
    unfold Blk at hb
    rw [hg] at hb
    injection hb with hb
    injection hb with _ hb
    exact hb.symm
/-- A block of another element type is another block. -/
theorem KRow.apart (h : KRow k e w B v ns) {q : Nat} {t : TypeId} {cs : Array Value} (hb : Blk w q t cs) (ht : t ≠ e) : ∀ j, v.ownBlock = some j → j ≠ q := by
  rintro j hj rfl
  exact ht ((h.at_ hj).2.2 _ _ hb)
theorem KRow.grew {w0 : World} (h : KRow k e w B v ns) (hg : w.grownBy w' v.ownBlock) (ho : Only S w0 w) (hB : w0.heap.size ≤ B) : Only S w0 w' :=
  ho.trans' (only_grown' hg) (fun q hq hm => by
    have hm' : v.ownBlock = some q := by simpa using hm
    have := (h.at_ hm').1
    omega)
/-- A literal of one element. -/
theorem KRow.one {q : Nat} {x : Int} (hb : Blk w q e #[.int k x]) (hB : B ≤ q) : KRow k e w B (.slice (some ⟨q, 0, none⟩) 1 1) [x] :=
  ⟨by simp, .inr ⟨q, 1, #[.int k x], rfl, hB, hb, by simp, by unfold maxLen; omega, rfl, rfl⟩⟩

theorem wpList_append_k {ops : Array Oper} {rest : List Oper} {o : Oper} {a : Act} {Q : Exit → Act → World → Prop} {T : TypeId} {bytes : Nat} (hT : Try.prog.underlying T = some (.slice e))
    (hinfo : (Try.prog.info? e).map (fun i => (i.zero, i.size, i.bytes)) = some (some (.int k 0), 1, bytes)) (hb8 : bytes ≤ 8) (hgd : o.guard = none) (s x : Operand)
    (ho : o.op = .call { callee := .builtin .append, args := #[s, x], argTypes := #[T, T] }) (w : World) (hs : a.eval s = v) (hrow : KRow k e w B v ns)
    (q : Nat) (z : Int) (hx : a.eval x = .slice (some ⟨q, 0, none⟩) 1 1) (hc : w.cell? ⟨q, 0, none⟩ = some (.int k z)) (hlen : ns.length < 4000000000000) (hB : B ≤ w.heap.size)
    (h : ∀ v' w1, KRow k e w1 B v' (ns ++ [z]) → w.grownBy w1 v.ownBlock → wpList Try.prog ops Q rest (a.put o.dst v') w1) : wpList Try.prog ops Q (o :: rest) a w := by
  obtain ⟨i0, hi, hz0, hz1, hz2⟩ := info_parts hinfo
  refine wpList_append_own w hgd s x T ho B e i0 _ 1 bytes hT hi hz0 hz1 hz2 rfl (by decide) v ns.length (ns.map (Value.int k)) hs hrow ⟨q, 0, none⟩ 1 1 [.int k z] hx rfl ?_ ?_ (by unfold maxLen; omega) ?_ hB ?_
  · intro j u hj
    have h0 : j = 0 := by
      have := (List.getElem?_eq_some_iff.1 hj).1
      simp at this
      exact this
    subst h0
    rw [add_at, hc]
    exact hj
  · intro u hu
    obtain rfl := List.mem_singleton.1 hu
    rfl
  · have : (ns.length + 1) * bytes ≤ 4000000000000 * 8 := Nat.mul_le_mul (by omega) hb8
    omega
  · intro v' w1 hown hgrow _
    refine h v' w1 ?_ hgrow
    unfold KRow
    rw [List.length_append, List.length_singleton, List.map_append]
    exact hown
end
end Go.Proofs.Ytokdpldmoflnkaa
/-
  append of some ints, or none, behind a row (the texts of parapet/frame have the same in FrRow and FrOps).
-/
namespace Go.Proofs.Ytokdpldmoflnkaa
open Go.ChangeShapes Go.WideShapes Go.ChangeAt Go.RowKit
set_option linter.unusedVariables false

abbrev IRow (w : World) (v : Value) (ns : List Int) : Prop := KRow .i64 3 w 0 v ns
def i64l (ns : List Int) : List Value := ns.map (Value.int .i64)
theorem i64l_length (ns : List Int) : (i64l ns).length = ns.length := by simp [i64l]
theorem i64l_one (ns : List Int) : ∀ u ∈ i64l ns, u.oneCell' = true := by
  intro u hu
  obtain ⟨x, _, rfl⟩ := List.mem_map.1 hu
  rfl
theorem wp_append_any {o : Oper} {a : Act} {w : World} {K : Act → World → Prop} {Q : Exit → Act → World → Prop} (s x : Operand)
    (ho : o.op = .call { callee := .builtin .append, args := #[s, x], argTypes := #[66, 66] }) (v : Value) (ns : List Int) (hs : a.eval s = v) (hr : IRow w v ns)
    (A : Option Addr) (m c : Nat) (hx : a.eval x = .slice A m c) (hA : A = none → m = 0 ∧ c = 0) (zs : List Int) (hz : zs.length = m) (hnews : ∀ ad, A = some ad → ∀ j u, (i64l zs)[j]? = some u → w.cell? (ad.add j) = some u) (hbig : ns.length + m < 4000000000000)
    (hK : ∀ v' w2, IRow w2 v' (ns ++ zs) → Only v.ownBlock.toList w w2 → (∀ k, v'.ownBlock = some k → v.ownBlock = some k ∨ w.heap.size ≤ k) → K (a.put o.dst v') w2) : Oper.wp Try.prog o a w K Q := by
  obtain ⟨i0, hi0, hz0, hz1, hz2⟩ := info_parts info_int
  rcases A with _ | ad
  · obtain ⟨rfl, rfl⟩ := hA rfl
    have hzs : zs = [] := List.eq_nil_of_length_eq_zero hz
    subst hzs
    have hrun := run_append_owned_none (P := Try.prog) (w := w) 0 66 o.type 3 i0 1 Try.underlying66 hi0 v ns.length (i64l ns) hr
    unfold Oper.wp
    simp [execOp, ho, resolve, invoke, builtin, hs, hx, hrun, Result.andThen]
    exact hK v w (by simpa using hr) (Only.refl _ _) (fun k hk => .inl hk)
  · obtain ⟨v', w', hrun, h2, h3, _, h5⟩ := run_append_own_at (P := Try.prog) w 0 66 o.type 3 i0 _ 1 8 Try.underlying66 hi0 hz0 hz1 hz2 rfl (by decide) v ns.length (i64l ns) hr ad m c (i64l zs) (by rw [i64l_length, hz, Nat.mul_one]) (hnews ad rfl) (i64l_one _) (by unfold maxLen; omega) (by omega) (Nat.zero_le _)
    unfold Oper.wp
    simp [execOp, ho, resolve, invoke, builtin, hs, hx, hrun, Result.andThen]
    refine hK v' w' ?_ (only_grown' h3) (fun k hk => ?_)
    · unfold IRow KRow
      rw [List.length_append, List.map_append, hz]
      exact h2
    · rcases h5 with h5 | h5
      · exact .inl (h5 ▸ hk)
      · rw [h5] at hk
        injection hk with hk
        exact .inr (Nat.le_of_eq hk)
theorem wpList_append_any {ops : Array Oper} {rest : List Oper} {o : Oper} {a : Act} {w : World} {Q : Exit → Act → World → Prop} (hgd : o.guard = none) (s x : Operand)
    (ho : o.op = .call { callee := .builtin .append, args := #[s, x], argTypes := #[66, 66] }) (v : Value) (ns : List Int) (hs : a.eval s = v) (hr : IRow w v ns)
    (A : Option Addr) (m c : Nat) (hx : a.eval x = .slice A m c) (hA : A = none → m = 0 ∧ c = 0) (zs : List Int) (hz : zs.length = m) (hnews : ∀ ad, A = some ad → ∀ j u, (i64l zs)[j]? = some u → w.cell? (ad.add j) = some u) (hbig : ns.length + m < 4000000000000)
    (hK : ∀ v' w2, IRow w2 v' (ns ++ zs) → Only v.ownBlock.toList w w2 → (∀ k, v'.ownBlock = some k → v.ownBlock = some k ∨ w.heap.size ≤ k) → wpList Try.prog ops Q rest (a.put o.dst v') w2) : wpList Try.prog ops Q (o :: rest) a w :=
  wpList_plain hgd fun _ hK' => wp_append_any s x ho v ns hs hr A m c hx hA zs hz hnews hbig fun v' w2 h1 h2 h3 => hK' _ _ (hK v' w2 h1 h2 h3)
theorem irow_empty {w : World} {H : Nat} (hb : Blk w H 3 #[]) : IRow w (.slice (some ⟨H, 0, none⟩) 0 0) [] :=
  ⟨by simp, .inr ⟨H, 0, #[], rfl, Nat.zero_le _, hb, Nat.le_refl _, Nat.zero_le _, rfl, by simp⟩⟩
theorem irow_base {w : World} {v : Value} {ns : List Int} {B : Nat} (h : IRow w v ns) (hB : ∀ q, v.ownBlock = some q → B ≤ q) : KRow .i64 3 w B v ns := by
  obtain ⟨h1, ⟨e, h0⟩ | ⟨g, cap, cur, rfl, hb, rest⟩⟩ := h
  · exact ⟨h1, .inl ⟨e, h0⟩⟩
  · exact ⟨h1, .inr ⟨g, cap, cur, rfl, hB g rfl, rest⟩⟩
end Go.Proofs.Ytokdpldmoflnkaa
/-
  Rows of ints of one's own: how their blocks look, slices.Delete of one of them (the texts of parapet/frame and parapet/resv have the same for their rows).
-/
namespace Go.Proofs.Ytokdpldmoflnkaa
open Go.ChangeShapes Go.WideShapes Go.ChangeAt Go.RowKit
set_option linter.unusedVariables false

theorem IRow.blk {w : World} {v : Value} {ns : List Int} (h : IRow w v ns) (hn : 0 < ns.length) :
    ∃ b cap cur, v = .slice (some ⟨b, 0, none⟩) ns.length cap ∧ Blk w b 3 (i64l ns ++ cur).toArray ∧ ns.length + cur.length = cap ∧ cap ≤ maxLen := by
  rcases h.2 with ⟨_, h0⟩ | ⟨b, cap, cur, e, hB, hg, hnc, hm, hs, ht⟩
  · omega
  · rw [Nat.mul_one] at ht hs
    refine ⟨b, cap, cur.toList.drop ns.length, e, ?_, ?_, hm⟩
    · have : i64l ns ++ cur.toList.drop ns.length = cur.toList := by
        rw [show i64l ns = cur.toList.take ns.length from ht.symm, List.take_append_drop]
      rw [this]
      exact hg
    · simp [hs]; omega
theorem IRow.of_blk {w : World} {ns : List Int} {b cap : Nat} {cur : List Value} (hb : Blk w b 3 (i64l ns ++ cur).toArray) (hl : ns.length + cur.length = cap) (hm : cap ≤ maxLen) : IRow w (.slice (some ⟨b, 0, none⟩) ns.length cap) ns := by
  refine ⟨by simp, .inr ⟨b, cap, _, rfl, Nat.zero_le _, hb, by omega, hm, by simp [i64l]; omega, ?_⟩⟩
  simp [i64l]
theorem i64l_append (a b : List Int) : i64l (a ++ b) = i64l a ++ i64l b := by simp [i64l]
theorem i64l_get (xs : List Int) (r : List Value) (i : Nat) (h : i < xs.length) : (i64l xs ++ r).toArray[i]? = some (.int .i64 (gb xs i)) := by
  have h' : i < (i64l xs).length := by simpa [i64l] using h
  rw [List.getElem?_toArray, List.getElem?_append_left h']
  simp [i64l, gb, List.getElem?_eq_getElem h, List.getD]
theorem IRow.form2 {w : World} {v : Value} {ns : List Int} (h : IRow w v ns) : ∃ A c, v = .slice A ns.length c ∧ (A = none → ns.length = 0 ∧ c = 0) ∧ ns.length ≤ c ∧ c ≤ maxLen ∧ (∀ ad, A = some ad → ∃ b, ad = ⟨b, 0, none⟩ ∧ b < w.heap.size ∧ ∀ j u, (i64l ns)[j]? = some u → w.cell? ⟨b, j, none⟩ = some u) := by
  rcases h.2 with ⟨e, h0⟩ | ⟨b, cap, cur, e, _, hg, h1, h2, hs, ht⟩
  · exact ⟨none, 0, by rw [e, h0], fun _ => ⟨h0, rfl⟩, by omega, Nat.zero_le _, fun ad e => by cases e⟩
  · refine ⟨_, cap, e, fun h => (by cases h), h1, h2, fun ad e => ?_⟩
    injection e with e
    refine ⟨b, e.symm, Blk.lt hg, fun j u hu => ?_⟩
    have hj : j < ns.length := by
      have := (List.getElem?_eq_some_iff.1 hu).1
      rwa [i64l_length] at this
    rw [Blk.cell hg, ← Array.getElem?_toList, ← hu, show i64l ns = cur.toList.take (ns.length * 1) from ht.symm, List.getElem?_take, if_pos (by omega)]

theorem blk_setCells {b : Nat} {t : TypeId} : ∀ (vs : List Value) (o : Nat) (w : World) (cs : List Value), Blk w b t cs.toArray → o + vs.length ≤ cs.length → Blk (w.setCells b o vs) b t (cs.take o ++ vs ++ cs.drop (o + vs.length)).toArray
  | [], o, w, cs, h, _ => by simpa [World.setCells] using h
  | v :: vs, o, w, cs, h, hl => by
    have h1 := h.set_ o v
    rw [List.setIfInBounds_toArray] at h1
    have hlt : o < cs.length := by simp at hl; omega
    have h2 := blk_setCells vs (o + 1) _ _ h1 (by simp at hl ⊢; omega)
    have e : (cs.set o v).take (o + 1) ++ vs ++ (cs.set o v).drop (o + 1 + vs.length) = cs.take o ++ (v :: vs) ++ cs.drop (o + (v :: vs).length) := by
      have e1 : (cs.set o v).take (o + 1) = cs.take o ++ [v] := by
        rw [List.take_add_one, List.take_set_of_le (Nat.le_refl _)]
        simp [hlt]
      have e2 : (cs.set o v).drop (o + 1 + vs.length) = cs.drop (o + (v :: vs).length) := by
        rw [List.drop_set_of_lt (by omega)]
        congr 1
        simp; omega
      rw [e1, e2]
      simp
    rw [e] at h2
    exact h2
theorem only_setCells {b : Nat} : ∀ (vs : List Value) (o : Nat) (w : World), Only [b] w (w.setCells b o vs)
  | [], o, w => Only.refl _ _
  | v :: vs, o, w => ((Only.refl [b] w).setCell (p := ⟨b, o, none⟩) v (by simp)).trans (only_setCells vs (o + 1) _)
theorem int_zero {P : Program} {t : TypeId} (h : (P.info? t).map (fun i => (i.zero, i.size, i.bytes)) = some (some (.int .i64 0), 1, 8)) : ∀ w, (zeroValue t).run P w = .ok (.int .i64 0) w := by
  intro w
  obtain ⟨i, hi, hz, _, _⟩ := info_parts h
  simp [zeroValue, typeInfo, hi, hz]
theorem run_clear_int {w : World} {b : Nat} {cur : List Value} (hb : Blk w b 3 cur.toArray) (i n c : Nat) (hn : 0 < n) (hi : i + n ≤ cur.length) :
    ∃ w1, (∀ ty, (Builtin.clear_ #[66] ty #[.slice (some ⟨b, i, none⟩) n c]).run Try.prog w = .ok (.tuple #[]) w1) ∧ Only [b] w w1 ∧
      Blk w1 b 3 (cur.take i ++ List.replicate n (Value.int .i64 0) ++ cur.drop (i + n)).toArray := by
  refine ⟨w.setCells b i (List.replicate n (Value.int .i64 0)), fun ty => ?_, only_setCells _ _ _, ?_⟩
  · refine Lib.run_clear_slice w 66 3 ty (.int .i64 0) Try.underlying66 (int_zero info_int) rfl rfl b i n c hn (fun j hj => ?_) (fun j hj => hb.frozen _)
    rw [hb.cell, List.getElem?_toArray, List.getElem?_eq_getElem (by omega)]
    rfl
  · have := blk_setCells (List.replicate n (Value.int .i64 0)) i w cur hb (by simpa using hi)
    simpa using this

/-- append of what stands behind a place onto what stands ahead of it, as a step of a region that draws. -/
theorem step_delI {ops : Array Oper} {o : Oper} {a : Act} {w : World} {K : Act → World → Prop} {Q : Exit → Act → World → Prop} {E : Prop} (hgd : o.guard = none) (s y : Operand)
    (ho : o.op = .call { callee := .builtin .append, args := #[s, y], argTypes := #[66, 66] }) (b i cap m c k : Nat) (hk : i + m = k) (hs : a.eval s = .slice (some ⟨b, 0, none⟩) i cap) (A : Addr) (hx : a.eval y = .slice (some A) m c)
    (cur : List Value) (hb : Blk w b 3 cur.toArray) (zs : List Int) (hzm : zs.length = m) (hnews : ∀ j u, (i64l zs)[j]? = some u → w.cell? (A.add j) = some u) (hroom : i + m ≤ cap) (hcap : cap = cur.length)
    (hK : ∀ w2, Blk w2 b 3 (cur.take i ++ i64l zs ++ cur.drop (i + m)).toArray → Only [b] w w2 → K (a.put o.dst (.slice (some ⟨b, 0, none⟩) k cap)) w2) :
    if Region.wanted o (yielded ops a.tmps) = true then Oper.wp Try.prog o a w K Q else E := by
  obtain ⟨i0, hi0, hz0, hz1, hz2⟩ := info_parts info_int
  subst hzm hk
  have hl := i64l_length zs
  refine step_append_room hgd s y 66 ho 3 i0 1 Try.underlying66 hi0 hz1 b 0 i cap hs A zs.length c (i64l zs) hx (by rw [hl, Nat.mul_one]) hnews (i64l_one _) hroom (fun j hj => ⟨?_, hb.frozen _⟩) ?_
  · rw [hb.cell, List.getElem?_toArray, List.getElem?_eq_getElem (by omega)]
    rfl
  · refine hK _ ?_ (only_setCells _ _ _)
    have := blk_setCells (i64l zs) i w cur hb (by omega)
    rw [hl] at this
    rw [Nat.zero_add, Nat.mul_one]
    exact this



/-- A new row of the same numbers. -/
theorem cloneI_is {w : World} {v : Value} {ns : List Int} (h : IRow w v ns) (hf : ns.length ≤ 1000000) : Calls Try.prog 61 #[v] w fun e w' => ∃ v', e = .returned v' ∧ IRow w' v' ns ∧ (∀ q, v'.ownBlock = some q → w.heap.size ≤ q) ∧ Only [] w w' := by
  have q22 : ∀ (w : World) (a : Option Addr) (n c n' c' : Nat), (binOp .eql 66 (.slice a n c) (.slice none n' c')).run Try.prog w = .ok (.bool a.isNone) w := fun w a n c n' c' => Lib.run_eql_slice_nil w _ _ a n c n' c' Try.underlying66
  obtain ⟨A, cap, rfl, hA, _, _, hc⟩ := h.form2
  rcases A with _ | ad
  · obtain ⟨h0, rfl⟩ := hA rfl
    obtain rfl : ns = [] := List.eq_nil_of_length_eq_zero h0
    clear hA hc
    go_enter Try.func61, Try.ntmps61
    go_wp2
    go_ret
    exact ⟨_, rfl, KRow.nil _ _ _ _, by simp [Value.ownBlock], Only.refl _ _⟩
  · obtain ⟨b, rfl, hbl, hcell⟩ := hc ad rfl
    have HS := hide (fun (o : Obj) (j : Nat) (u : Value) (hu : (i64l ns)[j]? = some u) => (((Only.refl [] w).alloc o).cell hbl (by simp)).trans (hcell j u hu))
    have HE := hide (irow_empty (Blk.new w 3 #[]))
    have HF := hide hf
    clear hA h hc hcell
    go_enter Try.func61, Try.ntmps61
    go_wp2_with (at_builtin; refine wpList_append_any rfl _ _ rfl (.slice (some ⟨w.heap.size, 0, none⟩) 0 0) [] rfl HE.out (some ⟨b, 0, none⟩) ns.length cap rfl (fun e => by cases e) ns rfl (fun ad e j u hu => by injection e with e; rw [← e, add_at, Nat.zero_add]; exact HS.out _ j u hu) (by have := HF.out; simp; omega) ?_; rintro v' w2 hr ho hk; obtain ⟨A', c', rfl, _⟩ := hr.form; have HR := hide hr; have HO := hide ho; have HK := hide hk; clear hr ho hk)
    go_ret
    refine ⟨_, rfl, by simpa using HR.out, fun q hq => ?_, (((Only.refl [] w).alloc _).trans' HO.out (fun k hk hm => ?_))⟩
    · rcases HK.out q hq with h | h
      · simp [Value.ownBlock] at h; omega
      · simp at h; omega
    · simp [Value.ownBlock] at hm; omega
end Go.Proofs.Ytokdpldmoflnkaa
