/-
  The document's cache of names (parapetref19): find, drop.
-/
import Derived.Test.YtjpojoflbjhjjaaNcXRow
import Derived.Test.YtjpojoflbjhjjaaNmEq
import Derived.StillTailTactics
import Derived.RegionTactic
namespace Go.Proofs.Ytjpojoflbjhjjaa
open Go.ChangeShapes Go.WideShapes Go.ChangeAt Go.RowKit Go.Maps
set_option linter.unusedVariables false
set_option linter.unusedSimpArgs false
theorem step_append_any {ops : Array Oper} {o : Oper} {a : Act} {w : World} {K : Act → World → Prop} {Q : Exit → Act → World → Prop} {E : Prop} (hgd : o.guard = none) (s x : Operand)
    (ho : o.op = .call { callee := .builtin .append, args := #[s, x], argTypes := #[38, 38] }) (v : Value) (ns : List Int) (hs : a.eval s = v) (hr : IRow w v ns)
    (A : Option Addr) (m c : Nat) (hx : a.eval x = .slice A m c) (hA : A = none → m = 0 ∧ c = 0) (zs : List Int) (hz : zs.length = m) (hnews : ∀ ad, A = some ad → ∀ j u, (i64l zs)[j]? = some u → w.cell? (ad.add j) = some u) (hbig : ns.length + m < 4000000000000)
    (hK : ∀ v' w2, IRow w2 v' (ns ++ zs) → Only v.ownBlock.toList w w2 → (∀ k, v'.ownBlock = some k → v.ownBlock = some k ∨ w.heap.size ≤ k) → K (a.put o.dst v') w2) :
    if Region.wanted o (yielded ops a.tmps) = true then Oper.wp Try.prog o a w K Q else E := by
  have hw : Region.wanted o (yielded ops a.tmps) = true := by simp [Region.wanted, hgd]
  rw [if_pos hw]
  exact wp_append_any s x ho v ns hs hr A m c hx hA zs hz hnews hbig hK
theorem step_append_one {ops : Array Oper} {o : Oper} {a : Act} {w : World} {K : Act → World → Prop} {Q : Exit → Act → World → Prop} {E : Prop} (hgd : o.guard = none) (s x : Operand)
    (ho : o.op = .call { callee := .builtin .append, args := #[s, x], argTypes := #[38, 38] }) (v : Value) (ns : List Int) (hs : a.eval s = v) (hr : IRow w v ns)
    (q : Nat) (z : Int) (hx : a.eval x = .slice (some ⟨q, 0, none⟩) 1 1) (hb : Blk w q 3 #[.int .i64 z]) (hbig : ns.length + 1 < 4000000000000)
    (hK : ∀ v' w2, IRow w2 v' (ns ++ [z]) → Only v.ownBlock.toList w w2 → (∀ k, v'.ownBlock = some k → v.ownBlock = some k ∨ w.heap.size ≤ k) → K (a.put o.dst v') w2) :
    if Region.wanted o (yielded ops a.tmps) = true then Oper.wp Try.prog o a w K Q else E :=
  step_append_any hgd s x ho v ns hs hr (some ⟨q, 0, none⟩) 1 1 hx (by simp) [z] rfl (fun ad ha j u hu => by
    injection ha with ha
    subst ha
    have hj := (List.getElem?_eq_some_iff.1 hu).1
    simp [i64l] at hj
    subst hj
    rw [add_at, hb.cell]
    exact hu) hbig hK
theorem step_append_kepts {ops : Array Oper} {o : Oper} {a : Act} {w : World} {v x : Value} {ss zs : List KE} {K : Act → World → Prop} {Q : Exit → Act → World → Prop} {E : Prop} (hgd : o.guard = none) (s y : Operand)
    (ho : o.op = .call { callee := .builtin .append, args := #[s, y], argTypes := #[37, 37] }) (hs : a.eval s = v) (hr : XkR w v ss)
    (hx : a.eval y = x) (hz : KeptsAt w x zs) (hbig : ss.length + zs.length < 1000000)
    (hK : ∀ v' w2, XkR w2 v' (ss ++ zs) → Only v.ownBlock.toList w w2 → (∀ k, v'.ownBlock = some k → v.ownBlock = some k ∨ w.heap.size ≤ k) → (∃ A c, v' = .slice A (ss ++ zs).length c) → K (a.put o.dst v') w2) :
    if Region.wanted o (yielded ops a.tmps) = true then Oper.wp Try.prog o a w K Q else E := by
  have hw : Region.wanted o (yielded ops a.tmps) = true := by simp [Region.wanted, hgd]
  rw [if_pos hw]
  exact wp_append_kepts s y ho hs hr hx hz hbig hK
structure XIs (w : World) (x : Nat) (v u : Value) (room made : Int) (L : List KE) (Gn : List Int) : Prop where
  blk : Blk w x 40 #[.int .i64 room, v, .int .i64 made, u]
  rl : XkR w v L
  rg : IRow w u Gn
/-- Where a name stands. -/
def atI (L : List KE) (k : NM) : Int := match L.findIdx? (fun e => decide (e.key = k)) with
  | none => -1
  | some i => (i : Nat)
theorem atI_no {L : List KE} {k : NM} (h : ∀ (j : Nat) (e : KE), L[j]? = some e → e.key ≠ k) : atI L k = -1 := by
  unfold atI
  have : L.findIdx? (fun e => decide (e.key = k)) = none := List.findIdx?_eq_none_iff.2 (fun x hx => by
    obtain ⟨j, hj, e⟩ := List.getElem_of_mem hx
    simpa using h j x (by rw [List.getElem?_eq_getElem hj, e]))
  rw [this]
theorem atI_yes {L : List KE} {k : NM} {i : Nat} {e : KE} (hi : L[i]? = some e) (he : e.key = k) (h : ∀ (j : Nat) (e : KE), j < i → L[j]? = some e → e.key ≠ k) : atI L k = (i : Nat) := by
  unfold atI
  obtain ⟨hil, e1⟩ := List.getElem?_eq_some_iff.1 hi
  have : L.findIdx? (fun e => decide (e.key = k)) = some i := List.findIdx?_eq_some_iff_getElem.2 ⟨hil, by simp [e1, he], fun j hj => by simpa using h j _ hj (List.getElem?_eq_getElem (by omega))⟩
  rw [this]
section
variable {w w' w1 : World} {x : Nat} {v u : Value} {room made : Int} {L : List KE} {Gn : List Int} {S : List Nat} {k : NM}
theorem XIs.c1 (h : XIs w x v u room made L Gn) : w.cell? ⟨x, 1, none⟩ = some v := h.blk.cell 1
theorem XIs.c3 (h : XIs w x v u room made L Gn) : w.cell? ⟨x, 3, none⟩ = some u := h.blk.cell 3
theorem XIs.xv (h : XIs w x v u room made L Gn) : ∀ q, v.ownBlock = some q → q ≠ x := h.rl.apart h.blk (by decide)
theorem XIs.xu (h : XIs w x v u room made L Gn) : ∀ q, u.ownBlock = some q → q ≠ x := KRow.apart h.rg h.blk (by decide)
theorem XIs.vu (h : XIs w x v u room made L Gn) : ∀ q, v.ownBlock = some q → ∀ r, u.ownBlock = some r → q ≠ r := by
  rintro q hq r hr rfl
  obtain ⟨h1, h2⟩ := h.rl.at_ hq
  rcases h.rg.2 with ⟨e, _⟩ | ⟨b, cap, cur, e, hB, hg, _⟩
  · rw [e] at hr; simp [Value.ownBlock] at hr
  · rw [e] at hr
    simp only [Value.ownBlock, Option.some.injEq] at hr
    subst hr
    exact absurd (h2 _ _ hg) (by decide)
theorem XIs.only (h : XIs w x v u room made L Gn) (ho : Only S w w') (h1 : x ∉ S) (h2 : ∀ q, v.ownBlock = some q → q ∉ S) (h3 : ∀ q, u.ownBlock = some q → q ∉ S) : XIs w' x v u room made L Gn :=
  ⟨h.blk.only ho h1, h.rl.only ho h2, KRow.only h.rg ho h3⟩
theorem XIs.quiet (h : XIs w x v u room made L Gn) (ho : Only [] w w') : XIs w' x v u room made L Gn := h.only ho (by simp) (by simp) (by simp)
set_option maxRecDepth 100000 in
set_option maxHeartbeats 1000000 in
theorem xfind_is (h : XIs w x v u room made L Gn) (hf : L.length ≤ 4096) (k : NM) : Calls Try.prog 34 #[.pointer (some ⟨x, 0, none⟩), kV k] w fun e w' => e = .returned (.int .i64 (atI L k)) ∧ Only [] w w' := by
  have h1 := h.rl
  obtain ⟨A, cap, ev, hA⟩ := h.rl.form
  subst ev
  have HX := hide (fun (W : World) (ho : Only [] w W) => (h.quiet ho).c1)
  have HCL := hide (fun (W : World) (ho : Only [] w W) (j : Nat) (e : KE) (hx : L[j]? = some e) => (show ∃ b, A = some ⟨b, 0, none⟩ ∧ W.cell? ⟨b, j * 4, none⟩ = some (.int .i64 e.key.dir) ∧ W.cell? ⟨b, j * 4 + 1, none⟩ = some (.string e.key.name) from by
    obtain ⟨b, rfl, hb⟩ := hA (by have := (List.getElem?_eq_some_iff.1 hx).1; omega)
    have := h.rl.cell rfl rfl hx
    exact ⟨b, rfl, (ho.cell hb (by simp)).trans this.1, (ho.cell hb (by simp)).trans this.2.1⟩))
  have HBX := hide (Blk.new w 42 #[.int .i64 k.dir, .string k.name])
  have hoa : Only [] w (w.alloc (.cells #[.int .i64 k.dir, .string k.name] 42)) := (Only.refl _ _).alloc _
  have HOA := hide hoa
  clear h h1 hA hoa
  unfold kV
  go_enter Try.func34, Try.ntmps34
  go_wp2_with fail
  generalize w.alloc (.cells #[.int .i64 k.dir, .string k.name] 42) = W1 at *
  generalize hq : w.heap.size = q at *
  have HQ := hide hq
  clear hq
  go_loopw [5] (fun iv wr => ∃ j : Nat, j ≤ L.length ∧ iv = .int .i64 j ∧ Only [] W1 wr ∧ ∀ i e, i < j → L[i]? = some e → e.key ≠ k) (fun iv _ => L.length - (intOf iv).toNat)
  case atStart => exact ⟨0, Nat.zero_le _, rfl, Only.refl _ _, fun i e hi => absurd hi (by omega)⟩
  case round =>
    obtain ⟨j, hj, rfl, ho, hno⟩ := hrel
    have HO := hide ho
    have HNO := hide hno
    have c1 := HX.out wr (HOA.out.trans ho)
    clear hno
    by_cases hlt : j < L.length
    · have hjI : (j : Int) < L.length := by omega
      obtain ⟨e, he⟩ : ∃ e, L[j]? = some e := ⟨_, List.getElem?_eq_getElem hlt⟩
      obtain ⟨b, rfl, e0, e1⟩ := HCL.out wr (HOA.out.trans ho) j e he
      have b0 := ((HBX.out.only ho (by simp)).cell 0).trans (b := some (Value.int .i64 k.dir)) rfl
      have b1 := ((HBX.out.only ho (by simp)).cell 1).trans (b := some (Value.string k.name)) rfl
      have HJ := hide he
      clear ho he
      by_cases hk : e.key = k
      · have heq := fun W => name_eql (a := e.key) (b := k) (r := true) (by simp [hk]) W
        have HK := hide hk
        clear hk
        go_wp2_with fail
        go_quiet (fail)
        go_wp2
        go_ret
        exact ⟨by rw [atI_yes HJ.out HK.out HNO.out]; rfl, HOA.out.trans (HO.out.drewN _)⟩
      · have heq := fun W => name_eql (a := e.key) (b := k) (r := false) (by simp [hk]) W
        have HK := hide hk
        clear hk
        go_wp2_with fail
        go_quiet (fail)
        go_wp2
        go_roundw
        case rel =>
          refine ⟨j + 1, by omega, by go_num, HO.out.drewN _, fun i z hi hz => ?_⟩
          rcases Nat.lt_or_ge i j with q | q
          · exact HNO.out i z q hz
          · have : i = j := by omega
            subst this
            rw [HJ.out] at hz
            injection hz with hz
            subst hz
            exact HK.out
        case measure => simp [intOf]; omega
    · obtain rfl : j = L.length := by omega
      clear ho
      go_wp2
      go_ret
      refine ⟨?_, HOA.out.trans HO.out⟩
      rw [atI_no (fun i e hi => HNO.out i e (List.getElem?_eq_some_iff.1 hi).1 hi)]
      rfl
end
end Go.Proofs.Ytjpojoflbjhjjaa
