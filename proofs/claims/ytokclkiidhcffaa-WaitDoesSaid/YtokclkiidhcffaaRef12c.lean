/-
  The document's sleepers (parapetref12): All.
-/
import Derived.Test.YtokclkiidhcffaaRef12b
namespace Go.Proofs.Ytokclkiidhcffaa
open Go.ChangeShapes Go.WideShapes Go.ChangeAt Go.RowKit Go.Maps
set_option linter.unusedVariables false
/-- append of some numbers, or none, behind a row: as a step of a region that draws. -/
theorem step_append_any {ops : Array Oper} {o : Oper} {a : Act} {w : World} {K : Act → World → Prop} {Q : Exit → Act → World → Prop} {E : Prop} (hgd : o.guard = none) (s x : Operand)
    (ho : o.op = .call { callee := .builtin .append, args := #[s, x], argTypes := #[35, 35] }) (v : Value) (ns : List Int) (hs : a.eval s = v) (hr : IRow w v ns)
    (A : Option Addr) (m c : Nat) (hx : a.eval x = .slice A m c) (hA : A = none → m = 0 ∧ c = 0) (zs : List Int) (hz : zs.length = m) (hnews : ∀ ad, A = some ad → ∀ j u, (i64l zs)[j]? = some u → w.cell? (ad.add j) = some u) (hbig : ns.length + m < 4000000000000)
    (hK : ∀ v' w2, IRow w2 v' (ns ++ zs) → Only v.ownBlock.toList w w2 → (∀ k, v'.ownBlock = some k → v.ownBlock = some k ∨ w.heap.size ≤ k) → K (a.put o.dst v') w2) :
    if Region.wanted o (yielded ops a.tmps) = true then Oper.wp Try.prog o a w K Q else E := by
  have hw : Region.wanted o (yielded ops a.tmps) = true := by simp [Region.wanted, hgd]
  rw [if_pos hw]
  obtain ⟨i0, hi0, hz0, hz1, hz2⟩ := info_parts info_int
  rcases A with _ | ad
  · obtain ⟨rfl, rfl⟩ := hA rfl
    have hzs : zs = [] := List.eq_nil_of_length_eq_zero hz
    subst hzs
    have hrun := run_append_owned_none (P := Try.prog) (w := w) 0 35 o.type 3 i0 1 Try.underlying35 hi0 v ns.length (i64l ns) hr
    unfold Oper.wp
    simp [execOp, ho, resolve, invoke, builtin, hs, hx, hrun, Result.andThen]
    exact hK v w (by simpa using hr) (Only.refl _ _) (fun k hk => .inl hk)
  · obtain ⟨v', w', hrun, h2, h3, _, h5⟩ := run_append_own_at (P := Try.prog) w 0 35 o.type 3 i0 _ 1 8 Try.underlying35 hi0 hz0 hz1 hz2 rfl (by decide) v ns.length (i64l ns) hr ad m c (i64l zs) (by rw [i64l_length, hz, Nat.mul_one]) (hnews ad rfl) (i64l_one _) (by unfold maxLen; omega) (by omega) (Nat.zero_le _)
    unfold Oper.wp
    simp [execOp, ho, resolve, invoke, builtin, hs, hx, hrun, Result.andThen]
    refine hK v' w' ?_ (only_grown' h3) (fun k hk => ?_)
    · unfold IRow KRow
      rw [List.length_append, List.map_append, hz]
      exact h2
    · rcases h5 with h5 | h5
      · exact .inl (h5 ▸ hk)
      · rw [h5] at hk
        injection hk with hk
        exact .inr (Nat.le_of_eq hk)

theorem ZsAt.news {w : World} {A : Option Addr} {n c : Nat} {zs : List Int} (h : ZsAt w (.slice A n c) zs) : (A = none → n = 0 ∧ c = 0) ∧ zs.length = n ∧ ∀ ad, A = some ad → ∀ j u, (i64l zs)[j]? = some u → w.cell? (ad.add j) = some u := by
  obtain ⟨A', c', e, h1, h2, h3⟩ := h
  injection e with e1 e2 e3
  subst e1 e2 e3
  refine ⟨h1, rfl, fun ad ha j u hu => ?_⟩
  obtain ⟨b, o, rfl, _, hc⟩ := h3 ad ha
  have : (⟨b, o, none⟩ : Addr).add j = ⟨b, o + j, none⟩ := by
    unfold Addr.add
    by_cases hj : j = 0
    · rw [if_pos hj, hj]; rfl
    · rw [if_neg hj]
  rw [this]
  exact hc j u hu
/-- What a slice shows behind its first k. -/
theorem ZsAt.behind {w : World} {A : Option Addr} {n c : Nat} {zs : List Int} (h : ZsAt w (.slice A n c) zs) {k : Nat} (hk : k ≤ zs.length) : (∃ b o, A = some ⟨b, o, none⟩ ∧ ZsAt w (.slice (some ⟨b, o + k, none⟩) (n - k) (c - k)) (zs.drop k)) ∨ (A = none ∧ zs = [] ∧ k = 0) := by
  obtain ⟨A', c', e, h1, h2, h3⟩ := h
  injection e with e1 e2 e3
  subst e1 e2 e3
  rcases A with _ | ad
  · have := (h1 rfl).1
    exact .inr ⟨rfl, List.eq_nil_of_length_eq_zero this, by omega⟩
  · obtain ⟨b, o, rfl, hb, hc⟩ := h3 ad rfl
    refine .inl ⟨b, o, rfl, _, c - k, by rw [List.length_drop], (fun e => by cases e), by rw [List.length_drop]; omega, fun ad e => ?_⟩
    injection e with e
    refine ⟨b, o + k, e.symm, hb, fun j u hu => ?_⟩
    rw [Nat.add_assoc]
    refine hc (k + j) u ?_
    unfold i64l at hu ⊢
    rw [List.map_drop, List.getElem?_drop] at hu
    exact hu
theorem ZsAt.tail {w : World} {b o n c : Nat} {zs : List Int} (h : ZsAt w (.slice (some ⟨b, o, none⟩) n c) zs) {k : Nat} (hk : k ≤ zs.length) : ∀ ad, some (⟨b, o + k, none⟩ : Addr) = some ad → ∀ j u, (i64l (zs.drop k))[j]? = some u → w.cell? (ad.add j) = some u := by
  rcases h.behind hk with ⟨b', o', e, hz⟩ | ⟨e, _⟩
  · injection e with e
    injection e with e1 e2
    subst e1; subst e2
    exact hz.news.2.2
  · cases e
theorem one_news (w5 : World) (t : Int) (W : World) (hW : Only [] (w5.drew.alloc (.cells #[.int .i64 t] 3)) W) : ∀ ad, some (⟨w5.heap.size, 0, none⟩ : Addr) = some ad → ∀ j u, (i64l [t])[j]? = some u → W.cell? (ad.add j) = some u := fun ad e j u hu => by
  injection e with e
  subst e
  match j with
  | 0 =>
    injection hu with hu
    subst hu
    exact ((Blk.new w5.drew 3 #[.int .i64 t]).only hW (by simp)).cell 0
  | j + 1 => simp [i64l] at hu
/-- A row of ints made behind world w. -/
structure Mine (w W : World) (v : Value) (ns : List Int) : Prop where
  row : IRow W v ns
  own : ∀ q, v.ownBlock = some q → w.heap.size ≤ q
  only : Only [] w W
section
variable {w W W' : World} {v v' : Value} {ns zs : List Int}
theorem Mine.quiet (h : Mine w W v ns) (ho : Only [] W W') : Mine w W' v ns := ⟨h.row.only ho (by simp), h.own, h.only.trans ho⟩
theorem Mine.more (h : Mine w W v ns) (hr : IRow W' v' zs) (ho : Only v.ownBlock.toList W W') (hb : ∀ k, v'.ownBlock = some k → v.ownBlock = some k ∨ W.heap.size ≤ k) : Mine w W' v' zs := by
  refine ⟨hr, fun q hq => ?_, h.only.trans' ho (fun k hk hm => ?_)⟩
  · rcases hb q hq with h1 | h1
    · exact h.own q h1
    · exact Nat.le_trans h.only.size h1
  · have := h.own k (by simpa only [Option.mem_toList] using hm)
    omega
theorem Mine.empty (w : World) (ho : Only [] w W) : Mine w (W.alloc (.cells #[] 3)) (.slice (some ⟨W.heap.size, 0, none⟩) 0 0) [] :=
  ⟨irow_empty (Blk.new W 3 #[]), fun q hq => by simp [Value.ownBlock] at hq; have := ho.size; omega, ho.alloc _⟩
theorem Mine.base {w1 : World} (h : Mine w1 W v ns) (ho : Only [] w w1) : Mine w W v ns := ⟨h.row, fun q hq => Nat.le_trans ho.size (h.own q hq), ho.trans h.only⟩
theorem tw_le (out : List Int) (t : Int) : (out.takeWhile fun x => decide (x < t)).length ≤ out.length := (List.takeWhile_sublist _).length_le
theorem tw_lt : ∀ (out : List Int) (t : Int) {a : Nat} {x : Int}, a < (out.takeWhile fun x => decide (x < t)).length → out[a]? = some x → x < t
  | [], t, a, x, h, _ => by simp at h
  | y :: r, t, a, x, h, hx => by
    by_cases hy : y < t
    · match a with
      | 0 =>
        rw [List.getElem?_cons_zero] at hx
        injection hx with hx
        omega
      | a + 1 =>
        rw [List.takeWhile_cons_of_pos (by simpa using hy)] at h
        rw [List.getElem?_cons_succ] at hx
        exact tw_lt r t (by simpa using h) hx
    · rw [List.takeWhile_cons_of_neg (by simpa using hy)] at h
      simp at h
theorem tw_stop : ∀ (out : List Int) (t : Int) {x : Int}, out[(out.takeWhile fun x => decide (x < t)).length]? = some x → ¬ x < t
  | [], t, x, h => by simp at h
  | y :: r, t, x, h => by
    by_cases hy : y < t
    · rw [List.takeWhile_cons_of_pos (by simpa using hy), List.length_cons, List.getElem?_cons_succ] at h
      exact tw_stop r t h
    · rw [List.takeWhile_cons_of_neg (by simpa using hy), List.length_nil, List.getElem?_cons_zero] at h
      injection h with h
      omega
theorem insR_at (ns : List Int) (t : Int) : ∃ K, K ≤ ns.length ∧ (∀ a x, a < K → ns[a]? = some x → x < t) ∧ (∀ x, ns[K]? = some x → ¬ x < t) ∧ insR ns t = if ns[K]? = some t then ns else ns.take K ++ t :: ns.drop K :=
  ⟨_, tw_le ns t, fun a x h1 h2 => tw_lt ns t h1 h2, fun x h => tw_stop ns t h, rfl⟩
theorem insR_len (out : List Int) (t : Int) : (insR out t).length ≤ out.length + 1 := by
  unfold insR
  split
  · omega
  · rw [List.length_append, List.length_cons, List.length_take, List.length_drop]
    have := tw_le out t
    omega
theorem allR_snoc (R : List SE) (x : SE) : allR (R ++ [x]) = insR (allR R) x.tid := by simp [allR]
theorem allR_len (R : List SE) : (allR R).length ≤ R.length := by
  suffices H : ∀ (R : List SE) (out : List Int), (R.foldl (fun out x => insR out x.tid) out).length ≤ out.length + R.length by
    have := H R []
    simpa [allR] using this
  intro R
  induction R with
  | nil => intro out; simp
  | cons x r ih =>
    intro out
    rw [List.foldl_cons]
    have h1 := ih (insR out x.tid)
    have h2 := insR_len out x.tid
    simp only [List.length_cons]
    omega
end
section
variable {w w' w1 : World} {r : Nat} {R R' : List SE} {F S : List Nat}
set_option maxHeartbeats 1000000 in
set_option maxRecDepth 100000 in
theorem xall_is (h : Rf w r R F) (hn : R.length ≤ 1024) : Calls Try.prog 28 #[.pointer (some ⟨r, 0, none⟩)] w fun e w' => ∃ v', e = .returned v' ∧ IRow w' v' (allR R) ∧ (∀ q, v'.ownBlock = some q → w.heap.size ≤ q) ∧ Only [] w w' := by
  obtain ⟨A, cap, hc, hA⟩ := h.cell
  have HA := hide hA
  have HC := hide hc
  have HN := hide hn
  obtain ⟨c0, _, _⟩ := hc w (Only.refl _ _)
  clear hA hc h hn
  go_enter Try.func28, Try.ntmps28
  go_wp2
  go_loopw [3, 13] (fun ov iv wr => ∃ i : Nat, i ≤ R.length ∧ iv = .int .i64 i ∧ Mine w wr ov (allR (R.take i))) (fun ov iv _ => R.length - (intOf iv).toNat)
  case atStart => exact ⟨0, Nat.zero_le _, rfl, KRow.nil _ _ _ _, by simp [Value.ownBlock], Only.refl _ _⟩
  case round =>
    rename_i ov iv
    obtain ⟨i, hi, rfl, hM⟩ := hrel
    have hlen := allR_len (R.take i)
    rw [List.length_take] at hlen
    by_cases hlt : i < R.length
    · have hltI : (i : Int) < R.length := by omega
      obtain ⟨b, rfl, _⟩ := HA.out (by omega)
      obtain ⟨e0, e1, e2, e3, e4⟩ := (HC.out wr hM.only).2.2.cell rfl rfl (show R[i]? = some R[i] by simp [hlt])
      have HTK := hide (show allR (R.take (i + 1)) = insR (allR (R.take i)) (R[i]).tid by rw [List.take_add_one, show R[i]?.toList = [R[i]] by simp [hlt], allR_snoc])
      have E5 := hide (show wrap64 ((i : Int) + 1) = ((i + 1 : Nat) : Int) by have := HN.out; rw [wrap64]; omega)
      generalize R[i] = x at *
      generalize allR (R.take i) = ns at *
      have hns : ns.length ≤ 1024 := by have := HN.out; omega
      have HNS := hide hns
      have hM2 := hM.quiet ((Only.refl [] wr).alloc (.cells x.cells.toArray 40))
      have HX := hide (fun (W : World) (hW : Only [] (wr.alloc (.cells x.cells.toArray 40)) W) => ((Blk.new wr 40 x.cells.toArray).only hW (by simp)).cell 0)
      obtain ⟨Ao, co, hov, hAn, hco, _, hAs⟩ := hM.row.form2
      have HAN := hide hAn
      have HCO := hide hco
      have HAS := hide hAs
      clear hAn hAs
      have hcoI : (ns.length : Int) ≤ co := by omega
      subst hov
      have HM := hide hM2
      clear hM hM2 hlen hns
      unfold SE.cells at HM HX
      obtain ⟨wr0, hwr0⟩ : ∃ k, wr.heap.size = k := ⟨_, rfl⟩
      have HWR0 := hide hwr0
      rw [hwr0] at HX
      clear hwr0
      go_wp2
      rw [HWR0.out]
      obtain ⟨K, hK, h1, h2, h3⟩ := insR_at ns x.tid
      have HLT := hide h1
      have HST := hide h2
      have HINS := hide h3
      clear h1 h2 h3
      go_loopw [6] (fun av wr2 => ∃ a : Nat, a ≤ K ∧ av = .int .i64 a ∧ Only [] (wr.alloc (.cells #[.int .i64 x.tid, .int .i64 x.on.kind, .int .i64 x.on.a, .int .i64 x.on.b, .int .i64 x.nth] 40)) wr2) (fun av _ => K - (intOf av).toNat)
      case atStart => exact ⟨0, Nat.zero_le _, rfl, Only.refl _ _⟩
      case round =>
        obtain ⟨a, ha, rfl, hw⟩ := hrel
        have hxc := HX.out wr hw
        rw [show (#[.int .i64 x.tid, .int .i64 x.on.kind, .int .i64 x.on.a, .int .i64 x.on.b, .int .i64 x.nth] : Array Value)[0]? = some (.int .i64 x.tid) from rfl] at hxc
        have hMW := HM.out.quiet hw
        by_cases haL : a < ns.length
        · have haI : (a : Int) < ns.length := by omega
          have haD : decide ((a : Int) < ns.length) = true := by simpa using haI
          obtain ⟨b2, o2, hAo, cz⟩ := hMW.row.sees.cell haL
          subst hAo
          by_cases hlt3 : ns[a] < x.tid
          · have haK : a < K := by
              rcases Nat.lt_or_ge a K with h | h
              · exact h
              · exfalso
                have : a = K := by omega
                subst this
                exact HST.out _ (List.getElem?_eq_getElem haL) hlt3
            have hD2 : decide (ns[a] < x.tid) = true := by simpa using hlt3
            have HW := hide hw
            clear hMW hw
            generalize ns[a] = z at *
            go_wp2
            go_region
            go_wp2
            rw [show wrap64 ((a : Int) + 1) = ((a + 1 : Nat) : Int) by have := HNS.out; rw [wrap64]; omega]
            refine ⟨⟨a + 1, haK, rfl, HW.out.drew⟩, ?_⟩
            simp [intOf]
            omega
          · have haK : a = K := by
              rcases Nat.lt_or_ge a K with h | h
              · exact absurd (HLT.out a _ h (List.getElem?_eq_getElem haL)) hlt3
              · omega
            subst haK
            have HW := hide hw
            have HMW := hide hMW
            by_cases heq : ns[a] = x.tid
            · have e7 : insR ns x.tid = ns := by rw [HINS.out, if_pos (by rw [List.getElem?_eq_getElem haL, heq])]
              have E7 := hide e7
              have hD2 : decide (ns[a] < x.tid) = false := by simpa using hlt3
              have hD3 : (ns[a] == x.tid) = true := by simpa using heq
              clear hMW hw e7 heq hlt3
              generalize ns[a] = z at *
              go_wp2
              go_region
              go_wp2
              go_region
              go_wp2
              rw [E5.out]
              refine ⟨⟨i + 1, hlt, rfl, ?_⟩, ?_⟩
              · rw [HTK.out, E7.out]
                exact HMW.out.quiet ((Only.refl [] wr).drew.drew)
              · simp [intOf]
                omega
            · have e7 : insR ns x.tid = ns.take a ++ [x.tid] ++ ns.drop a := by
                rw [HINS.out, if_neg (by rw [List.getElem?_eq_getElem haL]; intro e; injection e with e; exact heq e), List.append_assoc]
                rfl
              have E7 := hide e7
              have hcc : ¬ co = a := by have := HCO.out; omega
              have haco : (a : Int) ≤ co := by omega
              have hD2 : decide (ns[a] < x.tid) = false := by simpa using hlt3
              have hD3 : (ns[a] == x.tid) = false := by simpa using heq
              clear e7 heq hlt3
              generalize ns[a] = z at *
              go_wp2
              go_region
              go_wp2
              go_region
              have HE9 := hide (irow_empty (Blk.new wr.drew.drew 3 #[]))
              have HB9 := hide (show ([] : List Int).length + a < 4000000000000 by have := HNS.out; simp; omega)
              have HL9 := hide (show (ns.take a).length = a by rw [List.length_take]; omega)
              have HN9 := hide (fun (W : World) (hW : Only [] wr W) => (((HMW.out.row.sees.quiet hW).take hK).news).2.2)
              have HA9 := hide ((HMW.out.row.sees.take hK).news).1
              have HTL := hide (show (ns.drop a : List Int).length = ns.length - a from (List.length_drop ..))
              have HNT := hide (fun (W : World) (hW : Only [] wr W) => (show ∀ ad, ((some ⟨b2, o2 + a, none⟩) : Option Addr) = some ad → ∀ j u, (i64l (ns.drop a))[j]? = some u → W.cell? (ad.add j) = some u from (HMW.out.row.sees.quiet hW).tail hK))
              have HXC := hide (fun (W : World) (hW : Only [] wr W) => HX.out W (HW.out.trans hW))
              have HB1 := hide (show (ns.take a).length + 1 < 4000000000000 by rw [HL9.out]; have := HNS.out; omega)
              have HB2 := hide (show (ns.take a ++ [x.tid]).length + (ns.length - a) < 4000000000000 by rw [List.length_append, HL9.out]; have := HNS.out; simp; omega)
              have HP5 := hide (fun (A5 : Option Addr) (c5 : Nat) (w5 : World) (h1 : IRow w5 (.slice A5 a c5) ([] ++ ns.take a)) (h2 : Only (Value.slice (some ⟨wr.heap.size, 0, none⟩) 0 0).ownBlock.toList (wr.drew.drew.alloc (.cells #[] 3)) w5) (h3 : ∀ k, (Value.slice A5 a c5).ownBlock = some k → (Value.slice (some ⟨wr.heap.size, 0, none⟩) 0 0).ownBlock = some k ∨ (wr.drew.drew.alloc (.cells #[] 3)).heap.size ≤ k) => (show Mine wr w5 (.slice A5 a c5) (ns.take a) ∧ (∀ W, Only [] w5 W → W.cell? ⟨wr0, 0, none⟩ = some (.int .i64 x.tid)) ∧ (∀ W, Only [] (w5.drew.alloc (.cells #[.int .i64 x.tid] 3)) W → ∀ ad, some (⟨w5.heap.size, 0, none⟩ : Addr) = some ad → ∀ j u, (i64l [x.tid])[j]? = some u → W.cell? (ad.add j) = some u) from by
                have hm := (Mine.empty wr ((Only.refl [] wr).drew.drew)).more (by simpa using h1) h2 h3
                exact ⟨hm, fun W hW => HXC.out W (hm.only.trans hW), fun W hW => one_news w5 x.tid W hW⟩))
              clear hMW hw
              go_wp2_with (at_builtin; refine wpList_append_any rfl _ _ rfl (.slice (some ⟨wr.heap.size, 0, none⟩) 0 0) [] rfl HE9.out ((some ⟨b2, o2, none⟩)) a co rfl HA9.out (ns.take a) HL9.out (HN9.out _ (by repeat (first | exact Only.refl _ _ | apply Only.drew | apply Only.alloc))) HB9.out ?_; intro v5 w5 h1 h2 h3; obtain ⟨A5, c5, hv5, _⟩ := h1.form2; rw [List.nil_append, HL9.out] at hv5; subst hv5; obtain ⟨q1, q2, q3⟩ := HP5.out A5 c5 w5 h1 h2 h3; have hx5 := q2 _ (Only.refl _ _); have HQ1 := hide q1; have HQ3 := hide q3; clear h1 h2 h3 q1 q2 q3)
              go_region_law (first | (have hg := HC6; refine step_append_any rfl _ _ rfl v6 (ns.take a ++ [x.tid]) (by simp [Act.eval]) HC6.out.row ((some ⟨b2, o2 + a, none⟩)) (ns.length - a) (co - a) (by simp [Act.eval]) (by intro e; cases e <;> exact ⟨rfl, rfl⟩) (ns.drop a) HTL.out (HNT.out _ (by repeat (first | exact HC6.out.only | apply Only.drew | apply Only.alloc))) HB2.out ?_; intro v7 w7 h1 h2 h3) | (refine step_append_any rfl _ _ rfl (.slice A5 a c5) (ns.take a) (by simp [Act.eval]) ((HQ1.out.quiet (by repeat (first | exact Only.refl _ _ | apply Only.drew | apply Only.alloc))).row) (some ⟨w5.heap.size, 0, none⟩) 1 1 (by simp [Act.eval]) (fun e => by cases e) [x.tid] rfl (HQ3.out _ (by repeat (first | exact Only.refl _ _ | apply Only.drew | apply Only.alloc))) HB1.out ?_; intro v6 w6 h1 h2 h3; have h4 := (HQ1.out.quiet (show Only [] w5 (w5.drew.alloc (.cells #[.int .i64 x.tid] 3)) from (Only.refl [] w5).drew.alloc _)).more h1 h2 h3; have HC6 := hide h4; clear h1 h2 h3 h4))
              all_goals
                have h7 := (HC6.out.more h1 h2 h3).base HMW.out.only
                rw [← E7.out] at h7
                have H7 := hide h7
                clear h1 h2 h3 h7
                go_wp2
                rw [E5.out]
                refine ⟨⟨i + 1, hlt, rfl, ?_⟩, ?_⟩
                · rw [HTK.out]
                  exact H7.out
                · simp [intOf]
                  omega
        · have haK : a = K := by omega
          subst haK
          have haI : ¬ (a : Int) < ns.length := by omega
          have hD : decide ((a : Int) < ns.length) = false := by simpa using haI
          have e7 : insR ns x.tid = ns.take a ++ [x.tid] ++ ns.drop a := by
            rw [HINS.out, if_neg (by rw [List.getElem?_eq_none (by omega)]; intro e; cases e), List.append_assoc]
            rfl
          have E7 := hide e7
          have haco : (a : Int) ≤ co := by omega
          have hale : (a : Int) ≤ ns.length := by omega
          have HW := hide hw
          have HMW := hide hMW
          have hdn : ns.drop a = [] := List.drop_eq_nil_of_le (by omega)
          have HDN := hide hdn
          clear e7 hdn
          rcases Ao with _ | ad
          · obtain ⟨hn0, hc0⟩ := HAN.out rfl
            obtain rfl : ns = [] := List.eq_nil_of_length_eq_zero hn0
            subst hc0
            obtain rfl : a = 0 := by simpa using hK
            go_wp2
            go_region
            go_wp2
            go_region
            have HE9 := hide (irow_empty (Blk.new wr.drew.drew 3 #[]))
            have HB9 := hide (show ([] : List Int).length + 0 < 4000000000000 by simp)
            have HL9 := hide (show (([] : List Int).take 0).length = 0 by rw [List.length_take]; omega)
            have HN9 := hide (fun (W : World) (hW : Only [] wr W) => (((HMW.out.row.sees.quiet hW).take hK).news).2.2)
            have HA9 := hide ((HMW.out.row.sees.take hK).news).1
            have HTL := hide (show (([] : List Int).drop 0 : List Int).length = 0 from rfl)
            have HNT := hide (fun (W : World) (hW : Only [] wr W) => (show ∀ ad, (none : Option Addr) = some ad → ∀ j u, (i64l (([] : List Int).drop 0))[j]? = some u → W.cell? (ad.add j) = some u from (fun ad e => by cases e)))
            have HXC := hide (fun (W : World) (hW : Only [] wr W) => HX.out W (HW.out.trans hW))
            have HB1 := hide (show (([] : List Int).take 0).length + 1 < 4000000000000 by rw [HL9.out]; have := HNS.out; omega)
            have HB2 := hide (show (([] : List Int).take 0 ++ [x.tid]).length + (0) < 4000000000000 by simp)
            have HP5 := hide (fun (A5 : Option Addr) (c5 : Nat) (w5 : World) (h1 : IRow w5 (.slice A5 0 c5) ([] ++ ([] : List Int).take 0)) (h2 : Only (Value.slice (some ⟨wr.heap.size, 0, none⟩) 0 0).ownBlock.toList (wr.drew.drew.alloc (.cells #[] 3)) w5) (h3 : ∀ k, (Value.slice A5 0 c5).ownBlock = some k → (Value.slice (some ⟨wr.heap.size, 0, none⟩) 0 0).ownBlock = some k ∨ (wr.drew.drew.alloc (.cells #[] 3)).heap.size ≤ k) => (show Mine wr w5 (.slice A5 0 c5) (([] : List Int).take 0) ∧ (∀ W, Only [] w5 W → W.cell? ⟨wr0, 0, none⟩ = some (.int .i64 x.tid)) ∧ (∀ W, Only [] (w5.drew.alloc (.cells #[.int .i64 x.tid] 3)) W → ∀ ad, some (⟨w5.heap.size, 0, none⟩ : Addr) = some ad → ∀ j u, (i64l [x.tid])[j]? = some u → W.cell? (ad.add j) = some u) from by
              have hm := (Mine.empty wr ((Only.refl [] wr).drew.drew)).more (by simpa using h1) h2 h3
              exact ⟨hm, fun W hW => HXC.out W (hm.only.trans hW), fun W hW => one_news w5 x.tid W hW⟩))
            clear hMW hw
            go_wp2_with (at_builtin; refine wpList_append_any rfl _ _ rfl (.slice (some ⟨wr.heap.size, 0, none⟩) 0 0) [] rfl HE9.out (none) 0 0 rfl HA9.out (([] : List Int).take 0) HL9.out (HN9.out _ (by repeat (first | exact Only.refl _ _ | apply Only.drew | apply Only.alloc))) HB9.out ?_; intro v5 w5 h1 h2 h3; obtain ⟨A5, c5, hv5, _⟩ := h1.form2; rw [List.nil_append, HL9.out] at hv5; subst hv5; obtain ⟨q1, q2, q3⟩ := HP5.out A5 c5 w5 h1 h2 h3; have hx5 := q2 _ (Only.refl _ _); have HQ1 := hide q1; have HQ3 := hide q3; clear h1 h2 h3 q1 q2 q3)
            go_region_law (first | (have hg := HC6; refine step_append_any rfl _ _ rfl v6 (([] : List Int).take 0 ++ [x.tid]) (by simp [Act.eval]) HC6.out.row (none) (0) (0) (by simp [Act.eval]) (by intro e; cases e <;> exact ⟨rfl, rfl⟩) (([] : List Int).drop 0) HTL.out (HNT.out _ (by repeat (first | exact HC6.out.only | apply Only.drew | apply Only.alloc))) HB2.out ?_; intro v7 w7 h1 h2 h3) | (refine step_append_any rfl _ _ rfl (.slice A5 0 c5) (([] : List Int).take 0) (by simp [Act.eval]) ((HQ1.out.quiet (by repeat (first | exact Only.refl _ _ | apply Only.drew | apply Only.alloc))).row) (some ⟨w5.heap.size, 0, none⟩) 1 1 (by simp [Act.eval]) (fun e => by cases e) [x.tid] rfl (HQ3.out _ (by repeat (first | exact Only.refl _ _ | apply Only.drew | apply Only.alloc))) HB1.out ?_; intro v6 w6 h1 h2 h3; have h4 := (HQ1.out.quiet (show Only [] w5 (w5.drew.alloc (.cells #[.int .i64 x.tid] 3)) from (Only.refl [] w5).drew.alloc _)).more h1 h2 h3; have HC6 := hide h4; clear h1 h2 h3 h4))
            all_goals
              have h7 := (HC6.out.more h1 h2 h3).base HMW.out.only
              rw [← E7.out] at h7
              have H7 := hide h7
              clear h1 h2 h3 h7
              go_wp2
              rw [E5.out]
              refine ⟨⟨i + 1, hlt, rfl, ?_⟩, ?_⟩
              · rw [HTK.out]
                exact H7.out
              · simp [intOf]
                omega
          · obtain ⟨b2, rfl, _⟩ := HAS.out ad rfl
            by_cases hcc : co = a
            · have hcc' := hcc.symm
              subst hcc'
              go_wp2
              go_region
              go_wp2
              go_region
              have HE9 := hide (irow_empty (Blk.new wr.drew.drew 3 #[]))
              have HB9 := hide (show ([] : List Int).length + a < 4000000000000 by have := HNS.out; simp; omega)
              have HL9 := hide (show (ns.take a).length = a by rw [List.length_take]; omega)
              have HN9 := hide (fun (W : World) (hW : Only [] wr W) => (((HMW.out.row.sees.quiet hW).take hK).news).2.2)
              have HA9 := hide ((HMW.out.row.sees.take hK).news).1
              have HTL := hide (show (ns.drop a : List Int).length = 0 from (by rw [HDN.out]; rfl))
              have HNT := hide (fun (W : World) (hW : Only [] wr W) => (show ∀ ad, ((some ⟨b2, 0, none⟩) : Option Addr) = some ad → ∀ j u, (i64l (ns.drop a))[j]? = some u → W.cell? (ad.add j) = some u from (fun ad e j u hu => by rw [HDN.out] at hu; simp [i64l] at hu)))
              have HXC := hide (fun (W : World) (hW : Only [] wr W) => HX.out W (HW.out.trans hW))
              have HB1 := hide (show (ns.take a).length + 1 < 4000000000000 by rw [HL9.out]; have := HNS.out; omega)
              have HB2 := hide (show (ns.take a ++ [x.tid]).length + (0) < 4000000000000 by rw [List.length_append, HL9.out]; have := HNS.out; simp; omega)
              have HP5 := hide (fun (A5 : Option Addr) (c5 : Nat) (w5 : World) (h1 : IRow w5 (.slice A5 a c5) ([] ++ ns.take a)) (h2 : Only (Value.slice (some ⟨wr.heap.size, 0, none⟩) 0 0).ownBlock.toList (wr.drew.drew.alloc (.cells #[] 3)) w5) (h3 : ∀ k, (Value.slice A5 a c5).ownBlock = some k → (Value.slice (some ⟨wr.heap.size, 0, none⟩) 0 0).ownBlock = some k ∨ (wr.drew.drew.alloc (.cells #[] 3)).heap.size ≤ k) => (show Mine wr w5 (.slice A5 a c5) (ns.take a) ∧ (∀ W, Only [] w5 W → W.cell? ⟨wr0, 0, none⟩ = some (.int .i64 x.tid)) ∧ (∀ W, Only [] (w5.drew.alloc (.cells #[.int .i64 x.tid] 3)) W → ∀ ad, some (⟨w5.heap.size, 0, none⟩ : Addr) = some ad → ∀ j u, (i64l [x.tid])[j]? = some u → W.cell? (ad.add j) = some u) from by
                have hm := (Mine.empty wr ((Only.refl [] wr).drew.drew)).more (by simpa using h1) h2 h3
                exact ⟨hm, fun W hW => HXC.out W (hm.only.trans hW), fun W hW => one_news w5 x.tid W hW⟩))
              clear hMW hw
              go_wp2_with (at_builtin; refine wpList_append_any rfl _ _ rfl (.slice (some ⟨wr.heap.size, 0, none⟩) 0 0) [] rfl HE9.out ((some ⟨b2, 0, none⟩)) a a rfl HA9.out (ns.take a) HL9.out (HN9.out _ (by repeat (first | exact Only.refl _ _ | apply Only.drew | apply Only.alloc))) HB9.out ?_; intro v5 w5 h1 h2 h3; obtain ⟨A5, c5, hv5, _⟩ := h1.form2; rw [List.nil_append, HL9.out] at hv5; subst hv5; obtain ⟨q1, q2, q3⟩ := HP5.out A5 c5 w5 h1 h2 h3; have hx5 := q2 _ (Only.refl _ _); have HQ1 := hide q1; have HQ3 := hide q3; clear h1 h2 h3 q1 q2 q3)
              go_region_law (first | (have hg := HC6; refine step_append_any rfl _ _ rfl v6 (ns.take a ++ [x.tid]) (by simp [Act.eval]) HC6.out.row ((some ⟨b2, 0, none⟩)) (0) (0) (by simp [Act.eval]) (by intro e; cases e <;> exact ⟨rfl, rfl⟩) (ns.drop a) HTL.out (HNT.out _ (by repeat (first | exact HC6.out.only | apply Only.drew | apply Only.alloc))) HB2.out ?_; intro v7 w7 h1 h2 h3) | (refine step_append_any rfl _ _ rfl (.slice A5 a c5) (ns.take a) (by simp [Act.eval]) ((HQ1.out.quiet (by repeat (first | exact Only.refl _ _ | apply Only.drew | apply Only.alloc))).row) (some ⟨w5.heap.size, 0, none⟩) 1 1 (by simp [Act.eval]) (fun e => by cases e) [x.tid] rfl (HQ3.out _ (by repeat (first | exact Only.refl _ _ | apply Only.drew | apply Only.alloc))) HB1.out ?_; intro v6 w6 h1 h2 h3; have h4 := (HQ1.out.quiet (show Only [] w5 (w5.drew.alloc (.cells #[.int .i64 x.tid] 3)) from (Only.refl [] w5).drew.alloc _)).more h1 h2 h3; have HC6 := hide h4; clear h1 h2 h3 h4))
              all_goals
                have h7 := (HC6.out.more h1 h2 h3).base HMW.out.only
                rw [← E7.out] at h7
                have H7 := hide h7
                clear h1 h2 h3 h7
                go_wp2
                rw [E5.out]
                refine ⟨⟨i + 1, hlt, rfl, ?_⟩, ?_⟩
                · rw [HTK.out]
                  exact H7.out
                · simp [intOf]
                  omega
            · skip
              go_wp2
              go_region
              go_wp2
              go_region
              have HE9 := hide (irow_empty (Blk.new wr.drew.drew 3 #[]))
              have HB9 := hide (show ([] : List Int).length + a < 4000000000000 by have := HNS.out; simp; omega)
              have HL9 := hide (show (ns.take a).length = a by rw [List.length_take]; omega)
              have HN9 := hide (fun (W : World) (hW : Only [] wr W) => (((HMW.out.row.sees.quiet hW).take hK).news).2.2)
              have HA9 := hide ((HMW.out.row.sees.take hK).news).1
              have HTL := hide (show (ns.drop a : List Int).length = ns.length - a from (List.length_drop ..))
              have HNT := hide (fun (W : World) (hW : Only [] wr W) => (show ∀ ad, ((some ⟨b2, a, none⟩) : Option Addr) = some ad → ∀ j u, (i64l (ns.drop a))[j]? = some u → W.cell? (ad.add j) = some u from (by simpa using (HMW.out.row.sees.quiet hW).tail hK)))
              have HXC := hide (fun (W : World) (hW : Only [] wr W) => HX.out W (HW.out.trans hW))
              have HB1 := hide (show (ns.take a).length + 1 < 4000000000000 by rw [HL9.out]; have := HNS.out; omega)
              have HB2 := hide (show (ns.take a ++ [x.tid]).length + (ns.length - a) < 4000000000000 by rw [List.length_append, HL9.out]; have := HNS.out; simp; omega)
              have HP5 := hide (fun (A5 : Option Addr) (c5 : Nat) (w5 : World) (h1 : IRow w5 (.slice A5 a c5) ([] ++ ns.take a)) (h2 : Only (Value.slice (some ⟨wr.heap.size, 0, none⟩) 0 0).ownBlock.toList (wr.drew.drew.alloc (.cells #[] 3)) w5) (h3 : ∀ k, (Value.slice A5 a c5).ownBlock = some k → (Value.slice (some ⟨wr.heap.size, 0, none⟩) 0 0).ownBlock = some k ∨ (wr.drew.drew.alloc (.cells #[] 3)).heap.size ≤ k) => (show Mine wr w5 (.slice A5 a c5) (ns.take a) ∧ (∀ W, Only [] w5 W → W.cell? ⟨wr0, 0, none⟩ = some (.int .i64 x.tid)) ∧ (∀ W, Only [] (w5.drew.alloc (.cells #[.int .i64 x.tid] 3)) W → ∀ ad, some (⟨w5.heap.size, 0, none⟩ : Addr) = some ad → ∀ j u, (i64l [x.tid])[j]? = some u → W.cell? (ad.add j) = some u) from by
                have hm := (Mine.empty wr ((Only.refl [] wr).drew.drew)).more (by simpa using h1) h2 h3
                exact ⟨hm, fun W hW => HXC.out W (hm.only.trans hW), fun W hW => one_news w5 x.tid W hW⟩))
              clear hMW hw
              go_wp2_with (at_builtin; refine wpList_append_any rfl _ _ rfl (.slice (some ⟨wr.heap.size, 0, none⟩) 0 0) [] rfl HE9.out ((some ⟨b2, 0, none⟩)) a co rfl HA9.out (ns.take a) HL9.out (HN9.out _ (by repeat (first | exact Only.refl _ _ | apply Only.drew | apply Only.alloc))) HB9.out ?_; intro v5 w5 h1 h2 h3; obtain ⟨A5, c5, hv5, _⟩ := h1.form2; rw [List.nil_append, HL9.out] at hv5; subst hv5; obtain ⟨q1, q2, q3⟩ := HP5.out A5 c5 w5 h1 h2 h3; have hx5 := q2 _ (Only.refl _ _); have HQ1 := hide q1; have HQ3 := hide q3; clear h1 h2 h3 q1 q2 q3)
              go_region_law (first | (have hg := HC6; refine step_append_any rfl _ _ rfl v6 (ns.take a ++ [x.tid]) (by simp [Act.eval]) HC6.out.row ((some ⟨b2, a, none⟩)) (ns.length - a) (co - a) (by simp [Act.eval]) (by intro e; cases e <;> exact ⟨rfl, rfl⟩) (ns.drop a) HTL.out (HNT.out _ (by repeat (first | exact HC6.out.only | apply Only.drew | apply Only.alloc))) HB2.out ?_; intro v7 w7 h1 h2 h3) | (refine step_append_any rfl _ _ rfl (.slice A5 a c5) (ns.take a) (by simp [Act.eval]) ((HQ1.out.quiet (by repeat (first | exact Only.refl _ _ | apply Only.drew | apply Only.alloc))).row) (some ⟨w5.heap.size, 0, none⟩) 1 1 (by simp [Act.eval]) (fun e => by cases e) [x.tid] rfl (HQ3.out _ (by repeat (first | exact Only.refl _ _ | apply Only.drew | apply Only.alloc))) HB1.out ?_; intro v6 w6 h1 h2 h3; have h4 := (HQ1.out.quiet (show Only [] w5 (w5.drew.alloc (.cells #[.int .i64 x.tid] 3)) from (Only.refl [] w5).drew.alloc _)).more h1 h2 h3; have HC6 := hide h4; clear h1 h2 h3 h4))
              all_goals
                have h7 := (HC6.out.more h1 h2 h3).base HMW.out.only
                rw [← E7.out] at h7
                have H7 := hide h7
                clear h1 h2 h3 h7
                go_wp2
                rw [E5.out]
                refine ⟨⟨i + 1, hlt, rfl, ?_⟩, ?_⟩
                · rw [HTK.out]
                  exact H7.out
                · simp [intOf]
                  omega
    · obtain rfl : i = R.length := by omega
      rw [List.take_length] at hM
      have HM := hide hM
      clear hM
      go_wp2
      go_ret
      exact ⟨_, rfl, HM.out.row, HM.out.own, HM.out.only⟩
end
end Go.Proofs.Ytokclkiidhcffaa
