/-
  Flush of parapet/disk.
-/
import Derived.Test.YtpajdnjbeplneaaDiskRead
namespace Go.Proofs.Ytpajdnjbeplneaa
open Go.ChangeShapes Go.WideShapes Go.ChangeAt Go.RowKit Go.Maps
set_option linter.unusedVariables false

theorem size_u8d : (Try.prog.info? 5).map (·.size) = some 1 := by kernel_rfl

/-- A write's bytes laid over a platter; all of them, in order. -/
def lay1 (plat : List Int) (p : Nat × List Int) : List Int := Go.splice plat (512 * p.1) p.2
def layAll (plat : List Int) (l : List (Nat × List Int)) : List Int := l.foldl lay1 plat

theorem step_copy_run {P : Program} {ops : Array Oper} {o : Oper} {a : Act} {w : World} {K : Act → World → Prop} {Q : Exit → Act → World → Prop} {E : Prop} (hgd : o.guard = none) (d s : Operand) (dT sT : TypeId)
    (ho : o.op = .call { callee := .builtin .copy, args := #[d, s], argTypes := #[dT, sT] }) (dv sv : Value) (hd : a.eval d = dv) (hs : a.eval s = sv) (v : Value) (w' : World)
    (hrun : (Builtin.copy_ #[dT, sT] o.type #[dv, sv]).run P w = .ok v w') (h : K (a.put o.dst v) w') :
    if Region.wanted o (yielded ops a.tmps) = true then Oper.wp P o a w K Q else E := by
  have hw : Region.wanted o (yielded ops a.tmps) = true := by simp [Region.wanted, hgd]
  rw [if_pos hw]
  unfold Oper.wp
  simp [execOp, ho, resolve, invoke, builtin, hd, hs, hrun, Result.andThen]
  exact h

theorem step_copy_ex {P : Program} {ops : Array Oper} {o : Oper} {a : Act} {w : World} {K : Act → World → Prop} {Q : Exit → Act → World → Prop} {E : Prop} (hgd : o.guard = none) (d s : Operand) (dT sT : TypeId)
    (ho : o.op = .call { callee := .builtin .copy, args := #[d, s], argTypes := #[dT, sT] }) (dv sv : Value) (hd : a.eval d = dv) (hs : a.eval s = sv) (v : Value) (R : World → Prop)
    (hrun : ∃ w', (∀ ty, (Builtin.copy_ #[dT, sT] ty #[dv, sv]).run P w = .ok v w') ∧ R w') (h : ∀ w', R w' → K (a.put o.dst v) w') :
    if Region.wanted o (yielded ops a.tmps) = true then Oper.wp P o a w K Q else E := by
  obtain ⟨w', hr, hR⟩ := hrun
  exact step_copy_run hgd d s dT sT ho dv sv hd hs v w' (hr _) (h w' hR)

section
variable {w : World} {g pb pc mb : Nat} {pr : List Value} {pv : Value} {D : DataW Unit} {N : Nat} {plat : List Int} {ws : List WR} {left rd wt fl : Int} (h : IsDisk w g pb pc mb pr pv D N plat ws left rd wt fl)
include h

theorem pb_ne : pb ≠ g ∧ pb ≠ mb ∧ (∀ k, pv.ownBlock = some k → k ≠ pb) :=
  ⟨(h.str.ne_ h.row (by decide)).symm, fun e => (mb_ne h).2.1 e.symm, fun k hk => (pv_ne h hk).2.1⟩

/-- The platter alone has turned. The data blocks of the writes are others. -/
theorem IsDisk.replat {w' : World} {plat' : List Int} (ho : Only [pb] w w') (hr : Blk w' pb 5 (u8l plat' ++ pr).toArray) (hl : plat'.length = 512 * N) (hu : U8 plat') (hx : ∀ x ∈ ws, x.blk ≠ pb) : IsDisk w' g pb pc mb pr pv D N plat' ws left rd wt fl := by
  obtain ⟨h1, h2, h3⟩ := pb_ne h
  exact ⟨h.str.only ho (by simpa using h1.symm), hr, hl, h.cap, h.pos, h.big, hu, ownsRow_only h.own ho (fun k hk => by simpa using h3 k hk), fun x hx' => (h.wok x hx').only ho (by simpa using hx x hx'), ownsMap_only h.map ho (by simpa using h2.symm), h.last, h.few⟩

theorem run_copy_disk (n : Nat) (hn : n < N) (hx : ∀ x ∈ ws, x.blk ≠ pb) (sLen sCap : Nat) (hs : sLen ≤ 512) (ad : Addr) (ys : List Int) (hy : ys.length = sLen) (hu : U8 ys) (hc : ∀ j, j < ys.length → w.cell? (ad.add j) = some (.int .u8 (gb ys j))) :
    ∃ w1, (∀ ty, (Builtin.copy_ #[39, 39] ty #[.slice (some ⟨pb, 512 * n, none⟩) 512 512, .slice (some ad) sLen sCap]).run Try.prog w = .ok (goInt ys.length) w1) ∧ Only [pb] w w1 ∧ IsDisk w1 g pb pc mb pr pv D N (Go.splice plat (512 * n) ys) ws left rd wt fl := by
  have hfit : 512 * n + ys.length ≤ plat.length := by rw [h.len]; omega
  have hl : (Go.splice plat (512 * n) ys).length = plat.length := length_splice plat _ ys hfit
  have hrun := fun ty => run_copy_row (P := Try.prog) w 39 39 ty 5 pb (512 * n) 512 512 ad sLen sCap _ 5 (u8l ys) Try.underlying39 size_u8d h.row (by rw [u8l_length, hy]; simp [Nat.min_def]; omega) (by
    intro j v hj
    have hjn : j < ys.length := by
      have := (List.getElem?_eq_some_iff.1 hj).1
      rw [u8l_length] at this
      exact this
    rw [hc j hjn]
    have e : (u8l ys)[j]? = some (Value.int .u8 (gb ys j)) := by simp [u8l, gb, List.getD, List.getElem?_eq_getElem hjn]
    rw [e] at hj
    exact hj) (by simp [u8l]; omega) (u8l_one _)
  have ho : Only [pb] w (w.setRow pb ((u8l plat ++ pr).toArray.toList.take (512 * n) ++ u8l ys ++ (u8l plat ++ pr).toArray.toList.drop (512 * n + (u8l ys).length)).toArray) := (Only.refl _ _).setRow _ (by simp)
  refine ⟨_, fun ty => by rw [← u8l_length ys]; exact hrun ty, ho, ?_⟩
  refine h.replat ho ?_ (by rw [hl, h.len]) (h.u8.splice hu _) hx
  have e : (u8l plat ++ pr).toArray.toList.take (512 * n) ++ u8l ys ++ (u8l plat ++ pr).toArray.toList.drop (512 * n + (u8l ys).length) = u8l (Go.splice plat (512 * n) ys) ++ pr := by
    have h1 : 512 * n ≤ (u8l plat).length := by rw [u8l_length]; omega
    have h2 : 512 * n + (u8l ys).length ≤ (u8l plat).length := by rw [u8l_length, u8l_length]; omega
    show (u8l plat ++ pr).take (512 * n) ++ u8l ys ++ (u8l plat ++ pr).drop (512 * n + (u8l ys).length) = _
    rw [List.take_append_of_le_length h1, List.drop_append_of_le_length h2]
    simp [u8l, Go.splice, List.map_take, List.map_drop]
  rw [e]
  exact h.row.row _

theorem IsDisk.alloc (o : Obj) : IsDisk (w.alloc o) g pb pc mb pr pv D N plat ws left rd wt fl := h.only ((Only.refl [] w).alloc o) (by simp) (by simp)

theorem dflush_off (hl : left = 0) : Calls Try.prog 84 #[.pointer (some ⟨g, 0, none⟩)] w fun e w' => e = .returned (.int .i64 0) ∧ w = w' := by
  have HC := hide (dclosed_is h)
  have HS := hide (dspend_no h hl)
  clear h hl
  go_enter Try.func84, Try.ntmps84
  go_wp2_with (first | (go_at_call 65; refine HC.out.mono ?_; rintro e w' ⟨rfl, rfl⟩) | (go_at_call 92; refine HS.out.mono ?_; rintro e w' ⟨rfl, rfl⟩))
  go_ret
  exact ⟨rfl, rfl⟩

omit h in
/-- The loop that lays writes down, behind k of them. -/
def LayRel (g pb pc mb : Nat) (pr : List Value) (pv : Value) (D : DataW Unit) (N : Nat) (plat : List Int) (ws : List WR) (left rd wt fl : Int) (w0 : World) (i : Value) (wr : World) : Prop :=
  ∃ k : Nat, k ≤ ws.length ∧ i = .int .i64 k ∧ Only [pb] w0 wr ∧ IsDisk wr g pb pc mb pr pv D N (layAll plat ((ofW ws).take k)) ws left rd wt fl

omit h in
theorem layAll_snoc (plat : List Int) (ws : List WR) (k : Nat) (x : WR) (hx : ws[k]? = some x) : layAll plat ((ofW ws).take (k + 1)) = Go.splice (layAll plat ((ofW ws).take k)) (512 * x.sec) x.data := by
  have hk : k < (ofW ws).length := by rw [ofW, List.length_map]; exact (List.getElem?_eq_some_iff.1 hx).1
  have e : (ofW ws)[k] = (x.sec, x.data) := by
    have h1 := (List.getElem?_eq_some_iff.1 hx).2
    simp [ofW, h1]
  rw [List.take_succ_eq_append_getElem hk, layAll, List.foldl_append, e]
  rfl

set_option maxRecDepth 100000 in
set_option maxHeartbeats 1000000 in
theorem dflush_do (hl : left ≠ 0) (hm : left ≤ 9223372036854775807) (hf0 : 0 ≤ fl) (hf1 : fl < 9223372036854775807) (hx : ∀ x ∈ ws, x.blk ≠ pb) :
    Calls Try.prog 84 #[.pointer (some ⟨g, 0, none⟩)] w fun e w' => e = .returned (.int .i64 ws.length) ∧ Only [g, pb, mb] w w' ∧ IsDisk w' g pb pc mb pr (.slice none 0 0) (.map []) N (layAll plat (ofW ws)) [] (lessv left) rd wt (fl + 1) := by
  have HC := hide (dclosed_is h)
  have HS := hide (dspend_yes h hl hm)
  have HX := hide hx
  clear h hl hm hx
  go_enter Try.func84, Try.ntmps84
  go_wp2_with (go_at_call 65; refine HC.out.mono ?_; rintro e w' ⟨rfl, rfl⟩)
  refine HS.out.mono ?_
  rintro e w1 ⟨rfl, ho1, hd1⟩
  have hc6 := hd1.c6
  have hf6 := hd1.str.frozen 6
  have ho2 : Only [g] w1 (w1.setCell ⟨g, 6, none⟩ (.int .i64 (fl + 1))) := (Only.refl _ _).setCell _ (by simp)
  have HD2 := hide (hd1.restr (fl' := fl + 1) ho2 (hd1.str.set_ 6 _))
  have HO2 := hide (ho1.trans ho2)
  obtain ⟨A, cap, rfl, hp⟩ := pend_form HD2.out
  have hc1 := HD2.out.c1
  have HP := hide hp
  clear ho1 hd1 ho2 HS hp
  go_wp2
  clear hc6 hf6 hc1
  revert HD2 HO2 HP
  generalize w1.setCell ⟨g, 6, none⟩ (.int .i64 (fl + 1)) = w2
  intro HO2 HD2 HP
  have hps := (pb_ne HD2.out).2.2
  have HPS := hide hps
  clear hps
  have hfew : ws.length ≤ 9223372036854775807 := by have := HD2.out.few; omega
  go_loopw [30] (fun i wr => LayRel g pb pc mb pr (.slice A ws.length cap) D N plat ws (lessv left) rd wt (fl + 1) w2 i wr) (fun i _ => ws.length - (intOf i).toNat)
  case atStart => exact ⟨0, Nat.zero_le _, rfl, Only.refl _ _, HD2.out⟩
  case round =>
    obtain ⟨k, hk, rfl, ho, hd⟩ := hrel
    have HO := hide ho
    have HD := hide hd
    by_cases hlt : k < ws.length
    · obtain ⟨b, rfl, hbl, hcs⟩ := HP.out (by omega)
      obtain ⟨x, hx⟩ : ∃ x, ws[k]? = some x := ⟨_, List.getElem?_eq_getElem hlt⟩
      have hbp := HPS.out b rfl
      obtain ⟨p0, p1⟩ := hcs k x hx
      have e0 := (ho.cell hbl (by simpa using hbp)).trans p0
      have e1 := (ho.cell hbl (by simpa using hbp)).trans p1
      have hmem : x ∈ ws := List.mem_iff_getElem?.2 ⟨k, hx⟩
      have HSN := hide (layAll_snoc plat ws k x hx)
      have HDS := hide (fun w' (q : Only [] wr w') => dsector_is (hd.only q (by simp) (by simp)) x.sec (hd.wok x hmem).sec)
      have HCP := hide (fun w' (q : Only [] wr w') => (by
        have hw := (hd.wok x hmem).only q (by simp)
        obtain ⟨w3, h1, h2, h3⟩ := run_copy_disk (hd.only q (by simp) (by simp)) x.sec hw.sec HX.out 512 (512 + x.rest.length) (Nat.le_refl _) ⟨x.blk, 0, none⟩ x.data hw.len hw.u8 (fun j hj => by rw [add_at, Nat.zero_add, hw.row.cell]; exact u8l_get _ _ j hj)
        exact ⟨w3, h1, (q.mono (by simp)).trans h2, h3⟩ :
          ∃ w3, (∀ ty, (Builtin.copy_ #[39, 39] ty #[.slice (some ⟨pb, 512 * x.sec, none⟩) 512 512, .slice (some ⟨x.blk, 0, none⟩) 512 (512 + x.rest.length)]).run Try.prog w' = .ok (goInt x.data.length) w3) ∧
            Only [pb] wr w3 ∧ IsDisk w3 g pb pc mb pr (.slice (some ⟨b, 0, none⟩) ws.length cap) D N (Go.splice (layAll plat ((ofW ws).take k)) (512 * x.sec) x.data) ws (lessv left) rd wt (fl + 1)))
      clear ho hd hcs p0 p1 hx hbp hmem
      go_wp2
      go_region_law (first | (refine step_copy_ex rfl _ _ _ _ rfl _ _ rfl rfl _ _ (HCP.out _ (by repeat (first | exact Only.refl _ _ | apply Only.drew | apply Only.alloc | apply Only.setCell))) ?_; rintro w3 ⟨ho3, hd3⟩) | (go_simp; go_at_call 70; refine (HDS.out _ (by repeat (first | exact Only.refl _ _ | apply Only.drew | apply Only.alloc | apply Only.setCell))).mono ?_; rintro e w' ⟨rfl, rfl⟩))
      all_goals
        have HD3 := hide hd3
        have HO3 := hide ho3
        clear hd3 ho3
        go_wp2
        go_roundw
        case rel => exact ⟨k + 1, hlt, by go_num, HO.out.trans HO3.out, by rw [HSN.out]; exact HD3.out⟩
        case measure => simp [intOf]; omega
    · obtain rfl : k = ws.length := by omega
      have hlw : (ofW ws).take ws.length = ofW ws := List.take_of_length_le (by simp [ofW])
      rw [hlw] at hd
      have HFG := hide (dforget_is hd)
      have HOO := hide (HO2.out.mono (S' := [g, pb, mb]) (by intro k _ hk; simp at hk ⊢; omega) |>.trans (ho.mono (by intro k _ hk; simp at hk ⊢; omega)))
      clear hd ho hlw HD
      go_wp2_with (go_at_call 93; refine HFG.out.mono ?_; rintro e w5 ⟨rfl, ho5, hd5⟩; have HF5 := hide (And.intro ho5 hd5); clear ho5 hd5)
      go_ret
      exact ⟨rfl, HOO.out.trans (HF5.out.1.mono (by intro k _ hk; simp at hk ⊢; omega)), HF5.out.2⟩
end
end Go.Proofs.Ytpajdnjbeplneaa
