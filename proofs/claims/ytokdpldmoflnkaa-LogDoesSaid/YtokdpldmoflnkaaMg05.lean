/-
  Read of parapet/disk.
-/
import Derived.Test.YtokdpldmoflnkaaMg04
import Derived.Maps.OwnOps
namespace Go.Proofs.Ytokdpldmoflnkaa
open Go.ChangeShapes Go.WideShapes Go.ChangeAt Go.RowKit Go.Maps
set_option linter.unusedVariables false

/-- What a sector says: its last pending write, or the platter. -/
def sect (plat : List Int) (l : List (Nat × List Int)) (n : Nat) : List Int := l.foldl (fun acc p => if p.1 = n then p.2 else acc) ((plat.drop (512 * n)).take 512)
def ofW (ws : List WR) : List (Nat × List Int) := ws.map fun x => (x.sec, x.data)

theorem last_or (ws : List WR) (n : Nat) : (∃ i, IsLast ws n i) ∨ ∀ (i : Nat) (x : WR), ws[i]? = some x → x.sec ≠ n := by
  have key : ∀ m, m ≤ ws.length → (∃ i x, i < m ∧ ws[i]? = some x ∧ x.sec = n ∧ ∀ (j : Nat) (y : WR), i < j → j < m → ws[j]? = some y → y.sec ≠ n) ∨ ∀ (i : Nat) (x : WR), i < m → ws[i]? = some x → x.sec ≠ n := by
    intro m
    induction m with
    | zero => exact fun _ => .inr fun i x hi => absurd hi (by omega)
    | succ m ih =>
      intro hm
      obtain ⟨x, hx⟩ : ∃ x, ws[m]? = some x := ⟨_, List.getElem?_eq_getElem (by omega)⟩
      by_cases hs : x.sec = n
      · exact .inl ⟨m, x, by omega, hx, hs, fun j y h1 h2 => absurd h1 (by omega)⟩
      · rcases ih (by omega) with ⟨i, y, hi, hy, hyn, hl⟩ | hn
        · refine .inl ⟨i, y, by omega, hy, hyn, fun j z h1 h2 hz => ?_⟩
          by_cases hj : j = m
          · subst hj; rw [hx] at hz; injection hz with hz; subst hz; exact hs
          · exact hl j z h1 (by omega) hz
        · refine .inr fun i y hi hy => ?_
          by_cases hj : i = m
          · subst hj; rw [hx] at hy; injection hy with hy; subst hy; exact hs
          · exact hn i y (by omega) hy
  rcases key ws.length (Nat.le_refl _) with ⟨i, x, _, hx, hs, hl⟩ | hn
  · exact .inl ⟨i, x, hx, hs, fun j y h1 hy => hl j y h1 (List.getElem?_eq_some_iff.1 hy).1 hy⟩
  · exact .inr fun i x hx => hn i x (List.getElem?_eq_some_iff.1 hx).1 hx

theorem sect_skip (l : List (Nat × List Int)) (n : Nat) (acc : List Int) (h : ∀ p ∈ l, p.1 ≠ n) : l.foldl (fun acc p => if p.1 = n then p.2 else acc) acc = acc := by
  induction l generalizing acc with
  | nil => rfl
  | cons p r ih =>
    rw [List.foldl_cons, if_neg (h p (by simp))]
    exact ih acc fun q hq => h q (by simp [hq])
theorem sect_none (plat : List Int) (ws : List WR) (n : Nat) (h : ∀ (i : Nat) (x : WR), ws[i]? = some x → x.sec ≠ n) : sect plat (ofW ws) n = (plat.drop (512 * n)).take 512 := by
  refine sect_skip _ _ _ fun p hp => ?_
  obtain ⟨x, hx, rfl⟩ := List.mem_map.1 hp
  obtain ⟨i, hi⟩ := List.mem_iff_getElem?.1 hx
  exact h i x hi
theorem sect_last (plat : List Int) (ws : List WR) (n i : Nat) (x : WR) (hx : ws[i]? = some x) (hs : x.sec = n) (hl : ∀ (j : Nat) (y : WR), i < j → ws[j]? = some y → y.sec ≠ n) : sect plat (ofW ws) n = x.data := by
  have hi : i < ws.length := (List.getElem?_eq_some_iff.1 hx).1
  have hxi : ws[i] = x := (List.getElem?_eq_some_iff.1 hx).2
  have e : ws = ws.take i ++ (x :: ws.drop (i + 1)) := by rw [← hxi, ← List.drop_eq_getElem_cons hi, List.take_append_drop]
  unfold sect ofW
  rw [e, List.map_append, List.foldl_append, List.map_cons, List.foldl_cons, if_pos hs]
  refine sect_skip _ _ _ fun p hp => ?_
  obtain ⟨y, hy, rfl⟩ := List.mem_map.1 hp
  obtain ⟨j, hj⟩ := List.mem_iff_getElem?.1 hy
  rw [List.getElem?_drop] at hj
  exact hl (i + 1 + j) y (by omega) hj

section
variable {w : World} {g pb pc mb : Nat} {pr : List Value} {pv : Value} {D : DataW Unit} {N : Nat} {plat : List Int} {ws : List WR} {left rd wt fl : Int} (h : IsDisk w g pb pc mb pr pv D N plat ws left rd wt fl)
include h

theorem dread_bad (n : Int) (hn : n < 0 ∨ N ≤ n) : Calls Try.prog 41 #[.pointer (some ⟨g, 0, none⟩), .int .i64 n] w fun e w' => e = .returned (.tuple #[.slice none 0 0, .int .i64 20]) ∧ w = w' := by
  have HC := hide (dclosed_is h)
  have HH := hide (dhas_no h n hn)
  clear h hn
  go_enter Try.func41, Try.ntmps41
  go_wp2_with (first | (go_at_call 62; refine HC.out.mono ?_; rintro e w' ⟨rfl, rfl⟩) | (go_at_call 63; refine HH.out.mono ?_; rintro e w' ⟨rfl, rfl⟩))
  go_ret2
  exact ⟨rfl, rfl⟩

omit h in
theorem zero_int (w : World) : (zeroValue 3).run Try.prog w = .ok (.int .i64 0) w := by kernel_rfl

omit h in
theorem Fresh.mono {w' : World} {B B' : Nat} (hB : B' ≤ B) {v : Value} {xs : List Int} (h : Fresh w' B v xs) : Fresh w' B' v xs := by
  obtain ⟨d, c, r, e, h1, h2, h3⟩ := h
  exact ⟨d, c, r, e, Nat.le_trans hB h1, h2, h3⟩

/-- What a read leaves. -/
def DidRead (w w' : World) (e : Ending) (g pb pc mb : Nat) (pr : List Value) (pv : Value) (D : DataW Unit) (N : Nat) (plat : List Int) (ws : List WR) (left rd wt fl : Int) (n : Nat) : Prop :=
  ∃ v, e = .returned (.tuple #[v, .int .i64 0]) ∧ Fresh w' w.heap.size v (sect plat (ofW ws) n) ∧ Only [g] w w' ∧ IsDisk w' g pb pc mb pr pv D N plat ws left (rd + 1) wt fl

set_option maxRecDepth 100000 in
theorem dread_last (n i : Nat) (x : WR) (h1 : n < N) (hx : ws[i]? = some x) (hs : x.sec = n) (hl : ∀ (j : Nat) (y : WR), i < j → ws[j]? = some y → y.sec ≠ n) (hr0 : 0 ≤ rd) (hr1 : rd < 9223372036854775807) :
    Calls Try.prog 41 #[.pointer (some ⟨g, 0, none⟩), .int .i64 n] w fun e w' => DidRead w w' e g pb pc mb pr pv D N plat ws left rd wt fl n := by
  have HC := hide (dclosed_is h)
  have HH := hide (dhas_yes h n (by omega) (by omega))
  have HSE := hide (sect_last plat ws n i x hx hs hl)
  obtain ⟨hh, hat⟩ := h.last.2.1 n i ⟨x, hx, hs, hl⟩
  have HWN := hide (show (Lit.int .i64 (n : Int)).wf = true from WalkArith.wf_i64 (by have := h.big; omega))
  have HAT := hide hat
  have ho1 : Only [g] w (w.setCell ⟨g, 4, none⟩ (.int .i64 (rd + 1))) := (Only.refl _ _).setCell _ (by simp)
  have hc4 := h.c4
  have hf4 := h.str.frozen 4
  have HD1 := hide (h.restr (rd' := rd + 1) ho1 (h.str.set_ 4 _))
  have HO1 := hide ho1
  have hil : i < ws.length := (List.getElem?_eq_some_iff.1 hx).1
  have HX := hide hx
  obtain ⟨A, cap, rfl, hp⟩ := pend_form HD1.out
  obtain ⟨pvb, rfl, _, hcs⟩ := hp (by omega)
  obtain ⟨p0, p1⟩ := hcs i x hx
  have hc2 := HD1.out.c2
  have hc1 := HD1.out.c1
  have HM := hide HD1.out.map
  have HK := hide (keyOf_int_mk (P := Try.prog) Try.underlying3 HWN.out)
  have HCN := hide (clone_ok ⟨x.blk, 0, none⟩ 512 (512 + x.rest.length) x.data (w.setCell ⟨g, 4, none⟩ (.int .i64 (rd + 1))) ((HD1.out.wok x (List.mem_iff_getElem?.2 ⟨i, hx⟩)).len) (by omega) (fun j hj => by
    have hw := HD1.out.wok x (List.mem_iff_getElem?.2 ⟨i, hx⟩)
    rw [add_at, Nat.zero_add, hw.row.cell]
    exact u8l_get _ _ j (by rw [hw.len]; exact hj)))
  have HFR := hide (fun v xs w' => Fresh.mono (w' := w') (v := v) (xs := xs) (B := (w.setCell ⟨g, 4, none⟩ (.int .i64 (rd + 1))).heap.size) (B' := w.heap.size) (by simp [World.setCell]))
  clear h hat ho1 hl hs hp hcs hx
  go_enter Try.func41, Try.ntmps41
  go_wp2_with (first | (go_at_call 62; refine HC.out.mono ?_; rintro e w' ⟨rfl, rfl⟩) | (go_at_call 63; refine HH.out.mono ?_; rintro e w' ⟨rfl, rfl⟩) | (at_lookup; refine wpList_lookup_own_ok_int _ rfl _ _ 104 rfl 3 3 .i64 (int_keyed Try.underlying3) Try.underlying104 Try.underlying3 (zero_int _) mb ws.length D rfl HM.out _ _ rfl HK.out ?_; intro cc hcat hcw; obtain rfl : cc = (i : Int) := (by have := HAT.out.symm.trans hcat; injection this with this; injection this with _ this; exact this.symm); clear hcat hcw; rw [hh]) | (go_at_call 52; refine HCN.out.mono ?_; rintro e w2 ⟨v, rfl, hfv, hov⟩))
  go_ret2
  refine ⟨v, rfl, ?_, HO1.out.trans (hov.mono (by simp)), HD1.out.only hov (by simp) (by simp)⟩
  rw [HSE.out]
  exact HFR.out _ _ _ hfv

set_option maxRecDepth 100000 in
theorem dread_none (n : Nat) (h1 : n < N) (hn : ∀ (i : Nat) (x : WR), ws[i]? = some x → x.sec ≠ n) (hr0 : 0 ≤ rd) (hr1 : rd < 9223372036854775807) :
    Calls Try.prog 41 #[.pointer (some ⟨g, 0, none⟩), .int .i64 n] w fun e w' => DidRead w w' e g pb pc mb pr pv D N plat ws left rd wt fl n := by
  have HC := hide (dclosed_is h)
  have HH := hide (dhas_yes h n (by omega) (by omega))
  have HSE := hide (sect_none plat ws n hn)
  have hh := h.last.2.2 n hn
  have HWN := hide (show (Lit.int .i64 (n : Int)).wf = true from WalkArith.wf_i64 (by have := h.big; omega))
  have ho1 : Only [g] w (w.setCell ⟨g, 4, none⟩ (.int .i64 (rd + 1))) := (Only.refl _ _).setCell _ (by simp)
  have hc4 := h.c4
  have hf4 := h.str.frozen 4
  have HD1 := hide (h.restr (rd' := rd + 1) ho1 (h.str.set_ 4 _))
  have HO1 := hide ho1
  have hc2 := HD1.out.c2
  have HM := hide HD1.out.map
  have HK := hide (keyOf_int_mk (P := Try.prog) Try.underlying3 HWN.out)
  have HSC := hide (dsector_is HD1.out n h1)
  have HCN := hide (clone_ok ⟨pb, 512 * n, none⟩ 512 512 ((plat.drop (512 * n)).take 512) (w.setCell ⟨g, 4, none⟩ (.int .i64 (rd + 1))) (by have := h.len; simp; omega) (by omega) (fun j hj => by
    rw [add_at, HD1.out.row.cell, gb_cut _ _ _ _ hj]
    exact u8l_get _ _ _ (by have := h.len; omega)))
  have HFR := hide (fun v xs w' => Fresh.mono (w' := w') (v := v) (xs := xs) (B := (w.setCell ⟨g, 4, none⟩ (.int .i64 (rd + 1))).heap.size) (B' := w.heap.size) (by simp [World.setCell]))
  clear h ho1 hn
  go_enter Try.func41, Try.ntmps41
  go_wp2_with (first | (go_at_call 62; refine HC.out.mono ?_; rintro e w' ⟨rfl, rfl⟩) | (go_at_call 63; refine HH.out.mono ?_; rintro e w' ⟨rfl, rfl⟩) | (at_lookup; refine wpList_lookup_own_ok_int _ rfl _ _ 104 rfl 3 3 .i64 (int_keyed Try.underlying3) Try.underlying104 Try.underlying3 (zero_int _) mb ws.length D rfl HM.out _ _ rfl HK.out ?_; intro cc hcat hcw; clear hcat hcw; rw [hh]) | (go_at_call 64; refine HSC.out.mono ?_; rintro e w' ⟨rfl, rfl⟩) | (go_at_call 52; refine HCN.out.mono ?_; rintro e w2 ⟨v, rfl, hfv, hov⟩))
  go_ret2
  refine ⟨v, rfl, ?_, HO1.out.trans (hov.mono (by simp)), HD1.out.only hov (by simp) (by simp)⟩
  rw [HSE.out]
  exact HFR.out _ _ _ hfv

theorem dread_ok (n : Nat) (h1 : n < N) (hr0 : 0 ≤ rd) (hr1 : rd < 9223372036854775807) :
    Calls Try.prog 41 #[.pointer (some ⟨g, 0, none⟩), .int .i64 n] w fun e w' => DidRead w w' e g pb pc mb pr pv D N plat ws left rd wt fl n := by
  rcases last_or ws n with ⟨i, x, hx, hs, hl⟩ | hn
  · exact dread_last h n i x h1 hx hs hl hr0 hr1
  · exact dread_none h n h1 hn hr0 hr1
end
end Go.Proofs.Ytokdpldmoflnkaa
/-
  Flush of parapet/disk.
-/
namespace Go.Proofs.Ytokdpldmoflnkaa
open Go.ChangeShapes Go.WideShapes Go.ChangeAt Go.RowKit Go.Maps
set_option linter.unusedVariables false

theorem size_u8d : (Try.prog.info? 5).map (·.size) = some 1 := by kernel_rfl

/-- A write's bytes laid over a platter; all of them, in order. -/
def lay1 (plat : List Int) (p : Nat × List Int) : List Int := Go.splice plat (512 * p.1) p.2
def layAll (plat : List Int) (l : List (Nat × List Int)) : List Int := l.foldl lay1 plat

theorem step_copy_run {P : Program} {ops : Array Oper} {o : Oper} {a : Act} {w : World} {K : Act → World → Prop} {Q : Exit → Act → World → Prop} {E : Prop} (hgd : o.guard = none) (d s : Operand) (dT sT : TypeId)
    (ho : o.op = .call { callee := .builtin .copy, args := #[d, s], argTypes := #[dT, sT] }) (dv sv : Value) (hd : a.eval d = dv) (hs : a.eval s = sv) (v : Value) (w' : World)
    (hrun : (Builtin.copy_ #[dT, sT] o.type #[dv, sv]).run P w = .ok v w') (h : K (a.put o.dst v) w') :
    if Region.wanted o (yielded ops a.tmps) = true then Oper.wp P o a w K Q else E := by
  have hw : Region.wanted o (yielded ops a.tmps) = true := by simp [Region.wanted, hgd]
  rw [if_pos hw]
  unfold Oper.wp
  simp [execOp, ho, resolve, invoke, builtin, hd, hs, hrun, Result.andThen]
  exact h

theorem step_copy_ex {P : Program} {ops : Array Oper} {o : Oper} {a : Act} {w : World} {K : Act → World → Prop} {Q : Exit → Act → World → Prop} {E : Prop} (hgd : o.guard = none) (d s : Operand) (dT sT : TypeId)
    (ho : o.op = .call { callee := .builtin .copy, args := #[d, s], argTypes := #[dT, sT] }) (dv sv : Value) (hd : a.eval d = dv) (hs : a.eval s = sv) (v : Value) (R : World → Prop)
    (hrun : ∃ w', (∀ ty, (Builtin.copy_ #[dT, sT] ty #[dv, sv]).run P w = .ok v w') ∧ R w') (h : ∀ w', R w' → K (a.put o.dst v) w') :
    if Region.wanted o (yielded ops a.tmps) = true then Oper.wp P o a w K Q else E := by
  obtain ⟨w', hr, hR⟩ := hrun
  exact step_copy_run hgd d s dT sT ho dv sv hd hs v w' (hr _) (h w' hR)

section
variable {w : World} {g pb pc mb : Nat} {pr : List Value} {pv : Value} {D : DataW Unit} {N : Nat} {plat : List Int} {ws : List WR} {left rd wt fl : Int} (h : IsDisk w g pb pc mb pr pv D N plat ws left rd wt fl)
include h

theorem pb_ne : pb ≠ g ∧ pb ≠ mb ∧ (∀ k, pv.ownBlock = some k → k ≠ pb) :=
  ⟨(h.str.ne_ h.row (by decide)).symm, fun e => (mb_ne h).2.1 e.symm, fun k hk => (pv_ne h hk).2.1⟩

/-- The platter alone has turned. The data blocks of the writes are others. -/
theorem IsDisk.replat {w' : World} {plat' : List Int} (ho : Only [pb] w w') (hr : Blk w' pb 5 (u8l plat' ++ pr).toArray) (hl : plat'.length = 512 * N) (hu : U8 plat') (hx : ∀ x ∈ ws, x.blk ≠ pb) : IsDisk w' g pb pc mb pr pv D N plat' ws left rd wt fl := by
  obtain ⟨h1, h2, h3⟩ := pb_ne h
  exact ⟨h.str.only ho (by simpa using h1.symm), hr, hl, h.cap, h.pos, h.big, hu, ownsRow_only h.own ho (fun k hk => by simpa using h3 k hk), fun x hx' => (h.wok x hx').only ho (by simpa using hx x hx'), ownsMap_only h.map ho (by simpa using h2.symm), h.last, h.few⟩

theorem run_copy_disk (n : Nat) (hn : n < N) (hx : ∀ x ∈ ws, x.blk ≠ pb) (sLen sCap : Nat) (hs : sLen ≤ 512) (ad : Addr) (ys : List Int) (hy : ys.length = sLen) (hu : U8 ys) (hc : ∀ j, j < ys.length → w.cell? (ad.add j) = some (.int .u8 (gb ys j))) :
    ∃ w1, (∀ ty, (Builtin.copy_ #[46, 46] ty #[.slice (some ⟨pb, 512 * n, none⟩) 512 512, .slice (some ad) sLen sCap]).run Try.prog w = .ok (goInt ys.length) w1) ∧ Only [pb] w w1 ∧ IsDisk w1 g pb pc mb pr pv D N (Go.splice plat (512 * n) ys) ws left rd wt fl := by
  have hfit : 512 * n + ys.length ≤ plat.length := by rw [h.len]; omega
  have hl : (Go.splice plat (512 * n) ys).length = plat.length := length_splice plat _ ys hfit
  have hrun := fun ty => run_copy_row (P := Try.prog) w 46 46 ty 5 pb (512 * n) 512 512 ad sLen sCap _ 5 (u8l ys) Try.underlying46 size_u8d h.row (by rw [u8l_length, hy]; simp [Nat.min_def]; omega) (by
    intro j v hj
    have hjn : j < ys.length := by
      have := (List.getElem?_eq_some_iff.1 hj).1
      rw [u8l_length] at this
      exact this
    rw [hc j hjn]
    have e : (u8l ys)[j]? = some (Value.int .u8 (gb ys j)) := by simp [u8l, gb, List.getD, List.getElem?_eq_getElem hjn]
    rw [e] at hj
    exact hj) (by simp [u8l]; omega) (u8l_one _)
  have ho : Only [pb] w (w.setRow pb ((u8l plat ++ pr).toArray.toList.take (512 * n) ++ u8l ys ++ (u8l plat ++ pr).toArray.toList.drop (512 * n + (u8l ys).length)).toArray) := (Only.refl _ _).setRow _ (by simp)
  refine ⟨_, fun ty => by rw [← u8l_length ys]; exact hrun ty, ho, ?_⟩
  refine h.replat ho ?_ (by rw [hl, h.len]) (h.u8.splice hu _) hx
  have e : (u8l plat ++ pr).toArray.toList.take (512 * n) ++ u8l ys ++ (u8l plat ++ pr).toArray.toList.drop (512 * n + (u8l ys).length) = u8l (Go.splice plat (512 * n) ys) ++ pr := by
    have h1 : 512 * n ≤ (u8l plat).length := by rw [u8l_length]; omega
    have h2 : 512 * n + (u8l ys).length ≤ (u8l plat).length := by rw [u8l_length, u8l_length]; omega
    show (u8l plat ++ pr).take (512 * n) ++ u8l ys ++ (u8l plat ++ pr).drop (512 * n + (u8l ys).length) = _
    rw [List.take_append_of_le_length h1, List.drop_append_of_le_length h2]
    simp [u8l, Go.splice, List.map_take, List.map_drop]
  rw [e]
  exact h.row.row _

theorem IsDisk.alloc (o : Obj) : IsDisk (w.alloc o) g pb pc mb pr pv D N plat ws left rd wt fl := h.only ((Only.refl [] w).alloc o) (by simp) (by simp)

theorem dflush_off (hl : left = 0) : Calls Try.prog 82 #[.pointer (some ⟨g, 0, none⟩)] w fun e w' => e = .returned (.int .i64 0) ∧ w = w' := by
  have HC := hide (dclosed_is h)
  have HS := hide (dspend_no h hl)
  clear h hl
  go_enter Try.func82, Try.ntmps82
  go_wp2_with (first | (go_at_call 62; refine HC.out.mono ?_; rintro e w' ⟨rfl, rfl⟩) | (go_at_call 89; refine HS.out.mono ?_; rintro e w' ⟨rfl, rfl⟩))
  go_ret
  exact ⟨rfl, rfl⟩

omit h in
/-- The loop that lays writes down, behind k of them. -/
def LayRel (g pb pc mb : Nat) (pr : List Value) (pv : Value) (D : DataW Unit) (N : Nat) (plat : List Int) (ws : List WR) (left rd wt fl : Int) (w0 : World) (i : Value) (wr : World) : Prop :=
  ∃ k : Nat, k ≤ ws.length ∧ i = .int .i64 k ∧ Only [pb] w0 wr ∧ IsDisk wr g pb pc mb pr pv D N (layAll plat ((ofW ws).take k)) ws left rd wt fl

omit h in
theorem layAll_snoc (plat : List Int) (ws : List WR) (k : Nat) (x : WR) (hx : ws[k]? = some x) : layAll plat ((ofW ws).take (k + 1)) = Go.splice (layAll plat ((ofW ws).take k)) (512 * x.sec) x.data := by
  have hk : k < (ofW ws).length := by rw [ofW, List.length_map]; exact (List.getElem?_eq_some_iff.1 hx).1
  have e : (ofW ws)[k] = (x.sec, x.data) := by
    have h1 := (List.getElem?_eq_some_iff.1 hx).2
    simp [ofW, h1]
  rw [List.take_succ_eq_append_getElem hk, layAll, List.foldl_append, e]
  rfl

set_option maxRecDepth 100000 in
set_option maxHeartbeats 1000000 in
theorem dflush_do (hl : left ≠ 0) (hm : left ≤ 9223372036854775807) (hf0 : 0 ≤ fl) (hf1 : fl < 9223372036854775807) (hx : ∀ x ∈ ws, x.blk ≠ pb) :
    Calls Try.prog 82 #[.pointer (some ⟨g, 0, none⟩)] w fun e w' => e = .returned (.int .i64 ws.length) ∧ Only [g, pb, mb] w w' ∧ IsDisk w' g pb pc mb pr (.slice none 0 0) (.map []) N (layAll plat (ofW ws)) [] (lessv left) rd wt (fl + 1) := by
  have HC := hide (dclosed_is h)
  have HS := hide (dspend_yes h hl hm)
  have HX := hide hx
  clear h hl hm hx
  go_enter Try.func82, Try.ntmps82
  go_wp2_with (go_at_call 62; refine HC.out.mono ?_; rintro e w' ⟨rfl, rfl⟩)
  refine HS.out.mono ?_
  rintro e w1 ⟨rfl, ho1, hd1⟩
  have hc6 := hd1.c6
  have hf6 := hd1.str.frozen 6
  have ho2 : Only [g] w1 (w1.setCell ⟨g, 6, none⟩ (.int .i64 (fl + 1))) := (Only.refl _ _).setCell _ (by simp)
  have HD2 := hide (hd1.restr (fl' := fl + 1) ho2 (hd1.str.set_ 6 _))
  have HO2 := hide (ho1.trans ho2)
  obtain ⟨A, cap, rfl, hp⟩ := pend_form HD2.out
  have hc1 := HD2.out.c1
  have HP := hide hp
  clear ho1 hd1 ho2 HS hp
  go_wp2
  clear hc6 hf6 hc1
  revert HD2 HO2 HP
  generalize w1.setCell ⟨g, 6, none⟩ (.int .i64 (fl + 1)) = w2
  intro HO2 HD2 HP
  have hps := (pb_ne HD2.out).2.2
  have HPS := hide hps
  clear hps
  have hfew : ws.length ≤ 9223372036854775807 := by have := HD2.out.few; omega
  go_loopw [30] (fun i wr => LayRel g pb pc mb pr (.slice A ws.length cap) D N plat ws (lessv left) rd wt (fl + 1) w2 i wr) (fun i _ => ws.length - (intOf i).toNat)
  case atStart => exact ⟨0, Nat.zero_le _, rfl, Only.refl _ _, HD2.out⟩
  case round =>
    obtain ⟨k, hk, rfl, ho, hd⟩ := hrel
    have HO := hide ho
    have HD := hide hd
    by_cases hlt : k < ws.length
    · obtain ⟨b, rfl, hbl, hcs⟩ := HP.out (by omega)
      obtain ⟨x, hx⟩ : ∃ x, ws[k]? = some x := ⟨_, List.getElem?_eq_getElem hlt⟩
      have hbp := HPS.out b rfl
      obtain ⟨p0, p1⟩ := hcs k x hx
      have e0 := (ho.cell hbl (by simpa using hbp)).trans p0
      have e1 := (ho.cell hbl (by simpa using hbp)).trans p1
      have hmem : x ∈ ws := List.mem_iff_getElem?.2 ⟨k, hx⟩
      have HSN := hide (layAll_snoc plat ws k x hx)
      have HDS := hide (fun w' (q : Only [] wr w') => dsector_is (hd.only q (by simp) (by simp)) x.sec (hd.wok x hmem).sec)
      have HCP := hide (fun w' (q : Only [] wr w') => (by
        have hw := (hd.wok x hmem).only q (by simp)
        obtain ⟨w3, h1, h2, h3⟩ := run_copy_disk (hd.only q (by simp) (by simp)) x.sec hw.sec HX.out 512 (512 + x.rest.length) (Nat.le_refl _) ⟨x.blk, 0, none⟩ x.data hw.len hw.u8 (fun j hj => by rw [add_at, Nat.zero_add, hw.row.cell]; exact u8l_get _ _ j hj)
        exact ⟨w3, h1, (q.mono (by simp)).trans h2, h3⟩ :
          ∃ w3, (∀ ty, (Builtin.copy_ #[46, 46] ty #[.slice (some ⟨pb, 512 * x.sec, none⟩) 512 512, .slice (some ⟨x.blk, 0, none⟩) 512 (512 + x.rest.length)]).run Try.prog w' = .ok (goInt x.data.length) w3) ∧
            Only [pb] wr w3 ∧ IsDisk w3 g pb pc mb pr (.slice (some ⟨b, 0, none⟩) ws.length cap) D N (Go.splice (layAll plat ((ofW ws).take k)) (512 * x.sec) x.data) ws (lessv left) rd wt (fl + 1)))
      clear ho hd hcs p0 p1 hx hbp hmem
      go_wp2
      go_region_law (first | (refine step_copy_ex rfl _ _ _ _ rfl _ _ rfl rfl _ _ (HCP.out _ (by repeat (first | exact Only.refl _ _ | apply Only.drew | apply Only.alloc | apply Only.setCell))) ?_; rintro w3 ⟨ho3, hd3⟩) | (go_simp; go_at_call 64; refine (HDS.out _ (by repeat (first | exact Only.refl _ _ | apply Only.drew | apply Only.alloc | apply Only.setCell))).mono ?_; rintro e w' ⟨rfl, rfl⟩))
      all_goals
        have HD3 := hide hd3
        have HO3 := hide ho3
        clear hd3 ho3
        go_wp2
        go_roundw
        case rel => exact ⟨k + 1, hlt, by go_num, HO.out.trans HO3.out, by rw [HSN.out]; exact HD3.out⟩
        case measure => simp [intOf]; omega
    · obtain rfl : k = ws.length := by omega
      have hlw : (ofW ws).take ws.length = ofW ws := List.take_of_length_le (by simp [ofW])
      rw [hlw] at hd
      have HFG := hide (dforget_is hd)
      have HOO := hide (HO2.out.mono (S' := [g, pb, mb]) (by intro k _ hk; simp at hk ⊢; omega) |>.trans (ho.mono (by intro k _ hk; simp at hk ⊢; omega)))
      clear hd ho hlw HD
      go_wp2_with (go_at_call 90; refine HFG.out.mono ?_; rintro e w5 ⟨rfl, ho5, hd5⟩; have HF5 := hide (And.intro ho5 hd5); clear ho5 hd5)
      go_ret
      exact ⟨rfl, HOO.out.trans (HF5.out.1.mono (by intro k _ hk; simp at hk ⊢; omega)), HF5.out.2⟩
end
end Go.Proofs.Ytokdpldmoflnkaa
/-
  Crash of parapet/disk.
-/
namespace Go.Proofs.Ytokdpldmoflnkaa
open Go.ChangeShapes Go.WideShapes Go.ChangeAt Go.RowKit Go.Maps
set_option linter.unusedVariables false

/-- A list of api.Torn as it lies in memory: places and numbers of bytes. -/
def Torns (w : World) (A : Option Addr) (m : Nat) (l : List (Int × Int)) : Prop :=
  l.length = m ∧ (0 < m → ∃ b o, A = some ⟨b, o, none⟩ ∧ b < w.heap.size ∧ ∀ (i : Nat) (p : Int × Int), l[i]? = some p → w.cell? ⟨b, o + i * 2, none⟩ = some (.int .i64 p.1) ∧ w.cell? ⟨b, o + i * 2 + 1, none⟩ = some (.int .i64 p.2))
theorem Torns.only {w w' : World} {A : Option Addr} {m : Nat} {l : List (Int × Int)} {S : List Nat} (h : Torns w A m l) (ho : Only S w w') (hs : 0 < m → ∀ b, A = some b → b.block < w.heap.size → b.block ∉ S) : Torns w' A m l := by
  refine ⟨h.1, fun hm => ?_⟩
  obtain ⟨b, o, rfl, hb, hc⟩ := h.2 hm
  exact ⟨b, o, rfl, Nat.lt_of_lt_of_le hb ho.size, fun i p hp => ⟨(ho.cell hb (hs hm _ rfl hb)).trans (hc i p hp).1, (ho.cell hb (hs hm _ rfl hb)).trans (hc i p hp).2⟩⟩

/-- May a crash keep these? -/
def keepB (n : Nat) : Int → List (Int × Int) → Bool
  | _, [] => true
  | least, p :: r => decide (least ≤ p.1 ∧ p.1 < n ∧ 1 ≤ p.2 ∧ p.2 ≤ 512) && keepB n (p.1 + 1) r

theorem keep_drop {l : List (Int × Int)} {i : Nat} {p : Int × Int} (hp : l[i]? = some p) : l.drop i = p :: l.drop (i + 1) := by
  have hi : i < l.length := (List.getElem?_eq_some_iff.1 hp).1
  rw [List.drop_eq_getElem_cons hi, (List.getElem?_eq_some_iff.1 hp).2]

section
variable {w : World} {g pb pc mb : Nat} {pr : List Value} {pv : Value} {D : DataW Unit} {N : Nat} {plat : List Int} {ws : List WR} {left rd wt fl : Int} (h : IsDisk w g pb pc mb pr pv D N plat ws left rd wt fl)
include h

omit h in
def KeepRel (w0 : World) (m n : Nat) (l : List (Int × Int)) (least i : Value) (wr : World) : Prop :=
  ∃ (k : Nat) (z : Int), k ≤ m ∧ i = .int .i64 k ∧ 0 ≤ z ∧ least = .int .i64 z ∧ keepB n z (l.drop k) = keepB n 0 l ∧ Only [] w0 wr



omit h in
theorem keep_valid {n : Nat} {l : List (Int × Int)} : ∀ {z : Int}, keepB n z l = true → 0 ≤ z → ∀ (i : Nat) (p : Int × Int), l[i]? = some p → 0 ≤ p.1 ∧ p.1 < n ∧ 1 ≤ p.2 ∧ p.2 ≤ 512 := by
  induction l with
  | nil => intro z _ _ i p hp; simp at hp
  | cons q r ih =>
    intro z hk hz i p hp
    simp only [keepB, Bool.and_eq_true, decide_eq_true_eq] at hk
    obtain ⟨⟨h1, h2, h3, h4⟩, hr⟩ := hk
    cases i with
    | zero => simp at hp; subst hp; exact ⟨by omega, h2, h3, h4⟩
    | succ i => rw [List.getElem?_cons_succ] at hp; exact ih hr (by omega) i p hp

omit h in
/-- What a crash lays down of the write at a place. -/
def crash1 (l : List (Nat × List Int)) (plat : List Int) (p : Int × Int) : List Int :=
  match l[p.1.toNat]? with
  | some x => Go.splice plat (512 * x.1) (x.2.take p.2.toNat)
  | none => plat
omit h in
def crashAll (plat : List Int) (l : List (Nat × List Int)) (t : List (Int × Int)) : List Int := t.foldl (crash1 l) plat
omit h in
theorem crash_snoc (plat : List Int) (ws : List WR) (t : List (Int × Int)) (k : Nat) (p : Int × Int) (hp : t[k]? = some p) (x : WR) (hx : ws[p.1.toNat]? = some x) :
    crashAll plat (ofW ws) (t.take (k + 1)) = Go.splice (crashAll plat (ofW ws) (t.take k)) (512 * x.sec) (x.data.take p.2.toNat) := by
  have hk : k < t.length := (List.getElem?_eq_some_iff.1 hp).1
  rw [List.take_succ_eq_append_getElem hk, crashAll, List.foldl_append, (List.getElem?_eq_some_iff.1 hp).2]
  have e : (ofW ws)[p.1.toNat]? = some (x.sec, x.data) := by simp [ofW, hx]
  simp only [List.foldl_cons, List.foldl_nil, crash1, e]
  rfl

omit h in
def CrashRel (g pb pc mb : Nat) (pr : List Value) (pv : Value) (D : DataW Unit) (N : Nat) (plat : List Int) (ws : List WR) (left rd wt fl : Int) (w0 : World) (m : Nat) (t : List (Int × Int)) (i : Value) (wr : World) : Prop :=
  ∃ k : Nat, k ≤ m ∧ i = .int .i64 k ∧ Only [pb] w0 wr ∧ IsDisk wr g pb pc mb pr pv D N (crashAll plat (ofW ws) (t.take k)) ws left rd wt fl



end
end Go.Proofs.Ytokdpldmoflnkaa
