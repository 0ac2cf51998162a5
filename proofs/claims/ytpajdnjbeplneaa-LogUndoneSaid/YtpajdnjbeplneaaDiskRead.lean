/-
  Read of parapet/disk.
-/
import Derived.Test.YtpajdnjbeplneaaDiskWrite
import Derived.Maps.OwnOps
namespace Go.Proofs.Ytpajdnjbeplneaa
open Go.ChangeShapes Go.WideShapes Go.ChangeAt Go.RowKit Go.Maps
set_option linter.unusedVariables false

/-- What a sector says: its last pending write, or the platter. -/
def sect (plat : List Int) (l : List (Nat × List Int)) (n : Nat) : List Int := l.foldl (fun acc p => if p.1 = n then p.2 else acc) ((plat.drop (512 * n)).take 512)
def ofW (ws : List WR) : List (Nat × List Int) := ws.map fun x => (x.sec, x.data)

theorem last_or (ws : List WR) (n : Nat) : (∃ i, IsLast ws n i) ∨ ∀ (i : Nat) (x : WR), ws[i]? = some x → x.sec ≠ n := by
  have key : ∀ m, m ≤ ws.length → (∃ i x, i < m ∧ ws[i]? = some x ∧ x.sec = n ∧ ∀ (j : Nat) (y : WR), i < j → j < m → ws[j]? = some y → y.sec ≠ n) ∨ ∀ (i : Nat) (x : WR), i < m → ws[i]? = some x → x.sec ≠ n := by
    intro m
    induction m with
    | zero => exact fun _ => .inr fun i x hi => absurd hi (by omega)
    | succ m ih =>
      intro hm
      obtain ⟨x, hx⟩ : ∃ x, ws[m]? = some x := ⟨_, List.getElem?_eq_getElem (by omega)⟩
      by_cases hs : x.sec = n
      · exact .inl ⟨m, x, by omega, hx, hs, fun j y h1 h2 => absurd h1 (by omega)⟩
      · rcases ih (by omega) with ⟨i, y, hi, hy, hyn, hl⟩ | hn
        · refine .inl ⟨i, y, by omega, hy, hyn, fun j z h1 h2 hz => ?_⟩
          by_cases hj : j = m
          · subst hj; rw [hx] at hz; injection hz with hz; subst hz; exact hs
          · exact hl j z h1 (by omega) hz
        · refine .inr fun i y hi hy => ?_
          by_cases hj : i = m
          · subst hj; rw [hx] at hy; injection hy with hy; subst hy; exact hs
          · exact hn i y (by omega) hy
  rcases key ws.length (Nat.le_refl _) with ⟨i, x, _, hx, hs, hl⟩ | hn
  · exact .inl ⟨i, x, hx, hs, fun j y h1 hy => hl j y h1 (List.getElem?_eq_some_iff.1 hy).1 hy⟩
  · exact .inr fun i x hx => hn i x (List.getElem?_eq_some_iff.1 hx).1 hx

theorem sect_skip (l : List (Nat × List Int)) (n : Nat) (acc : List Int) (h : ∀ p ∈ l, p.1 ≠ n) : l.foldl (fun acc p => if p.1 = n then p.2 else acc) acc = acc := by
  induction l generalizing acc with
  | nil => rfl
  | cons p r ih =>
    rw [List.foldl_cons, if_neg (h p (by simp))]
    exact ih acc fun q hq => h q (by simp [hq])
theorem sect_none (plat : List Int) (ws : List WR) (n : Nat) (h : ∀ (i : Nat) (x : WR), ws[i]? = some x → x.sec ≠ n) : sect plat (ofW ws) n = (plat.drop (512 * n)).take 512 := by
  refine sect_skip _ _ _ fun p hp => ?_
  obtain ⟨x, hx, rfl⟩ := List.mem_map.1 hp
  obtain ⟨i, hi⟩ := List.mem_iff_getElem?.1 hx
  exact h i x hi
theorem sect_last (plat : List Int) (ws : List WR) (n i : Nat) (x : WR) (hx : ws[i]? = some x) (hs : x.sec = n) (hl : ∀ (j : Nat) (y : WR), i < j → ws[j]? = some y → y.sec ≠ n) : sect plat (ofW ws) n = x.data := by
  have hi : i < ws.length := (List.getElem?_eq_some_iff.1 hx).1
  have hxi : ws[i] = x := (List.getElem?_eq_some_iff.1 hx).2
  have e : ws = ws.take i ++ (x :: ws.drop (i + 1)) := by rw [← hxi, ← List.drop_eq_getElem_cons hi, List.take_append_drop]
  unfold sect ofW
  rw [e, List.map_append, List.foldl_append, List.map_cons, List.foldl_cons, if_pos hs]
  refine sect_skip _ _ _ fun p hp => ?_
  obtain ⟨y, hy, rfl⟩ := List.mem_map.1 hp
  obtain ⟨j, hj⟩ := List.mem_iff_getElem?.1 hy
  rw [List.getElem?_drop] at hj
  exact hl (i + 1 + j) y (by omega) hj

section
variable {w : World} {g pb pc mb : Nat} {pr : List Value} {pv : Value} {D : DataW Unit} {N : Nat} {plat : List Int} {ws : List WR} {left rd wt fl : Int} (h : IsDisk w g pb pc mb pr pv D N plat ws left rd wt fl)
include h

theorem dread_bad (n : Int) (hn : n < 0 ∨ N ≤ n) : Calls Try.prog 49 #[.pointer (some ⟨g, 0, none⟩), .int .i64 n] w fun e w' => e = .returned (.tuple #[.slice none 0 0, .int .i64 20]) ∧ w = w' := by
  have HC := hide (dclosed_is h)
  have HH := hide (dhas_no h n hn)
  clear h hn
  go_enter Try.func49, Try.ntmps49
  go_wp2_with (first | (go_at_call 65; refine HC.out.mono ?_; rintro e w' ⟨rfl, rfl⟩) | (go_at_call 69; refine HH.out.mono ?_; rintro e w' ⟨rfl, rfl⟩))
  go_ret2
  exact ⟨rfl, rfl⟩

omit h in
theorem zero_int (w : World) : (zeroValue 3).run Try.prog w = .ok (.int .i64 0) w := by kernel_rfl

omit h in
theorem Fresh.mono {w' : World} {B B' : Nat} (hB : B' ≤ B) {v : Value} {xs : List Int} (h : Fresh w' B v xs) : Fresh w' B' v xs := by
  obtain ⟨d, c, r, e, h1, h2, h3⟩ := h
  exact ⟨d, c, r, e, Nat.le_trans hB h1, h2, h3⟩

/-- What a read leaves. -/
def DidRead (w w' : World) (e : Ending) (g pb pc mb : Nat) (pr : List Value) (pv : Value) (D : DataW Unit) (N : Nat) (plat : List Int) (ws : List WR) (left rd wt fl : Int) (n : Nat) : Prop :=
  ∃ v, e = .returned (.tuple #[v, .int .i64 0]) ∧ Fresh w' w.heap.size v (sect plat (ofW ws) n) ∧ Only [g] w w' ∧ IsDisk w' g pb pc mb pr pv D N plat ws left (rd + 1) wt fl

set_option maxRecDepth 100000 in
theorem dread_last (n i : Nat) (x : WR) (h1 : n < N) (hx : ws[i]? = some x) (hs : x.sec = n) (hl : ∀ (j : Nat) (y : WR), i < j → ws[j]? = some y → y.sec ≠ n) (hr0 : 0 ≤ rd) (hr1 : rd < 9223372036854775807) :
    Calls Try.prog 49 #[.pointer (some ⟨g, 0, none⟩), .int .i64 n] w fun e w' => DidRead w w' e g pb pc mb pr pv D N plat ws left rd wt fl n := by
  have HC := hide (dclosed_is h)
  have HH := hide (dhas_yes h n (by omega) (by omega))
  have HSE := hide (sect_last plat ws n i x hx hs hl)
  obtain ⟨hh, hat⟩ := h.last.2.1 n i ⟨x, hx, hs, hl⟩
  have HWN := hide (show (Lit.int .i64 (n : Int)).wf = true from WalkArith.wf_i64 (by have := h.big; omega))
  have HAT := hide hat
  have ho1 : Only [g] w (w.setCell ⟨g, 4, none⟩ (.int .i64 (rd + 1))) := (Only.refl _ _).setCell _ (by simp)
  have hc4 := h.c4
  have hf4 := h.str.frozen 4
  have HD1 := hide (h.restr (rd' := rd + 1) ho1 (h.str.set_ 4 _))
  have HO1 := hide ho1
  have hil : i < ws.length := (List.getElem?_eq_some_iff.1 hx).1
  have HX := hide hx
  obtain ⟨A, cap, rfl, hp⟩ := pend_form HD1.out
  obtain ⟨pvb, rfl, _, hcs⟩ := hp (by omega)
  obtain ⟨p0, p1⟩ := hcs i x hx
  have hc2 := HD1.out.c2
  have hc1 := HD1.out.c1
  have HM := hide HD1.out.map
  have HK := hide (keyOf_int_mk (P := Try.prog) Try.underlying3 HWN.out)
  have HCN := hide (clone_ok ⟨x.blk, 0, none⟩ 512 (512 + x.rest.length) x.data (w.setCell ⟨g, 4, none⟩ (.int .i64 (rd + 1))) ((HD1.out.wok x (List.mem_iff_getElem?.2 ⟨i, hx⟩)).len) (by omega) (fun j hj => by
    have hw := HD1.out.wok x (List.mem_iff_getElem?.2 ⟨i, hx⟩)
    rw [add_at, Nat.zero_add, hw.row.cell]
    exact u8l_get _ _ j (by rw [hw.len]; exact hj)))
  have HFR := hide (fun v xs w' => Fresh.mono (w' := w') (v := v) (xs := xs) (B := (w.setCell ⟨g, 4, none⟩ (.int .i64 (rd + 1))).heap.size) (B' := w.heap.size) (by simp [World.setCell]))
  clear h hat ho1 hl hs hp hcs hx
  go_enter Try.func49, Try.ntmps49
  go_wp2_with (first | (go_at_call 65; refine HC.out.mono ?_; rintro e w' ⟨rfl, rfl⟩) | (go_at_call 69; refine HH.out.mono ?_; rintro e w' ⟨rfl, rfl⟩) | (at_lookup; refine wpList_lookup_own_ok_int _ rfl _ _ 107 rfl 3 3 .i64 (int_keyed Try.underlying3) Try.underlying107 Try.underlying3 (zero_int _) mb ws.length D rfl HM.out _ _ rfl HK.out ?_; intro cc hcat hcw; obtain rfl : cc = (i : Int) := (by have := HAT.out.symm.trans hcat; injection this with this; injection this with _ this; exact this.symm); clear hcat hcw; rw [hh]) | (go_at_call 46; refine HCN.out.mono ?_; rintro e w2 ⟨v, rfl, hfv, hov⟩))
  go_ret2
  refine ⟨v, rfl, ?_, HO1.out.trans (hov.mono (by simp)), HD1.out.only hov (by simp) (by simp)⟩
  rw [HSE.out]
  exact HFR.out _ _ _ hfv

set_option maxRecDepth 100000 in
theorem dread_none (n : Nat) (h1 : n < N) (hn : ∀ (i : Nat) (x : WR), ws[i]? = some x → x.sec ≠ n) (hr0 : 0 ≤ rd) (hr1 : rd < 9223372036854775807) :
    Calls Try.prog 49 #[.pointer (some ⟨g, 0, none⟩), .int .i64 n] w fun e w' => DidRead w w' e g pb pc mb pr pv D N plat ws left rd wt fl n := by
  have HC := hide (dclosed_is h)
  have HH := hide (dhas_yes h n (by omega) (by omega))
  have HSE := hide (sect_none plat ws n hn)
  have hh := h.last.2.2 n hn
  have HWN := hide (show (Lit.int .i64 (n : Int)).wf = true from WalkArith.wf_i64 (by have := h.big; omega))
  have ho1 : Only [g] w (w.setCell ⟨g, 4, none⟩ (.int .i64 (rd + 1))) := (Only.refl _ _).setCell _ (by simp)
  have hc4 := h.c4
  have hf4 := h.str.frozen 4
  have HD1 := hide (h.restr (rd' := rd + 1) ho1 (h.str.set_ 4 _))
  have HO1 := hide ho1
  have hc2 := HD1.out.c2
  have HM := hide HD1.out.map
  have HK := hide (keyOf_int_mk (P := Try.prog) Try.underlying3 HWN.out)
  have HSC := hide (dsector_is HD1.out n h1)
  have HCN := hide (clone_ok ⟨pb, 512 * n, none⟩ 512 512 ((plat.drop (512 * n)).take 512) (w.setCell ⟨g, 4, none⟩ (.int .i64 (rd + 1))) (by have := h.len; simp; omega) (by omega) (fun j hj => by
    rw [add_at, HD1.out.row.cell, gb_cut _ _ _ _ hj]
    exact u8l_get _ _ _ (by have := h.len; omega)))
  have HFR := hide (fun v xs w' => Fresh.mono (w' := w') (v := v) (xs := xs) (B := (w.setCell ⟨g, 4, none⟩ (.int .i64 (rd + 1))).heap.size) (B' := w.heap.size) (by simp [World.setCell]))
  clear h ho1 hn
  go_enter Try.func49, Try.ntmps49
  go_wp2_with (first | (go_at_call 65; refine HC.out.mono ?_; rintro e w' ⟨rfl, rfl⟩) | (go_at_call 69; refine HH.out.mono ?_; rintro e w' ⟨rfl, rfl⟩) | (at_lookup; refine wpList_lookup_own_ok_int _ rfl _ _ 107 rfl 3 3 .i64 (int_keyed Try.underlying3) Try.underlying107 Try.underlying3 (zero_int _) mb ws.length D rfl HM.out _ _ rfl HK.out ?_; intro cc hcat hcw; clear hcat hcw; rw [hh]) | (go_at_call 70; refine HSC.out.mono ?_; rintro e w' ⟨rfl, rfl⟩) | (go_at_call 46; refine HCN.out.mono ?_; rintro e w2 ⟨v, rfl, hfv, hov⟩))
  go_ret2
  refine ⟨v, rfl, ?_, HO1.out.trans (hov.mono (by simp)), HD1.out.only hov (by simp) (by simp)⟩
  rw [HSE.out]
  exact HFR.out _ _ _ hfv

theorem dread_ok (n : Nat) (h1 : n < N) (hr0 : 0 ≤ rd) (hr1 : rd < 9223372036854775807) :
    Calls Try.prog 49 #[.pointer (some ⟨g, 0, none⟩), .int .i64 n] w fun e w' => DidRead w w' e g pb pc mb pr pv D N plat ws left rd wt fl n := by
  rcases last_or ws n with ⟨i, x, hx, hs, hl⟩ | hn
  · exact dread_last h n i x h1 hx hs hl hr0 hr1
  · exact dread_none h n h1 hn hr0 hr1
end
end Go.Proofs.Ytpajdnjbeplneaa
