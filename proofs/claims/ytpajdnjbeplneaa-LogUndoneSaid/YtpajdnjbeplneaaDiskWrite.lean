/-
  Write of parapet/disk.
-/
import Derived.Test.YtpajdnjbeplneaaDiskMake
import Derived.StillTailTactics
import Derived.Deep.RegionHeld3
import Derived.Deep.AppendLies
namespace Go.Proofs.Ytpajdnjbeplneaa
open Go.ChangeShapes Go.WideShapes Go.ChangeAt Go.RowKit Go.Maps
set_option linter.unusedVariables false

/-- What a write that is done leaves. -/
def Wrote (w w' : World) (g pb pc mb : Nat) (pr : List Value) (pv : Value) (N : Nat) (plat : List Int) (ws : List WR) (left rd wt fl : Int) (n : Nat) (zs : List Int) : Prop :=
  ∃ pv' D' x, Only (foot g pb mb pv) w w' ∧ (∀ k, pv'.ownBlock = some k → pv.ownBlock = some k ∨ w.heap.size ≤ k) ∧ w.heap.size ≤ x.blk ∧ x.sec = n ∧ x.data = zs ∧
    IsDisk w' g pb pc mb pr pv' D' N plat (ws ++ [x]) (if 0 < left then left - 1 else left) rd (wt + 1) fl

/-- What is left behind one operation. -/
def lessv (left : Int) : Int := if 0 < left then left - 1 else left

section
variable {w : World} {g pb pc mb : Nat} {pr : List Value} {pv : Value} {D : DataW Unit} {N : Nat} {plat : List Int} {ws : List WR} {left rd wt fl : Int} (h : IsDisk w g pb pc mb pr pv D N plat ws left rd wt fl)
include h

theorem dspend_yes (h0 : left ≠ 0) (hm : left ≤ 9223372036854775807) : Calls Try.prog 92 #[.pointer (some ⟨g, 0, none⟩)] w fun e w' => e = .returned (.bool true) ∧ Only [g] w w' ∧ IsDisk w' g pb pc mb pr pv D N plat ws (lessv left) rd wt fl := by
  unfold lessv
  by_cases hp : 0 < left
  · rw [if_pos hp]; exact dspend_one h hp hm
  · rw [if_neg hp]; exact (dspend_free h (by omega)).mono fun e w' ⟨he, hw⟩ => ⟨he, hw ▸ Only.refl _ _, hw ▸ h⟩

theorem dwrite_sector (n : Int) (A : Option Addr) (m c : Nat) (hn : n < 0 ∨ N ≤ n) : Calls Try.prog 91 #[.pointer (some ⟨g, 0, none⟩), .int .i64 n, .slice A m c] w fun e w' => e = .returned (.int .i64 20) ∧ w = w' := by
  have HC := hide (dclosed_is h)
  have HH := hide (dhas_no h n hn)
  clear h hn
  go_enter Try.func91, Try.ntmps91
  go_wp2_with (first | (go_at_call 65; refine HC.out.mono ?_; rintro e w' ⟨rfl, rfl⟩) | (go_at_call 69; refine HH.out.mono ?_; rintro e w' ⟨rfl, rfl⟩))
  go_ret
  exact ⟨rfl, rfl⟩

theorem dwrite_len (n : Int) (A : Option Addr) (m c : Nat) (h0 : 0 ≤ n) (h1 : n < N) (hm : m ≠ 512) : Calls Try.prog 91 #[.pointer (some ⟨g, 0, none⟩), .int .i64 n, .slice A m c] w fun e w' => e = .returned (.int .i64 1) ∧ w = w' := by
  have HC := hide (dclosed_is h)
  have HH := hide (dhas_yes h n h0 h1)
  have h5 : ((m : Int) != 512) = true := by simp only [bne_iff_ne]; omega
  clear h hm
  go_enter Try.func91, Try.ntmps91
  go_wp2_with (first | (go_at_call 65; refine HC.out.mono ?_; rintro e w' ⟨rfl, rfl⟩) | (go_at_call 69; refine HH.out.mono ?_; rintro e w' ⟨rfl, rfl⟩))
  go_ret
  exact ⟨rfl, rfl⟩

theorem dwrite_off (n : Int) (A : Option Addr) (c : Nat) (h0 : 0 ≤ n) (h1 : n < N) (hl : left = 0) : Calls Try.prog 91 #[.pointer (some ⟨g, 0, none⟩), .int .i64 n, .slice A 512 c] w fun e w' => e = .returned (.int .i64 0) ∧ w = w' := by
  have HC := hide (dclosed_is h)
  have HH := hide (dhas_yes h n h0 h1)
  have HS := hide (dspend_no h hl)
  clear h hl
  go_enter Try.func91, Try.ntmps91
  go_wp2_with (first | (go_at_call 65; refine HC.out.mono ?_; rintro e w' ⟨rfl, rfl⟩) | (go_at_call 69; refine HH.out.mono ?_; rintro e w' ⟨rfl, rfl⟩) | (go_at_call 92; refine HS.out.mono ?_; rintro e w' ⟨rfl, rfl⟩))
  go_ret
  exact ⟨rfl, rfl⟩

omit h in
theorem only_grown {w w' : World} {row : Option Nat} (h : w.grownBy w' row) : Only row.toList w w' := Only.of_grown h (fun k hk _ => by simp [hk])
omit h in
theorem info_write : (Try.prog.info? 111).map (fun i => (i.zero, i.size, i.bytes)) = some (some (.agg #[.int .i64 0, .slice none 0 0]), 2, 32) := by kernel_rfl

omit h in
theorem pv_ne {w : World} {g pb pc mb : Nat} {pr : List Value} {pv : Value} {D : DataW Unit} {N : Nat} {plat : List Int} {ws : List WR} {left rd wt fl : Int} (h : IsDisk w g pb pc mb pr pv D N plat ws left rd wt fl) {k : Nat} (hk : pv.ownBlock = some k) :
    k ≠ g ∧ k ≠ pb ∧ k ≠ mb ∧ k < w.heap.size ∧ ∀ x ∈ ws, x.blk ≠ k := by
  rcases h.own.2 with ⟨e, _⟩ | ⟨k', cap', cur, e, _, hg, _⟩
  · rw [e] at hk; cases hk
  · rw [e] at hk
    simp [Value.ownBlock] at hk
    subst hk
    have hb : Blk w k' 111 cur := hg
    refine ⟨hb.ne_ h.str (by decide), hb.ne_ h.row (by decide), ?_, hb.lt, fun x hx => ((h.wok x hx).row.ne_ hb (by decide))⟩
    rintro rfl
    obtain ⟨es, clock, hm, _⟩ := h.map
    rw [hg] at hm
    cases hm
omit h in
theorem mb_ne {w : World} {g pb pc mb : Nat} {pr : List Value} {pv : Value} {D : DataW Unit} {N : Nat} {plat : List Int} {ws : List WR} {left rd wt fl : Int} (h : IsDisk w g pb pc mb pr pv D N plat ws left rd wt fl) :
    mb ≠ g ∧ mb ≠ pb ∧ mb < w.heap.size ∧ ∀ x ∈ ws, x.blk ≠ mb := by
  obtain ⟨es, clock, hm, _⟩ := h.map
  have key : ∀ {t : TypeId} {c : Array Value} {k : Nat}, Blk w k t c → k ≠ mb := by
    intro t c k hb e
    subst e
    unfold Blk at hb
    rw [hb] at hm
    cases hm
  exact ⟨(key h.str).symm, (key h.row).symm, (Array.getElem?_eq_some_iff.1 hm).1, fun x hx => key (h.wok x hx).row⟩
omit h in
theorem lasts_put {D : DataW Unit} {ws : List WR} (h : Lasts D ws) (x : WR) (hs : x.sec ≤ 4096) : Lasts (D.put (.int .i64 x.sec) (.lit (.int .i64 ws.length))) (ws ++ [x]) := by
  obtain ⟨hm, h1, h2⟩ := h
  have hk : ∀ n : Nat, WideAt.IsKeyLit (.int .i64 (n : Int)) := fun n => trivial
  have hne : ∀ n : Nat, n ≠ x.sec → (Lit.int .i64 (n : Int)) ≠ (Lit.int .i64 (x.sec : Int)) := fun n hn e => hn (by injection e with _ e; omega)
  refine ⟨hm.put _ _, fun n i ⟨y, hy, hyn, hlast⟩ => ?_, fun n hn => ?_⟩
  · by_cases hn : n = x.sec
    · subst hn
      have hi : i = ws.length := by
        have hil : i < (ws ++ [x]).length := (List.getElem?_eq_some_iff.1 hy).1
        rw [List.length_append, List.length_singleton] at hil
        by_cases hlt : i < ws.length
        · exact absurd rfl (hlast ws.length x hlt (by rw [List.getElem?_append_right (Nat.le_refl _)]; simp))
        · omega
      subst hi
      exact ⟨has_put_same hm (hk _) _, atKey_put_same hm (hk _) _ _⟩
    · rw [has_put_other (hne n hn), atKey_put_other (hne n hn)]
      refine h1 n i ?_
      have hil : i < (ws ++ [x]).length := (List.getElem?_eq_some_iff.1 hy).1
      rw [List.length_append, List.length_singleton] at hil
      by_cases hlt : i < ws.length
      · rw [List.getElem?_append_left hlt] at hy
        exact ⟨y, hy, hyn, fun j z hj hz => hlast j z hj (by rw [List.getElem?_append_left (List.getElem?_eq_some_iff.1 hz).1]; exact hz)⟩
      · have : i = ws.length := by omega
        subst this
        rw [List.getElem?_append_right (Nat.le_refl _)] at hy
        simp at hy
        subst hy
        exact absurd hyn.symm hn
  · have hx := hn ws.length x (by rw [List.getElem?_append_right (Nat.le_refl _)]; simp)
    rw [has_put_other (hne n hx.symm)]
    exact h2 n (fun i y hy => hn i y (by rw [List.getElem?_append_left (List.getElem?_eq_some_iff.1 hy).1]; exact hy))

omit h in
theorem dwrite_end {w2 w3 w4 w5 : World} {g pb pc mb : Nat} {pr : List Value} {pv : Value} {D : DataW Unit} {N : Nat} {plat : List Int} {ws : List WR} {left rd wt fl : Int} (hd : IsDisk w2 g pb pc mb pr pv D N plat ws left rd wt fl) (ho3 : Only [mb] w2 w3) (x : WR)
    (hm3 : w3.ownsMap Try.prog 3 (plainElem Try.prog 3) mb (ws.length + 1) (D.put (.int .i64 x.sec) (.lit (.int .i64 ws.length)))) (k4 : Only [] w3 w4) (hx : x.ok w4 N) (hxB : w2.heap.size ≤ x.blk) (k5 : Only pv.ownBlock.toList w4 w5) (pg pcap : Nat)
    (hown5 : w5.ownsRow 0 111 2 (.slice (some ⟨pg, 0, none⟩) (ws.length + 1) pcap) (ws.length + 1) (ws.flatMap WR.cells ++ x.cells)) (hat : pv.ownBlock = some pg ∨ w2.heap.size ≤ pg) (hf : ws.length < 4398046511000) :
    Only (foot g pb mb pv) w2 (w5.setCell ⟨g, 1, none⟩ (.slice (some ⟨pg, 0, none⟩) (ws.length + 1) pcap)) ∧
      IsDisk (w5.setCell ⟨g, 1, none⟩ (.slice (some ⟨pg, 0, none⟩) (ws.length + 1) pcap)) g pb pc mb pr (.slice (some ⟨pg, 0, none⟩) (ws.length + 1) pcap) (D.put (.int .i64 x.sec) (.lit (.int .i64 ws.length))) N plat (ws ++ [x]) left rd wt fl := by
  obtain ⟨m1, m2, m3, m4⟩ := mb_ne hd
  have hl := hd.str.lt
  have hpl := hd.row.lt
  have hpg := (hd.str.ne_ hd.row (by decide))
  have kk : Only [mb] w2 w4 := ho3.trans (k4.mono (by simp))
  have nin : ∀ k, (∀ q, pv.ownBlock = some q → q ≠ k) → k ∉ pv.ownBlock.toList := by
    intro k hk hm
    cases hq : pv.ownBlock with
    | none => rw [hq] at hm; simp at hm
    | some q => rw [hq] at hm; simp at hm; exact hk q hq hm.symm
  have gin := nin g (fun q hq => (pv_ne hd hq).1)
  have pin := nin pb (fun q hq => (pv_ne hd hq).2.1)
  have min := nin mb (fun q hq => (pv_ne hd hq).2.2.1)
  have xin := nin x.blk (fun q hq => by have := (pv_ne hd hq).2.2.2.1; omega)
  have oset : Only [g] w5 (w5.setCell ⟨g, 1, none⟩ (.slice (some ⟨pg, 0, none⟩) (ws.length + 1) pcap)) := (Only.refl _ _).setCell _ (by simp)
  have fin : ∀ q, q ∈ pv.ownBlock.toList → q ∈ foot g pb mb pv := by
    intro q hq
    cases hp : pv.ownBlock with
    | none => rw [hp] at hq; simp at hq
    | some r => rw [hp] at hq; simp at hq; subst hq; simp [foot, hp]
  have hpg2 : pg ≠ g := by
    rcases hown5.2 with ⟨e, _⟩ | ⟨k', cap', cur, e, _, hg, _⟩
    · simp at e
    · have e' : pg = k' := by injection e with e; injection e with e; injection e
      subst e'
      have h5 : Blk w5 g 109 _ := (hd.str.only kk (by simpa using m1.symm)).only k5 gin
      exact Blk.ne_ (t := 111) (t' := 109) hg h5 (by decide)
  refine ⟨?_, ?_⟩
  · exact ((kk.mono (S' := foot g pb mb pv) (by simp +contextual [foot])).trans (k5.mono (fun k _ hk => fin k hk))).trans (oset.mono (by simp +contextual [foot]))
  · have s5 := ((hd.str.only kk (by simpa using m1.symm)).only k5 gin).set_ 1 (.slice (some ⟨pg, 0, none⟩) (ws.length + 1) pcap)
    have hlen : (ws ++ [x]).length = ws.length + 1 := by simp
    refine ⟨s5, ((hd.row.only kk (by simpa using m2.symm)).only k5 pin).only oset (by simpa using hpg.symm), hd.len, hd.cap, hd.pos, hd.big, hd.u8, ?_, ?_, ?_, lasts_put hd.last x (by have := hx.sec; have := hd.big; omega), by rw [hlen]; omega⟩
    · rw [hlen, List.flatMap_append]
      refine ownsRow_only (by simpa using hown5) oset (fun k hk => ?_)
      simp [Value.ownBlock] at hk
      subst hk
      simpa using hpg2
    · intro y hy
      rcases List.mem_append.1 hy with hy | hy
      · exact (((hd.wok y hy).only kk (by simpa using m4 y hy)).only k5 (nin y.blk (fun q hq => ((pv_ne hd hq).2.2.2.2 y hy).symm))).only oset (by simpa using ((hd.str.ne_ (hd.wok y hy).row (by decide))).symm)
      · simp at hy
        subst hy
        exact (hx.only k5 xin).only oset (by simp; omega)
    · rw [hlen]
      exact ownsMap_only (ownsMap_only (ownsMap_only hm3 k4 (by simp)) k5 min) oset (by simpa using m1)

set_option maxRecDepth 100000 in
set_option maxHeartbeats 1000000 in
theorem dwrite_do (n : Nat) (b o c : Nat) (zs : List Int) (h1 : n < N) (hl : left ≠ 0) (hm : left ≤ 9223372036854775807) (hz : zs.length = 512) (hu : U8 zs) (hc : ∀ i, i < 512 → w.cell? ⟨b, o + i, none⟩ = some (.int .u8 (gb zs i))) (hbl : b < w.heap.size) (hbg : b ≠ g) (hbm : b ≠ mb) (hw0 : 0 ≤ wt) (hw1 : wt < 9223372036854775807) (hf : ws.length < 4398046511000) :
    Calls Try.prog 91 #[.pointer (some ⟨g, 0, none⟩), .int .i64 n, .slice (some ⟨b, o, none⟩) 512 c] w fun e w' => e = .returned (.int .i64 0) ∧ Wrote w w' g pb pc mb pr pv N plat ws left rd wt fl n zs := by
  have HC := hide (dclosed_is h)
  have HH := hide (dhas_yes h n (by omega) (by omega))
  have HS := hide (dspend_yes h hl hm)
  have HCL := hide hc
  have HW := hide h
  have HF := hide hf
  clear h hc hf hm
  go_enter Try.func91, Try.ntmps91
  go_wp2_with (first | (go_at_call 65; refine HC.out.mono ?_; rintro e w' ⟨rfl, rfl⟩) | (go_at_call 69; refine HH.out.mono ?_; rintro e w' ⟨rfl, rfl⟩))
  refine HS.out.mono ?_
  rintro e w1 ⟨rfl, ho1, hd1⟩
  have hc5 := hd1.c5
  have hf5 := hd1.str.frozen 5
  have ho2 : Only [g] w1 (w1.setCell ⟨g, 5, none⟩ (.int .i64 (wt + 1))) := (Only.refl _ _).setCell _ (by simp)
  have HD2 := hide (hd1.restr (wt' := wt + 1) ho2 (hd1.str.set_ 5 _))
  have HO2 := hide (ho1.trans ho2)
  clear ho1 hd1 ho2 HS
  go_wp2_with fail
  clear hc5 hf5 hw1
  revert HD2 HO2
  generalize w1.setCell ⟨g, 5, none⟩ (.int .i64 (wt + 1)) = w2
  intro HD2 HO2
  have hc1 := HD2.out.c1
  have hc2 := HD2.out.c2
  obtain ⟨A, cap, rfl, hp⟩ := pend_form HD2.out
  clear hp
  have HWN := hide (show (Lit.int .i64 (n : Int)).wf = true from WalkArith.wf_i64 (by have := HW.out.big; omega))
  have HWL := hide (show (Lit.int .i64 (ws.length : Int)).wf = true from WalkArith.wf_i64 (by have := HF.out; omega))
  go_still_tail 10, (by kernel_rfl)
  refine wpList_mapUpdate_own _ rfl _ _ _ 107 rfl 3 3 (int_keyed Try.underlying3) Try.underlying107 _ mb ws.length D rfl (ownsMap_only HD2.out.map ((Only.refl [] _).drew) (by simp)) (by have := HF.out; unfold maxLen; omega) _ _ (.int .i64 n) rfl rfl (keyOf_int_mk Try.underlying3 HWN.out) (.lit (.int .i64 ws.length)) [] (plainElem_int Try.underlying3 HWL.out) ?_
  intro w3 hown3 hgrow3
  have HM3 := hide hown3
  have ho3 : Only [mb] w2 w3 := ((Only.refl [mb] w2).drew).trans (Only.of_grown hgrow3 (by intro k hk _; simp at hk; simp [hk]))
  have HO3 := hide ho3
  have hmg : g ≠ mb := by
    rintro rfl
    obtain ⟨es, clock, hb, _⟩ := HD2.out.map
    have := HD2.out.str
    unfold Blk at this
    rw [this] at hb
    cases hb
  have HS3 := hide (HD2.out.str.only ho3 (by simpa using hmg))
  have hc13 : w3.cell? ⟨g, 1, none⟩ = some (.slice A ws.length cap) := by rw [HS3.out.cell]; rfl
  have hnm : ∀ k, (Value.slice A ws.length cap).ownBlock = some k → k ≠ mb := by
    intro k hk e
    subst e
    rcases HD2.out.own.2 with ⟨e, _⟩ | ⟨k', cap', cur, e, _, hg, _⟩
    · rw [e] at hk; cases hk
    · rw [e] at hk
      simp [Value.ownBlock] at hk
      subst hk
      obtain ⟨es, clock, hb, _⟩ := HD2.out.map
      rw [hg] at hb
      cases hb
  have HOW := hide (ownsRow_only HD2.out.own ho3 (fun k hk => by simpa using hnm k hk))
  have HCN := hide (fun w' (k : Only [] w3 w') => clone_ok ⟨b, o, none⟩ 512 c zs w' hz (by omega) (fun i hi => by
    rw [add_at]
    exact (((HO2.out.mono (S' := [g, mb]) (by simp +contextual)).trans (ho3.mono (by simp +contextual))).trans (k.mono (by simp))).cell hbl (by simp; exact ⟨hbg, hbm⟩) |>.trans (HCL.out i hi)))
  clear hown3 hgrow3 ho3 hc1 hc2
  obtain ⟨i0, hi, hz0, hz1, hz2⟩ := info_parts info_write
  go_wp2
  have hgo : ∀ k, (Value.slice A ws.length cap).ownBlock = some k → g ≠ k := by
    intro k hk e
    subst e
    rcases HD2.out.own.2 with ⟨e, _⟩ | ⟨k', cap', cur, e, _, hg, _⟩
    · rw [e] at hk; cases hk
    · rw [e] at hk
      simp [Value.ownBlock] at hk
      subst hk
      exact Blk.ne_ (t := 111) (t' := 109) hg HD2.out.str (by decide) rfl
  have HGO := hide (show g ∉ (Value.slice A ws.length cap).ownBlock.toList from by
    intro hm
    cases hq : (Value.slice A ws.length cap).ownBlock with
    | none => rw [hq] at hm; simp at hm
    | some k => rw [hq] at hm; simp at hm; exact hgo k hq hm)
  clear hgo hnm
  go_region_law (first | (refine step_append_lies _ rfl _ _ 106 rfl 0 111 i0 _ 2 32 Try.underlying106 hi hz0 hz1 hz2 rfl (by decide) _ ws.length (ws.flatMap WR.cells) rfl (ownsRow_only HOW.out (k4.trans (by repeat (first | exact Only.refl _ _ | apply Only.drew | apply Only.alloc))) (by simp)) ⟨_, 0, none⟩ 1 1 [.int .i64 n, .slice (some ⟨xb, 0, none⟩) 512 xc] rfl rfl (World.news_of_block (cs := #[.int .i64 n, .slice (some ⟨xb, 0, none⟩) 512 xc]) (t := 111) (fr := (0, 0)) (heap_alloc_new w4 _)) (by simp [Value.oneCell']) (by decide) (by have := HF.out; unfold maxLen; omega) (by have := HF.out; omega) (Nat.zero_le _) _ rfl ?_; intro pg pcap w5 hown5 hgrow5 hat5 hlt5; have k5 : Only (Value.slice A ws.length cap).ownBlock.toList w4 w5 := Only.trans (by repeat (first | exact Only.refl _ _ | apply Only.drew | apply Only.alloc)) (only_grown hgrow5); have hc15 : w5.cell? ⟨g, 1, none⟩ = some (.slice A ws.length cap) := (((HS3.out.only k4 (by simp)).only k5 HGO.out).cell 1).trans rfl; have hf15 : w5.frozen? ⟨g, 1, none⟩ = false := ((HS3.out.only k4 (by simp)).only k5 HGO.out).frozen 1) | (go_simp; go_at_call 46; refine (HCN.out _ (by repeat (first | exact Only.refl _ _ | apply Only.drew))).mono ?_; rintro e w4 ⟨v4, rfl, ⟨xb, xc, xr, rfl, hxB, hxk, hxl⟩, ho4⟩; rw [hz] at hxl ⊢; have k4 : Only [] w3 w4 := Only.trans (by repeat (first | exact Only.refl _ _ | apply Only.drew)) ho4; have hc14 : w4.cell? ⟨g, 1, none⟩ = some (.slice A ws.length cap) := ((HS3.out.only k4 (by simp)).cell 1).trans rfl; have hc14a : ∀ o, (w4.alloc o).cell? ⟨g, 1, none⟩ = some (.slice A ws.length cap) := fun o => (((HS3.out.only k4 (by simp)).alloc o).cell 1).trans rfl))
  all_goals
    subst hxl
    have HE := hide (dwrite_end HD2.out HO3.out ⟨n, xb, xr, zs⟩ HM3.out k4 ⟨hxk, hz, h1, hu⟩ (Nat.le_trans HO3.out.size hxB) k5 pg pcap hown5 (hat5.imp id (fun e => by have := HO3.out.size; have := k4.size; simp at e; omega)) HF.out)
    have HXB := hide (show w.heap.size ≤ xb from Nat.le_trans HO2.out.size (Nat.le_trans HO3.out.size hxB))
    have HAT := hide (show (Value.slice A ws.length cap).ownBlock = some pg ∨ w2.heap.size ≤ pg from hat5.imp id (fun e => by have := HO3.out.size; have := k4.size; simp at e; omega))
    clear hown5 hgrow5 hat5 hlt5 k5 hc15 hf15 hxk hxB ho4 k4 hc14 hc14a hc13
    go_wp2
    go_ret
    refine ⟨rfl, _, _, ⟨n, xb, xr, zs⟩, (HO2.out.mono (by simp +contextual [foot])).trans HE.out.1, fun k hk => ?_, HXB.out, rfl, rfl, HE.out.2⟩
    simp [Value.ownBlock] at hk
    subst hk
    exact HAT.out.imp id (fun e => Nat.le_trans HO2.out.size e)
end
end Go.Proofs.Ytpajdnjbeplneaa
