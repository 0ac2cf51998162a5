/-
  The pipe's laws: a call of both consoles (parapetlaw21: console).
-/
import Derived.Test.YteljjngmhldfbaaPiXC
import Derived.Test.YteljjngmhldfbaaPiStep
namespace Go.Proofs.Yteljjngmhldfbaa
open Go.ChangeShapes Go.WideShapes Go.ChangeAt Go.RowKit
set_option linter.unusedVariables false
set_option linter.unusedSimpArgs false
/-- A console and the document's, in one world, made behind w0. -/
structure CB (w0 w : World) (g x : Nat) (F G : List Nat) (I : List Int) (en : Bool) (O : List Int) : Prop where
  co : Co w g w0.heap.size F I en O
  xc : Xc w x w0.heap.size G I en O
  dis : ∀ q ∈ F, q ∉ G
  only : Only [] w0 w
def DidC (w0 w' : World) (e : Ending) (g x : Nat) : Prop := e = .returned (.bool true) ∧ ∃ F' G' I' en' O', CB w0 w' g x F' G' I' en' O'
section
variable {w0 w w' w1 w2 w3 : World} {g x : Nat} {F F' G G' : List Nat} {I O I' O' : List Int} {en en' : Bool} {B : Nat}
theorem Co.lt (h : Co w g B F I en O) : ∀ q ∈ F, B ≤ q ∧ q < w.heap.size := by obtain ⟨v1, v2, h1, h2, h3⟩ := h; exact h3
theorem Xc.lt (h : Xc w g B F I en O) : ∀ q ∈ F, B ≤ q ∧ q < w.heap.size := by obtain ⟨v1, v2, h1, h2, h3⟩ := h; exact h3
theorem Xc.at0 (h : Xc w g B F I en O) : ∃ A c, w.cell? ⟨g, 0, none⟩ = some (.slice A I.length c) := by
  obtain ⟨v1, v2, h1, h2, h3⟩ := h
  obtain ⟨A, c, rfl, -⟩ := h1.in_.form
  exact ⟨A, c, h1.c0⟩
theorem Xc.at2 (h : Xc w g B F I en O) : ∃ A c, w.cell? ⟨g, 2, none⟩ = some (.slice A O.length c) ∧ Sees w A O.length O ∧ (A = none → O.length = 0) ∧ U8 O ∧ O.length ≤ 1048576 := by
  obtain ⟨v1, v2, h1, h2, h3⟩ := h
  obtain ⟨A, c, rfl, hs, hA, -⟩ := h1.out.sees
  exact ⟨A, c, h1.c2, hs, fun e => (hA e).1, h1.u8.2, h1.few.2⟩
theorem Xc.end_ (h : Xc w g B F I en O) : w.frozen? ⟨g, 1, none⟩ = false ∧ (∃ u, w.cell? ⟨g, 1, none⟩ = some u) ∧ Only F w (w.setCell ⟨g, 1, none⟩ (.bool true)) ∧ Xc (w.setCell ⟨g, 1, none⟩ (.bool true)) g B F I true O := by
  obtain ⟨v1, v2, h1, h2, h3⟩ := h
  have hg : g ∈ F := h2 _ (by simp [coF])
  have ho : Only [g] w (w.setCell ⟨g, 1, none⟩ (.bool true)) := (Only.refl _ _).setCell _ (by simp)
  refine ⟨h1.blk.frozen 1, ⟨_, h1.c1⟩, (Only.refl _ _).setCell _ (fun _ => hg), v1, v2, ⟨h1.blk.set_ 1 (.bool true), h1.in_.only ho (fun q hq hm => ?_), h1.out.only ho (fun q hq hm => ?_), h1.apart, h1.few, h1.u8⟩, h2, fun q hq => ⟨(h3 q hq).1, by simpa [World.setCell] using (h3 q hq).2⟩⟩
  · simp at hm; subst hm; exact h1.g_ne.1 hq
  · simp at hm; subst hm; exact h1.g_ne.2 hq
theorem CB.quiet (h : CB w0 w g x F G I en O) (ho : Only [] w w') : CB w0 w' g x F G I en O := ⟨h.co.quiet ho, h.xc.quiet ho, h.dis, h.only.trans ho⟩
theorem CB.size (h : CB w0 w g x F G I en O) (ho : Only F w w1) : w0.heap.size ≤ w1.heap.size := Nat.le_trans h.only.size ho.size
theorem coReadyP_is (h : Co w g B F I en O) (b : Bool) : Calls Try.prog 27 #[.pointer (some ⟨g, 0, none⟩), .bool b] w fun e w' => e = .returned (.bool (b || decide (0 < I.length) || en)) ∧ w = w' := by
  obtain ⟨v1, v2, h1, -, -⟩ := h
  exact coReady_is h1 b
theorem coWaitingP_is (h : Co w g B F I en O) : Calls Try.prog 29 #[.pointer (some ⟨g, 0, none⟩)] w fun e w' => e = .returned (.int .i64 (I.length : Nat)) ∧ w = w' := by
  obtain ⟨v1, v2, h1, -, -⟩ := h
  exact coWaiting_is h1
/-- Behind the first call. -/
theorem CB.xof (h : CB w0 w g x F G I en O) (ho : Only F w w1) : Xc w1 x w0.heap.size G I en O := h.xc.only ho (fun q hq hm => h.dis q hm hq)
/-- Behind both. -/
theorem CB.both (h : CB w0 w g x F G I en O) (ho1 : TnF w w1 F F') (hc : Co w1 g w0.heap.size F' I' en' O') (hq : Only [] w1 w2) (ho2 : TnF w2 w3 G G') (hx : Xc w3 x w0.heap.size G' I' en' O') : CB w0 w3 g x F' G' I' en' O' := by
  have hFG : ∀ q ∈ F', q ∉ G := fun q hq' hg => by
    rcases ho1.2 q hq' with e | e
    · exact h.dis q e hg
    · have := (h.xc.lt q hg).2; omega
  refine ⟨(hc.quiet hq).only ho2.1 hFG, hx, fun q hq' hg => ?_, ((h.only.trans' ho1.1 (fun k hk hm => ?_)).trans hq).trans' ho2.1 (fun k hk hm => ?_)⟩
  · rcases ho2.2 q hg with e | e
    · exact hFG q hq' e
    · have := (hc.lt q hq').2; have := hq.size; omega
  · have := (h.co.lt k hm).1; omega
  · have := (h.xc.lt k hm).1; omega
/-- Bytes elsewhere are turned. -/
theorem CB.spoiled {S : List Nat} (h : CB w0 w g x F G I en O) (ho : Only S w w') (h1 : ∀ k ∈ S, k ∉ F ∧ k ∉ G ∧ w0.heap.size ≤ k) : CB w0 w' g x F G I en O :=
  ⟨h.co.only ho (fun q hq hm => (h1 q hm).1 hq), h.xc.only ho (fun q hq hm => (h1 q hm).2.1 hq), h.dis, h.only.trans' ho (fun k hk hm => by have := (h1 k hm).2.2; omega)⟩
set_option maxRecDepth 100000 in
set_option maxHeartbeats 2000000 in
theorem con_ready (h : CB w0 w g x F G I en O) (b : Bool) (n : Int) (A : Option Addr) (m c : Nat) :
    Calls Try.prog 14 #[.pointer (some ⟨g, 0, none⟩), .pointer (some ⟨x, 0, none⟩), opV 5 b n A m c] w fun e w' => DidC w0 w' e g x := by
  have H1 := hide (h.quiet ((Only.refl [] w).alloc (.cells (opC 5 b n A m c) 31)))
  have HX := hide (Blk.new w 31 (opC 5 b n A m c))
  have HGF := hide (fun q hq => (h.co.lt q hq).2)
  have HGG := hide (fun q hq => (h.xc.lt q hq).2)
  clear h
  go_enter Try.func14, Try.ntmps14
  go_upto_region 20 with fail
  have c1 := HX.out.cell 1
  have HG := hide HX.out.lt
  have HNF := hide (show w.heap.size ∉ F from fun hm => Nat.lt_irrefl _ (HGF.out _ hm))
  have HNG := hide (show w.heap.size ∉ G from fun hm => Nat.lt_irrefl _ (HGG.out _ hm))
  generalize w.alloc (.cells (opC 5 b n A m c) 31) = W1 at *
  generalize w.heap.size = gb0 at *
  have HC1 := hide (fun W (hW : Only [] W1 W) => (coReadyP_is (H1.out.co.quiet hW) b).mono (R' := fun e w' => e = .returned (.bool (b || decide (0 < I.length) || en)) ∧ w' = W) fun _ _ h => ⟨h.1, h.2.symm⟩)
  have HC2 := hide (fun W (hW : Only [] W1 W) => (x21CReady_is (H1.out.xc.quiet hW) b).mono (R' := fun e w' => e = .returned (.bool (b || decide (0 < I.length) || en)) ∧ w' = W) fun _ _ h => ⟨h.1, h.2.symm⟩)
  go_quiet (first | (go_at_call 27; exact Calls.quiet_of_same (HC1.out _ (by repeat (first | (with_reducible exact Only.refl _ _) | (with_reducible apply Only.drew) | (with_reducible apply Only.drewN))))) | (go_at_call 39; exact Calls.quiet_of_same (HC2.out _ (by repeat (first | (with_reducible exact Only.refl _ _) | (with_reducible apply Only.drew) | (with_reducible apply Only.drewN))))))
  go_wp2
  go_ret
  exact ⟨by simp, _, _, _, _, _, H1.out.quiet (by repeat (first | (with_reducible exact Only.refl _ _) | (with_reducible apply Only.drew) | (with_reducible apply Only.drewN)))⟩
set_option maxRecDepth 100000 in
set_option maxHeartbeats 2000000 in
theorem con_end (h : CB w0 w g x F G I en O) (b : Bool) (n : Int) (A : Option Addr) (m c : Nat) :
    Calls Try.prog 14 #[.pointer (some ⟨g, 0, none⟩), .pointer (some ⟨x, 0, none⟩), opV 7 b n A m c] w fun e w' => DidC w0 w' e g x := by
  have H1 := hide (h.quiet ((Only.refl [] w).alloc (.cells (opC 7 b n A m c) 31)))
  have HX := hide (Blk.new w 31 (opC 7 b n A m c))
  have HGF := hide (fun q hq => (h.co.lt q hq).2)
  have HGG := hide (fun q hq => (h.xc.lt q hq).2)
  clear h
  go_enter Try.func14, Try.ntmps14
  go_upto_region 22 with fail
  have HG := hide HX.out.lt
  have HNF := hide (show w.heap.size ∉ F from fun hm => Nat.lt_irrefl _ (HGF.out _ hm))
  have HNG := hide (show w.heap.size ∉ G from fun hm => Nat.lt_irrefl _ (HGG.out _ hm))
  generalize w.alloc (.cells (opC 7 b n A m c) 31) = W1 at *
  generalize w.heap.size = gb0 at *
  go_wp2_with fail
  refine (coEndP_is H1.out.co).mono ?_
  rintro e w5 ⟨rfl, ho5, hc5⟩
  obtain ⟨f5, ⟨u5, c5⟩, ho6, hx6⟩ := (H1.out.xof ho5).end_
  have HB := hide (H1.out.both (F' := F) (G' := G) ⟨ho5, fun q hq => .inl hq⟩ hc5 (Only.refl [] w5) ⟨ho6, fun q hq => .inl hq⟩ hx6)
  clear ho5 hc5 ho6 hx6
  go_wp2
  go_ret
  exact ⟨rfl, _, _, _, _, _, HB.out⟩
set_option maxRecDepth 100000 in
set_option maxHeartbeats 2000000 in
theorem con_read (h : CB w0 w g x F G I en O) (b : Bool) (n : Int) (A : Option Addr) (m c : Nat) :
    Calls Try.prog 14 #[.pointer (some ⟨g, 0, none⟩), .pointer (some ⟨x, 0, none⟩), opV 3 b n A m c] w fun e w' => DidC w0 w' e g x := by
  have H1 := hide (h.quiet ((Only.refl [] w).alloc (.cells (opC 3 b n A m c) 31)))
  have HX := hide (Blk.new w 31 (opC 3 b n A m c))
  have HGF := hide (fun q hq => (h.co.lt q hq).2)
  have HGG := hide (fun q hq => (h.xc.lt q hq).2)
  have HU := hide (show U8 (readP I (!en) n).1 ∧ (readP I (!en) n).1.length ≤ 65536 from by
    obtain ⟨v1, v2, h1, -, -⟩ := h.co
    have hu := h1.u8.1
    have hf := h1.few.1
    unfold readP
    split
    · exact ⟨(by intro y hy; simp at hy), by simp⟩
    · split
      · exact ⟨(by intro y hy; simp at hy), by simp⟩
      · split
        · exact ⟨(by intro y hy; simp at hy), by simp⟩
        · exact ⟨hu.take _, by rw [List.length_take]; omega⟩)
  clear h
  go_enter Try.func14, Try.ntmps14
  go_upto_region 3 with fail
  have c2 := HX.out.cell 2
  have HG := hide HX.out.lt
  have HNF := hide (show w.heap.size ∉ F from fun hm => Nat.lt_irrefl _ (HGF.out _ hm))
  have HNG := hide (show w.heap.size ∉ G from fun hm => Nat.lt_irrefl _ (HGG.out _ hm))
  generalize w.alloc (.cells (opC 3 b n A m c) 31) = W1 at *
  generalize w.heap.size = gb0 at *
  go_wp2_with fail
  refine (coRead_is H1.out.co n (H1.out.only.size)).mono ?_
  rintro e w5 ⟨v5, F5, rfl, hv5, ht5, hc5, hn5⟩
  have k5 := (ht5.1.cell (b := gb0) (o := 2) (s := none) HG.out HNF.out).trans c2
  obtain ⟨A5, c5, rfl, -⟩ := hv5.form
  have HT5 := hide ht5
  have HC5 := hide hc5
  have HV5 := hide hv5
  have HN5 := hide hn5
  clear ht5 hc5 hv5 hn5
  go_wp2_with fail
  refine (x21CRead_is (H1.out.xof HT5.out.1) n (H1.out.size HT5.out.1)).mono ?_
  rintro e w6 ⟨v6, G6, rfl, hv6, ht6, hx6⟩
  obtain ⟨A6, c6, rfl, hs6, hA6, -⟩ := hv6.form
  have HB := hide (H1.out.both HT5.out HC5.out (Only.refl [] w5) ht6 hx6)
  have hfar : ∀ d, (Value.slice A5 (readP I (!en) n).1.length c5).ownBlock = some d → W1.heap.size ≤ d ∧ d < w5.heap.size := fun d e => by
    rcases HV5.out with ⟨h, _⟩ | h
    · rw [h] at e; simp [Value.ownBlock] at e
    · obtain ⟨d', e1, h1, h2⟩ := h.own
      rw [e] at e1; injection e1 with e1
      omega
  have hv5' : New w6 W1.heap.size (.slice A5 (readP I (!en) n).1.length c5) (readP I (!en) n).1 := by
    rcases HV5.out with h | h
    · exact .inl h
    · refine .inr (h.only ht6.1 (fun d hd hm => ?_))
      have h1 := hfar d hd
      have h2 := (H1.out.xc.lt d hm).2
      omega
  obtain ⟨A5', c5', e5, hs5, hA5, -⟩ := hv5'.form
  injection e5 with e1 e2 e3
  subst e1 e3
  have HSA := hide (same21_is (c := c5) (c' := c6) hs5 (fun e => (hA5 e).1) hs6 (fun e => (hA6 e).1) HU.out.1)
  have HSP := hide (spoils_is hv5' (by have := HU.out.2; omega))
  have HKEY := hide (show ∀ k ∈ (Value.slice A5 (readP I (!en) n).1.length c5).ownBlock.toList, k ∉ F5 ∧ k ∉ G6 ∧ w0.heap.size ≤ k from fun k hk => by
    have hk' : (Value.slice A5 (readP I (!en) n).1.length c5).ownBlock = some k := by simpa using hk
    have h1 := hfar k hk'
    refine ⟨fun hm => HN5.out k hm hk', fun hm => ?_, Nat.le_trans H1.out.only.size h1.1⟩
    rcases ht6.2 k hm with e | e
    · have := (H1.out.xc.lt k e).2; omega
    · omega)
  clear hv6 ht6 hx6 hs6 hA6 hv5' hs5 hA5 e2 hfar
  generalize readP I (!en) n = R at *
  obtain ⟨X, er, I'⟩ := R
  go_wp2_with (first | (go_at_call 18; refine HSA.out.mono ?_; rintro e w' ⟨rfl, rfl⟩) | (go_at_call 33; refine HSP.out.mono ?_; rintro e w8 ⟨rfl, ho8⟩; have HO8 := hide ho8; clear ho8))
  go_ret
  exact ⟨by simp, _, _, _, _, _, HB.out.spoiled HO8.out HKEY.out⟩
set_option maxRecDepth 100000 in
set_option maxHeartbeats 2000000 in
theorem con_look (h : CB w0 w g x F G I en O) (k : Int) (hk : k ≠ 3 ∧ k ≠ 4 ∧ k ≠ 6 ∧ k ≠ 5 ∧ k ≠ 7) (b : Bool) (n : Int) (A : Option Addr) (m c : Nat) :
    Calls Try.prog 14 #[.pointer (some ⟨g, 0, none⟩), .pointer (some ⟨x, 0, none⟩), opV k b n A m c] w fun e w' => DidC w0 w' e g x := by
  have H1 := hide (h.quiet ((Only.refl [] w).alloc (.cells (opC k b n A m c) 31)))
  obtain ⟨h1, h2, h3, h4, h5⟩ := hk
  have k1 : (k == 3) = false := by simp [h1]
  have k2 : (k == 4) = false := by simp [h2]
  have k3 : (k == 6) = false := by simp [h3]
  have k4 : (k == 5) = false := by simp [h4]
  have k5 : (k == 7) = false := by simp [h5]
  clear h h1 h2 h3 h4 h5
  go_enter Try.func14, Try.ntmps14
  go_upto_region 25 with fail
  generalize w.alloc (.cells (opC k b n A m c) 31) = W1 at *
  go_wp2_with fail
  refine (coOutput_is H1.out.co).mono ?_
  rintro e w5 ⟨⟨v5, rfl, hv5⟩, ho5⟩
  obtain ⟨A5, c5, rfl, hs5, hA5, -⟩ := hv5.form
  have H2 := hide (H1.out.quiet ho5)
  have hv5' := hv5
  obtain ⟨Ax, cx, x0⟩ := H2.out.xc.at0
  obtain ⟨Ay, cy, x2, hsy, hAy, huy, hfy⟩ := H2.out.xc.at2
  have HSA := hide (fun W (hW : Only [] w5 W) => (same21_is (c := c5) (c' := cy) (hs5.only hW (by simp)) (fun e => (hA5 e).1) (hsy.only hW (by simp)) hAy huy).mono (R' := fun e w' => e = .returned (.bool true) ∧ w' = W) fun _ _ h => ⟨h.1, h.2.symm⟩)
  have HWT := hide (fun W (hW : Only [] w5 W) => (coWaitingP_is (H2.out.co.quiet hW)).mono (R' := fun e w' => e = .returned (.int .i64 (I.length : Nat)) ∧ w' = W) fun _ _ h => ⟨h.1, h.2.symm⟩)
  have HSP := hide (fun W (hW : Only [] w5 W) => spoils_is (show New W W1.heap.size (.slice A5 O.length c5) O from by
    rcases hv5 with h | h
    · exact .inl h
    · exact .inr (h.only hW (by simp))) (by omega))
  have HKEY := hide (show ∀ k ∈ (Value.slice A5 O.length c5).ownBlock.toList, k ∉ F ∧ k ∉ G ∧ w0.heap.size ≤ k from fun k hk => by
    have hk' : (Value.slice A5 O.length c5).ownBlock = some k := by simpa using hk
    have h1 : W1.heap.size ≤ k := by
      rcases hv5 with ⟨h, _⟩ | h
      · rw [h] at hk'; simp [Value.ownBlock] at hk'
      · obtain ⟨d', e1, h1, h2⟩ := h.own
        rw [hk'] at e1; injection e1 with e1
        omega
    refine ⟨fun hm => ?_, fun hm => ?_, Nat.le_trans H1.out.only.size h1⟩
    · have := (H1.out.co.lt k hm).2; omega
    · have := (H1.out.xc.lt k hm).2; omega)
  clear hv5 hv5' ho5 hs5 hA5 hsy hAy huy hfy
  go_wp2_with fail
  go_quiet (first | (go_at_call 18; exact Calls.quiet_of_same (HSA.out _ (by repeat (first | (with_reducible exact Only.refl _ _) | (with_reducible apply Only.drew) | (with_reducible apply Only.drewN))))) | (go_at_call 29; exact Calls.quiet_of_same (HWT.out _ (by repeat (first | (with_reducible exact Only.refl _ _) | (with_reducible apply Only.drew) | (with_reducible apply Only.drewN))))))
  go_wp2_with (go_at_call 33; refine (HSP.out _ (by repeat (first | (with_reducible exact Only.refl _ _) | (with_reducible apply Only.drew) | (with_reducible apply Only.drewN)))).mono ?_; rintro e w8 ⟨rfl, ho8⟩; have HO8 := hide ho8; clear ho8)
  go_ret
  exact ⟨by simp, _, _, _, _, _, (H2.out.quiet (by repeat (first | (with_reducible exact Only.refl _ _) | (with_reducible apply Only.drew) | (with_reducible apply Only.drewN)))).spoiled HO8.out HKEY.out⟩
end
end Go.Proofs.Yteljjngmhldfbaa
