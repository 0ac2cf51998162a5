/-
  The pipe's laws: Type and Write of both consoles.
-/
import Derived.Test.YteljjngmhldfbaaPiCStep
namespace Go.Proofs.Yteljjngmhldfbaa
open Go.ChangeShapes Go.WideShapes Go.ChangeAt Go.RowKit
set_option linter.unusedVariables false
set_option linter.unusedSimpArgs false
section
variable {w0 w w' w1 w2 w3 : World} {g x : Nat} {F F' G G' : List Nat} {I O I' O' : List Int} {en en' : Bool} {B : Nat}
set_option maxRecDepth 100000 in
set_option maxHeartbeats 2000000 in
theorem con_type (h : CB w0 w g x F G I en O) (b : Bool) (n : Int) {A : Option Addr} {m c : Nat} {zs : List Int} (hs : Sees w A m zs) (hu : U8 zs) (hA : A = none → m = 0 ∧ c = 0) (hmc : m ≤ c) (hbig : c ≤ 140737488355328)
    (hlt : ∀ ad, 0 < m → A = some ad → ad.block < w0.heap.size) :
    Calls Try.prog 14 #[.pointer (some ⟨g, 0, none⟩), .pointer (some ⟨x, 0, none⟩), opV 6 b n A m c] w fun e w' => DidC w0 w' e g x := by
  have H1 := hide (h.quiet ((Only.refl [] w).alloc (.cells (opC 6 b n A m c) 31)))
  have HX := hide (Blk.new w 31 (opC 6 b n A m c))
  have HGF := hide (fun q hq => (h.co.lt q hq).2)
  have HGG := hide (fun q hq => (h.xc.lt q hq).2)
  have HS1 := hide (hs.only ((Only.refl [] w).alloc (.cells (opC 6 b n A m c) 31)) (by simp))
  have HU := hide hu
  have HA := hide hA
  have HMC := hide hmc
  have HBIG := hide hbig
  have HALT := hide hlt
  have HZL := hide (show zs.length = m from hs.1)
  clear h hs hu hA hmc hbig hlt
  go_enter Try.func14, Try.ntmps14
  go_upto_region 10 with fail
  have c3 := HX.out.cell 3
  have c3a : ∀ o, ((w.alloc (.cells (opC 6 b n A m c) 31)).alloc o).cell? ⟨w.heap.size, 3, none⟩ = some (.slice A m c) := fun o => (HX.out.alloc o).cell 3
  have HG := hide HX.out.lt
  have HNF := hide (show w.heap.size ∉ F from fun hm => Nat.lt_irrefl _ (HGF.out _ hm))
  have HNG := hide (show w.heap.size ∉ G from fun hm => Nat.lt_irrefl _ (HGG.out _ hm))
  generalize w.alloc (.cells (opC 6 b n A m c) 31) = W1 at *
  generalize w.heap.size = gb0 at *
  have HK := hide (Blk.new W1 5 #[])
  have HMB := hide (show m ≤ 140737488355328 by have := HMC.out; have := HBIG.out; omega)
  have HS1b := hide (fun o => HS1.out.only ((Only.refl [] W1).alloc o) (by simp))
  go_upto_region 11 with (at_builtin; refine wpList_append_new rfl _ _ rfl _ W1.heap.size W1.heap.size rfl (Nat.le_refl _) HK.out A m c rfl HA.out zs (HS1b.out _) HMB.out ?_; intro v5 w5 hf5 ho5; have HF5 := hide hf5; have HO5 := hide (((Only.refl [] W1).alloc _).trans' ho5 (fun k hk hm => by simp at hm; omega)); clear hf5 ho5)
  obtain ⟨d5, c5, r5, e5, hd5, hb5, hl5⟩ := HF5.out
  subst e5
  have H2 := hide (H1.out.quiet HO5.out)
  have k0 := (HO5.out.cell (b := gb0) (o := 0) (s := none) HG.out (by simp)).trans (HX.out.cell 0)
  have k3 := (HO5.out.cell (b := gb0) (o := 3) (s := none) HG.out (by simp)).trans c3
  have HF := hide (And.intro hd5 (And.intro hb5 hl5))
  have HS5 := hide (show Sees w5 (some ⟨d5, 0, none⟩) m zs from ⟨HZL.out, fun _ => ⟨d5, 0, rfl, hb5.lt, fun i hi => by rw [Nat.zero_add, hb5.cell]; exact u8l_get zs r5 i (by have := HZL.out; omega)⟩⟩)
  have HXS := hide (HS1.out.only HO5.out (by simp))
  rw [HZL.out]
  rw [HZL.out] at HF
  clear hb5 hd5 hl5
  have HTY := hide (fun W (hW : Only [] w5 W) => coType_is (H2.out.co.quiet hW) (Nat.le_trans H2.out.only.size hW.size) (c := c5) (HS5.out.only hW (by simp)) (by simp) HU.out HMB.out)
  generalize hI' : (if en = true ∨ 65536 < I.length + m then I else I ++ zs) = I' at HTY
  generalize her : (if en = true ∨ 65536 < I.length + m then (2 : Int) else 0) = er at HTY
  have HII := hide (And.intro hI' her)
  clear hI' her
  go_wp2_with fail
  go_region_law (first | (go_simp; go_at_call 26; refine (HTY.out _ ?_).mono ?_; (· repeat (first | (with_reducible exact Only.refl _ _) | (with_reducible apply Only.drew) | (with_reducible apply Only.drewN))); rintro e w6 ⟨rfl, F6, ht6, hc6⟩; have HT6 := hide (show TnF w5 w6 F F6 from ⟨(show Only F w5 _ from (by repeat (first | (with_reducible exact Only.refl _ _) | (with_reducible apply Only.drew) | (with_reducible apply Only.drewN)))).trans ht6.1, fun q hq => ht6.2 q hq⟩); have HC6 := hide hc6; have k6 := (ht6.1.cell (b := gb0) (o := 3) (s := none) (Nat.lt_of_lt_of_le HG.out HO5.out.size) HNF.out).trans k3; clear ht6 hc6) | (go_simp; go_at_call 37; refine (x21CType_is ((H2.out.xof HT6.out.1).quiet (show Only [] w6 _ from ?_)) (Nat.le_trans (H2.out.size HT6.out.1) (Only.size (S := []) ?_)) (A1 := A) (m := m) (c := c) (zs := zs) (Sees.only ((HXS.out.only HT6.out.1 (fun h0 ad e hb hm => by have := HALT.out ad h0 e; have := (H1.out.co.lt _ hm).1; omega))) (show Only [] w6 _ from ?_) (by simp)) HA.out HU.out HMB.out).mono ?_; (· repeat (first | (with_reducible exact Only.refl _ _) | (with_reducible apply Only.drew) | (with_reducible apply Only.drewN))); (· repeat (first | (with_reducible exact Only.refl _ _) | (with_reducible apply Only.drew) | (with_reducible apply Only.drewN))); (· repeat (first | (with_reducible exact Only.refl _ _) | (with_reducible apply Only.drew) | (with_reducible apply Only.drewN))); rw [HII.out.1, HII.out.2]; rintro e w7 ⟨rfl, G7, ht7, hx7⟩; have HT7 := hide (show TnF w6 w7 G G7 from ⟨(show Only G w6 _ from (by repeat (first | (with_reducible exact Only.refl _ _) | (with_reducible apply Only.drew) | (with_reducible apply Only.drewN)))).trans ht7.1, fun q hq => ht7.2 q hq⟩); have HX7 := hide hx7; clear ht7 hx7))
  all_goals
    have ht7 := HT7.out
    have HB := hide (H2.out.both HT6.out HC6.out (Only.refl [] w6) ht7 HX7.out)
    have hb7 : Blk w7 d5 5 (u8l zs ++ r5).toArray := (HF.out.2.1.only HT6.out.1 (fun hm => by have := (H1.out.co.lt _ hm).2; have := HF.out.1; omega)).only ht7.1 (fun hm => by have := (H1.out.xc.lt _ hm).2; have := HF.out.1; omega)
    have HSP := hide (spoils_fresh (c := c5) hb7 HZL.out (by have := HF.out.2.2; have := HZL.out; omega) (by have := HMB.out; omega))
    clear ht7 hb7
    go_wp2_with (go_at_call 33; refine HSP.out.mono ?_; rintro e w8 ⟨rfl, ho8⟩; have HO8 := hide ho8; clear ho8)
    go_ret
    refine ⟨by simp, _, _, _, _, _, HB.out.spoiled HO8.out (fun k hk => ?_)⟩
    simp at hk
    subst hk
    have h1 := HF.out.1
    have h2 := HF.out.2.1.lt
    refine ⟨fun hm => ?_, fun hm => ?_, Nat.le_trans H1.out.only.size h1⟩
    · rcases HT6.out.2 k hm with e | e
      · have := (H1.out.co.lt k e).2; omega
      · omega
    · rcases HT7.out.2 k hm with e | e
      · have := (H1.out.xc.lt k e).2; omega
      · have := HT6.out.1.size; omega
set_option maxRecDepth 100000 in
set_option maxHeartbeats 2000000 in
theorem con_write (h : CB w0 w g x F G I en O) (b : Bool) (n : Int) {A : Option Addr} {m c : Nat} {zs : List Int} (hs : Sees w A m zs) (hu : U8 zs) (hA : A = none → m = 0 ∧ c = 0) (hmc : m ≤ c) (hbig : c ≤ 140737488355328)
    (hlt : ∀ ad, 0 < m → A = some ad → ad.block < w0.heap.size) :
    Calls Try.prog 14 #[.pointer (some ⟨g, 0, none⟩), .pointer (some ⟨x, 0, none⟩), opV 4 b n A m c] w fun e w' => DidC w0 w' e g x := by
  have H1 := hide (h.quiet ((Only.refl [] w).alloc (.cells (opC 4 b n A m c) 31)))
  have HX := hide (Blk.new w 31 (opC 4 b n A m c))
  have HGF := hide (fun q hq => (h.co.lt q hq).2)
  have HGG := hide (fun q hq => (h.xc.lt q hq).2)
  have HS1 := hide (hs.only ((Only.refl [] w).alloc (.cells (opC 4 b n A m c) 31)) (by simp))
  have HU := hide hu
  have HA := hide hA
  have HMC := hide hmc
  have HBIG := hide hbig
  have HALT := hide hlt
  have HZL := hide (show zs.length = m from hs.1)
  clear h hs hu hA hmc hbig hlt
  go_enter Try.func14, Try.ntmps14
  go_upto_region 10 with fail
  have c3 := HX.out.cell 3
  have c3a : ∀ o, ((w.alloc (.cells (opC 4 b n A m c) 31)).alloc o).cell? ⟨w.heap.size, 3, none⟩ = some (.slice A m c) := fun o => (HX.out.alloc o).cell 3
  have HG := hide HX.out.lt
  have HNF := hide (show w.heap.size ∉ F from fun hm => Nat.lt_irrefl _ (HGF.out _ hm))
  have HNG := hide (show w.heap.size ∉ G from fun hm => Nat.lt_irrefl _ (HGG.out _ hm))
  generalize w.alloc (.cells (opC 4 b n A m c) 31) = W1 at *
  generalize w.heap.size = gb0 at *
  have HK := hide (Blk.new W1 5 #[])
  have HMB := hide (show m ≤ 140737488355328 by have := HMC.out; have := HBIG.out; omega)
  have HS1b := hide (fun o => HS1.out.only ((Only.refl [] W1).alloc o) (by simp))
  go_upto_region 11 with (at_builtin; refine wpList_append_new rfl _ _ rfl _ W1.heap.size W1.heap.size rfl (Nat.le_refl _) HK.out A m c rfl HA.out zs (HS1b.out _) HMB.out ?_; intro v5 w5 hf5 ho5; have HF5 := hide hf5; have HO5 := hide (((Only.refl [] W1).alloc _).trans' ho5 (fun k hk hm => by simp at hm; omega)); clear hf5 ho5)
  obtain ⟨d5, c5, r5, e5, hd5, hb5, hl5⟩ := HF5.out
  subst e5
  have H2 := hide (H1.out.quiet HO5.out)
  have k0 := (HO5.out.cell (b := gb0) (o := 0) (s := none) HG.out (by simp)).trans (HX.out.cell 0)
  have k3 := (HO5.out.cell (b := gb0) (o := 3) (s := none) HG.out (by simp)).trans c3
  have HF := hide (And.intro hd5 (And.intro hb5 hl5))
  have HS5 := hide (show Sees w5 (some ⟨d5, 0, none⟩) m zs from ⟨HZL.out, fun _ => ⟨d5, 0, rfl, hb5.lt, fun i hi => by rw [Nat.zero_add, hb5.cell]; exact u8l_get zs r5 i (by have := HZL.out; omega)⟩⟩)
  have HXS := hide (HS1.out.only HO5.out (by simp))
  rw [HZL.out]
  rw [HZL.out] at HF
  clear hb5 hd5 hl5
  have HTW := hide (coWrite_is H2.out.co H2.out.only.size (c := c5) HS5.out (by simp) HU.out HMB.out)
  generalize hO' : (if 1048576 < O.length + m then O else O ++ zs) = O' at HTW
  generalize h1' : (if 1048576 < O.length + m then (0 : Int) else (m : Int)) = a1 at HTW
  generalize h2' : (if 1048576 < O.length + m then (2 : Int) else 0) = a2 at HTW
  have HOO := hide (And.intro hO' (And.intro h1' h2'))
  clear hO' h1' h2'
  go_wp2_with fail
  refine HTW.out.mono ?_
  rintro e w6 ⟨rfl, F6, ht6, hc6⟩
  have HT6 := hide ht6
  have HC6 := hide hc6
  have k6 := (ht6.1.cell (b := gb0) (o := 3) (s := none) (Nat.lt_of_lt_of_le HG.out HO5.out.size) HNF.out).trans k3
  clear ht6 hc6
  go_wp2_with fail
  refine (x21CWrite_is (H2.out.xof HT6.out.1) (H2.out.size HT6.out.1) (A1 := A) (m := m) (c := c) (zs := zs) (HXS.out.only HT6.out.1 (fun h0 ad e hb hm => by have := HALT.out ad h0 e; have := (H1.out.co.lt _ hm).1; omega)) HA.out HU.out HMB.out).mono ?_
  rw [HOO.out.1, HOO.out.2.1, HOO.out.2.2]
  rintro e w7 ⟨rfl, G7, ht7, hx7⟩
  have HT7 := hide ht7
  have HB := hide (H2.out.both HT6.out HC6.out (Only.refl [] w6) ht7 hx7)
  have hb7 : Blk w7 d5 5 (u8l zs ++ r5).toArray := (HF.out.2.1.only HT6.out.1 (fun hm => by have := (H1.out.co.lt _ hm).2; have := HF.out.1; omega)).only ht7.1 (fun hm => by have := (H1.out.xc.lt _ hm).2; have := HF.out.1; omega)
  have HSP := hide (spoils_fresh (c := c5) hb7 HZL.out (by have := HF.out.2.2; have := HZL.out; omega) (by have := HMB.out; omega))
  clear ht7 hb7 hx7
  go_wp2_with (go_at_call 33; refine HSP.out.mono ?_; rintro e w8 ⟨rfl, ho8⟩; have HO8 := hide ho8; clear ho8)
  go_ret
  refine ⟨by simp, _, _, _, _, _, HB.out.spoiled HO8.out (fun k hk => ?_)⟩
  simp at hk
  subst hk
  have h1 := HF.out.1
  have h2 := HF.out.2.1.lt
  refine ⟨fun hm => ?_, fun hm => ?_, Nat.le_trans H1.out.only.size h1⟩
  · rcases HT6.out.2 k hm with e | e
    · have := (H1.out.co.lt k e).2; omega
    · omega
  · rcases HT7.out.2 k hm with e | e
    · have := (H1.out.xc.lt k e).2; omega
    · have := HT6.out.1.size; omega
end
end Go.Proofs.Yteljjngmhldfbaa
