/-
  The cache of names (parapet/namec): Put.
-/
import Derived.Test.YtjpojoflbjhjjaaNcPack
import Derived.Test.YtjpojoflbjhjjaaShelf
import Derived.Deep.Cut
import Derived.Deep.CutRange
import Derived.Deep.CutBlock
namespace Go.Proofs.Ytjpojoflbjhjjaa
open Go.ChangeShapes Go.WideShapes Go.ChangeAt Go.RowKit Go.Maps
set_option linter.unusedVariables false
set_option linter.unusedSimpArgs false
section
variable {w w' w1 : World} {c d mm : Nat} {room made : Int} {v : Value} {O : List NM} {M : List (NM × (Int × Int))} {S F FD T G : List Nat} {s : RS} {p : CS} {k : NM} {f : Int × Int} {ss zs : List NM} {x : Value}
theorem only_of_below (h : Below w.heap.size w w') : Only [] w w' := ⟨h.os, h.tape, h.output, h.size, fun k hk _ => h.block k hk⟩
theorem strClone_is (s : ByteArray) (hs : s.size ≤ 281474976710656) (w : World) : Calls Try.prog 35 #[.string s] w fun e w' => e = .returned (.string s) ∧ Only [] w w' := by
  have h := Try.stringslite_Clone s
  go_enter Try.func35, Try.ntmps35
  go_wp2_with (go_at_call 51; go_loud (refine (h _ hs).mono ?_); rintro e w' ⟨rfl, hb⟩; have HB := hide (only_of_below hb); clear hb)
  go_ret
  exact ⟨rfl, HB.out⟩
theorem step_append_names {ops : Array Oper} {o : Oper} {a : Act} {K : Act → World → Prop} {Q : Exit → Act → World → Prop} {E : Prop} (hgd : o.guard = none) (s y : Operand)
    (ho : o.op = .call { callee := .builtin .append, args := #[s, y], argTypes := #[51, 51] }) (hs : a.eval s = v) (hr : NRw w v ss)
    (hx : a.eval y = x) (hz : NamesAt w x zs) (hbig : ss.length + zs.length < 1000000)
    (hK : ∀ v' w2, NRw w2 v' (ss ++ zs) → Only v.ownBlock.toList w w2 → (∀ k, v'.ownBlock = some k → v.ownBlock = some k ∨ w.heap.size ≤ k) → (∃ A c, v' = .slice A (ss ++ zs).length c) → K (a.put o.dst v') w2) :
    if Region.wanted o (yielded ops a.tmps) = true then Oper.wp Try.prog o a w K Q else E := by
  have hw : Region.wanted o (yielded ops a.tmps) = true := by simp [Region.wanted, hgd]
  rw [if_pos hw]
  exact wp_append_names s y ho hs hr hx hz hbig hK
theorem IsCa.setMade (h : IsCa w c d mm room v O M made) (m' : Int) : IsCa (w.setCell ⟨c, 4, none⟩ (.int .i64 m')) c d mm room v O M m' := by
  have ho : Only [c] w (w.setCell ⟨c, 4, none⟩ (.int .i64 m')) := (Only.refl [c] w).setCell (p := ⟨c, 4, none⟩) _ (by simp)
  obtain ⟨D, d1, d2⟩ := h.own
  exact ⟨h.blk.set_ 4 _, h.row.only ho (fun q hq hm => h.vc q hq (by simpa using hm)), D, ownsMap_only d1 ho (by simpa using h.mc), d2⟩
theorem IsCa.store (h : IsCa w c d mm room v O M made) (hl : M.length < maxLen) (hk : k.wf) (hn : k ∉ M.map (·.1)) (f : Int × Int) :
    ∃ W', (Instr.mapUpdate 68 (.map (some mm)) (.agg #[.int .i64 k.dir, .string k.name]) (.agg #[.int .i64 f.1, .int .i64 f.2])).run Try.prog w = .ok () W' ∧ IsCa W' c d mm room v O (M ++ [(k, f)]) made ∧ Only [mm] w W' := by
  obtain ⟨D, d1, d2⟩ := h.own
  have e := d2.size
  obtain ⟨W', h1, h2, h3⟩ := storeN_new (f := f) d2 d1 hl hk hn
  exact ⟨W', h1, ⟨h.blk.only h3 (by simpa using fun e => h.mc e.symm), h.row.only h3 (fun q hq hm => h.vm q hq (by simpa using hm)), _, h2, d2.new hk hn⟩, h3⟩
/-- What stands when a name may be put in: the name's box lies at q. -/
def MidP (w : World) (c d q : Nat) (p : CS) (k : NM) (G : List Nat) (wx : World) : Prop := ∃ G', Ca wx c d p G' ∧ Tn w wx G G' ∧ q ∉ G' ∧ Blk wx q 42 #[.int .i64 k.dir, .string k.name]
theorem CS.evict_full (h : (p.L.length : Int) = p.room) : p.evict = p.drop 0 := by unfold CS.evict; rw [if_pos h]
theorem CS.evict_not (h : ¬ (p.L.length : Int) = p.room) : p.evict = p := by unfold CS.evict; rw [if_neg h]
/-- The first is forgotten. -/
theorem CS.forget_first {e : KE} (h : p.L[0]? = some e) : p.forget e.key = p.drop 0 := by
  unfold CS.forget CS.at
  rw [List.findIdx?_eq_some_iff_getElem.2 ⟨(List.getElem?_eq_some_iff.1 h).1, by have := (List.getElem?_eq_some_iff.1 h).2; simp [this], by omega⟩]
theorem OkC.evict (h : OkC p) : OkC p.evict := by
  by_cases hf : (p.L.length : Int) = p.room
  · rw [CS.evict_full hf]
    have h0 : 0 < p.L.length := by have := h.r0; omega
    exact h.drop (List.getElem?_eq_getElem h0)
  · rw [CS.evict_not hf]; exact h
theorem CS.evict_room (h : OkC p) : (p.evict.L.length : Int) < p.evict.room ∧ p.evict.room = p.room ∧ p.evict.made = p.made ∧ ∀ x ∈ p.evict.L, x ∈ p.L := by
  have h1 := h.len
  have h2 := h.r0
  by_cases hf : (p.L.length : Int) = p.room
  · have h0 : 0 < p.L.length := by omega
    rw [CS.evict_full hf, CS.drop_some (List.getElem?_eq_getElem h0)]
    have := erase_len (List.getElem?_eq_getElem h0)
    refine ⟨by simp only; omega, rfl, rfl, fun x hx => List.mem_of_mem_eraseIdx hx⟩
  · rw [CS.evict_not hf]; exact ⟨by omega, rfl, rfl, fun x hx => hx⟩
theorem OkC.put (h : OkC p) {n : Int} (hk : k.wf) (ht : p.made + 1 < 3900000000000) : OkC (p.put k n) := by
  have h1 := h.forget k
  have h2 := h1.evict
  obtain ⟨e1, e2, e3, e4⟩ := CS.evict_room h1
  obtain ⟨f1, f2, f3⟩ := CS.forget_made p k
  have hn := CS.forget_not h k
  have hc := h2.cnt
  unfold CS.put
  generalize (p.forget k).evict = r at *
  have hm0 : r.made = p.made := e3.trans f1
  refine ⟨h2.r0, h2.r1, by simp only [List.length_append, List.length_singleton]; omega, ?_, ?_, ?_, ?_, ?_, fun x hx => by have := h2.gone x hx; simp only; omega, by simp only [List.length_append, List.length_singleton]; omega, by simp only; omega⟩
  · rw [List.map_append, List.nodup_append]
    refine ⟨h2.nd, by simp, fun a ha b hb e => ?_⟩
    simp at hb
    obtain ⟨y, hy, rfl⟩ := List.mem_map.1 ha
    exact hn (List.mem_map.2 ⟨y, e4 y hy, e.trans hb⟩)
  · intro x hx
    rcases List.mem_append.1 hx with q | q
    · exact h2.wf x q
    · simp at q; subst q; exact hk
  · intro x hx
    simp only
    rcases List.mem_append.1 hx with q | q
    · have := h2.ids x q; omega
    · simp at q; subst q; simp only; omega
  · rw [List.map_append, List.nodup_append]
    refine ⟨h2.idn, by simp, fun a ha b hb e => ?_⟩
    simp at hb
    obtain ⟨y, hy, rfl⟩ := List.mem_map.1 ha
    have := h2.ids y hy
    omega
  · intro x hx hm
    rcases List.mem_append.1 hx with q | q
    · exact h2.apart x q hm
    · simp only [List.mem_singleton] at q
      subst q
      obtain ⟨y, hy, e⟩ := List.mem_map.1 hm
      have := h2.gone y hy
      simp only at e
      omega

theorem IsCa.quietc (h : IsCa w c d mm room v O M made) {W : World} (ho : Only [] w W) : IsCa W c d mm room v O M made := h.quiet ho
set_option maxRecDepth 100000 in
set_option maxHeartbeats 1500000 in
theorem ca_put_neg (h : Ca w c d p G) (n : Int) (hn : n < 0) : Calls Try.prog 14 #[.pointer (some ⟨c, 0, none⟩), kV k, .int .i64 n] w fun e w' => e = .returned (.int .i64 1) ∧ Only [] w w' := by
  obtain ⟨mm, v, FD, h1, h2, h3, h4, h5, h6⟩ := h
  have HC := hide (fun W (ho : Only [] w W) => ncclosed_is (h1.quiet ho))
  have HO := hide ((Only.refl [] w).alloc (.cells #[.int .i64 k.dir, .string k.name] 42))
  clear h1 h2 h3 h4 h5 h6
  unfold kV
  go_enter Try.func14, Try.ntmps14
  go_wp2_with (go_at_call 33; refine (HC.out _ HO.out).mono ?_; rintro e w' ⟨rfl, rfl⟩)
  go_ret
  exact ⟨rfl, HO.out⟩
set_option maxRecDepth 100000 in
set_option maxHeartbeats 2500000 in
/-- A name is put in. -/
theorem ca_put (h : Ca w c d p G) (hk : k.wf) (hkn : k.name.size ≤ 281474976710656) (n : Int) (hn : 0 ≤ n) (ht : p.made + 1 < 3900000000000) : Calls Try.prog 14 #[.pointer (some ⟨c, 0, none⟩), kV k, .int .i64 n] w fun e w' => e = .returned (.int .i64 0) ∧ DidC w w' c d (p.put k n) G := by
  have HC := hide (fun W (ho : Only [] w W) => (show Calls Try.prog 33 #[.pointer (some ⟨c, 0, none⟩)] W fun e w' => e = .returned (.bool false) ∧ W = w' from by
    obtain ⟨mm, v, FD, h1, h2, h3, h4, h5, h6⟩ := h
    exact ncclosed_is (h1.quiet ho)))
  have HF := hide (fun W (ho : Only [] w W) => ca_forget (h.quiet ho) hk)
  have HL := hide h.lt
  have HKO := hide h.ok
  have HO := hide ((Only.refl [] w).alloc (.cells #[.int .i64 k.dir, .string k.name] 42))
  have HBX := hide (Blk.new w 42 #[.int .i64 k.dir, .string k.name])
  have HK := hide hk
  have HKN := hide hkn
  have HT := hide ht
  clear h hk hkn ht
  unfold kV at HF ⊢
  go_enter Try.func14, Try.ntmps14
  go_wp2_with (go_at_call 33; refine (HC.out _ HO.out).mono ?_; rintro e w' ⟨rfl, rfl⟩)
  generalize w.alloc (.cells #[.int .i64 k.dir, .string k.name] 42) = W1 at *
  generalize hq : w.heap.size = q at *
  have HQ := hide hq
  clear hq
  have b0 := (HBX.out.cell 0).trans (b := some (Value.int .i64 k.dir)) rfl
  have b1 := (HBX.out.cell 1).trans (b := some (Value.string k.name)) rfl
  go_wp2_with (go_at_call 16; refine (HF.out _ HO.out).mono ?_; rintro e w2 ⟨rfl, G2, ht2, hc2⟩; have HT2 := hide ht2; have HC2 := hide hc2; clear ht2 hc2)
  have hqG : q ∉ G := fun hm => by have := HL.out q hm; have := HQ.out; omega
  have hqG2 : q ∉ G2 := fun hm => by
    rcases HT2.out.2 q hm with e | e
    · exact hqG e
    · have := HBX.out.lt; omega
  have HQ2 := hide hqG2
  have HBX2 := hide (HBX.out.only HT2.out.1 hqG)
  have HM2 := hide (show MidP w c d q (p.forget k) k G w2 from ⟨G2, HC2.out, ⟨(HO.out.mono (by simp)).trans HT2.out.1, fun x hx => (HT2.out.2 x hx).imp_right (fun e => Nat.le_trans HO.out.size e)⟩, hqG2, HBX2.out⟩)
  clear b0 b1 hqG hqG2
  obtain ⟨mm, v, FD, h1, h2, h3, h4, h5, h6⟩ := HC2.out
  obtain ⟨A, cap, rfl, hA⟩ := h1.row.form
  have c1 := h1.c1
  have c3 := h1.c3
  have HH := hide h1
  have HA := hide hA
  rw [List.length_map] at c3
  clear h1 h2 h3 h5 h6 hA
  have HOK := hide h4
  clear h4
  go_cut [23] from 14 to 23 (fun t wx => t = .bool (decide (((p.forget k).L.length : Int) = (p.forget k).room)) ∧ wx = w2.drew)
  case first =>
    by_cases hfull : ((p.forget k).L.length : Int) = (p.forget k).room
    · rw [← hfull] at c1
      go_region
      go_wp2
      go_meet
      case rel => exact ⟨by simp [hfull], rfl⟩
    · have hd : decide (((p.forget k).L.length : Int) = (p.forget k).room) = false := decide_eq_false hfull
      go_region
      go_wp2
      go_meet
      case rel => exact ⟨congrArg Value.bool (by rw [hd]; exact beq_false_of_ne hfull), rfl⟩
  case rest =>
  obtain ⟨rfl, rfl⟩ := hcut
  have c3d : w2.drew.cell? ⟨c, 3, none⟩ = some (.slice A (p.forget k).L.length cap) := c3
  clear c1 c3
  go_upto_if 23 with fail
  go_cut [] from 23 to 31 (fun wx => MidP w c d q ((p.forget k).evict) k G wx)
  case first =>
    by_cases hfull : ((p.forget k).L.length : Int) = (p.forget k).room
    · have h0 : 0 < (p.forget k).L.length := by have := HOK.out.r0; omega
      obtain ⟨x0, hx0⟩ : ∃ x, (p.forget k).L[0]? = some x := ⟨_, List.getElem?_eq_getElem h0⟩
      obtain ⟨b, rfl, hbl⟩ := HA.out (by simpa using h0)
      obtain ⟨e0, e1⟩ := HH.out.row.cell rfl rfl (i := 0) (s := x0.key) (by rw [List.getElem?_map, hx0]; rfl)
      have e0d : w2.drew.cell? ⟨b, 0 * 2, none⟩ = some (.int .i64 x0.key.dir) := e0
      have e1d : w2.drew.cell? ⟨b, 0 * 2 + 1, none⟩ = some (.string x0.key.name) := e1
      have HF2 := hide (fun W (ho : Only [] w2 W) => ca_forget (k := x0.key) (HC2.out.quiet ho) (HOK.out.wf x0 (List.mem_of_getElem? hx0)))
      have HE := hide ((CS.forget_first hx0).trans (CS.evict_full hfull).symm)
      have h0I : (0 : Int) < (p.forget k).L.length := by omega
      have hd : decide (((p.forget k).L.length : Int) = (p.forget k).room) = true := decide_eq_true hfull
      unfold kV at HF2
      clear hx0 e0 e1
      refine wp_cond_true (congrArg Value.bool hd) ?_
      go_wp2_with (go_at_call 16; refine (HF2.out _ (by repeat (first | exact Only.refl _ _ | apply Only.drew | apply Only.drewN))).mono ?_; rintro e w3 ⟨rfl, G3, ht3, hc3⟩; have HT3 := hide ht3; have HC3 := hide hc3; clear ht3 hc3)
      go_meet
      case rel =>
        have k1 : Tn W1 w3 G G3 := HT2.out.trans ⟨(((Only.refl [] w2).drew).mono (by simp)).trans HT3.out.1, HT3.out.2⟩
        have hq3 : q ∉ G3 := fun hm => by
          rcases HT3.out.2 q hm with e | e
          · exact HQ2.out e
          · have := HBX2.out.lt; simp at e; omega
        rw [← HE.out]
        exact ⟨G3, HC3.out, ⟨(HO.out.mono (by simp)).trans k1.1, fun x hx => (k1.2 x hx).imp_right (fun e => Nat.le_trans HO.out.size e)⟩, hq3, (HBX2.out.only ((Only.refl [] w2).drew) (by simp)).only HT3.out.1 HQ2.out⟩
    · have hd : decide (((p.forget k).L.length : Int) = (p.forget k).room) = false := decide_eq_false hfull
      refine wp_cond_false (congrArg Value.bool hd) ?_
      go_wp2
      go_meet
      case rel =>
        rw [CS.evict_not hfull]
        obtain ⟨G3, a1, a2, a3, a4⟩ := HM2.out
        exact ⟨G3, a1.quiet ((Only.refl [] w2).drew), a2.quiet ((Only.refl [] w2).drew), a3, a4.only ((Only.refl [] w2).drew) (by simp)⟩
  case rest =>
  have HOKR := hide HOK.out.evict
  have HRM := hide (CS.evict_room HOK.out)
  have HNK := hide (CS.forget_not HKO.out k)
  have HPUT := hide (show p.put k n = { (p.forget k).evict with L := (p.forget k).evict.L ++ [⟨k, n, (p.forget k).evict.made + 1⟩], made := (p.forget k).evict.made + 1 } from rfl)
  have HOKP := hide (HKO.out.put (n := n) HK.out HT.out)
  have HMD := hide (CS.forget_made p k)
  rw [HPUT.out] at HOKP
  clear HC2 HBX2 HQ2 HT2 HH HA HM2 c3d
  generalize (p.forget k).evict = r at *
  obtain ⟨G3, hc3, ht3, hq3, hb3⟩ := hcut
  obtain ⟨mm3, v3, FD3, i1, i2, i3, i4, i5, i6⟩ := hc3
  obtain ⟨A3, cap3, rfl, -⟩ := i1.row.form
  have HI := hide i1
  have HR := hide i2
  have HX := hide i3
  have HG := hide i5
  have HG6 := hide i6
  have HT3 := hide ht3
  have HQ3 := hide hq3
  have HB3 := hide hb3
  clear i1 i2 i3 i4 i5 i6 ht3 hq3 hb3
  have HSC := hide (fun W => strClone_is k.name HKN.out W)
  have b1 := (HB3.out.cell 1).trans (b := some (Value.string k.name)) rfl
  go_upto_region 9 with (go_at_call 35; refine (HSC.out _).mono ?_; rintro e w4 ⟨rfl, ho4⟩; have HO4 := hide ho4; have b1' := ((HB3.out.only ho4 (by simp)).cell 1).trans (b := some (Value.string k.name)) rfl; have f1' := (HB3.out.only ho4 (by simp)).frozen 1; clear ho4)
  have hqn : ∀ x, x ∈ c :: mm3 :: ((Value.slice A3 (r.L.map KE.key).length cap3).ownBlock.toList ++ FD3) → x ≠ q := fun x hx e => HQ3.out (e ▸ HG.out x hx)
  have ho5 : Only [q] wc (w4.setCell ⟨q, 1, none⟩ (.string k.name)) := (HO4.out.mono (by simp)).trans ((Only.refl [q] w4).setCell (p := ⟨q, 1, none⟩) _ (by simp))
  have HI5 := hide (HI.out.only ho5 (by simpa using hqn c (by simp)) (by simpa using hqn mm3 (by simp)) (fun x hx hm => hqn x (List.mem_cons_of_mem _ (List.mem_cons_of_mem _ (List.mem_append_left _ (by rw [hx]; simp)))) (by simpa using hm)))
  have HB5 := hide (show Blk (w4.setCell ⟨q, 1, none⟩ (.string k.name)) q 42 #[.int .i64 k.dir, .string k.name] from (HB3.out.only HO4.out (by simp)).set_ 1 _)
  have HO5 := hide ho5
  have HQN := hide hqn
  clear b1 b1' f1' ho5 hqn
  generalize w4.setCell ⟨q, 1, none⟩ (.string k.name) = w5 at *
  have c4 := HI5.out.c4
  have f4 := HI5.out.fr 4
  have hwr : IntKind.i64.wrap (r.made + 1) = r.made + 1 := by
    have h1 := HOKR.out.top
    have h2 := HOKR.out.cnt
    rw [IntKind.wrap_i64]; omega
  go_upto_region 10 with fail
  have HI6 := hide (HI5.out.setMade (r.made + 1))
  have HB6 := hide (show Blk (w5.setCell ⟨c, 4, none⟩ (.int .i64 (r.made + 1))) q 42 #[.int .i64 k.dir, .string k.name] from HB5.out.only ((Only.refl [c] w5).setCell (p := ⟨c, 4, none⟩) _ (by simp)) (by simpa using fun e => HQN.out c (by simp) e.symm))
  have HO6 := hide (show Only [c] w5 (w5.setCell ⟨c, 4, none⟩ (.int .i64 (r.made + 1))) from (Only.refl [c] w5).setCell (p := ⟨c, 4, none⟩) _ (by simp))
  clear c4 f4 hwr
  generalize w5.setCell ⟨c, 4, none⟩ (.int .i64 (r.made + 1)) = w6 at *
  have c4 := HI6.out.c4
  have c2 := HI6.out.c2
  have b0 := (HB6.out.cell 0).trans (b := some (Value.int .i64 k.dir)) rfl
  have b1 := (HB6.out.cell 1).trans (b := some (Value.string k.name)) rfl
  have hkn : k ∉ (r.L.map KE.ent).map (·.1) := by
    rw [ents_keys]
    intro hm
    obtain ⟨y, hy, e⟩ := List.mem_map.1 hm
    exact HNK.out (List.mem_map.2 ⟨y, HRM.out.2.2.2 y hy, e⟩)
  obtain ⟨w7, hrun, hi7, ho7⟩ := (HI6.out.quiet ((Only.refl [] w6).drew)).store (by have h1 := HOKR.out.len; have h2 := HOKR.out.r1; rw [List.length_map]; unfold maxLen; omega) HK.out hkn (n, r.made + 1)
  have HI7 := hide hi7
  have HO7 := hide ho7
  have HB7 := hide (HB6.out.only (((Only.refl [] w6).drew.mono (by simp)).trans ho7) (by simpa using fun e => HQN.out mm3 (by simp) e.symm))
  clear hi7 ho7 hkn
  simp only at hrun
  go_region
  clear c4 c2 b0 b1 hrun
  have c3 := HI7.out.c3
  have b0 := (HB7.out.cell 0).trans (b := some (Value.int .i64 k.dir)) rfl
  have b1 := (HB7.out.cell 1).trans (b := some (Value.string k.name)) rfl
  have HBIG := hide (show (r.L.map KE.key).length + [k].length < 1000000 from by have h1 := HOKR.out.len; have h2 := HOKR.out.r1; simp; omega)
  have HNA := hide (fun (W : World) => (show NamesAt (W.alloc (.cells #[.int .i64 k.dir, .string k.name] 42)) (.slice (some ⟨W.heap.size, 0, none⟩) 1 1) [k] from .inr ⟨W.heap.size, 0, 1, rfl, fun _ => by simp, fun j u hu => by
    rw [Nat.zero_add, (Blk.new W 42 #[.int .i64 k.dir, .string k.name]).cell]
    have e : flatN [k] = [.int .i64 k.dir, .string k.name] := rfl
    rw [e] at hu
    rw [List.getElem?_toArray]; exact hu⟩))
  have HN := hide (show ∀ x, (Value.slice A3 (r.L.map KE.key).length cap3).ownBlock = some x → x ∈ c :: mm3 :: ((Value.slice A3 (r.L.map KE.key).length cap3).ownBlock.toList ++ FD3) from fun x hx => List.mem_cons_of_mem _ (List.mem_cons_of_mem _ (List.mem_append_left _ (by rw [hx]; simp))))
  have c3a := fun o => (HI7.out.quiet ((Only.refl [] w7).alloc o)).c3
  have c3d := fun o => (HI7.out.quiet ((Only.refl [] w7).drew.alloc o)).c3
  generalize hO : r.L.map KE.key = O at *
  have HFIN := hide (fun (w9 : World) (A9 : Option Addr) (c9 : Nat) (hj : IsCa (w9.setCell ⟨c, 3, none⟩ (.slice A9 (O.length + 1) c9)) c d mm3 r.room (.slice A9 (O.length + 1) c9) (O ++ [k]) (r.L.map KE.ent ++ [(k, (n, r.made + 1))]) (r.made + 1))
      (k9 : Only (Value.slice A3 O.length cap3).ownBlock.toList w7 w9) (k8 : ∀ x, (Value.slice A9 (O.length + 1) c9).ownBlock = some x → (Value.slice A3 O.length cap3).ownBlock = some x ∨ w7.heap.size ≤ x) =>
    (show DidC w (w9.setCell ⟨c, 3, none⟩ (.slice A9 (O.length + 1) c9)) c d (p.put k n) G from by
      have hX := HX.out
      have o7 : Only (q :: c :: mm3 :: (Value.slice A3 O.length cap3).ownBlock.toList) wc w7 := (HO5.out.mono (by simp +contextual)).trans ((HO6.out.mono (by simp +contextual)).trans ((((Only.refl [] w6).drew).mono (by simp)).trans (HO7.out.mono (by simp +contextual))))
      have o9 : Only (q :: c :: mm3 :: (Value.slice A3 O.length cap3).ownBlock.toList) wc (w9.setCell ⟨c, 3, none⟩ (.slice A9 (O.length + 1) c9)) := (o7.trans (k9.mono (fun x _ hx => List.mem_cons_of_mem _ (List.mem_cons_of_mem _ (List.mem_cons_of_mem _ hx))))).setCell (p := ⟨c, 3, none⟩) _ (fun _ => by simp)
      have hown : ∀ x, x ∈ (Value.slice A3 O.length cap3).ownBlock.toList → (Value.slice A3 O.length cap3).ownBlock = some x := fun x hx => by simpa using hx
      have hT := HT3.out
      have hGG : ∀ x ∈ G3, x ∈ G ∨ w.heap.size ≤ x := hT.2
      have hw7 := o7.size
      have hwc := hT.1.size
      have hFG : ∀ x ∈ FD3, x ∈ G3 := fun x hx => HG.out x (List.mem_cons_of_mem _ (List.mem_cons_of_mem _ (List.mem_append_right _ hx)))
      have hFl := HR.out.lt
      rw [HPUT.out]
      refine ⟨c :: mm3 :: ((Value.slice A9 (O.length + 1) c9).ownBlock.toList ++ FD3), ⟨hT.1.trans' o9 (fun x hx hm => ?_), fun x hx => ?_⟩, mm3, .slice A9 (O.length + 1) c9, FD3, ?_, HR.out.only o9 (fun x hx hm => ?_), ⟨hX.1, hX.2.1, fun x hx hm => ?_⟩, HOKP.out, fun x hx => hx, fun x hx => ?_⟩
      · rcases List.mem_cons.1 hm with e | hm
        · have := HQ.out; omega
        rcases List.mem_cons.1 hm with e | hm
        · subst e; exact (hGG _ (HG.out _ (by simp))).resolve_right (by omega)
        rcases List.mem_cons.1 hm with e | hm
        · subst e; exact (hGG _ (HG.out _ (by simp))).resolve_right (by omega)
        · exact (hGG _ (HG.out _ (HN.out x (hown x hm)))).resolve_right (by omega)
      · rcases List.mem_cons.1 hx with e | hm
        · subst e; exact hGG _ (HG.out _ (by simp))
        rcases List.mem_cons.1 hm with e | hm
        · subst e; exact hGG _ (HG.out _ (by simp))
        rcases List.mem_append.1 hm with e | hm
        · rcases k8 x (by simpa using e) with e | e
          · exact hGG _ (HG.out _ (HN.out x e))
          · exact .inr (by omega)
        · exact hGG _ (hFG x hm)
      · show IsCa _ c d mm3 r.room _ ((r.L ++ [(⟨k, n, r.made + 1⟩ : KE)]).map KE.key) ((r.L ++ [(⟨k, n, r.made + 1⟩ : KE)]).map KE.ent) (r.made + 1)
        rw [List.map_append, List.map_append, hO]
        exact hj
      · rcases List.mem_cons.1 hm with e | hm
        · subst e; exact HQ3.out (hFG _ hx)
        rcases List.mem_cons.1 hm with e | hm
        · subst e; exact hX.1 hx
        rcases List.mem_cons.1 hm with e | hm
        · subst e; exact hX.2.1 hx
        · exact hX.2.2 x (hown x hm) hx
      · rcases k8 x hx with e | e
        · exact hX.2.2 x e hm
        · have := hFl x hm; omega
      · have hl := hj.lt
        rcases List.mem_cons.1 hx with e | hm
        · subst e; exact hl.1
        rcases List.mem_cons.1 hm with e | hm
        · subst e; exact hl.2.1
        rcases List.mem_append.1 hm with e | hm
        · exact hl.2.2 x (by simpa using e)
        · exact Nat.lt_of_lt_of_le (hFl x hm) o9.size))
  go_wp2
  go_region_law (refine step_append_names rfl _ _ rfl (v := .slice A3 O.length cap3) (ss := O) (zs := [k]) (by simp [Act.eval, Act.put]) (HI7.out.row.only (S := []) (by repeat (first | exact Only.refl _ _ | apply Only.drew | apply Only.alloc)) (by simp)) (by simp [Act.eval, Act.put]) (HNA.out _) HBIG.out ?_; rintro v9 w9 g1 g2 g3 ⟨A9, c9, rfl⟩; have k9 : Only (Value.slice A3 O.length cap3).ownBlock.toList w7 w9 := Only.trans (Only.mono (S := []) (by repeat (first | exact Only.refl _ _ | apply Only.drew | apply Only.alloc)) (by simp)) g2; have k8 : ∀ x, (Value.slice A9 (O ++ [k]).length c9).ownBlock = some x → (Value.slice A3 O.length cap3).ownBlock = some x ∨ w7.heap.size ≤ x := fun x hx => (g3 x hx).imp_right (fun e => by simp at e; omega); obtain ⟨j1, j2, j3⟩ := HI7.out.setO k9 g1 k8; have HJ := hide j1; have K9 := hide k9; have K8 := hide k8; clear j1 k9 k8 g1 g2 g3)
  all_goals
    have e9 : (O ++ [k]).length = O.length + 1 := by simp
    rw [e9] at HJ K8
    have HD := hide (HFIN.out _ _ _ HJ.out K9.out K8.out)
    clear j2 j3 HJ K8 K9 c3 c3a c3d b0 b1
    go_wp2
    go_ret
    exact ⟨rfl, HD.out⟩
end
end Go.Proofs.Ytjpojoflbjhjjaa
