/-
  The document's cache of names (parapetref19): Put, ForgetDir.
-/
import Derived.Test.YtjpojoflbjhjjaaNcXPack
import Derived.Test.YtjpojoflbjhjjaaNcPut
import Derived.Deep.Cut
import Derived.Deep.CutRange
import Derived.Deep.CutBlock
namespace Go.Proofs.Ytjpojoflbjhjjaa
open Go.ChangeShapes Go.WideShapes Go.ChangeAt Go.RowKit Go.Maps
set_option linter.unusedVariables false
set_option linter.unusedSimpArgs false
section
variable {w w' w1 : World} {x : Nat} {p : CS} {F S : List Nat} {k : NM} {i : Nat} {e : KE}
theorem XIs.setMade {v u : Value} {room made : Int} {L : List KE} {Gn : List Int} (h : XIs w x v u room made L Gn) (m : Int) : XIs (w.setCell ⟨x, 2, none⟩ (.int .i64 m)) x v u room m L Gn := by
  have o3 : Only [x] w (w.setCell ⟨x, 2, none⟩ (.int .i64 m)) := (Only.refl [x] w).setCell (p := ⟨x, 2, none⟩) _ (by simp)
  exact ⟨h.blk.set_ 2 _, h.rl.only o3 (fun q hq hm => h.xv q hq (by simpa using hm)), KRow.only h.rg o3 (fun q hq hm => h.xu q hq (by simpa using hm))⟩
theorem XIs.setV {v u : Value} {room made : Int} {L : List KE} {Gn : List Int} (h : XIs w x v u room made L Gn) {w2 : World} {v' : Value} {L' : List KE} (ho : Only v.ownBlock.toList w w2) (hr : XkR w2 v' L') (hn : ∀ q, v'.ownBlock = some q → v.ownBlock = some q ∨ w.heap.size ≤ q) : XIs (w2.setCell ⟨x, 1, none⟩ v') x v' u room made L' Gn := by
  have hx := h.blk.lt
  have hxv : x ∉ v.ownBlock.toList := fun hm => h.xv x (by simpa using hm) rfl
  have hb := (h.blk.only ho hxv).set_ 1 v'
  have o3 : Only [x] w2 (w2.setCell ⟨x, 1, none⟩ v') := (Only.refl [x] w2).setCell (p := ⟨x, 1, none⟩) _ (by simp)
  refine ⟨hb, hr.only o3 (fun q hq hm => ?_), KRow.only (KRow.only h.rg ho (fun q hq hm => h.vu q (by simpa using hm) q hq rfl)) o3 (fun q hq hm => h.xu q hq (by simpa using hm))⟩
  have e : q = x := by simpa using hm
  rcases hn q hq with q1 | q1
  · exact h.xv q q1 e
  · omega
set_option maxRecDepth 100000 in
theorem xc_put_neg (h : Xc w x p F) (n : Int) (hn : n < 0) (k : NM) : Calls Try.prog 15 #[.pointer (some ⟨x, 0, none⟩), kV k, .int .i64 n] w fun e w' => e = .returned (.int .i64 1) ∧ Only [] w w' := by
  clear h
  unfold kV
  go_enter Try.func15, Try.ntmps15
  go_wp2
  go_ret
  exact ⟨rfl, by repeat (first | exact Only.refl _ _ | apply Only.drew | apply Only.alloc)⟩
theorem DidX.trans {p2 : CS} (h : DidX w w1 x p F) (h2 : ∀ F', Xc w1 x p F' → DidX w1 w' x p2 F') : DidX w w' x p2 F := by
  obtain ⟨F', t1, t2⟩ := h
  obtain ⟨F2, t3, t4⟩ := h2 F' t2
  exact ⟨F2, t1.trans t3, t4⟩
theorem kepts_one {q : Nat} {k : NM} {n id : Int} (hb : Blk w q 54 #[.int .i64 k.dir, .string k.name, .int .i64 n, .int .i64 id]) : KeptsAt w (.slice (some ⟨q, 0, none⟩) 1 1) [⟨k, n, id⟩] :=
  .inr ⟨q, 0, 1, rfl, fun _ => hb.lt, fun j u hu => by
    rw [hb.cell, Nat.zero_add, List.getElem?_toArray]
    exact hu⟩
/-- The state in which Put lays the name down. -/
def MidX (w : World) (x q : Nat) (p : CS) (k : NM) (F : List Nat) (wx : World) : Prop := DidX w wx x (p.forget k).evict F ∧ Blk wx q 42 #[.int .i64 k.dir, .string k.name] ∧ q ∉ F ∧ w.heap.size ≤ q
set_option maxRecDepth 100000 in
set_option maxHeartbeats 2000000 in
theorem xc_put (h : Xc w x p F) (ok : OkC p) (n : Int) (hn : 0 ≤ n) (k : NM) (ht : p.made + 1 < 3900000000000) (hm0 : 0 ≤ p.made) : Calls Try.prog 15 #[.pointer (some ⟨x, 0, none⟩), kV k, .int .i64 n] w fun e w' => e = .returned (.int .i64 0) ∧ DidX w w' x (p.put k n) F := by
  have hn' : ¬ n < 0 := by omega
  have HF := hide (fun W (ho : Only [] w W) => xc_find (h.quiet ho) ok k)
  have H := hide h
  have hfd : p.forget k = match p.at k with | none => p | some i => p.drop i := rfl
  have hlt : ∀ q ∈ F, q < w.heap.size := by obtain ⟨v, u, h1, h2, h3⟩ := h; exact h3
  have HLT := hide hlt
  have HOK := hide ok
  have hput : p.put k n = { (p.forget k).evict with L := (p.forget k).evict.L ++ [⟨k, n, (p.forget k).evict.made + 1⟩], made := (p.forget k).evict.made + 1 } := rfl
  have hmade : (p.forget k).evict.made = p.made := by rw [(CS.evict_room (ok.forget k)).2.2.1]; exact (CS.forget_made p k).1
  have HM := hide hmade
  have HOK2 := hide ((ok.forget k).evict)
  have HPUT := hide hput
  rw [atI_at] at HF
  unfold kV at *
  go_enter Try.func15, Try.ntmps15
  have hne0 : p.L.length ≤ p.room := by have := ok.len; omega
  have hroom := ok.r0
  cases hat : p.at k with
  | none =>
    rw [hat] at HF hfd
    have hfg : p.forget k = p := hfd
    go_upto_if 14 with (go_at_call 34; refine (HF.out _ (by repeat (first | exact Only.refl _ _ | apply Only.drew | apply Only.alloc))).mono ?_; rintro e w1 ⟨rfl, ho⟩; have HB1 := hide ((Blk.new w 42 #[.int .i64 k.dir, .string k.name]).only ho (by simp)); have HO := hide (((Only.refl [] w).alloc (.cells #[.int .i64 k.dir, .string k.name] 42)).trans ho); clear ho)
    go_cut [] from 15 to 29 (fun wx => MidX w x w.heap.size p k F wx)
    case first =>
      refine wp_cond_false (congrArg Value.bool (show decide ((-1 : Int) ≥ 0) = false from by decide)) ?_
      have h1 := H.out.quiet HO.out
      obtain ⟨v, u, g1, g2, g3⟩ := h1
      obtain ⟨A, cap, ev, hA⟩ := g1.rl.form
      subst ev
      have k0 : w1.cell? ⟨x, 0, none⟩ = some (.int .i64 p.room) := g1.blk.cell 0
      have k1 := g1.c1
      by_cases hfull : (p.L.length : Int) = p.room
      · have hd : decide ((p.L.length : Int) ≥ p.room) = true := decide_eq_true (by omega)
        have hd2 : decide (p.room ≤ (p.L.length : Int)) = true := decide_eq_true (by omega)
        obtain ⟨e, he⟩ : ∃ e, p.L[0]? = some e := ⟨_, List.getElem?_eq_getElem (show 0 < p.L.length by omega)⟩
        have HD := hide (fun W (ho : Only [] w W) => xc_drop (h.quiet ho) ok he)
        have HE := hide (CS.evict_full hfull)
        clear g1 g2 g3 hA h he
        go_wp2_with fail
        go_region
        all_goals go_wp2_with (go_at_call 36; refine (HD.out _ (by have := HO.out; repeat (first | exact this | apply Only.drew | apply Only.drewN))).mono ?_; rintro e w2 ⟨rfl, hd⟩; have HX := hide hd; clear hd)
        all_goals go_meet
        case rel =>
          obtain ⟨F', t1, t2⟩ := HX.out
          refine ⟨?_, (Blk.drew HB1.out).only t1.1 (fun hm => by have := HLT.out _ hm; omega), fun hm => by have := HLT.out _ hm; omega, Nat.le_refl _⟩
          rw [hfg, HE.out]
          exact ⟨F', ⟨((HO.out.drew).mono (by simp)).trans t1.1, fun q hq => (t1.2 q hq).imp_right (fun g => Nat.le_trans HO.out.size g)⟩, t2⟩
      · have hd : decide ((p.L.length : Int) ≥ p.room) = false := decide_eq_false (by omega)
        have hd2 : decide (p.room ≤ (p.L.length : Int)) = false := decide_eq_false (by omega)
        have HE := hide (CS.evict_not hfull)
        clear g1 g2 g3 hA h
        go_wp2_with fail
        go_region
        all_goals go_wp2_with fail
        all_goals go_meet
        case rel =>
          refine ⟨?_, HB1.out, fun hm => by have := HLT.out _ hm; omega, Nat.le_refl _⟩
          rw [hfg, HE.out]
          exact DidX.same H.out (by have := HO.out; repeat (first | exact this | apply Only.drew | apply Only.drewN))
    case rest =>
      obtain ⟨⟨F', t1, v, u, g1, g2, g3⟩, hb, hqF, hsz⟩ := hcut
      have hm1 := HM.out
      have hm2 := HOK2.out.len
      have hm3 := HOK2.out.r1
      have HT := hide t1
      generalize (p.forget k).evict = P2 at *
      have hpm : 0 ≤ P2.made ∧ P2.made + 1 < 3900000000000 := by omega
      clear hm1
      obtain ⟨A, cap, ev, -⟩ := g1.rl.form
      subst ev
      have k2 : wc.cell? ⟨x, 2, none⟩ = some (.int .i64 P2.made) := g1.blk.cell 2
      have f2 := g1.blk.frozen 2
      have hw : IntKind.i64.wrap (P2.made + 1) = P2.made + 1 := by rw [IntKind.wrap_i64]; omega
      have h8 := g1.setMade (P2.made + 1)
      have hqx : w.heap.size ≠ x := hb.ne_ g1.blk (by decide)
      have hqv : ∀ q, (Value.slice A P2.L.length cap).ownBlock = some q → q ≠ w.heap.size := fun q hq e => by
        subst e
        exact absurd ((g1.rl.at_ hq).2 _ _ hb) (by decide)
      have hb8 := hb.far (p := ⟨x, 2, none⟩) hqx (.int .i64 (P2.made + 1))
      have HO8 := hide (show Only [x] wc (wc.setCell ⟨x, 2, none⟩ (.int .i64 (P2.made + 1))) from (Only.refl [x] wc).setCell (p := ⟨x, 2, none⟩) _ (by simp))
      have HG := hide (And.intro g2 (And.intro g3 g1.lts))
      have hlen : P2.L.length ≤ 4096 := by omega
      have HLEN := hide hlen
      clear t1 g1 hb HF hmade hput hlt ok h g2 g3 hqF hqx
      go_upto_region 9 with fail
      clear hpm hw
      generalize wc.setCell ⟨x, 2, none⟩ (.int .i64 (P2.made + 1)) = W8 at *
      have k1 := h8.c1
      have k1a : ∀ o, (W8.alloc o).cell? ⟨x, 1, none⟩ = some (.slice A P2.L.length cap) := fun o => (h8.blk.alloc o).cell 1
      have k1b : ∀ o, (W8.alloc o).drew.cell? ⟨x, 1, none⟩ = some (.slice A P2.L.length cap) := fun o => (h8.blk.alloc o).cell 1
      have k1d : ∀ o, (W8.drew.alloc o).cell? ⟨x, 1, none⟩ = some (.slice A P2.L.length cap) := fun o => ((h8.blk.drew).alloc o).cell 1
      have k22 : W8.cell? ⟨x, 2, none⟩ = some (.int .i64 (P2.made + 1)) := h8.blk.cell 2
      have b0 : W8.cell? ⟨w.heap.size, 0, none⟩ = some (.int .i64 k.dir) := hb8.cell 0
      have b1 : W8.cell? ⟨w.heap.size, 1, none⟩ = some (.string k.name) := hb8.cell 1
      have H8 := hide h8
      have HRL := hide (fun (W : World) (hW : Only [] W8 W) => H8.out.rl.only hW (by simp))
      have HAF := hide (fun (W : World) (hW : Only (Value.slice A P2.L.length cap).ownBlock.toList W8 W) => (show W.cell? ⟨x, 1, none⟩ = some (.slice A P2.L.length cap) ∧ W.drew.cell? ⟨x, 1, none⟩ = some (.slice A P2.L.length cap) ∧ W.frozen? ⟨x, 1, none⟩ = false ∧ W.drew.frozen? ⟨x, 1, none⟩ = false from by
        have hb := H8.out.blk.only hW (fun hm => H8.out.xv x (by simpa using hm) rfl)
        exact ⟨hb.cell 1, hb.cell 1, hb.frozen 1, hb.frozen 1⟩))
      have HO1 := hide (fun (W W2 : World) (hW : Only [] W8 W) (ho : Only (Value.slice A P2.L.length cap).ownBlock.toList W W2) => (show Only (Value.slice A P2.L.length cap).ownBlock.toList W8 W2 from (hW.mono (by simp)).trans ho))
      have HN1 := hide (fun (W : World) (u2 : Value) (hW : Only [] W8 W) (hk : ∀ q, u2.ownBlock = some q → (Value.slice A P2.L.length cap).ownBlock = some q ∨ W.heap.size ≤ q) => (show ∀ q, u2.ownBlock = some q → (Value.slice A P2.L.length cap).ownBlock = some q ∨ W8.heap.size ≤ q from fun q hq => (hk q hq).imp_right (fun h => Nat.le_trans hW.size h)))
      clear h8 hb8
      go_region_law (refine step_append_kepts rfl _ _ rfl (v := .slice A P2.L.length cap) (x := .slice (some ⟨W8.heap.size, 0, none⟩) 1 1) (ss := P2.L) (zs := [⟨k, n, P2.made + 1⟩]) (by simp [Act.eval, Act.put]) (HRL.out _ (by repeat (first | exact Only.refl _ _ | apply Only.drew | apply Only.alloc))) (by simp [Act.eval, Act.put]) (kepts_one (by first | exact Blk.new W8 _ _ | exact Blk.new W8.drew _ _)) (by have := HLEN.out; simp; omega) ?_; rintro v2 w2 hr2 ho2 hk2 ⟨A2, c2, ev2⟩; have hx2 := HO1.out _ w2 (by repeat (first | exact Only.refl _ _ | apply Only.drew | apply Only.alloc)) ho2; have hn2 := HN1.out _ v2 (by repeat (first | exact Only.refl _ _ | apply Only.drew | apply Only.alloc)) hk2; obtain ⟨m0, m1, m2, m3⟩ := HAF.out w2 hx2; rw [List.length_append, List.length_singleton] at ev2; have HR2 := hide hr2; have HX2 := hide hx2; have HN2 := hide hn2; subst ev2; clear hr2 ho2 hk2 hx2 hn2)
      all_goals
        have hfin := H8.out.setV HX2.out HR2.out HN2.out
        have HFIN := hide hfin
        have HWZ := hide (show Only (x :: (Value.slice A P2.L.length cap).ownBlock.toList) wc (w2.setCell ⟨x, 1, none⟩ (.slice A2 (P2.L.length + 1) c2)) from ((HO8.out.mono (by intro q _ hq; rw [List.mem_singleton.1 hq]; exact List.mem_cons_self)).trans (HX2.out.mono (fun q _ hq => List.mem_cons_of_mem _ hq))).setCell (p := ⟨x, 1, none⟩) _ (by simp))
        clear hfin
        go_wp2_with fail
        go_ret
        refine ⟨rfl, x :: ((Value.slice A2 (P2.L.length + 1) c2).ownBlock.toList ++ u.ownBlock.toList), HT.out.trans ⟨HWZ.out.mono (fun q _ hq => HG.out.1 q ?_), fun q hq => ?_⟩, _, u, ?_, fun q hq => hq, HFIN.out.lts⟩
        · rcases List.mem_cons.1 hq with rfl | hq
          · simp
          · simp [hq]
        · rcases List.mem_cons.1 hq with rfl | hq
          · exact .inl (HG.out.1 _ (by simp))
          · rcases List.mem_append.1 hq with hq | hq
            · rcases HN2.out q (by simpa using hq) with h | h
              · exact .inl (HG.out.1 q (by simp [h]))
              · exact .inr (Nat.le_trans HO8.out.size h)
            · exact .inl (HG.out.1 q (by simp [hq]))
        · rw [HPUT.out]
          exact HFIN.out
  | some i =>
    rw [hat] at HF hfd
    have hfg : p.forget k = p.drop i := hfd
    obtain ⟨y, hy, hyk, _⟩ := CS.at_some hat
    go_upto_if 14 with (go_at_call 34; refine (HF.out _ (by repeat (first | exact Only.refl _ _ | apply Only.drew | apply Only.alloc))).mono ?_; rintro e w1 ⟨rfl, ho⟩; have HB1 := hide ((Blk.new w 42 #[.int .i64 k.dir, .string k.name]).only ho (by simp)); have HO := hide (((Only.refl [] w).alloc (.cells #[.int .i64 k.dir, .string k.name] 42)).trans ho); clear ho)
    go_cut [] from 15 to 29 (fun wx => MidX w x w.heap.size p k F wx)
    case first =>
      refine wp_cond_true (congrArg Value.bool (show decide (((i : Nat) : Int) ≥ 0) = true from decide_eq_true (by omega))) ?_
      have HD := hide (fun W (ho : Only [] w W) => xc_drop (h.quiet ho) ok hy)
      have HE := hide (show (p.drop i).evict = p.drop i from CS.evict_not (by
        have h1 := erase_len hy
        rw [CS.drop_some hy]
        show ¬ ((p.L.eraseIdx i).length : Int) = p.room
        omega))
      clear h hy
      go_wp2_with (go_at_call 36; refine (HD.out _ HO.out).mono ?_; rintro e w2 ⟨rfl, hd⟩; have HX := hide hd; clear hd)
      go_meet
      case rel =>
        obtain ⟨F', t1, t2⟩ := HX.out
        refine ⟨?_, HB1.out.only t1.1 (fun hm => by have := HLT.out _ hm; omega), fun hm => by have := HLT.out _ hm; omega, Nat.le_refl _⟩
        rw [hfg, HE.out]
        exact ⟨F', ⟨(HO.out.mono (by simp)).trans t1.1, fun q hq => (t1.2 q hq).imp_right (fun g => Nat.le_trans HO.out.size g)⟩, t2⟩
    case rest =>
      obtain ⟨⟨F', t1, v, u, g1, g2, g3⟩, hb, hqF, hsz⟩ := hcut
      have hm1 := HM.out
      have hm2 := HOK2.out.len
      have hm3 := HOK2.out.r1
      have HT := hide t1
      generalize (p.forget k).evict = P2 at *
      have hpm : 0 ≤ P2.made ∧ P2.made + 1 < 3900000000000 := by omega
      clear hm1
      obtain ⟨A, cap, ev, -⟩ := g1.rl.form
      subst ev
      have k2 : wc.cell? ⟨x, 2, none⟩ = some (.int .i64 P2.made) := g1.blk.cell 2
      have f2 := g1.blk.frozen 2
      have hw : IntKind.i64.wrap (P2.made + 1) = P2.made + 1 := by rw [IntKind.wrap_i64]; omega
      have h8 := g1.setMade (P2.made + 1)
      have hqx : w.heap.size ≠ x := hb.ne_ g1.blk (by decide)
      have hqv : ∀ q, (Value.slice A P2.L.length cap).ownBlock = some q → q ≠ w.heap.size := fun q hq e => by
        subst e
        exact absurd ((g1.rl.at_ hq).2 _ _ hb) (by decide)
      have hb8 := hb.far (p := ⟨x, 2, none⟩) hqx (.int .i64 (P2.made + 1))
      have HO8 := hide (show Only [x] wc (wc.setCell ⟨x, 2, none⟩ (.int .i64 (P2.made + 1))) from (Only.refl [x] wc).setCell (p := ⟨x, 2, none⟩) _ (by simp))
      have HG := hide (And.intro g2 (And.intro g3 g1.lts))
      have hlen : P2.L.length ≤ 4096 := by omega
      have HLEN := hide hlen
      clear t1 g1 hb HF hmade hput hlt ok h g2 g3 hqF hqx
      go_upto_region 9 with fail
      clear hpm hw
      generalize wc.setCell ⟨x, 2, none⟩ (.int .i64 (P2.made + 1)) = W8 at *
      have k1 := h8.c1
      have k1a : ∀ o, (W8.alloc o).cell? ⟨x, 1, none⟩ = some (.slice A P2.L.length cap) := fun o => (h8.blk.alloc o).cell 1
      have k1b : ∀ o, (W8.alloc o).drew.cell? ⟨x, 1, none⟩ = some (.slice A P2.L.length cap) := fun o => (h8.blk.alloc o).cell 1
      have k1d : ∀ o, (W8.drew.alloc o).cell? ⟨x, 1, none⟩ = some (.slice A P2.L.length cap) := fun o => ((h8.blk.drew).alloc o).cell 1
      have k22 : W8.cell? ⟨x, 2, none⟩ = some (.int .i64 (P2.made + 1)) := h8.blk.cell 2
      have b0 : W8.cell? ⟨w.heap.size, 0, none⟩ = some (.int .i64 k.dir) := hb8.cell 0
      have b1 : W8.cell? ⟨w.heap.size, 1, none⟩ = some (.string k.name) := hb8.cell 1
      have H8 := hide h8
      have HRL := hide (fun (W : World) (hW : Only [] W8 W) => H8.out.rl.only hW (by simp))
      have HAF := hide (fun (W : World) (hW : Only (Value.slice A P2.L.length cap).ownBlock.toList W8 W) => (show W.cell? ⟨x, 1, none⟩ = some (.slice A P2.L.length cap) ∧ W.drew.cell? ⟨x, 1, none⟩ = some (.slice A P2.L.length cap) ∧ W.frozen? ⟨x, 1, none⟩ = false ∧ W.drew.frozen? ⟨x, 1, none⟩ = false from by
        have hb := H8.out.blk.only hW (fun hm => H8.out.xv x (by simpa using hm) rfl)
        exact ⟨hb.cell 1, hb.cell 1, hb.frozen 1, hb.frozen 1⟩))
      have HO1 := hide (fun (W W2 : World) (hW : Only [] W8 W) (ho : Only (Value.slice A P2.L.length cap).ownBlock.toList W W2) => (show Only (Value.slice A P2.L.length cap).ownBlock.toList W8 W2 from (hW.mono (by simp)).trans ho))
      have HN1 := hide (fun (W : World) (u2 : Value) (hW : Only [] W8 W) (hk : ∀ q, u2.ownBlock = some q → (Value.slice A P2.L.length cap).ownBlock = some q ∨ W.heap.size ≤ q) => (show ∀ q, u2.ownBlock = some q → (Value.slice A P2.L.length cap).ownBlock = some q ∨ W8.heap.size ≤ q from fun q hq => (hk q hq).imp_right (fun h => Nat.le_trans hW.size h)))
      clear h8 hb8
      go_region_law (refine step_append_kepts rfl _ _ rfl (v := .slice A P2.L.length cap) (x := .slice (some ⟨W8.heap.size, 0, none⟩) 1 1) (ss := P2.L) (zs := [⟨k, n, P2.made + 1⟩]) (by simp [Act.eval, Act.put]) (HRL.out _ (by repeat (first | exact Only.refl _ _ | apply Only.drew | apply Only.alloc))) (by simp [Act.eval, Act.put]) (kepts_one (by first | exact Blk.new W8 _ _ | exact Blk.new W8.drew _ _)) (by have := HLEN.out; simp; omega) ?_; rintro v2 w2 hr2 ho2 hk2 ⟨A2, c2, ev2⟩; have hx2 := HO1.out _ w2 (by repeat (first | exact Only.refl _ _ | apply Only.drew | apply Only.alloc)) ho2; have hn2 := HN1.out _ v2 (by repeat (first | exact Only.refl _ _ | apply Only.drew | apply Only.alloc)) hk2; obtain ⟨m0, m1, m2, m3⟩ := HAF.out w2 hx2; rw [List.length_append, List.length_singleton] at ev2; have HR2 := hide hr2; have HX2 := hide hx2; have HN2 := hide hn2; subst ev2; clear hr2 ho2 hk2 hx2 hn2)
      all_goals
        have hfin := H8.out.setV HX2.out HR2.out HN2.out
        have HFIN := hide hfin
        have HWZ := hide (show Only (x :: (Value.slice A P2.L.length cap).ownBlock.toList) wc (w2.setCell ⟨x, 1, none⟩ (.slice A2 (P2.L.length + 1) c2)) from ((HO8.out.mono (by intro q _ hq; rw [List.mem_singleton.1 hq]; exact List.mem_cons_self)).trans (HX2.out.mono (fun q _ hq => List.mem_cons_of_mem _ hq))).setCell (p := ⟨x, 1, none⟩) _ (by simp))
        clear hfin
        go_wp2_with fail
        go_ret
        refine ⟨rfl, x :: ((Value.slice A2 (P2.L.length + 1) c2).ownBlock.toList ++ u.ownBlock.toList), HT.out.trans ⟨HWZ.out.mono (fun q _ hq => HG.out.1 q ?_), fun q hq => ?_⟩, _, u, ?_, fun q hq => hq, HFIN.out.lts⟩
        · rcases List.mem_cons.1 hq with rfl | hq
          · simp
          · simp [hq]
        · rcases List.mem_cons.1 hq with rfl | hq
          · exact .inl (HG.out.1 _ (by simp))
          · rcases List.mem_append.1 hq with hq | hq
            · rcases HN2.out q (by simpa using hq) with h | h
              · exact .inl (HG.out.1 q (by simp [h]))
              · exact .inr (Nat.le_trans HO8.out.size h)
            · exact .inl (HG.out.1 q (by simp [hq]))
        · rw [HPUT.out]
          exact HFIN.out
end
end Go.Proofs.Ytjpojoflbjhjjaa
