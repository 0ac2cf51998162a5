/-
  The walk of 'WaitOnce'.
-/
import Derived.Test.YtokclkiidhcffaaWqOnceP
import Derived.Test.YtokclkiidhcffaaWqAll
import Derived.Deep.RegionHeld3
namespace Go.Proofs.Ytokclkiidhcffaa
open Go.ChangeShapes Go.WideShapes Go.ChangeAt Go.RowKit Go.Maps
set_option linter.unusedVariables false
/-- A call's cells at a place. -/
def OpCells (W : World) (q o : Nat) (x : OP12) : Prop := W.cell? ⟨q, o, none⟩ = some (.int .i64 x.kind) ∧ W.cell? ⟨q, o + 1, none⟩ = some (.int .i64 x.tid) ∧ W.cell? ⟨q, o + 2, none⟩ = some (.slice x.A x.l.length x.c) ∧
    W.cell? ⟨q, o + 3, none⟩ = some (.int .i64 x.f.kind) ∧ W.cell? ⟨q, o + 4, none⟩ = some (.int .i64 x.f.a) ∧ W.cell? ⟨q, o + 5, none⟩ = some (.int .i64 x.f.b) ∧
    W.cell? ⟨q, o + 6, none⟩ = some (.int .i64 x.g.kind) ∧ W.cell? ⟨q, o + 7, none⟩ = some (.int .i64 x.g.a) ∧ W.cell? ⟨q, o + 8, none⟩ = some (.int .i64 x.g.b) ∧ W.cell? ⟨q, o + 9, none⟩ = some (.int .i64 x.n)
theorem opAt_cells {w W : World} {q o i : Nat} {x : OP12} (hq : q < w.heap.size) (h : ∀ k u, x.cells[k]? = some u → w.cell? ⟨q, o + (i * 10 + k), none⟩ = some u) (ho : Only [] w W) : OpCells W q (o + i * 10) x := by
  have h' : ∀ k u, x.cells[k]? = some u → W.cell? ⟨q, o + i * 10 + k, none⟩ = some u := fun k u hu => by
    rw [Nat.add_assoc]
    exact (ho.cell hq (by simp)).trans (h k u hu)
  exact ⟨h' 0 _ rfl, h' 1 _ rfl, h' 2 _ rfl, h' 3 _ rfl, h' 4 _ rfl, h' 5 _ rfl, h' 6 _ rfl, h' 7 _ rfl, h' 8 _ rfl, h' 9 _ rfl⟩
/-- The same at a block's begin. -/
def OpC (W : World) (q : Nat) (x : OP12) : Prop := W.cell? ⟨q, 0, none⟩ = some (.int .i64 x.kind) ∧ W.cell? ⟨q, 1, none⟩ = some (.int .i64 x.tid) ∧ W.cell? ⟨q, 2, none⟩ = some (.slice x.A x.l.length x.c) ∧
    W.cell? ⟨q, 3, none⟩ = some (.int .i64 x.f.kind) ∧ W.cell? ⟨q, 4, none⟩ = some (.int .i64 x.f.a) ∧ W.cell? ⟨q, 5, none⟩ = some (.int .i64 x.f.b) ∧
    W.cell? ⟨q, 6, none⟩ = some (.int .i64 x.g.kind) ∧ W.cell? ⟨q, 7, none⟩ = some (.int .i64 x.g.a) ∧ W.cell? ⟨q, 8, none⟩ = some (.int .i64 x.g.b) ∧ W.cell? ⟨q, 9, none⟩ = some (.int .i64 x.n)
theorem opBlk_cells {W : World} {q : Nat} {x : OP12} (h : Blk W q 34 x.cells.toArray) : OpC W q x := by
  exact ⟨h.cell 0, h.cell 1, h.cell 2, h.cell 3, h.cell 4, h.cell 5, h.cell 6, h.cell 7, h.cell 8, h.cell 9⟩
/-- In a round: the queue, the law's map, the call's own copy at block p. -/
structure OnceO (w0 : World) (g mb p m : Nat) (x : OP12) (s : LW) (K : List Int) (W : World) : Prop where
  q : LQ w0 W g s m [p, mb]
  b : BMap W mb K
  o : Blk W p 34 x.cells.toArray
  ne : p ≠ mb
section
variable {w0 W W' : World} {g mb p m : Nat} {x : OP12} {s s' : LW} {K K' : List Int}
theorem OnceO.cells (h : OnceO w0 g mb p m x s K W) : OpC W p x := opBlk_cells h.o
theorem OnceO.did (h : OnceO w0 g mb p m x s K W) {m' : Nat} (hd : DidQ w0 W W' g s' m' [p, mb]) : OnceO w0 g mb p m' x s' K W' :=
  ⟨hd.1, h.b.keep (hd.2 mb (by simp)), (hd.2 p (by simp)).trans h.o, h.ne⟩
theorem OnceO.quiet (h : OnceO w0 g mb p m x s K W) (ho : Only [] W W') : OnceO w0 g mb p m x s K W' :=
  ⟨h.q.quiet ho, h.b.only ho (by simp), h.o.only ho (by simp), h.ne⟩
theorem OnceO.map (h : OnceO w0 g mb p m x s K W) (ho : Only [mb] W W') (hb : BMap W' mb K') : OnceO w0 g mb p m x s K' W' :=
  ⟨h.q.other ho (by simp), hb, h.o.only ho (by simpa using h.ne), h.ne⟩
theorem OnceO.done (h : OnceO w0 g mb p m x s (keysW s) W) {m' : Nat} (hm : m ≤ m') : OnceR w0 g mb m' s W := ⟨(h.q.more hm).less (by simp), h.b⟩
theorem OnceO.len (h : OnceO w0 g mb p m x s (keysW s) W) (ty : TypeId) : (Builtin.len_ #[42] ty #[.map (some mb)]).run Try.prog W = .ok (.int .i64 s.1.length) W := by
  have := h.b.len ty
  rwa [show (keysW s).length = s.1.length by simp [keysW]] at this
theorem OnceR.enter (h : OnceR w0 g mb m s W) (x : OP12) : OnceO w0 g mb W.heap.size m x s (keysW s) (W.alloc (.cells x.cells.toArray 34)) :=
  ⟨h.q.add _, h.b.only ((Only.refl [] W).alloc _) (by simp), Blk.new _ _ _, by have := h.b.lt; omega⟩
end
set_option maxHeartbeats 1500000 in
set_option maxRecDepth 100000 in
theorem waitOnce_is (A : Option Addr) (n cp : Nat) (w : World) (hA : ∀ i, i < n → OpAt12 w A i) (hn : n < 2000000000000) :
    Calls Try.prog 4 #[.slice A n cp] w fun e w' => e = .returned (.bool true) ∧ Below w.heap.size w w' := by
  have hmm := @run_makeMap Try.prog
  have HA := hide hA
  have HN := hide hn
  clear hA hn
  go_enter Try.func4, Try.ntmps4
  go_wp2_with (first | (go_at_call 7; refine (lq_wnew _).mono ?_; rintro e w1 ⟨g, rfl, h1⟩; have H1 := hide h1; clear h1) | (go_at_call 8; refine (awake12 _).mono ?_; rintro e w2 ⟨rfl, ho⟩; have H2 := hide (H1.out.quiet ho); clear ho))
  go_loopw [23] (fun iv wr => ∃ i : Nat, i ≤ n ∧ iv = .int .i64 i ∧ ∃ s, OnceR w g w2.heap.size i s wr) (fun iv _ => n - (intOf iv).toNat)
  case atStart =>
    refine ⟨0, Nat.zero_le _, rfl, ([], []), ?_, ?_⟩
    · exact H2.out.add _
    · exact ⟨.map [], ownsMap_empty12 (heap_alloc_new w2 _) _ _, MHolds.empty⟩
  case round =>
    obtain ⟨i, hi, rfl, s, hO⟩ := hrel
    by_cases hlt : i < n
    · have hltI : (i : Int) < n := by omega
      obtain ⟨q, o, x, rfl, hq, hx, hcell⟩ := HA.out i hlt
      obtain ⟨c0, c1, c2, c3, c4, c5, c6, c7, c8, c9⟩ := opAt_cells hq hcell hO.q.base
      have HE := hide (hO.enter x)
      have HX := hide hx
      have HB := hide hO.q.base
      clear hcell hq hx hO
      unfold OP12.cells at HE
      have HM := hide (show i < 100000000000000000 by have := HN.out; omega)
      by_cases hk : x.kind = 0
      · have k0 : (x.kind == 0) = true := by simp [hk]
        have HS := hide (lq_wsleep HE.out.q HM.out HX.out.tid rfl HX.out.cap (fun hp => (HX.out.at_ hp).1.only (HE.out.q.base) (by simp)) (fun hp b o e => .inl (by obtain ⟨_, b', o', e', hb⟩ := HX.out.at_ hp; rw [e] at e'; injection e' with e'; injection e' with e1 _; subst e1; exact hb)) HX.out.l)
        rw [hk] at HE HS
        go_wp2_with fail
        with_reducible refine HS.out.mono ?_
        rintro e w3 ⟨rfl, hd⟩
        have hd3 := HE.out.did hd
        simp only []
        clear hd
        by_cases hE : sleepE s x.tid x.l = 0
        · obtain ⟨e1, e2⟩ := sleepE_keys hE
          have e3 : (sleepE s x.tid x.l == 0) = true := by simp [hE]
          obtain ⟨d0, d1, d2, d3, d4, d5, d6, d7, d8, d9⟩ := hd3.cells
          have hlk := hd3.b.look HX.out.tid
          rw [show decide (x.tid ∈ keysW s) = false by simpa using e1] at hlk
          obtain ⟨w4, hst, hb4, ho4⟩ := hd3.b.store (Nat.lt_of_le_of_lt (keysW_few HE.out.q) (by decide)) HX.out.tid e1
          have hf4 := hd3.map ho4 hb4
          rw [← e2] at hf4
          have hlen := hf4.len
          have HF := hide hf4
          clear hd3 hb4 ho4 hf4 e1 e2 d0 d4 d5 d6 d7 d8 d9
          go_wp2_with (go_at_call 16; refine (lq_wlen HF.out.q).mono ?_; rintro e w9 ⟨rfl, rfl⟩)
          rw [show wrap64 ((i : Int) + 1) = ((i + 1 : Nat) : Int) by have := HN.out; rw [wrap64]; omega]
          refine ⟨⟨i + 1, hlt, rfl, _, HF.out.done (by omega)⟩, ?_⟩
          simp [intOf]
          omega
        · have e1 := sleepE_same hE
          have e3 : (sleepE s x.tid x.l == 0) = false := by simp [hE]
          rw [e1] at hd3
          have hlen := hd3.len
          have HF := hide hd3
          clear hd3 e1
          go_wp2_with (go_at_call 16; refine (lq_wlen HF.out.q).mono ?_; rintro e w9 ⟨rfl, rfl⟩)
          rw [show wrap64 ((i : Int) + 1) = ((i + 1 : Nat) : Int) by have := HN.out; rw [wrap64]; omega]
          refine ⟨⟨i + 1, hlt, rfl, _, HF.out.done (by omega)⟩, ?_⟩
          simp [intOf]
          omega
      · have k0 : (x.kind == 0) = false := by simp [hk]
        by_cases hk1 : x.kind = 1
        · have k1 : (x.kind == 1) = true := by simp [hk1]
          have HS := hide (lq_wsleepers HE.out.q HM.out HX.out.f)
          clear hk
          rw [hk1] at HE HS k0
          go_wp2_with fail
          with_reducible refine HS.out.mono ?_
          rintro e w3 ⟨v3, rfl, hr, _, ho⟩
          obtain ⟨A3, c3, rfl, _⟩ := hr.form2
          simp only []
          have hd3 := HE.out.quiet ho
          obtain ⟨d0, d1, d2, d3, d4, d5, d6, d7, d8, d9⟩ := hd3.cells
          have HW := hide (lq_wwake hd3.q HM.out HX.out.f x.n)
          have HD3 := hide hd3
          clear hr ho hd3
          go_wp2_with fail
          with_reducible refine HW.out.mono ?_
          rintro e w4 ⟨v4, rfl, hz, hfr, F', hf, _, hb4⟩
          have hd4 := HD3.out.did ⟨⟨F', hf⟩, hb4⟩
          have hwk := wakeK_is s x.f x.n
          have hokk := HE.out.q.ok
          have hlz : ((atL s.2 x.f).take (wakeK s x.f x.n)).length = wakeK s x.f x.n := by rw [List.length_take]; unfold wakeK; omega
          rw [← hlz] at hwk
          have hnd : ((atL s.2 x.f).take (wakeK s x.f x.n)).Nodup := List.Nodup.sublist (List.take_sublist _ _) (hokk.nd2 _)
          have hin : ∀ t ∈ (atL s.2 x.f).take (wakeK s x.f x.n), t ∈ keysW s := fun t ht => mem_atL (fun e => by
            have := (hokk.both t x.f).2 (List.mem_of_mem_take ht)
            rw [e] at this
            cases this)
          have hsm : ((atL s.2 x.f).take (wakeK s x.f x.n)).length ≤ 64 := by rw [List.length_take]; have := wake_in hokk x.f 0; omega
          have hlI : ((atL s.2 x.f).length : Int) = ((atL s.2 x.f).length : Nat) := rfl
          unfold wakeS at hd4
          generalize (atL s.2 x.f).take (wakeK s x.f x.n) = zs at *
          obtain ⟨d0, d1, d2, d3, d4, d5, d6, d7, d8, d9⟩ := hd4.cells
          obtain ⟨A4, c4, rfl, _⟩ := id hz
          have HZ := hide (fun (W : World) (hW : Only [w2.heap.size] w4 W) => hz.only hW (fun b o n c e hm => by
            simp at hm
            have h1 := hfr b o n c e
            have h2 := HD3.out.b.lt
            omega))
          have HD4 := hide hd4
          have HND := hide hnd
          have HIN := hide hin
          have HSM := hide hsm
          have HKI := hide HE.out.q.keyI
          clear hz hfr hf hb4 hd4 hokk hlz hnd hin hsm hlI HW HS
          simp only []
          go_wp2_with fail
          all_goals
            go_loopw [68] (fun jv wr2 => ∃ j : Nat, j ≤ zs.length ∧ jv = .int .i64 j ∧ OnceO w g w2.heap.size wr.heap.size i x (offAll s zs) (keysW (offAll s (zs.take j))) wr2 ∧ Only [w2.heap.size] w4 wr2) (fun jv _ => zs.length - (intOf jv).toNat)
            case atStart => exact ⟨0, Nat.zero_le _, rfl, HD4.out, Only.refl _ _⟩
            case round =>
              obtain ⟨j, hj, rfl, hJ, hJo⟩ := hrel
              by_cases hlt2 : j < zs.length
              · have hltI2 : (j : Int) < zs.length := by omega
                obtain ⟨b4, o4, rfl, cz⟩ := (HZ.out wr hJo).cell hlt2
                have hfar : zs[j] ∉ zs.take j := fun hm => by
                  have hs := HND.out
                  rw [show zs = zs.take j ++ zs[j] :: zs.drop (j + 1) by rw [List.getElem_cons_drop, List.take_append_drop], List.nodup_append] at hs
                  exact hs.2.2 _ hm _ List.mem_cons_self rfl
                have hmem := HIN.out _ (List.getElem_mem hlt2)
                have hK := mem_offAll (zs.take j) s hfar hmem
                have hlk := hJ.b.look (HKI.out _ hmem)
                rw [show decide (zs[j] ∈ keysW (offAll s (zs.take j))) = true by simpa using hK] at hlk
                obtain ⟨w5, hdl, hb5, ho5⟩ := hJ.b.drop (HKI.out _ hmem) 0
                have hdl' : ∀ ty, (Builtin.delete_ #[42, 3] ty #[.map (some w2.heap.size), .int .i64 zs[j]]).run Try.prog wr = .ok (.tuple #[]) w5 := fun ty => hdl
                have hJ5 := hJ.map ho5 hb5
                rw [show (keysW (offAll s (zs.take j))).filter (fun y => decide (y ≠ zs[j])) = keysW (offAll s (zs.take (j + 1))) by
                  rw [List.take_add_one, show zs[j]?.toList = [zs[j]] by simp [hlt2], keys_offAll_snoc]; rfl] at hJ5
                have HJ5 := hide hJ5
                have HO5 := hide (hJo.trans ho5)
                clear hdl hfar hmem hK hJ hJo hb5 ho5 hJ5
                generalize zs[j] = z at *
                go_wp2
                first | rw [show wrap64 ((j : Int) + 1) = ((j + 1 : Nat) : Int) by have := HSM.out; rw [wrap64]; omega] | rw [show (j : Int) + 1 = ((j + 1 : Nat) : Int) by omega]
                refine ⟨⟨j + 1, hlt2, rfl, HJ5.out, HO5.out⟩, ?_⟩
                simp [intOf]
                omega
              · obtain rfl : j = zs.length := by omega
                rw [List.take_length] at hJ
                obtain ⟨d0, d1, d2, d3, d4, d5, d6, d7, d8, d9⟩ := hJ.cells
                have hlen := hJ.len
                have HF := hide hJ
                clear hJ hJo
                go_wp2_with (go_at_call 16; refine (lq_wlen HF.out.q).mono ?_; rintro e w9 ⟨rfl, rfl⟩)
                rw [show wrap64 ((i : Int) + 1) = ((i + 1 : Nat) : Int) by have := HN.out; rw [wrap64]; omega]
                refine ⟨⟨i + 1, hlt, rfl, _, HF.out.done (by omega)⟩, ?_⟩
                simp [intOf]
                omega
        · have k1 : (x.kind == 1) = false := by simp [hk1]
          by_cases hk2 : x.kind = 2
          · have k2 : (x.kind == 2) = true := by simp [hk2]
            have HCN := hide (fun (W : World) (hW : Only [] (wr.alloc (.cells #[.int .i64 x.kind, .int .i64 x.tid, .slice x.A x.l.length x.c, .int .i64 x.f.kind, .int .i64 x.f.a, .int .i64 x.f.b, .int .i64 x.g.kind, .int .i64 x.g.a, .int .i64 x.g.b, .int .i64 x.n] 34)) W) =>
              (lq_wcancel (HE.out.quiet hW).q HM.out HX.out.tid).mono (R' := fun e w' => e = .returned (.bool (decide (x.tid ∈ keysW s))) ∧ OnceO w g w2.heap.size wr.heap.size i x (offS s x.tid) (keysW s) w') (fun e w' ⟨h1, h2⟩ => ⟨h1, (HE.out.quiet hW).did h2⟩))
            have HKP := hide (fun (W : World) (hW : OnceO w g w2.heap.size wr.heap.size i x (offS s x.tid) (keysW s) W) => And.intro hW.cells.2.1 (hW.b.look HX.out.tid))
            obtain ⟨d0, d1, d2, d3, d4, d5, d6, d7, d8, d9⟩ := HE.out.cells
            have hlk := (HE.out.quiet ((Only.refl [] _).drew)).b.look HX.out.tid
            clear hk hk1
            rw [hk2] at HE HCN k0 k1 d0 d1 d2 d3 d4 d5 d6 d7 d8 d9 hlk
            generalize decide (x.tid ∈ keysW s) = bq at *
            go_wp2
            go_region_held3 (fun w' => w'.cell? ⟨wr.heap.size, 1, none⟩ = some (.int .i64 x.tid) ∧ (Instr.lookup 42 (.map (some w2.heap.size)) (.int .i64 x.tid) false).run Try.prog w' = .ok (.bool bq) w') (first | go_keep | exact HKP.out _ hA) (first | (go_at_call 11; refine (HCN.out _ (by repeat (first | exact Only.refl _ _ | apply Only.drew | apply Only.drewN))).mono ?_; rintro e wA ⟨rfl, hA⟩))
            all_goals
              obtain ⟨w5, hdl, hb5, ho5⟩ := hA.b.drop HX.out.tid 0
              have hdl' : ∀ ty, (Builtin.delete_ #[42, 3] ty #[.map (some w2.heap.size), .int .i64 x.tid]).run Try.prog wA = .ok (.tuple #[]) w5 := fun ty => hdl
              obtain ⟨d0, d1, d2, d3, d4, d5, d6, d7, d8, d9⟩ := hA.cells
              have hf5 := hA.map ho5 hb5
              rw [show (keysW s).filter (fun y => decide (y ≠ x.tid)) = keysW (offS s x.tid) from (keys_off s x.tid).symm] at hf5
              have hlen := hf5.len
              have HF := hide hf5
              clear hdl hb5 ho5 hf5 hA
              go_wp2_with (go_at_call 16; refine (lq_wlen HF.out.q).mono ?_; rintro e w9 ⟨rfl, rfl⟩)
              rw [show wrap64 ((i : Int) + 1) = ((i + 1 : Nat) : Int) by have := HN.out; rw [wrap64]; omega]
              refine ⟨⟨i + 1, hlt, rfl, _, HF.out.done (by omega)⟩, ?_⟩
              simp [intOf]
              omega
          · have k2 : (x.kind == 2) = false := by simp [hk2]
            by_cases hk3 : x.kind = 3
            · have k3 : (x.kind == 3) = true := by simp [hk3]
              have HMV := hide (lq_wmove HE.out.q HM.out HX.out.f HX.out.g x.n)
              clear hk hk1 hk2
              rw [hk3] at HE HMV k0 k1 k2
              go_wp2_with fail
              with_reducible refine HMV.out.mono ?_
              rintro e w3 ⟨rfl, hd⟩
              have hd3 := HE.out.did hd
              rw [← keys_moveQ s x.f x.g x.n] at hd3
              have hlen := hd3.len
              have HF := hide hd3
              clear hd hd3
              simp only []
              go_wp2_with (go_at_call 16; refine (lq_wlen HF.out.q).mono ?_; rintro e w9 ⟨rfl, rfl⟩)
              rw [show wrap64 ((i : Int) + 1) = ((i + 1 : Nat) : Int) by have := HN.out; rw [wrap64]; omega]
              refine ⟨⟨i + 1, hlt, rfl, _, HF.out.done (by omega)⟩, ?_⟩
              simp [intOf]
              omega
            · have k3 : (x.kind == 3) = false := by simp [hk3]
              have hlen := HE.out.len
              have HF := HE
              clear hk hk1 hk2 hk3
              go_wp2_with (go_at_call 16; refine (lq_wlen HF.out.q).mono ?_; rintro e w9 ⟨rfl, rfl⟩)
              rw [show wrap64 ((i : Int) + 1) = ((i + 1 : Nat) : Int) by have := HN.out; rw [wrap64]; omega]
              refine ⟨⟨i + 1, hlt, rfl, _, HF.out.done (by omega)⟩, ?_⟩
              simp [intOf]
              omega
    · have HAL := hide (lq_wall hO.q)
      have hks : ∀ t ∈ sort12 (s.1.map (·.1)), t ∈ keysW s := fun t ht => mem_sort12.1 ht
      have hkl : (sort12 (s.1.map (·.1))).length = s.1.length := by rw [sort12_length, List.length_map]
      have hks64 := keysW_few hO.q
      have HQ := hide hO
      have HAL2 := hide (fun (W : World) (hW : Only [] wr W) => lq_wall (hO.q.quiet hW))
      generalize sort12 (s.1.map (·.1)) = ks at *
      have HKS := hide hks
      have HKL := hide hkl
      have hk64 : ks.length ≤ 64 := by rw [hkl]; simpa [keysW] using hks64
      have HK64 := hide hk64
      clear hks hkl hO hks64 hk64
      go_wp2_with fail
      with_reducible refine HAL.out.mono ?_
      rintro e w3 ⟨v3, rfl, hr, _, ho⟩
      obtain ⟨A3, c3, rfl, _⟩ := hr.form2
      have HZ := hide (fun (W : World) (hW : Only [] w3 W) => hr.sees.quiet hW)
      have HO3 := hide ho
      clear hr ho
      simp only []
      go_wp2_with fail
      go_loopw [112] (fun jv wr2 => ∃ j : Nat, j ≤ ks.length ∧ jv = .int .i64 j ∧ Only [] w3 wr2) (fun jv _ => ks.length - (intOf jv).toNat)
      case atStart => exact ⟨0, Nat.zero_le _, rfl, Only.refl _ _⟩
      case round =>
        obtain ⟨j, hj, rfl, hJ⟩ := hrel
        by_cases hlt2 : j < ks.length
        · have hltI2 : (j : Int) < ks.length := by omega
          obtain ⟨b4, o4, rfl, cz⟩ := (HZ.out wr hJ).cell hlt2
          have hmem := HKS.out _ (List.getElem_mem hlt2)
          have hlk := (HQ.out.b.only (HO3.out.trans hJ) (by simp)).look (HQ.out.q.keyI _ hmem)
          rw [show decide (ks[j] ∈ keysW s) = true by simpa using hmem] at hlk
          have HJ := hide hJ
          clear hmem hJ
          generalize ks[j] = z at *
          go_wp2
          rw [show wrap64 ((j : Int) + 1) = ((j + 1 : Nat) : Int) by have := HK64.out; rw [wrap64]; omega]
          refine ⟨⟨j + 1, hlt2, rfl, HJ.out⟩, ?_⟩
          simp [intOf]
          omega
        · have HA2 := hide (HAL2.out wr (HO3.out.trans hJ))
          have HJ := hide hJ
          clear hJ
          go_wp2_with fail
          with_reducible refine HA2.out.mono ?_
          rintro e w5 ⟨v5, rfl, hr, _, ho⟩
          obtain ⟨A5, c5, rfl, _⟩ := hr.form2
          have hlen : ∀ ty, (Builtin.len_ #[42] ty #[.map (some w2.heap.size)]).run Try.prog w5 = .ok (.int .i64 ks.length) w5 := fun ty => by
            have := (HQ.out.b.only ((HO3.out.trans HJ.out).trans ho) (by simp)).len ty
            rwa [show (keysW s).length = ks.length by rw [HKL.out]; simp [keysW]] at this
          have HO5 := hide ho
          clear hr ho
          simp only []
          go_wp2_with fail
          go_ret
          exact ⟨rfl, ((((HQ.out.q.base.trans HO3.out).trans HJ.out).trans HO5.out)).below (Nat.le_refl _) (by simp)⟩
theorem waitOnce_walk {H : Type} {enc : TypeId × Value → H} {d : DataW H} {w : World} {A : Option Addr} {n cp : Nat} (h : Rd enc Try.prog w 22 [.slice A n cp] d) :
    Calls Try.prog 4 #[.slice A n cp] w fun e w' => e = .returned (.bool true) ∧ Below w.heap.size w w' := by
  obtain ⟨hn, hA⟩ := Rd.ops12 h
  exact waitOnce_is A n cp w hA hn
end Go.Proofs.Ytokclkiidhcffaa
