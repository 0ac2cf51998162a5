/-
  The walk of 'DiskTorn'.
-/
import Derived.Test.YtlbiigaefipneaaTornRow
import Derived.Deep.RegionHeld3
import Derived.Deep.RegionLaw
import Derived.Deep.AppendLies
namespace Go.Proofs.Ytlbiigaefipneaa
open Go.ChangeShapes Go.WideShapes Go.ChangeAt Go.RowKit
set_option linter.unusedVariables false

theorem info_sec : (Try.prog.info? 36).map (fun i => (i.zero, i.size, i.bytes)) = some (some (.agg #[.int .i64 0, .slice none 0 0]), 2, 32) := by kernel_rfl

/-- A slice's own block holds sectors: it is no block of bytes, nor of anything else. -/
theorem SRow.own_type {w : World} {B N : Nat} {v : Value} {ws : List SW} {G : List Nat} (h : SRow w B N v ws G) {q : Nat} (hq : v.ownBlock = some q) : ∀ t cs, Blk w q t cs → t = 36 := by
  rcases h.own.2 with ⟨e', h0⟩ | ⟨b, cap, cur, e', hB, hg, hn, hm, hs, ht⟩
  · rw [e'] at hq; simp [Value.ownBlock] at hq
  · rw [e'] at hq
    simp only [Value.ownBlock, Option.some.injEq] at hq
    subst hq
    intro t cs hb
    unfold Blk at hb
    rw [hg] at hb
    injection hb with hb
    injection hb with _ hb
    exact hb.symm

/-- One write more is kept. -/
theorem SRow.more {w w4 w5 : World} {B N : Nat} {v : Value} {ws : List SW} {G : List Nat} (h : SRow w B N v ws G) (x : SW) (ho : Only [] w w4) (hx : x.ok w4 N) (hd : w.heap.size ≤ x.blk) (hB : B ≤ w.heap.size) (k5 : Only v.ownBlock.toList w4 w5) (pg pcap : Nat)
    (hown : w5.ownsRow B 36 2 (.slice (some ⟨pg, 0, none⟩) (ws.length + 1) pcap) (ws.length + 1) (ws.flatMap SW.cells ++ x.cells)) (hat : v.ownBlock = some pg ∨ w.heap.size ≤ pg) (hlt : pg < w5.heap.size) :
    SRow w5 B N (.slice (some ⟨pg, 0, none⟩) (ws.length + 1) pcap) (ws ++ [x]) (pg :: x.blk :: G) := by
  have hsz : w.heap.size ≤ w5.heap.size := Nat.le_trans ho.size k5.size
  have hkeep : ∀ (y : SW), y.ok w4 N → y.ok w5 N := fun y hy => ⟨hy.row.only k5 (fun hm => by
      have hq : v.ownBlock = some y.blk := by simpa using hm
      have hl := (h.lt _ (h.foot _ hq)).2
      have hrow : Blk w y.blk 5 (u8l y.data).toArray := (ho.block y.blk hl (by simp)).symm.trans hy.row
      exact absurd (h.own_type hq _ _ hrow) (by decide)), hy.len, hy.u8, hy.sec⟩
  refine ⟨by simpa using hown, fun y hy => ?_, fun q hq => ?_, fun y hy => ?_, fun q hq => ?_⟩
  · rcases List.mem_append.1 hy with hy | hy
    · have hyo := h.ok y hy
      exact hkeep y ⟨hyo.row.only ho (by simp), hyo.len, hyo.u8, hyo.sec⟩
    · rw [List.mem_singleton.1 hy]; exact hkeep x hx
  · simp only [Value.ownBlock, Option.some.injEq] at hq
    simp [hq]
  · rcases List.mem_append.1 hy with hy | hy
    · simp [h.blks y hy]
    · rw [List.mem_singleton.1 hy]; simp
  · simp only [List.mem_cons] at hq
    rcases hq with rfl | rfl | hq
    · refine ⟨?_, hlt⟩
      rcases hat with e | e
      · exact (h.lt _ (h.foot _ e)).1
      · omega
    · exact ⟨by omega, Nat.lt_of_lt_of_le hx.row.lt k5.size⟩
    · exact ⟨(h.lt q hq).1, Nat.lt_of_lt_of_le (h.lt q hq).2 hsz⟩

theorem One.drewN' {w : World} {g N : Nat} {plat : List Int} {l : List (Nat × List Int)} {left : Int} {k : Nat} {F : List Nat} (h : One w g N plat l left k F) (n : Nat) : One (w.drewN n) g N plat l left k F := h.only ((Only.refl [] w).drewN n) (by simp)

/-- The first loop: what was written since the last flush. -/
def TornRel (w : World) (m g N : Nat) (v i : Value) (wr : World) : Prop :=
  ∃ (k : Nat) (F G : List Nat) (plat : List Int) (ws : List SW), k ≤ m ∧ i = .int .i64 k ∧ SRow wr w.heap.size N v ws G ∧ One wr g N plat (ws.map SW.pair) (-1) k F ∧ ws.length ≤ k ∧ (∀ q ∈ G, q ∉ F) ∧ (∀ q ∈ F, w.heap.size ≤ q) ∧ Only [] w wr

/-- The fourth loop: is a sector just one of the first j writes of it? -/
def someB (now : List Int) (n : Nat) (ws : List SW) (j : Nat) : Bool := (ws.take j).any fun x => (x.sec == n) && decide (x.data = now)
theorem someB_succ {now : List Int} {n : Nat} {ws : List SW} {j : Nat} {x : SW} (hx : ws[j]? = some x) : someB now n ws (j + 1) = (someB now n ws j || ((x.sec == n) && decide (x.data = now))) := by
  have hj : j < ws.length := (List.getElem?_eq_some_iff.1 hx).1
  unfold someB
  rw [List.take_succ_eq_append_getElem hj, (List.getElem?_eq_some_iff.1 hx).2, List.any_append]
  simp
def SomeRel (w0 : World) (now : List Int) (n : Nat) (ws : List SW) (sv iv : Value) (wr : World) : Prop :=
  ∃ j : Nat, j ≤ ws.length ∧ iv = .int .i64 j ∧ sv = .bool (someB now n ws j) ∧ Only [] w0 wr

/-- The second loop: are all writes kept whole so far? -/
def allB (t : List (Int × Int)) (j : Nat) : Bool := (t.take j).all fun p => p.2 == 512
theorem allB_succ {t : List (Int × Int)} {j : Nat} {p : Int × Int} (hp : t[j]? = some p) : allB t (j + 1) = (allB t j && (p.2 == 512)) := by
  have hj : j < t.length := (List.getElem?_eq_some_iff.1 hp).1
  unfold allB
  rw [List.take_succ_eq_append_getElem hj, (List.getElem?_eq_some_iff.1 hp).2, List.all_append]
  simp
def WholeRel (w0 : World) (kn : Nat) (t : List (Int × Int)) (wv i : Value) (wr : World) : Prop :=
  ∃ j : Nat, j ≤ kn ∧ i = .int .i64 j ∧ wv = .bool (allB t j) ∧ Only [] w0 wr

set_option maxRecDepth 100000 in
set_option maxHeartbeats 8000000 in
theorem diskTorn_good (n : Int) (A : Option Addr) (m c : Nat) (K : Option Addr) (kn kc : Nat) (t : List (Int × Int)) (w : World) (h1 : 1 ≤ n) (h2 : n ≤ 4096) (hm : m < 4398046511000) (hops : ∀ i, i < m → OpAt2 w A i) (ht : Torns w K kn t) (hkn : kn ≤ 9223372036854775807) :
    Calls Try.prog 3 #[.int .i64 n, .slice A m c, .slice K kn kc] w fun e w' => e = .returned (.bool true) ∧ Below w.heap.size w w' := by
  have HOPS := hide hops
  have HT := hide ht
  clear hops ht
  go_enter Try.func3, Try.ntmps3
  go_wp2_with fail
  refine (awake_ok _).mono ?_
  rintro e w1 ⟨rfl, ho1⟩
  go_wp2_with fail
  refine (one_new n w1 h1 h2).mono ?_
  rintro e w2 ⟨g, F0, rfl, ho2, hF0, hd⟩
  have HO2 := hide (ho1.trans ho2)
  have HF0 := hide (show ∀ q ∈ F0, w.heap.size ≤ q from fun q hq => Nat.le_trans ho1.size (hF0 q hq))
  have HD := hide hd
  clear ho1 ho2 hF0 hd
  go_wp2
  go_loopw [9, 44] (fun v i wr => TornRel w m g n.toNat v i wr) (fun _ i _ => m - (intOf i).toNat)
  case atStart => exact ⟨0, F0, [], _, [], Nat.zero_le _, rfl, SRow.nil _ _ _, HD.out, Nat.le_refl _, by simp, HF0.out, HO2.out⟩
  case round =>
    clear HD HF0 HO2
    obtain ⟨k, F, G, plat, ws, hk, rfl, hs, hd, hwk, hgf, hF, ho⟩ := hrel
    obtain ⟨Av, cv, rfl, _⟩ := hs.form
    have HS := hide hs
    have HD := hide hd
    have HGF := hide hgf
    have HF := hide hF
    have HO := hide ho
    by_cases hlt : k < m
    · obtain ⟨q, o, kk, mm, bb, xx, Kp, kpn, kpc, tt, rfl, hq, c0, c1, c2, c3, c4, b0, b1, _, _, _, _, _, _⟩ := HOPS.out k hlt
      have e0 := (ho.cell hq (by simp)).trans c0
      have e1 := (ho.cell hq (by simp)).trans c1
      have e2 := (ho.cell hq (by simp)).trans c2
      have e3 := (ho.cell hq (by simp)).trans c3
      have e4 := (ho.cell hq (by simp)).trans c4
      have HLF := hide (show wr.heap.size ∉ F from fun hh => absurd (hd.lt _ hh) (by omega))
      have HLG := hide (show wr.heap.size ∉ G from fun hh => absurd (hs.lt _ hh).2 (by omega))
      clear hs hd hgf hF ho hq c0 c1 c2 c3 c4
      go_wp2
      obtain ⟨wb, hwb⟩ : ∃ wb, wr.alloc (.cells #[.int .i64 kk, .int .i64 mm, .int .u8 bb, .int .i64 xx, .slice Kp kpn kpc] 31) = wb := ⟨_, rfl⟩
      rw [hwb]
      have hob : Only [] wr wb := by rw [← hwb]; exact (Only.refl _ _).alloc _
      have hszb : wb.heap.size = wr.heap.size + 1 := by rw [← hwb]; simp
      have HB := hide (show Blk wb wr.heap.size 31 #[.int .i64 kk, .int .i64 mm, .int .u8 bb, .int .i64 xx, .slice Kp kpn kpc] by rw [← hwb]; exact Blk.new _ _ _)
      have HC := hide (fun (w' : World) (S : List Nat) (z : Only S wb w') (hS : wr.heap.size ∉ S) => (show w'.cell? ⟨wr.heap.size, 0, none⟩ = some (.int .i64 kk) ∧ w'.cell? ⟨wr.heap.size, 1, none⟩ = some (.int .i64 mm) ∧ w'.cell? ⟨wr.heap.size, 2, none⟩ = some (.int .u8 bb) from by
        have hB := HB.out.only z hS
        exact ⟨by rw [hB.cell]; rfl, by rw [hB.cell]; rfl, by rw [hB.cell]; rfl⟩))
      have HS' := hide (HS.out.only hob (by simp))
      have HD' := hide (HD.out.only hob (by simp))
      have HO' := hide (HO.out.trans hob)
      have HLtF := hide (fun q (hq : q ∈ F) => HD'.out.lt q hq)
      have HGL := hide (fun q (hq : q ∈ G) => (HS.out.lt q hq).2)
      clear hwb e0 e1 e2 e3 e4 HB HS HD HO hob
      have HSAME := hide (fun w5 (z : Only [] wb w5) => (show TornRel w m g n.toNat (.slice Av ws.length cv) (.int .i64 ((k : Int) + 1)) w5 from
        ⟨k + 1, F, G, plat, ws, hlt, by go_num, HS'.out.only z (by simp), (HD'.out.only z (by simp)).more (by omega), by omega, HGF.out, HF.out, HO'.out.trans z⟩))
      obtain ⟨f0, f1, f2⟩ := HC.out wb [] (Only.refl _ _) (by simp)
      by_cases hk0 : kk = 0
      · subst hk0
        by_cases hr : mm < 0 ∨ (n.toNat : Int) ≤ mm
        · have HW := hide fun wA (d : Nat) (kA : Only [] wb wA) => one_write_sector (HD'.out.only kA (by simp)) mm (some ⟨d, 0, none⟩) 512 512 hr
          clear hr
          go_region_held3 (fun w' => w'.cell? ⟨wr.heap.size, 0, none⟩ = some (.int .i64 0) ∧ w'.cell? ⟨wr.heap.size, 1, none⟩ = some (.int .i64 mm) ∧ w'.cell? ⟨wr.heap.size, 2, none⟩ = some (.int .u8 bb)) (first | go_keep | exact HC.out _ _ kA (by simp)) (first | (go_at_call 7; refine (fill5 bb _ b0 b1).mono ?_; rintro e wA ⟨d, rfl, hdA, hbkA, hoA⟩; have kA : Only [] wb wA := Only.trans (by repeat (first | exact Only.refl _ _ | apply Only.drew | apply Only.drewN)) hoA) | (go_at_call 6; refine (HW.out _ d (kA.trans (by repeat (first | exact Only.refl _ _ | apply Only.drew | apply Only.drewN)))).mono ?_; rintro e w' ⟨rfl, rfl⟩))
          have HKA := hide kA
          obtain ⟨x0, x1, x2⟩ := HC.out _ _ kA (by simp)
          clear f0 f1 f2 hdA hbkA hoA kA
          go_wp2
          go_roundw
          case rel => exact HSAME.out _ (by repeat (first | exact HKA.out | apply Only.drew | apply Only.drewN))
          case measure => simp [intOf]; omega
        · obtain ⟨mn, rfl⟩ : ∃ mn : Nat, mm = mn := ⟨mm.toNat, by omega⟩
          have hmn : mn < n.toNat := by omega
          have HW := hide fun wA (d : Nat) (kA : Only [] wb wA) (hdA : wb.heap.size ≤ d) (hbk : Blk wA d 5 (u8l (fillL 512 bb)).toArray) => one_write_do (HD'.out.only kA (by simp)) mn d 512 (fillL 512 bb) hmn (by decide) (by decide) (fillL_length 512 bb) (u8_fillL 512 bb) hbk (fun hh => absurd (HLtF.out d hh) (by omega)) (by omega)
          clear hr
          go_region_held3 (fun w' => w'.cell? ⟨wr.heap.size, 0, none⟩ = some (.int .i64 0) ∧ w'.cell? ⟨wr.heap.size, 1, none⟩ = some (.int .i64 (mn : Int)) ∧ w'.cell? ⟨wr.heap.size, 2, none⟩ = some (.int .u8 bb)) (first | go_keep | exact HC.out _ _ kA (by simp) | exact HC.out _ _ kB HLF.out) (first | (go_at_call 7; refine (fill5 bb _ b0 b1).mono ?_; rintro e wA ⟨d, rfl, hdA, hbkA, hoA⟩; have kA : Only [] wb wA := Only.trans (by repeat (first | exact Only.refl _ _ | apply Only.drew | apply Only.drewN)) hoA) | (go_at_call 6; refine (HW.out _ d (kA.trans (by repeat (first | exact Only.refl _ _ | apply Only.drew | apply Only.drewN))) (by simpa using hdA) hbkA).mono ?_; rintro e wB ⟨rfl, F', htB, hdB⟩; have kB : Only F wb wB := (kA.mono (by simp)).trans (Only.trans (by repeat (first | exact Only.refl _ _ | apply Only.drew | apply Only.drewN)) htB.1)))
          obtain ⟨x0, x1, x2⟩ := HC.out _ _ kB HLF.out
          have HKB := hide kB
          have HDB := hide hdB
          have HSB := hide (HS'.out.only kB (fun q hq => HGF.out q hq))
          have HF' := hide (show ∀ q ∈ F', q ∈ F ∨ wb.heap.size ≤ q from fun q hq => by
            rcases htB.2 q hq with h | h
            · exact .inl h
            · have := kA.size; exact .inr (by omega))
          have HCB := hide (fun (w' : World) (z : Only [] wB w') => HC.out w' F (HKB.out.trans (z.mono (by simp))) HLF.out)
          clear f0 f1 f2 hdA hbkA hoA kA kB htB hdB
          obtain ⟨i0, hi, hz0, hz1, hz2⟩ := info_parts info_sec
          have HBB := hide (show w.heap.size ≤ wB.heap.size from Nat.le_trans HO'.out.size HKB.out.size)
          go_wp2
          go_region_law (first | (refine step_append_lies _ rfl _ _ 29 rfl w.heap.size 36 i0 _ 2 32 Try.underlying29 hi hz0 hz1 hz2 rfl (by decide) _ ws.length (ws.flatMap SW.cells) rfl (ownsRow_only HSB.out.own (kC.trans (by repeat (first | exact Only.refl _ _ | apply Only.drew | apply Only.alloc))) (by simp)) ⟨_, 0, none⟩ 1 1 [.int .i64 mn, .slice (some ⟨d2, 0, none⟩) 512 512] rfl rfl (World.news_of_block (cs := #[.int .i64 mn, .slice (some ⟨d2, 0, none⟩) 512 512]) (t := 36) (fr := (0, 0)) (heap_alloc_new wC _)) (by simp [Value.oneCell']) (by decide) (by unfold maxLen; omega) (by omega) (by have := HBB.out; have := kC.size; simp; omega) _ rfl ?_; intro pg pcap w5 hown5 hgrow5 hat5 hlt5; have k5 : Only (Value.slice Av ws.length cv).ownBlock.toList wC w5 := Only.trans (by repeat (first | exact Only.refl _ _ | apply Only.drew | apply Only.alloc)) (only_grown hgrow5)) | (go_simp; go_at_call 7; refine (fill5 bb _ b0 b1).mono ?_; rintro e wC ⟨d2, rfl, hdC, hbkC, hoC⟩; have kC : Only [] wB wC := Only.trans (by repeat (first | exact Only.refl _ _ | apply Only.drew | apply Only.drewN)) hoC; obtain ⟨y0, y1, y2⟩ := HCB.out wC kC))
          all_goals
            have hat6 : (Value.slice Av ws.length cv).ownBlock = some pg ∨ wB.heap.size ≤ pg := hat5.imp id (fun e => by have := kC.size; simp at e; omega)
            have hdC2 : wB.heap.size ≤ d2 := by simpa using hdC
            have HSN := hide (HSB.out.more ⟨mn, d2, fillL 512 bb⟩ kC ⟨hbkC, fillL_length 512 bb, u8_fillL 512 bb, hmn⟩ hdC2 HBB.out k5 pg pcap hown5 hat6 hlt5)
            have hown : ∀ z, z ∈ (Value.slice Av ws.length cv).ownBlock.toList → z ∈ G := fun z hz => HSB.out.foot z (by simpa using hz)
            have hGw : ∀ z ∈ G, z < wr.heap.size := HGL.out
            have HFL := hide (fun z (hz : z ∈ F') => HDB.out.lt z hz)
            have hGF' : ∀ z ∈ G, z ∉ F' := fun z hz hf => by
              rcases HF'.out z hf with h | h
              · exact HGF.out z hz h
              · have := hGw z hz; omega
            have HDN := hide ((HDB.out.only kC (by simp)).only k5 (fun z hz hh => hGF' z (hown z hh) hz))
            have HON := hide (show Only [] w w5 from ((HO'.out.trans' HKB.out (fun z hz hf => absurd (HF.out z hf) (by omega))).trans kC).trans' k5 (fun z hz hf => absurd (HSB.out.lt z (hown z hf)).1 (by omega)))
            have z0 : w5.cell? ⟨wr.heap.size, 0, none⟩ = some (.int .i64 0) := (k5.cell (by have := HKB.out.size; have := kC.size; omega) (fun hh => HLG.out (hown _ hh))).trans y0
            have HGN := hide (show ∀ z ∈ pg :: d2 :: G, z ∉ F' from fun z hz hf => by
              have hl := HFL.out z hf
              simp only [List.mem_cons] at hz
              rcases hz with rfl | rfl | hz
              · rcases hat6 with h | h
                · exact hGF' z (HSB.out.foot z h) hf
                · omega
              · omega
              · exact hGF' z hz hf)
            have HFN := hide (show ∀ z ∈ F', w.heap.size ≤ z from fun z hz => by
              rcases HF'.out z hz with h | h
              · exact HF.out z h
              · have := HO'.out.size; omega)
            clear hown5 hgrow5 hat5 hat6 hlt5 k5 kC hdC hdC2 hbkC hoC hown hGw hGF' x0 x1 x2 y0 y1 y2
            go_wp2
            go_roundw
            case rel => exact ⟨k + 1, F', _, plat, ws ++ [⟨mn, d2, fillL 512 bb⟩], hlt, by go_num, by simpa using HSN.out, by simpa [SW.pair, lessv] using HDN.out, by simp; omega, HGN.out, HFN.out, HON.out⟩
            case measure => simp [intOf]; omega
      · have hk0' : (kk == 0) = false := beq_eq_false_iff_ne.2 hk0
        go_quiet (fail)
        by_cases hk2 : kk = 2
        · subst hk2
          have HW := hide (one_flush_do (HD'.out.drewN' nq) (by decide) (by decide) (by omega))
          clear f1 f2
          go_wp2_with (go_at_call 8; refine HW.out.mono ?_; rintro e wB ⟨rfl, htB, hdB⟩)
          have HKB := hide htB.1
          have HDB := hide hdB
          clear htB hdB
          go_roundw
          case rel => exact ⟨k + 1, F, [], _, [], hlt, by go_num, SRow.nil _ _ _, HDB.out, Nat.zero_le _, by simp, HF.out, (HO'.out.drewN nq).trans' HKB.out (fun q hq hf => absurd (HF.out q hf) (by omega))⟩
          case measure => simp [intOf]; omega
        · have hk2' : (kk == 2) = false := beq_eq_false_iff_ne.2 hk2
          clear f1 f2
          go_wp2
          go_roundw
          case rel => exact HSAME.out _ ((Only.refl _ _).drewN _)
          case measure => simp [intOf]; omega
    · obtain rfl : k = m := by omega
      obtain ⟨hu, hpl, hN1, hN2⟩ := one_u8 hd
      have HU := hide (And.intro hu hpl)
      have HSO := hide (fun w' (z : Only [] wr w') => hs.only z (by simp))
      have HDO := hide (fun w' (z : Only [] wr w') => hd.only z (by simp))
      have HIM := hide (one_image hd)
      have hne : ((plat.length : Int) != 512 * n) = false := by rw [hpl]; simp; omega
      have hpb : (plat.length : Int) ≤ 2097152 := by rw [hpl]; omega
      have HGW := hide (fun q (hq : q ∈ G) => hs.lt q hq)
      have HFW := hide (fun q (hq : q ∈ F) => hd.lt q hq)
      clear hs hd hgf hF ho hu hpl HS HD
      go_wp2_with (go_at_call 9; refine HIM.out.mono ?_; rintro e wI ⟨v, rfl, hf, hoI⟩; obtain ⟨d1, c1, r1, rfl, hd1, hb1, hl1⟩ := hf)
      have HB1 := hide hb1
      have HOI := hide hoI
      have HD1 := hide (And.intro hd1 hl1)
      clear hb1 hoI hd1 hl1 HIM
      go_loopw [13, 80] (fun wv i wz => WholeRel wI kn t wv i wz) (fun _ i _ => kn - (intOf i).toNat)
      case atStart => exact ⟨0, Nat.zero_le _, rfl, rfl, Only.refl _ _⟩
      case round =>
        obtain ⟨j, hj, rfl, rfl, hoz⟩ := hrel
        have HZ := hide hoz
        by_cases hjl : j < kn
        · obtain ⟨b, o, rfl, hb, hcs⟩ := HT.out.2 (by omega)
          obtain ⟨p, hp⟩ : ∃ p, t[j]? = some p := ⟨_, List.getElem?_eq_getElem (by rw [HT.out.1]; exact hjl)⟩
          obtain ⟨c0, c1'⟩ := hcs j p hp
          have how : Only [] w wr := (HO.out.trans HOI.out).trans hoz
          have e0 := (how.cell hb (by simp)).trans c0
          have e1 := (how.cell hb (by simp)).trans c1'
          have HE := hide (allB_succ hp)
          clear hcs c0 c1' how hoz hp
          revert HE
          generalize allB t j = ab
          intro HE
          cases ab with
          | true =>
            go_wp2
            go_roundw
            case rel => exact ⟨j + 1, hjl, by go_num, by rw [HE.out]; rfl, HZ.out.alloc _⟩
            case measure => simp [intOf]; omega
          | false =>
            go_wp2
            go_roundw
            case rel => exact ⟨j + 1, hjl, by go_num, by rw [HE.out]; rfl, HZ.out.alloc _⟩
            case measure => simp [intOf]; omega
        · obtain rfl : j = kn := by omega
          have HKT := hide (HT.out.only ((HO.out.trans HOI.out).trans hoz) (by simp))
          have HKF := hide (show 0 < j → ∀ b, K = some b → b.block ∉ F from fun hp b hb hm => by
            obtain ⟨b', o', hb', hlt', _⟩ := HT.out.2 hp
            rw [hb] at hb'
            injection hb' with hb'
            subst hb'
            exact absurd (HF.out _ hm) (by simpa using hlt'))
          have HCR := one_crash (HDO.out _ (HOI.out.trans hoz)) K j kc t HKT.out hkn HKF.out
          have HWI := hide hoz
          clear hoz
          by_cases hkb : keepB (ws.map SW.pair).length 0 t = true
          · rw [if_pos hkb, if_pos hkb, if_pos hkb, if_pos hkb] at HCR
            replace HCR := hide HCR
            obtain ⟨cr, hcr⟩ : ∃ cr, crashAll plat (ws.map SW.pair) t = cr := ⟨_, rfl⟩
            have HCT := hide hcr
            rw [hcr] at HCR
            have hcl : cr.length = 512 * n.toNat := by rw [← hcr]; exact crashAll_len (HSO.out _ (Only.refl _ _)).fits t plat HU.out.2
            have HMX := hide (show ∀ z, z < n.toNat → ∀ i, i < 512 → mixB (secL plat z) (secL cr z) z ws i ws.length = true from fun z hz i hi => by
              unfold mixB
              rw [List.take_length, secL_get _ _ _ hi, secL_get _ _ _ hi]
              rcases crashAll_byte (HSO.out _ (Only.refl _ _)).fits z i hz hi t plat HU.out.2 with h | ⟨x, hx, hxn, h⟩
              · rw [← hcr, h]; simp
              · obtain ⟨y, hy, rfl⟩ := List.mem_map.1 hx
                rw [Bool.or_eq_true]
                right
                rw [List.any_eq_true]
                refine ⟨y, hy, ?_⟩
                rw [← hcr, h]
                have : y.sec = z := hxn
                simp [this, SW.pair])
            have HWH := hide (show allB t j = true → ∀ z, z < n.toNat → secL cr z = secL plat z ∨ ∃ x ∈ ws, x.sec = z ∧ x.data = secL cr z from fun ha z hz => by
              have hall : ∀ p ∈ t, p.2 = 512 := fun p hp => by
                unfold allB at ha
                rw [List.take_of_length_le (by rw [HT.out.1]; exact Nat.le_refl _), List.all_eq_true] at ha
                simpa using ha p hp
              rcases crashAll_whole (HSO.out _ (Only.refl _ _)).fits z hz t plat HU.out.2 hall with h | ⟨x, hx, hxn, h⟩
              · exact .inl (by rw [← hcr]; exact h)
              · obtain ⟨y, hy, rfl⟩ := List.mem_map.1 hx
                exact .inr ⟨y, hy, hxn, by rw [← hcr]; exact h.symm⟩)
            have hlen2 : ((cr.length : Int) != (plat.length : Int)) = false := by rw [hcl, HU.out.2]; simp
            have hwbig : ws.length < 4398046511000 := by omega
            have hcb : (cr.length : Int) ≤ 2097152 := by rw [hcl]; omega
            have HCL := hide hcl
            clear hcl
            have HIM := hide (fun (wC : World) (h : One wC g n.toNat cr [] (-1) k F) => one_image h)
            clear hcr
            go_wp2_with (first | (go_at_call 10; refine HCR.out.mono ?_; rintro e wC ⟨rfl, htC, hdC⟩) | (go_at_call 9; refine (HIM.out _ hdC).mono ?_; rintro e wE ⟨vE, rfl, ⟨dE, cE, rE, rfl, hdE, hbE, hlE⟩, hoE⟩))
            have hd1F : d1 ∉ F := fun hh => by have := (HFW.out d1 hh); have := HD1.out.1; omega
            have HB2 := hide (((HB1.out.only HWI.out (by simp)).only htC.1 hd1F).only hoE (by simp))
            have HBE := hide hbE
            have HUC := hide (one_u8 hdC).1
            have HSE := hide (((HSO.out _ (HOI.out.trans HWI.out)).only htC.1 (fun z hz => HGF.out z hz)).only hoE (by simp))
            have HOE := hide (((HO.out.trans (HOI.out.trans HWI.out)).trans' htC.1 (fun z hz hf => absurd (HF.out z hf) (by omega))).trans hoE)
            have HCAP := hide (And.intro HD1.out.2 hlE)
            clear htC hdC hd1F hbE hoE hlE hdE HIM HCR
            obtain ⟨ab, hab⟩ : ∃ ab, allB t j = ab := ⟨_, rfl⟩
            rw [hab] at HWH ⊢
            clear hab
            go_loopw [17] (fun iv wz => ∃ z : Nat, z ≤ n.toNat ∧ iv = .int .i64 z ∧ Only [] wE wz) (fun iv _ => n.toNat - (intOf iv).toNat)
            case atStart => exact ⟨0, Nat.zero_le _, rfl, Only.refl _ _⟩
            case round =>
              obtain ⟨z, hz, rfl, hoz⟩ := hrel
              have HZ := hide hoz
              by_cases hzl : z < n.toNat
              · have e512 : 512 * z + 512 - 512 * z = 512 := by omega
                have q1 : (convert 33 9 (.slice (some ⟨d1, 512 * z, none⟩) (512 * z + 512 - 512 * z) (c1 - 512 * z))).run Try.prog wr.drew = .ok (.string (strB (secL plat z))) wr.drew := by
                  rw [e512]; exact conv_cut (HB2.out.only hoz (by simp)).drew HU.out.1 (512 * z) 512 _ (by rw [HU.out.2]; omega)
                have q2 : (convert 33 9 (.slice (some ⟨dE, 512 * z, none⟩) (512 * z + 512 - 512 * z) (cE - 512 * z))).run Try.prog wr.drew = .ok (.string (strB (secL cr z))) wr.drew := by
                  rw [e512]; exact conv_cut (HBE.out.only hoz (by simp)).drew HUC.out (512 * z) 512 _ (by rw [HCL.out]; omega)
                have q3 := q1
                have q4 := q2
                rw [e512] at q3 q4
                clear e512
                have hzn : (z : Int) < n := by omega
                clear hoz
                have b1' : plat.length ≤ c1 := by have := HCAP.out.1; omega
                have b2' : cr.length ≤ cE := by have := HCAP.out.2; omega
                have b3 : 512 * (z : Int) + 512 ≤ plat.length := by rw [HU.out.2]; omega
                have b4 : 512 * (z : Int) + 512 ≤ cr.length := by rw [HCL.out]; omega
                go_wp2
                go_region
                clear q1 q2 q3 q4 b1' b2' b3 b4
                have HP := HMX.out z hzl
                have hso := secL_len HU.out.2 hzl
                have hsn := secL_len HCL.out hzl
                have uso : U8 (secL plat z) := (HU.out.1.drop _).take _
                have usn : U8 (secL cr z) := (HUC.out.drop _).take _
                by_cases heq : secL plat z = secL cr z
                · rw [heq]
                  clear hso hsn uso usn HP
                  go_wp2
                  go_roundw
                  case rel => exact ⟨z + 1, by omega, by go_num, HZ.out.drew⟩
                  case measure => simp [intOf]; omega
                · have hneq : ((strB (secL plat z)).toList == (strB (secL cr z)).toList) = false := by
                    rw [beq_eq_false_iff_ne]
                    intro h
                    exact heq (strB_inj uso usn (byteArray_toList_inj h))
                  have HZD := hide (HZ.out.drew)
                  have HNE := hide heq
                  clear heq
                  revert HZD
                  generalize wr.drew = wq
                  intro HZD
                  have HAV := hide (show 0 < ws.length → ∃ b, Av = some ⟨b, 0, none⟩ ∧ b < wE.heap.size ∧ ∀ (i : Nat) (x : SW), ws[i]? = some x → wE.cell? ⟨b, i * 2, none⟩ = some (.int .i64 x.sec) ∧ wE.cell? ⟨b, i * 2 + 1, none⟩ = some (.slice (some ⟨x.blk, 0, none⟩) 512 512) from by
                    obtain ⟨A', c', e, hA'⟩ := HSE.out.form
                    injection e with e1 e2 e3
                    subst e1
                    exact hA')
                  go_wp2
                  go_loopw [20, 147] (fun sv iv wz => SomeRel wq (secL cr z) z ws sv iv wz) (fun _ iv _ => ws.length - (intOf iv).toNat)
                  case atStart => exact ⟨0, Nat.zero_le _, rfl, rfl, Only.refl _ _⟩
                  case round =>
                    obtain ⟨y, hy, rfl, rfl, hoy⟩ := hrel
                    have HY := hide hoy
                    by_cases hyl : y < ws.length
                    · obtain ⟨b, rfl, hb, hcs⟩ := HAV.out (by omega)
                      obtain ⟨x, hx⟩ : ∃ x, ws[y]? = some x := ⟨_, List.getElem?_eq_getElem hyl⟩
                      obtain ⟨s0, s1⟩ := hcs y x hx
                      have how : Only [] wE wr := HZD.out.trans hoy
                      have e0 := (how.cell hb (by simp)).trans s0
                      have e1 := (how.cell hb (by simp)).trans s1
                      have hxo := HSE.out.ok x (List.mem_of_getElem? hx)
                      have hbx := hxo.row.only how (by simp)
                      have q1 : ∀ o : Obj, (convert 33 9 (.slice (some ⟨x.blk, 0, none⟩) 512 512)).run Try.prog (wr.alloc o) = .ok (.string (strB x.data)) (wr.alloc o) := fun o => by
                        have h := conv_blk_ (c := 512) (r := []) (by simpa using hbx.alloc o) hxo.u8
                        rw [hxo.len] at h
                        exact h
                      have HE := hide (someB_succ (now := secL cr z) (n := z) hx)
                      have hxu := hxo.u8
                      clear hcs s0 s1 hxo hbx how hoy hx
                      revert HE
                      generalize someB (secL cr z) z ws y = sb
                      intro HE
                      cases sb with
                      | true =>
                        clear q1
                        go_wp2
                        go_roundw
                        case rel => exact ⟨y + 1, hyl, by go_num, by rw [HE.out]; rfl, HY.out.alloc _⟩
                        case measure => simp [intOf]; omega
                      | false =>
                        by_cases hs : x.sec = z
                        · have hs2 : ((x.sec : Int) == (z : Int)) = true := by rw [hs]; simp
                          by_cases hd : x.data = secL cr z
                          · rw [hd] at q1
                            go_wp2
                            go_roundw
                            case rel => exact ⟨y + 1, hyl, by go_num, by rw [HE.out, hs, hd]; simp, HY.out.alloc _⟩
                            case measure => simp [intOf]; omega
                          · have hd2 : ((strB x.data).toList == (strB (secL cr z)).toList) = false := by
                              rw [beq_eq_false_iff_ne]
                              intro h
                              exact hd (strB_inj hxu usn (byteArray_toList_inj h))
                            go_wp2
                            go_roundw
                            case rel => exact ⟨y + 1, hyl, by go_num, by rw [HE.out, decide_eq_false hd]; simp, HY.out.alloc _⟩
                            case measure => simp [intOf]; omega
                        · have hs2 : ((x.sec : Int) == (z : Int)) = false := beq_eq_false_iff_ne.2 (by omega)
                          clear q1
                          go_wp2
                          go_roundw
                          case rel => exact ⟨y + 1, hyl, by go_num, by rw [HE.out, beq_eq_false_iff_ne.2 hs]; simp, HY.out.alloc _⟩
                          case measure => simp [intOf]; omega
                    · obtain rfl : y = ws.length := by omega
                      have HMI := hide (mixed_ok (HSE.out.only (HZD.out.trans hoy) (by simp)) (secL plat z) (secL cr z) z (by omega) hwbig hso hsn uso usn HP)
                      have HSW := hide (show ab = true → someB (secL cr z) z ws ws.length = true from fun ha => by
                        unfold someB
                        rw [List.take_length]
                        rcases HWH.out ha z hzl with h | ⟨x, hx, hxn, hxd⟩
                        · exact absurd h.symm HNE.out
                        · rw [List.any_eq_true]; exact ⟨x, hx, by rw [hxn, hxd]; simp⟩)
                      have HYO := hide (HZD.out.trans hoy)
                      clear hoy hyl hy hso hsn uso usn HP hneq
                      cases ab with
                      | true =>
                        rw [HSW.out rfl]
                        go_wp2_with (go_at_call 12; refine HMI.out.mono ?_; rintro e wM ⟨rfl, hoM⟩)
                        go_roundw
                        case rel => exact ⟨z + 1, by omega, by go_num, HYO.out.trans hoM⟩
                        case measure => simp [intOf]; omega
                      | false =>
                        go_wp2_with (go_at_call 12; refine HMI.out.mono ?_; rintro e wM ⟨rfl, hoM⟩)
                        go_roundw
                        case rel => exact ⟨z + 1, by omega, by go_num, HYO.out.trans hoM⟩
                        case measure => simp [intOf]; omega
              · have hzn : ¬ (z : Int) < n := by omega
                clear hoz
                go_wp2
                go_ret
                exact ⟨rfl, (HOE.out.trans HZ.out).below (Nat.le_refl _) (by simp)⟩
          · rw [if_neg hkb, if_neg hkb, if_neg hkb, if_neg hkb] at HCR
            replace HCR := hide HCR
            go_wp2_with (go_at_call 10; refine HCR.out.mono ?_; rintro e wC ⟨rfl, htC, hdC⟩)
            have HTC := hide htC.1
            have HDC := hide hdC
            have hd1F : d1 ∉ F := fun hh => by have := (HFW.out d1 hh); have := HD1.out.1; omega
            have HBC := hide ((HB1.out.only HWI.out (by simp)).only htC.1 hd1F)
            have hq1 := conv_blk_ (c := c1) HBC.out HU.out.1
            have hq2 := conv_blk_ (c := c1) (HBC.out.drew) HU.out.1
            have HOC := hide ((HO.out.trans (HOI.out.trans HWI.out)).trans' htC.1 (fun z hz hf => absurd (HF.out z hf) (by omega)))
            clear htC hdC hd1F
            go_region_law (first | (have hg := kE; go_simp; go_at_call 11; refine (one_pending (HDC.out.only kE (by simp))).mono ?_; rintro e wP ⟨dP, rfl, hiP, hoP⟩; have kP : Only [] wC wP := kE.trans (Only.trans (by repeat (first | exact Only.refl _ _ | apply Only.drew)) hoP)) | (go_simp; go_at_call 9; refine (one_image (HDC.out.only (S := []) (by repeat (first | exact Only.refl _ _ | apply Only.drew)) (by simp))).mono ?_; rintro e wE ⟨vE, rfl, hfE, hoE⟩; obtain ⟨dE, cE, rE, rfl, _, hbE, _⟩ := hfE; have kE : Only [] wC wE := Only.trans (by repeat (first | exact Only.refl _ _ | apply Only.drew)) hoE; have hqE := conv_blk_ (c := cE) hbE HU.out.1; have hqE2 := conv_blk_ (c := c1) (HBC.out.only kE (by simp)) HU.out.1))
            all_goals
              have HP := hide (HOC.out.trans kP)
              clear kP kE hoE hbE hqE hqE2 hiP hoP hq1 hq2
              go_wp2
              go_ret
              exact ⟨by first | rfl | (simp [Act.put]; done) | (simp [Act.put, List.length_map]; done), HP.out.below (Nat.le_refl _) (by simp)⟩

set_option maxRecDepth 100000 in
theorem diskTorn_bad (n : Int) (A : Option Addr) (m c : Nat) (K : Option Addr) (kn kc : Nat) (w : World) (h : n < 1 ∨ 4096 < n) :
    Calls Try.prog 3 #[.int .i64 n, .slice A m c, .slice K kn kc] w fun e w' => e = .returned (.bool true) ∧ Below w.heap.size w w' := by
  have HN := hide (dnew_bad n · h)
  clear h
  go_enter Try.func3, Try.ntmps3
  go_wp2_with fail
  refine (awake_ok _).mono ?_
  rintro e w1 ⟨rfl, ho1⟩
  go_wp2_with (go_at_call 5; refine (HN.out _).mono ?_; rintro e w' ⟨rfl, rfl⟩)
  go_ret
  exact ⟨rfl, ho1.below (Nat.le_refl _) (by simp)⟩

theorem diskTorn_walk {H : Type} {enc : TypeId × Value → H} (n : Int) (A : Option Addr) (m c : Nat) (K : Option Addr) (kn kc : Nat) (w : World) {d1 d2 : DataW H} (r1 : Rd enc Try.prog w 22 [.slice A m c] d1) (r2 : Rd enc Try.prog w 23 [.slice K kn kc] d2) :
    Calls Try.prog 3 #[.int .i64 n, .slice A m c, .slice K kn kc] w fun e w' => e = .returned (.bool true) ∧ Below w.heap.size w w' := by
  obtain ⟨hm, hops⟩ := r1.ops2
  obtain ⟨K', kn', kc', t, he, hkn, ht⟩ := r2.torns
  injection he with h1 h2 h3
  subst h1 h2 h3
  by_cases h : n < 1 ∨ 4096 < n
  · exact diskTorn_bad n A m c K kn kc w h
  · exact diskTorn_good n A m c K kn kc t w (by omega) (by omega) hm hops ht hkn
end Go.Proofs.Ytlbiigaefipneaa
