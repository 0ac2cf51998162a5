/-
  The log (parapet/wlog): mend, Open.
-/
import Derived.Test.YtokdpldmoflnkaaMg19
namespace Go.Proofs.Ytokdpldmoflnkaa
open Go.ChangeShapes Go.WideShapes Go.ChangeAt Go.RowKit Go.Maps
set_option linter.unusedVariables false
set_option linter.unusedSimpArgs false
section
variable {w w' w1 : World} {g gd N a sz : Nat} {k k' : Nat} {F T : List Nat} {S : Option PG} {p : LP}
theorem turned_trans {F1 F2 : List Nat} (h1 : Turned w w1 F F1) (h2 : Turned w1 w' F1 F2) : Turned w w' F F2 := ⟨h1.1.trans' h2.1 (fun q hq hm => by
    rcases h1.2 q hm with e | e
    · exact e
    · omega), fun q hq => by
    rcases h2.2 q hq with e | e
    · exact h1.2 q e
    · exact .inr (Nat.le_trans h1.1.size e)⟩
/-- One block taken up: its sector read, and written into the group. -/
theorem mend_one {gen : Int} {ns : List Int} {plat : List Int} {l : List (Nat × List Int)} {st i : Nat} (h : LgP w g gd N a sz none ⟨gen, openG a ns plat l i, st, 0, plat, l⟩ k F) (hi : i < ns.length) (hl : ns.length + 1 ≤ sz) (hnd : ns.Nodup) (hok : ∀ x ∈ ns, blkB N a sz x = true) (hk : k < 4611686018427000000) :
    Calls Try.prog 76 #[.pointer (some ⟨g, 0, none⟩), .int .i64 ((a : Int) + 1 + (i : Int))] w fun e w1 => ∃ b c, e = .returned (.slice (some ⟨b, 0, none⟩) 512 c) ∧ w1.cell? ⟨g, 1, none⟩ = some (.int .i64 a) ∧ ∀ W, Only [] w1 W → Calls Try.prog 51 #[.pointer (some ⟨g, 4, none⟩), .int .i64 (gb ns i), .slice (some ⟨b, 0, none⟩) 512 c] W fun e w' => e = .returned (.tuple #[]) ∧ DidP w w' g gd N a sz none ⟨gen, openG a ns plat l (i + 1), st, 0, plat, l⟩ (k + 1) F ∧ w'.cell? ⟨g, 1, none⟩ = some (.int .i64 a) := by
  have hrng := h.rng
  have hs := lg_sector h (a + 1 + i) (by omega) hk
  rw [show ((a + 1 + i : Nat) : Int) = (a : Int) + 1 + (i : Int) from by omega] at hs
  refine hs.mono ?_
  rintro e w1 ⟨v, rfl, ⟨d, c, r, rfl, hd, hb, hc⟩, hT, hq⟩
  obtain ⟨rd, wt, fl, FD, hdk⟩ := hq.disk
  have hsec := hdk.secOk (m := a + 1 + i) (by omega)
  have hsec : (sect plat l (a + 1 + i)).length = 512 ∧ U8 (sect plat l (a + 1 + i)) := hsec
  have hb : Blk w1 d 5 (u8l (sect plat l (a + 1 + i)) ++ r).toArray := hb
  have hc : (sect plat l (a + 1 + i)).length + r.length = c := hc
  rw [hsec.1] at hc
  subst hc
  refine ⟨d, 512 + r.length, by show Ending.returned (.slice _ (sect plat l (a + 1 + i)).length _) = _; rw [hsec.1], by obtain ⟨_, _, _, _, _, _, _, _, h1, _⟩ := hq; exact h1.c1, fun W ho => ?_⟩
  have hx : gb ns i ∈ ns := by simp only [gb, List.getD, List.getElem?_eq_getElem hi, Option.getD_some]; exact List.getElem_mem hi
  refine (lg_gwrite (w0 := w) ((hT.1.trans (ho.mono (by simp)))) h.lt (hq.quiet ho) (gb ns i) (hok _ hx) (.inr (by show (openG a ns plat l i).length + 1 < sz; rw [openG_length]; omega)) d r (sect plat l (a + 1 + i)) ⟨hb.only ho (by simp), hsec.1, hsec.2⟩ hd).mono ?_
  rintro e w2 ⟨rfl, hD⟩
  rw [show putG (openG a ns plat l i) (gb ns i) (sect plat l (a + 1 + i)) = openG a ns plat l (i + 1) from openG_put a ns plat l i hi hnd] at hD
  refine ⟨rfl, hD, ?_⟩
  obtain ⟨_, _, _, _, _, _, _, _, _, _, h1, _⟩ := hD
  exact h1.c1
set_option maxRecDepth 100000 in
set_option maxHeartbeats 2000000 in
theorem mend_is {gen : Int} {ns : List Int} {plat : List Int} {l : List (Nat × List Int)} (h : LgP w g gd N a sz none ⟨0, [], 0, 0, plat, l⟩ k F) (hs : sect plat l a = hdrF gen ns) (g0 : 0 ≤ gen) (g1 : gen < 18446744073709551616) (hl : ns.length + 1 ≤ sz) (hnd : ns.Nodup) (hok : ∀ x ∈ ns, blkB N a sz x = true) (hk : k < 4611686018426000000) (hlen : l.length < 4398045000000) :
    Calls Try.prog 59 #[.pointer (some ⟨g, 0, none⟩)] w fun e w' => e = .returned (.int .i64 ns.length) ∧ DidP w w' g gd N a sz none (endP a (openP a gen ns plat l)) (k + 1 + ns.length + leftP (openP a gen ns plat l)) F := by
  have hrng := h.rng
  have HP := hide (fun v W1 (hF : Fresh W1 w.heap.size v (sect plat l a)) => (show ∃ d c, v = .slice (some ⟨d, 0, none⟩) 512 c ∧ ∀ W2, Only [] W1 W2 → Calls Try.prog 77 #[.slice (some ⟨d, 0, none⟩) 512 c, .int .i64 a, .int .i64 sz, .int .i64 N] W2 (fun e w' => ∃ v', e = .returned (.tuple #[.int .u64 gen, v', .bool true]) ∧ IRow w' v' ns ∧ (∀ q, v'.ownBlock = some q → W1.heap.size ≤ q) ∧ Only [] W1 w') from by
    obtain ⟨d, c, r, rfl, hd, hb, hc⟩ := hF
    have hl512 : (sect plat l a).length = 512 := by rw [hs]; exact hdrF_length gen ns (by omega)
    rw [hl512] at hc ⊢
    rw [hs] at hb
    exact ⟨d, c, rfl, fun W2 ho => (parse_is (hb.only ho (by simp)) (by omega) g0 g1 hrng.2.1 hrng.2.2.2 hrng.2.2.1 hl hnd hok).mono fun e w' ⟨v', q1, q2, q3, q4⟩ => ⟨v', q1, q2, fun q hq => Nat.le_trans ho.size (q3 q hq), ho.trans q4⟩⟩))
  have HS := hide (lg_sector h a (by omega) (by omega))
  have H := hide h
  have HC := hide (fun W k' F' (q : LgP W g gd N a sz none ⟨0, [], 0, 0, plat, l⟩ k' F') => (show W.cell? ⟨g, 0, none⟩ = some (.pointer (some ⟨gd, 0, none⟩)) ∧ W.cell? ⟨g, 1, none⟩ = some (.int .i64 a) ∧ W.cell? ⟨g, 2, none⟩ = some (.int .i64 sz) ∧ Calls Try.prog 65 #[.pointer (some ⟨gd, 0, none⟩)] W (fun e w' => e = .returned (.int .i64 N) ∧ W = w') from by
    obtain ⟨v, m, L, SS, rd, wt, fl, FD, h1, _⟩ := q
    exact ⟨h1.c0, h1.c1, h1.c2, dk_count h1.dk⟩))
  obtain ⟨c0, c1, c2, -⟩ := HC.out w k F h
  clear h hs hrng
  go_enter Try.func59, Try.ntmps59
  go_wp2_with (go_at_call 76; refine HS.out.mono ?_; rintro e w1 ⟨v1, rfl, hf, ht, hq⟩; obtain ⟨d, c, rfl, hpw⟩ := HP.out _ _ hf; have HPW := hide hpw; have HT := hide ht; have HQ := hide hq; have HC1 := hide (fun W (ho : Only [] w1 W) => HC.out W _ _ (hq.quiet ho)); obtain ⟨e0, e1, e2, -⟩ := HC.out _ _ _ hq; clear hf ht hq hpw)
  have kk : Only [] w1 w1 := Only.refl _ _
  go_region_held3 (fun w' => w'.cell? ⟨g, 0, none⟩ = some (.pointer (some ⟨gd, 0, none⟩)) ∧ w'.cell? ⟨g, 1, none⟩ = some (.int .i64 a) ∧ w'.cell? ⟨g, 2, none⟩ = some (.int .i64 sz)) (first | go_keep | exact ⟨(HC1.out _ kk).1, (HC1.out _ kk).2.1, (HC1.out _ kk).2.2.1⟩) (first | (go_at_call 65; refine ((HC1.out _ (by repeat (first | exact kk | apply Only.drew | apply Only.drewN))).2.2.2).mono ?_; rintro e wl ⟨rfl, rfl⟩) | (go_at_call 77; refine (HPW.out _ (by repeat (first | exact kk | apply Only.drew | apply Only.drewN))).mono ?_; rintro e w2 ⟨v2, rfl, hr, hnew, ho⟩; obtain ⟨A, cc, rfl, -⟩ := id hr.form2; have HR := hide hr; have HN := hide hnew; clear kk hr hnew; have kk : Only [] w1 w2 := ho; clear ho))
  have HW := hide (show w.heap.size ≤ w1.heap.size from HT.out.1.size)
  have hq2 := HQ.out.quiet kk
  have hgl : g < w1.heap.size := HQ.out.lt g (HQ.out.gF)
  obtain ⟨v, m, L, SS, rd, wt, fl, FD, hI, hL0, hS0, h4, h5⟩ := hq2
  obtain rfl : SS = none := by cases SS with | none => rfl | some s => simp at hS0
  have c3 := hI.c3
  have c7 := hI.c7
  have f3 := hI.fr 3
  have f7 := hI.fr 7
  have hgq : ∀ q, (Value.slice A ns.length cc).ownBlock = some q → q ≠ g := fun q hq e => by have := HN.out q hq; omega
  have HROW := hide (fun W (ho : Only [g] w2 W) => (show IRow W (.slice A ns.length cc) ns from HR.out.only ho (fun q hq => by simpa using hgq q hq)))
  have HQF := hide (fun q (hq : (Value.slice A ns.length cc).ownBlock = some q) W F1 (ht : Turned w2 W F F1) => (show q ∉ F1 from fun hm => by
    have h1 := HN.out q hq
    rcases ht.2 q hm with e | e
    · have := H.out.lt q e; have := HW.out; omega
    · have := (HR.out.at_ hq).2.1; omega))
  by_cases hne : ns = []
  · have o2 : Only [g] w2 (w2.setCell ⟨g, 3, none⟩ (.int .u64 gen)) := (Only.refl _ _).setCell (p := ⟨g, 3, none⟩) _ (by simp)
    obtain ⟨F1, hT1, hL1⟩ := Lg.turn hI h4 (SS' := none) (gen' := gen) (st' := 0) (nx' := 0) o2 (fun s hs => hs) ⟨g0, g1⟩ (hI.blk.set_ 3 (.int .u64 gen))
    have ha4 : a ≤ 4096 := by have := hI.rng; have := hI.big; omega
    have hpos : ¬ ((0 : Int) < ns.length) := by rw [hne]; decide
    have hop : openP a gen ns plat l = ⟨gen, openG a ns plat l ns.length, 0, 0, plat, l⟩ := by simp [openP, hne]
    rw [hL0] at hL1
    have HL1 := hide (show LgP _ g gd N a sz none ⟨gen, openG a ns plat l 0, 0, 0, plat, l⟩ (k + 1) F1 from hL1)
    have HT1 := hide (turned_trans (turned_trans HT.out (Turned.same (kk.mono (by simp)))) hT1)
    have HRW := hide (fun W (ht : Only F1 _ W) => (show IRow W (.slice A ns.length cc) ns from (HROW.out _ o2).only ht (fun q hq => HQF.out q hq _ F1 hT1)))
    have HB := hide (⟨hl, hnd, hok⟩ : ns.length + 1 ≤ sz ∧ ns.Nodup ∧ ∀ x ∈ ns, blkB N a sz x = true)
    have hl2 : ns.length ≤ 247 := by have := hI.rng; omega
    have HLE := hide (show leftP (openP a gen ns plat l) ≤ 1000 from by
      have h1 := left_le (open_runs a gen ns plat l)
      rw [show (openP a gen ns plat l).G.length = ns.length from openG_length ..] at h1
      omega)
    clear hI h4 h5 hL0 hS0 hT1 hL1 hnd hok hgq
    go_wp2
    go_loopw [56, 7, 8] (fun iv _ _ wr => ∃ i : Nat, i ≤ ns.length ∧ iv = .int .i64 i ∧ ∃ Fi, Turned (w2.setCell ⟨g, 3, none⟩ (.int .u64 gen)) wr F1 Fi ∧ LgP wr g gd N a sz none ⟨gen, openG a ns plat l i, 0, 0, plat, l⟩ (k + 1 + i) Fi) (fun iv _ _ _ => ns.length - (intOf iv).toNat)
    case atStart => exact ⟨0, Nat.zero_le _, rfl, F1, Turned.same (Only.mono (show Only [] _ _ from by repeat (first | exact Only.refl [] _ | apply Only.drew | apply Only.drewN)) (by simp)), HL1.out.quiet (by repeat (first | exact Only.refl _ _ | apply Only.drew | apply Only.drewN))⟩
    case round =>
      obtain ⟨i, hi, rfl, Fi, ht, hq⟩ := hrel
      have HTi := hide ht
      have HQi := hide hq
      by_cases hlt : i < ns.length
      · exact absurd (show 0 < ns.length by omega) (by rw [hne]; decide)
      · obtain rfl : i = ns.length := by omega
        have HRUN := hide (fun W (ho : Only [] wr W) => (lg_run (p := openP a gen ns plat l) (show LgP W g gd N a sz none (openP a gen ns plat l) (k + 1 + ns.length) Fi from by rw [hop]; exact hq.quiet ho) (open_runs a gen ns plat l) (by omega) (by show l.length < 4398046000000; omega)))
        clear ht hq
        go_wp2_with (go_at_call 44; refine (HRUN.out _ (by repeat (first | exact Only.refl _ _ | apply Only.drew | apply Only.drewN))).mono ?_; rintro e w4 ⟨rfl, hd⟩; have HD := hide hd; clear hd)
        go_ret
        obtain ⟨F', t', l'⟩ := HD.out
        exact ⟨by rw [hne]; rfl, F', turned_trans HT1.out (turned_trans HTi.out (turned_trans (Turned.same (Only.mono (show Only [] _ _ from by repeat (first | exact Only.refl _ _ | apply Only.drew | apply Only.drewN)) (by simp))) t')), l'⟩
  · have o2 : Only [g] w2 ((w2.setCell ⟨g, 7, none⟩ (.int .i64 5)).setCell ⟨g, 3, none⟩ (.int .u64 gen)) := ((Only.refl _ _).setCell (p := ⟨g, 7, none⟩) _ (by simp)).setCell (p := ⟨g, 3, none⟩) _ (by simp)
    obtain ⟨F1, hT1, hL1⟩ := Lg.turn hI h4 (SS' := none) (gen' := gen) (st' := 5) (nx' := 0) o2 (fun s hs => hs) ⟨g0, g1⟩ ((hI.blk.set_ 7 (.int .i64 5)).set_ 3 (.int .u64 gen))
    have ha4 : a ≤ 4096 := by have := hI.rng; have := hI.big; omega
    have hpos : (0 : Int) < ns.length := by have := List.length_pos_iff.2 hne; omega
    have hop : openP a gen ns plat l = ⟨gen, openG a ns plat l ns.length, 5, 0, plat, l⟩ := by simp [openP, hne]
    rw [hL0] at hL1
    have HL1 := hide (show LgP _ g gd N a sz none ⟨gen, openG a ns plat l 0, 5, 0, plat, l⟩ (k + 1) F1 from hL1)
    have HT1 := hide (turned_trans (turned_trans HT.out (Turned.same (kk.mono (by simp)))) hT1)
    have HRW := hide (fun W (ht : Only F1 _ W) => (show IRow W (.slice A ns.length cc) ns from (HROW.out _ o2).only ht (fun q hq => HQF.out q hq _ F1 hT1)))
    have HB := hide (⟨hl, hnd, hok⟩ : ns.length + 1 ≤ sz ∧ ns.Nodup ∧ ∀ x ∈ ns, blkB N a sz x = true)
    have hl2 : ns.length ≤ 247 := by have := hI.rng; omega
    have HLE := hide (show leftP (openP a gen ns plat l) ≤ 1000 from by
      have h1 := left_le (open_runs a gen ns plat l)
      rw [show (openP a gen ns plat l).G.length = ns.length from openG_length ..] at h1
      omega)
    clear hI h4 h5 hL0 hS0 hT1 hL1 hnd hok hgq
    go_wp2
    go_loopw [56, 7, 8] (fun iv _ _ wr => ∃ i : Nat, i ≤ ns.length ∧ iv = .int .i64 i ∧ ∃ Fi, Turned ((w2.setCell ⟨g, 7, none⟩ (.int .i64 5)).setCell ⟨g, 3, none⟩ (.int .u64 gen)) wr F1 Fi ∧ LgP wr g gd N a sz none ⟨gen, openG a ns plat l i, 5, 0, plat, l⟩ (k + 1 + i) Fi) (fun iv _ _ _ => ns.length - (intOf iv).toNat)
    case atStart => exact ⟨0, Nat.zero_le _, rfl, F1, Turned.same (Only.mono (show Only [] _ _ from by repeat (first | exact Only.refl [] _ | apply Only.drew | apply Only.drewN)) (by simp)), HL1.out.quiet (by repeat (first | exact Only.refl _ _ | apply Only.drew | apply Only.drewN))⟩
    case round =>
      obtain ⟨i, hi, rfl, Fi, ht, hq⟩ := hrel
      have HTi := hide ht
      have HQi := hide hq
      by_cases hlt : i < ns.length
      · have hltI : (i : Int) < ns.length := by omega
        obtain ⟨A', c', hv, hA, _, _, hc⟩ := IRow.form2 (HRW.out wr ht.1)
        obtain ⟨rfl, rfl⟩ : A = A' ∧ cc = c' := by cases hv; exact ⟨rfl, rfl⟩
        obtain ⟨ad, rfl⟩ : ∃ ad, A = some ad := by
          rcases A with _ | ad
          · have := (hA rfl).1; omega
          · exact ⟨ad, rfl⟩
        obtain ⟨b, rfl, hbl, hcell⟩ := hc ad rfl
        have ci := hcell i (.int .i64 (gb ns i)) (by simp [i64l, gb, List.getD, hlt])
        have HON := hide (fun W (ho : Only [] wr W) => mend_one (hq.quiet ho) hlt HB.out.1 HB.out.2.1 HB.out.2.2 (by omega))
        have HC1i := hide (fun W (ho : Only [] wr W) => (show W.cell? ⟨g, 1, none⟩ = some (.int .i64 a) from by
          obtain ⟨_, _, _, _, _, _, _, _, h1, _⟩ := hq.quiet ho
          exact h1.c1))
        have cw := HC1i.out wr (Only.refl _ _)
        have hw1 : IntKind.i64.wrap ((a : Int) + 1) = (a : Int) + 1 := by rw [IntKind.wrap_i64]; omega
        have hwr : IntKind.i64.wrap (IntKind.i64.wrap ((a : Int) + 1) + (i : Int)) = (a : Int) + 1 + (i : Int) := by rw [hw1, IntKind.wrap_i64]; omega
        clear hcell hA hc hv ht hq hw1
        go_wp2_with fail
        go_region_held3 (fun w' => w'.cell? ⟨g, 1, none⟩ = some (.int .i64 a)) (first | go_keep | assumption) (first | (go_at_call 76; refine (HON.out _ (by repeat (first | exact Only.refl _ _ | apply Only.drew | apply Only.drewN))).mono ?_; rintro e w3 ⟨b3, c3', rfl, hc3, hg3⟩; have HG3 := hide hg3; clear hg3) | (go_at_call 51; refine (HG3.out _ (by repeat (first | exact Only.refl _ _ | apply Only.drew | apply Only.drewN))).mono ?_; rintro e w4 ⟨rfl, hd, hc4⟩; have HD := hide hd; clear hd))
        go_wp2
        go_roundw
        case rel =>
          obtain ⟨F', t', l'⟩ := HD.out
          exact ⟨i + 1, hlt, by go_num, F', turned_trans HTi.out (turned_trans (Turned.same (Only.mono (show Only [] _ _ from by repeat (first | exact Only.refl _ _ | apply Only.drew | apply Only.drewN)) (by simp))) t'), l'⟩
        case measure => simp [intOf]; omega
      · obtain rfl : i = ns.length := by omega
        have HRUN := hide (fun W (ho : Only [] wr W) => (lg_run (p := openP a gen ns plat l) (show LgP W g gd N a sz none (openP a gen ns plat l) (k + 1 + ns.length) Fi from by rw [hop]; exact hq.quiet ho) (open_runs a gen ns plat l) (by omega) (by show l.length < 4398046000000; omega)))
        clear ht hq
        go_wp2_with (go_at_call 44; refine (HRUN.out _ (by repeat (first | exact Only.refl _ _ | apply Only.drew | apply Only.drewN))).mono ?_; rintro e w4 ⟨rfl, hd⟩; have HD := hide hd; clear hd)
        go_ret
        obtain ⟨F', t', l'⟩ := HD.out
        exact ⟨rfl, F', turned_trans HT1.out (turned_trans HTi.out (turned_trans (Turned.same (Only.mono (show Only [] _ _ from by repeat (first | exact Only.refl _ _ | apply Only.drew | apply Only.drewN)) (by simp))) t')), l'⟩
theorem open_no {dv : Option Addr} (hN : N ≤ 4096) (ai szi : Int) (hc : Calls Try.prog 65 #[.pointer dv] w fun e w' => e = .returned (.int .i64 N) ∧ w = w') (hm : mayL N ai szi = false) : Calls Try.prog 28 #[.pointer dv, .int .i64 ai, .int .i64 szi] w fun e w' => e = .returned (.tuple #[.pointer none, .int .i64 0, .int .i64 1]) ∧ w = w' := by
  have HM := hide (mayBe_is hN ai szi hc)
  rw [hm] at HM
  clear hc hm
  go_enter Try.func28, Try.ntmps28
  go_wp2_with (go_at_call 42; refine HM.out.mono ?_; rintro e w' ⟨rfl, rfl⟩)
  go_ret3
  exact ⟨rfl, rfl⟩
set_option maxRecDepth 100000 in
set_option maxHeartbeats 1000000 in
/-- Open of a disk whose header is right. -/
theorem open_ok {gen : Int} {ns : List Int} {plat : List Int} {l : List (Nat × List Int)} {rd wt fl : Int} {FD : List Nat} (hd : Dk w gd N plat l (-1) rd wt fl k FD) (hm : mayL N a sz = true) (hs : sect plat l a = hdrF gen ns) (g0 : 0 ≤ gen) (g1 : gen < 18446744073709551616) (hl : ns.length + 1 ≤ sz) (hnd : ns.Nodup) (hok : ∀ x ∈ ns, blkB N a sz x = true) (hk : k < 4611686018426000000) (hlen : l.length < 4398045000000) :
    Calls Try.prog 28 #[.pointer (some ⟨gd, 0, none⟩), .int .i64 a, .int .i64 sz] w fun e w' => ∃ g F, e = .returned (.tuple #[.pointer (some ⟨g, 0, none⟩), .int .i64 ns.length, .int .i64 0]) ∧ Only FD w w' ∧ (∀ q ∈ F, q ∈ FD ∨ w.heap.size ≤ q) ∧ LgP w' g gd N a sz none (endP a (openP a gen ns plat l)) (k + 1 + ns.length + leftP (openP a gen ns plat l)) F := by
  have hN := hd.platOk.2.2
  have hr : 2 ≤ sz ∧ sz ≤ 248 ∧ a + sz ≤ N := by
    have := of_decide_eq_true hm
    omega
  have HM := hide (mayBe_is hN.2 (a : Int) (sz : Int) (dk_count hd))
  rw [hm] at HM
  have HW := hide (with_is hd hr)
  have HFD := hide hd.lt
  have HMD := hide (fun W F' g (q : LgP W g gd N a sz none ⟨0, [], 0, 0, plat, l⟩ k F') => mend_is q hs g0 g1 hl hnd hok hk hlen)
  clear hd hm hs hnd hok
  go_enter Try.func28, Try.ntmps28
  go_wp2_with (first | (go_at_call 42; refine HM.out.mono ?_; rintro e w' ⟨rfl, rfl⟩) | fail)
  refine HW.out.mono ?_
  rintro e w1 ⟨g, m, rfl, hg, hm, ho, hI⟩
  obtain ⟨F2, hT2, hL2⟩ := Lg.mk2 (w := w) (F := FD) hI (ho.mono (by simp)) (fun q hq => by
    rcases mem_footL.1 hq with e | e | e | ⟨s, hs, e⟩
    · exact .inr (e ▸ hg)
    · exact .inr (e ▸ hm)
    · simp [Value.ownBlock] at e
    · cases hs) (fun q hq => .inl hq) (fun x hx => by
    rcases mem_bytesL.1 hx with e | ⟨s, hs, e⟩
    · cases e
    · cases hs)
  have HL2 := hide (fun W (hw : Only [] w1 W) => HMD.out W F2 g (show LgP W g gd N a sz none ⟨0, [], 0, 0, plat, l⟩ k F2 from hL2.quiet hw))
  have HT2 := hide hT2
  clear hg hm ho hI hT2 hL2
  go_wp2_with (go_at_call 59; refine (HL2.out _ (by repeat (first | exact Only.refl _ _ | apply Only.drew | apply Only.drewN))).mono ?_; rintro e w2 ⟨rfl, F3, t3, l3⟩; have HT3 := hide t3; have HL3 := hide l3; clear t3 l3)
  go_ret3
  have hT := turned_trans HT2.out (turned_trans (Turned.same (Only.mono (show Only [] _ _ from by repeat (first | exact Only.refl _ _ | apply Only.drew | apply Only.drewN)) (by simp))) HT3.out)
  exact ⟨g, F3, rfl, hT.1, hT.2, HL3.out⟩
end
end Go.Proofs.Ytokdpldmoflnkaa
/-
  The document's log (parapetref16.Log): is, find, Start, Begin, End.
-/
namespace Go.Proofs.Ytokdpldmoflnkaa
open Go.ChangeShapes Go.WideShapes Go.ChangeAt Go.RowKit
set_option linter.unusedVariables false
set_option linter.unusedSimpArgs false
/-- Where a block stands. -/
def FoundX (ws : List WR) (n r : Int) : Prop := (r = -1 ∧ ∀ x ∈ ws, (x.sec : Int) ≠ n) ∨ ∃ (i : Nat) (x : WR), r = i ∧ ws[i]? = some x ∧ (x.sec : Int) = n
section
variable {w w' : World} {gx gr N a sz : Nat} {gen : Int} {vG : Value} {ws : List WR} {vS : Value} {ss : List WR} {op runs : Bool} {nx : Int} {plat : List Int} {l : List (Nat × List Int)} {k k' : Nat} {GD T : List Nat} (h : XlI w gx gr N a sz gen vG ws vS ss op runs nx plat l k GD)
include h
set_option maxRecDepth 100000 in
theorem xis_is (n : Int) : Calls Try.prog 53 #[.pointer (some ⟨gx, 0, none⟩), .int .i64 n] w fun e w' => e = .returned (.bool (blkB N a sz n)) ∧ Only [] w w' := by
  have c0 := h.c0
  have c1 := h.c1
  have c2 := h.c2
  have d0 := h.d0
  have hbig := h.big
  have hrng := h.rng
  clear h
  by_cases h0 : 0 ≤ n
  · have d0' : decide (0 ≤ n) = true := decide_eq_true h0
    by_cases h1 : n < N
    · by_cases h2 : n < a
      · rw [show blkB N a sz n = true from blkB_yes.2 ⟨h0, h1, .inl h2⟩]
        have d1 : decide (n < (N : Int)) = true := decide_eq_true h1
        have d2 : decide (n < (a : Int)) = true := decide_eq_true h2
        clear h1 h2
        go_enter Try.func53, Try.ntmps53
        go_wp2_with fail
        go_quiet (fail)
        go_wp2
        go_ret
        exact ⟨rfl, by repeat (first | exact Only.refl _ _ | apply Only.drew | apply Only.drewN)⟩
      · have hw : IntKind.i64.wrap ((a : Int) + (sz : Int)) = (a : Int) + sz := by rw [IntKind.wrap_i64]; omega
        have d1 : decide (n < (N : Int)) = true := decide_eq_true h1
        have d2 : decide (n < (a : Int)) = false := decide_eq_false h2
        by_cases h3 : (a : Int) + sz ≤ n
        · rw [show blkB N a sz n = true from blkB_yes.2 ⟨h0, h1, .inr h3⟩]
          have d3 : decide ((a : Int) + sz ≤ n) = true := decide_eq_true h3
          clear h1 h2 h3
          go_enter Try.func53, Try.ntmps53
          go_wp2_with fail
          go_quiet (fail)
          go_wp2
          go_ret
          exact ⟨rfl, by repeat (first | exact Only.refl _ _ | apply Only.drew | apply Only.drewN)⟩
        · rw [show blkB N a sz n = false from blkB_no.2 (by omega)]
          have d3 : decide ((a : Int) + sz ≤ n) = false := decide_eq_false h3
          clear h1 h2 h3
          go_enter Try.func53, Try.ntmps53
          go_wp2_with fail
          go_quiet (fail)
          go_wp2
          go_ret
          exact ⟨rfl, by repeat (first | exact Only.refl _ _ | apply Only.drew | apply Only.drewN)⟩
    · rw [show blkB N a sz n = false from blkB_no.2 (by omega)]
      have d1 : decide (n < (N : Int)) = false := decide_eq_false h1
      clear h1
      go_enter Try.func53, Try.ntmps53
      go_wp2_with fail
      go_quiet (fail)
      go_wp2
      go_ret
      exact ⟨rfl, by repeat (first | exact Only.refl _ _ | apply Only.drew | apply Only.drewN)⟩
  · have d0' : decide (0 ≤ n) = false := decide_eq_false h0
    rw [show blkB N a sz n = false from blkB_no.2 (by omega)]
    clear h0
    go_enter Try.func53, Try.ntmps53
    go_wp2_with fail
    go_quiet (fail)
    go_wp2
    go_ret
    exact ⟨rfl, by repeat (first | exact Only.refl _ _ | apply Only.drew | apply Only.drewN)⟩
set_option maxRecDepth 100000 in
theorem xfind_is (n : Int) : Calls Try.prog 54 #[.pointer (some ⟨gx, 0, none⟩), .int .i64 n] w fun e w' => ∃ r, e = .returned (.int .i64 r) ∧ FoundX ws n r ∧ Only [] w w' := by
  have c4 := h.c4
  have HG := hide (fun W (ho : Only [] w W) => (h.quiet ho).grp)
  obtain ⟨A, cap, rfl, hA, -⟩ := xb_form h.grp.own
  have hl : ws.length ≤ 247 := by have := h.len; have := h.rng; omega
  have HA := hide hA
  clear h hA
  go_enter Try.func54, Try.ntmps54
  go_wp2
  go_loopw [12] (fun iv wr => ∃ i : Nat, i ≤ ws.length ∧ iv = .int .i64 i ∧ (∀ x ∈ ws.take i, (x.sec : Int) ≠ n) ∧ Only [] w wr) (fun iv _ => ws.length - (intOf iv).toNat)
  case atStart => exact ⟨0, Nat.zero_le _, rfl, by simp, Only.refl _ _⟩
  case round =>
    obtain ⟨i, hi, rfl, hno, ho⟩ := hrel
    have HO := hide ho
    have HNO := hide hno
    by_cases hlt : i < ws.length
    · obtain ⟨x, hx⟩ : ∃ x, ws[i]? = some x := ⟨_, List.getElem?_eq_getElem hlt⟩
      have HA3 : ∃ q, A = some ⟨q, 0, none⟩ ∧ wr.cell? ⟨q, i * 2, none⟩ = some (.int .i64 x.sec) ∧ wr.cell? ⟨q, i * 2 + 1, none⟩ = some (.slice (some ⟨x.blk, 0, none⟩) 512 (512 + x.rest.length)) := by
        obtain ⟨A', cap', e, hA, hA2⟩ := xb_form (HG.out wr ho).own
        cases e
        rcases A with _ | b
        · exact absurd (hA rfl).1 (by omega)
        · obtain ⟨q, rfl, hq, _, _, hc⟩ := hA2 b rfl
          exact ⟨q, rfl, (hc i x hx).1, (hc i x hx).2⟩
      obtain ⟨q, rfl, e0, e1⟩ := HA3
      have HX := hide hx
      clear hx hno ho
      by_cases hs : (x.sec : Int) = n
      · have HS := hide hs
        subst hs
        go_wp2
        go_ret
        exact ⟨(i : Int), rfl, .inr ⟨i, x, rfl, HX.out, rfl⟩, by repeat (first | exact HO.out | apply Only.drew | apply Only.drewN | apply Only.alloc)⟩
      · have HS := hide hs
        go_wp2
        go_roundw
        case rel =>
          refine ⟨i + 1, hlt, by go_num, fun y hy => ?_, by repeat (first | exact HO.out | apply Only.drew | apply Only.drewN | apply Only.alloc)⟩
          rw [List.take_add_one, HX.out] at hy
          rcases List.mem_append.1 hy with e | e
          · exact HNO.out y e
          · simp at e; subst e; exact HS.out
        case measure => simp [intOf]; omega
    · obtain rfl : i = ws.length := by omega
      rw [List.take_length] at hno
      have HN2 := hide hno
      clear hno ho
      go_wp2
      go_ret
      exact ⟨-1, rfl, .inl ⟨rfl, HN2.out⟩, by repeat (first | exact HO.out | apply Only.drew | apply Only.drewN | apply Only.alloc)⟩
end
end Go.Proofs.Ytokdpldmoflnkaa
/-
  The document's log, packed: Start, Begin, End.
-/
namespace Go.Proofs.Ytokdpldmoflnkaa
open Go.ChangeShapes Go.WideShapes Go.ChangeAt Go.RowKit
set_option linter.unusedVariables false
set_option linter.unusedSimpArgs false
def Xl (w : World) (gx gr N a sz : Nat) (gen : Int) (G : PG) (S : Option PG) (runs : Bool) (nx : Int) (plat : List Int) (l : List (Nat × List Int)) (k : Nat) (F : List Nat) : Prop :=
  ∃ vG ws vS ss op GD, XlI w gx gr N a sz gen vG ws vS ss op runs nx plat l k GD ∧ ws.map pairX = G ∧ (if op = true then some (ss.map pairX) else none) = S ∧ (∀ q, footX gx vG ws vS ss op GD q → q ∈ F) ∧ ∀ q ∈ F, q < w.heap.size
def DidXl (w w' : World) (gx gr N a sz : Nat) (gen : Int) (G : PG) (S : Option PG) (runs : Bool) (nx : Int) (plat : List Int) (l : List (Nat × List Int)) (k : Nat) (F : List Nat) : Prop := ∃ F', Turned w w' F F' ∧ Xl w' gx gr N a sz gen G S runs nx plat l k F'
section
variable {w w' : World} {gx gr N a sz : Nat} {gen : Int} {vG : Value} {ws : List WR} {vS : Value} {ss : List WR} {op runs : Bool} {nx : Int} {plat : List Int} {l : List (Nat × List Int)} {k k' : Nat} {GD F T : List Nat} {G : PG} {S : Option PG}
theorem turned_quiet {w1 : World} {F' : List Nat} (h : Turned w w1 F F') (ho : Only [] w1 w') : Turned w w' F F' := ⟨h.1.trans (ho.mono (by simp)), h.2⟩
theorem XlI.pack (h : XlI w' gx gr N a sz gen vG ws vS ss op runs nx plat l k GD) (ho : Only F w w') (hf : ∀ q, footX gx vG ws vS ss op GD q → q ∈ F ∨ w.heap.size ≤ q) : DidXl w w' gx gr N a sz gen (ws.map pairX) (if op = true then some (ss.map pairX) else none) runs nx plat l k F := by
  have hm : ∀ q, q ∈ gx :: ((vG.ownBlock.toList ++ ws.map (·.blk)) ++ ((if op = true then vS.ownBlock.toList ++ ss.map (·.blk) else []) ++ GD)) ↔ footX gx vG ws vS ss op GD q := fun q => by
    unfold footX
    by_cases hop : op = true
    · simp [hop, or_assoc]
    · simp [hop, or_assoc]
  refine ⟨_, ⟨ho, fun q hq => hf q ((hm q).1 hq)⟩, vG, ws, vS, ss, op, GD, h, rfl, rfl, fun q hq => (hm q).2 hq, fun q hq => h.lt ((hm q).1 hq)⟩
theorem Xl.only (h : Xl w gx gr N a sz gen G S runs nx plat l k F) (ho : Only T w w') (hs : ∀ q ∈ F, q ∉ T) : Xl w' gx gr N a sz gen G S runs nx plat l k F := by
  obtain ⟨vG, ws, vS, ss, op, GD, h1, h2, h3, h4, h5⟩ := h
  exact ⟨vG, ws, vS, ss, op, GD, h1.only ho (fun q hq => hs q (h4 q hq)), h2, h3, h4, fun q hq => Nat.lt_of_lt_of_le (h5 q hq) ho.size⟩
theorem Xl.quiet (h : Xl w gx gr N a sz gen G S runs nx plat l k F) (ho : Only [] w w') : Xl w' gx gr N a sz gen G S runs nx plat l k F := h.only ho (by simp)
theorem Xl.lt (h : Xl w gx gr N a sz gen G S runs nx plat l k F) : ∀ q ∈ F, q < w.heap.size := by
  obtain ⟨_, _, _, _, _, _, _, _, _, _, h5⟩ := h
  exact h5
theorem Xl.same (h : Xl w gx gr N a sz gen G S runs nx plat l k F) (ho : Only [] w w') : DidXl w w' gx gr N a sz gen G S runs nx plat l k F := ⟨F, Turned.same (ho.mono (by simp)), h.quiet ho⟩
section
variable (h : Xl w gx gr N a sz gen G S runs nx plat l k F)
include h
set_option maxRecDepth 100000 in
theorem xl_start_no (hn : runs = true ∨ S ≠ none ∨ G = []) : Calls Try.prog 23 #[.pointer (some ⟨gx, 0, none⟩)] w fun e w' => e = .returned (.bool false) ∧ Only [] w w' := by
  obtain ⟨vG, ws, vS, ss, op, GD, h1, rfl, rfl, h4, _⟩ := h
  have c4 := h1.c4
  have c6 := h1.c6
  have c7 := h1.c7
  obtain ⟨A, cap, rfl, hA, -⟩ := xb_form h1.grp.own
  clear h1 h4 hA
  cases hr : runs with
  | true =>
    subst hr
    go_enter Try.func23, Try.ntmps23
    go_wp2
    go_ret
    exact ⟨rfl, by repeat (first | exact Only.refl _ _ | apply Only.drew | apply Only.drewN)⟩
  | false =>
    cases ho : op with
    | true =>
      subst hr ho
      go_enter Try.func23, Try.ntmps23
      go_wp2
      go_ret
      exact ⟨rfl, by repeat (first | exact Only.refl _ _ | apply Only.drew | apply Only.drewN)⟩
    | false =>
      subst hr ho
      have hz : ws = [] := by simpa using hn
      subst hz
      go_enter Try.func23, Try.ntmps23
      go_wp2
      go_ret
      exact ⟨rfl, by repeat (first | exact Only.refl _ _ | apply Only.drew | apply Only.drewN)⟩
set_option maxRecDepth 100000 in
theorem xl_start_yes (hr : runs = false) (hS : S = none) (hG : G ≠ []) : Calls Try.prog 23 #[.pointer (some ⟨gx, 0, none⟩)] w fun e w' => e = .returned (.bool true) ∧ DidXl w w' gx gr N a sz gen G none true 0 plat l k F := by
  obtain ⟨vG, ws, vS, ss, op, GD, h1, rfl, h3, h4, _⟩ := h
  obtain rfl : op = false := by cases op with | false => rfl | true => rw [hS] at h3; simp at h3
  subst hr
  have hlen : 0 < ws.length := by cases ws with | nil => exact absurd rfl hG | cons x y => simp
  have hne : ((ws.length : Int) == 0) = false := by simp only [beq_eq_false_iff_ne]; omega
  have hne2 : decide ((ws.length : Int) = 0) = false := decide_eq_false (by omega)
  have c4 := h1.c4
  have c6 := h1.c6
  have c8 := h1.c8
  have c7 := h1.c7
  have f7 := h1.fr 7
  have f8 := h1.fr 8
  have H1 := hide h1
  have H4 := hide h4
  obtain ⟨A, cap, rfl, hA, -⟩ := xb_form h1.grp.own
  have o2 : Only [gx] w ((w.setCell ⟨gx, 7, none⟩ (.bool true)).setCell ⟨gx, 8, none⟩ (.int .i64 0)) := ((Only.refl _ _).setCell (p := ⟨gx, 7, none⟩) _ (by simp)).setCell (p := ⟨gx, 8, none⟩) _ (by simp)
  have HD := hide ((h1.restr (op' := false) (runs' := true) (nx' := 0) o2 (by simp) h1.gen_ ((h1.blk.set_ 7 (.bool true)).set_ 8 (.int .i64 0))).pack (F := F) (w := w) (o2.mono (fun q _ hq => by simp at hq; subst hq; exact h4 _ (.inl rfl))) (fun q hq => .inl (h4 q hq)))
  clear h1 h4 hA o2 h3 hG hlen
  go_enter Try.func23, Try.ntmps23
  go_wp2
  go_ret
  obtain ⟨F', t', x'⟩ := HD.out
  exact ⟨rfl, F', turned_quiet t' (by repeat (first | exact Only.refl _ _ | apply Only.drew | apply Only.drewN)), x'.quiet (by repeat (first | exact Only.refl _ _ | apply Only.drew | apply Only.drewN))⟩
theorem xl_begin_busy (hn : runs = true ∨ S ≠ none) : Calls Try.prog 18 #[.pointer (some ⟨gx, 0, none⟩)] w fun e w' => e = .returned (.int .i64 5) ∧ Only [] w w' := by
  obtain ⟨vG, ws, vS, ss, op, GD, h1, rfl, rfl, h4, _⟩ := h
  have c6 := h1.c6
  have c7 := h1.c7
  clear h1 h4
  cases ho : op with
  | true =>
    subst ho
    go_enter Try.func18, Try.ntmps18
    go_wp2
    go_ret
    exact ⟨rfl, by repeat (first | exact Only.refl _ _ | apply Only.drew | apply Only.drewN)⟩
  | false =>
    subst ho
    obtain rfl : runs = true := by simpa using hn
    go_enter Try.func18, Try.ntmps18
    go_wp2
    go_ret
    exact ⟨rfl, by repeat (first | exact Only.refl _ _ | apply Only.drew | apply Only.drewN)⟩
set_option maxRecDepth 100000 in
theorem xl_begin (hr : runs = false) (hS : S = none) : Calls Try.prog 18 #[.pointer (some ⟨gx, 0, none⟩)] w fun e w' => e = .returned (.int .i64 0) ∧ DidXl w w' gx gr N a sz gen G (some G) false nx plat l k F := by
  obtain ⟨vG, ws, vS, ss, op, GD, h1, rfl, h3, h4, _⟩ := h
  obtain rfl : op = false := by cases op with | false => rfl | true => rw [hS] at h3; simp at h3
  subst hr
  have c4 := h1.c4
  have c5 := h1.c5
  have c6 := h1.c6
  have c7 := h1.c7
  have f5 := h1.fr 5
  have f6 := h1.fr 6
  have o2 : Only [gx] w ((w.setCell ⟨gx, 6, none⟩ (.bool true)).setCell ⟨gx, 5, none⟩ vG) := ((Only.refl _ _).setCell (p := ⟨gx, 6, none⟩) _ (by simp)).setCell (p := ⟨gx, 5, none⟩) _ (by simp)
  have hI : XlI ((w.setCell ⟨gx, 6, none⟩ (.bool true)).setCell ⟨gx, 5, none⟩ vG) gx gr N a sz gen vG ws vG ws true false nx plat l k GD := by
    have q := h1.restr (op' := false) (runs' := false) (nx' := nx) (gen' := gen) o2
    refine ⟨(h1.blk.set_ 6 (.bool true)).set_ 5 vG, ?_, fun _ => ?_, ?_, h1.dx, h1.dG, fun _ => h1.dG, h1.gen_, h1.rng, h1.len, fun _ => h1.len⟩
    · exact h1.grp.only o2 (fun q hq => by simpa using h1.grp.apart h1.blk (by decide) q hq) (fun x hx => by simpa using (h1.grp.ok x hx).row.ne_ h1.blk (by decide))
    · exact h1.grp.only o2 (fun q hq => by simpa using h1.grp.apart h1.blk (by decide) q hq) (fun x hx => by simpa using (h1.grp.ok x hx).row.ne_ h1.blk (by decide))
    · exact h1.xd.only o2 (fun q hq hm => h1.dx (by simp at hm; exact hm ▸ hq))
  have HD := hide (hI.pack (F := F) (w := w) (o2.mono (fun q _ hq => by simp at hq; subst hq; exact h4 _ (.inl rfl))) (fun q hq => .inl (h4 q (by
    rcases hq with e | e | ⟨_, e⟩ | e
    · exact .inl e
    · exact .inr (.inl e)
    · exact .inr (.inl e)
    · exact .inr (.inr (.inr e))))))
  obtain ⟨A, cap, rfl, -, -⟩ := xb_form h1.grp.own
  clear h1 h4 o2 h3 hI
  go_enter Try.func18, Try.ntmps18
  go_wp2
  go_ret
  obtain ⟨F', t', x'⟩ := HD.out
  exact ⟨rfl, F', turned_quiet t' (by repeat (first | exact Only.refl _ _ | apply Only.drew | apply Only.drewN)), x'.quiet (by repeat (first | exact Only.refl _ _ | apply Only.drew | apply Only.drewN))⟩
theorem xl_end_none (u : Bool) (hS : S = none) : Calls Try.prog 20 #[.pointer (some ⟨gx, 0, none⟩), .bool u] w fun e w' => e = .returned (.int .i64 4) ∧ Only [] w w' := by
  obtain ⟨vG, ws, vS, ss, op, GD, h1, rfl, h3, h4, _⟩ := h
  obtain rfl : op = false := by cases op with | false => rfl | true => rw [hS] at h3; simp at h3
  have c6 := h1.c6
  clear h1 h4 h3
  go_enter Try.func20, Try.ntmps20
  go_wp2
  go_ret
  exact ⟨rfl, by repeat (first | exact Only.refl _ _ | apply Only.drew | apply Only.drewN)⟩
set_option maxRecDepth 100000 in
theorem xl_end {G' : PG} (u : Bool) (hS : S = some G') : Calls Try.prog 20 #[.pointer (some ⟨gx, 0, none⟩), .bool u] w fun e w' => e = .returned (.int .i64 0) ∧ DidXl w w' gx gr N a sz gen (if u = true then G' else G) none runs nx plat l k F := by
  obtain ⟨vG, ws, vS, ss, op, GD, h1, rfl, h3, h4, _⟩ := h
  obtain rfl : op = true := by cases op with | true => rfl | false => rw [hS] at h3; simp at h3
  obtain rfl : ss.map pairX = G' := by rw [hS] at h3; simpa using h3
  have c4 := h1.c4
  have c5 := h1.c5
  have c6 := h1.c6
  have f6 := h1.fr 6
  have f4 := h1.fr 4
  cases u with
  | false =>
    have o2 : Only [gx] w (w.setCell ⟨gx, 6, none⟩ (.bool false)) := (Only.refl _ _).setCell (p := ⟨gx, 6, none⟩) _ (by simp)
    have HD := hide ((h1.restr (op' := false) (runs' := runs) (nx' := nx) (gen' := gen) o2 (by simp) h1.gen_ (h1.blk.set_ 6 (.bool false))).pack (F := F) (w := w) (o2.mono (fun q _ hq => by simp at hq; subst hq; exact h4 _ (.inl rfl))) (fun q hq => .inl (h4 q (by
      rcases hq with e | e | ⟨e, _⟩ | e
      · exact .inl e
      · exact .inr (.inl e)
      · cases e
      · exact .inr (.inr (.inr e))))))
    clear h1 h4 o2 h3
    go_enter Try.func20, Try.ntmps20
    go_wp2
    go_ret
    obtain ⟨F', t', x'⟩ := HD.out
    exact ⟨rfl, F', turned_quiet t' (by repeat (first | exact Only.refl _ _ | apply Only.drew | apply Only.drewN)), x'.quiet (by repeat (first | exact Only.refl _ _ | apply Only.drew | apply Only.drewN))⟩
  | true =>
    have o2 : Only [gx] w ((w.setCell ⟨gx, 6, none⟩ (.bool false)).setCell ⟨gx, 4, none⟩ vS) := ((Only.refl _ _).setCell (p := ⟨gx, 6, none⟩) _ (by simp)).setCell (p := ⟨gx, 4, none⟩) _ (by simp)
    have hsv := h1.sv rfl
    have hI : XlI ((w.setCell ⟨gx, 6, none⟩ (.bool false)).setCell ⟨gx, 4, none⟩ vS) gx gr N a sz gen vS ss vS ss false runs nx plat l k GD := by
      refine ⟨(h1.blk.set_ 6 (.bool false)).set_ 4 vS, ?_, fun e => (by cases e), ?_, h1.dx, h1.dS rfl, fun e => (by cases e), h1.gen_, h1.rng, h1.lenS rfl, fun e => (by cases e)⟩
      · exact hsv.only o2 (fun q hq => by simpa using hsv.apart h1.blk (by decide) q hq) (fun x hx => by simpa using (hsv.ok x hx).row.ne_ h1.blk (by decide))
      · exact h1.xd.only o2 (fun q hq hm => h1.dx (by simp at hm; exact hm ▸ hq))
    have HD := hide (hI.pack (F := F) (w := w) (o2.mono (fun q _ hq => by simp at hq; subst hq; exact h4 _ (.inl rfl))) (fun q hq => .inl (h4 q (by
      rcases hq with e | e | ⟨e, _⟩ | e
      · exact .inl e
      · exact .inr (.inr (.inl ⟨rfl, e⟩))
      · cases e
      · exact .inr (.inr (.inr e))))))
    obtain ⟨A, cap, rfl, -, -⟩ := xb_form hsv.own
    clear h1 h4 o2 h3 hI hsv
    go_enter Try.func20, Try.ntmps20
    go_wp2
    go_ret
    obtain ⟨F', t', x'⟩ := HD.out
    exact ⟨rfl, F', turned_quiet t' (by repeat (first | exact Only.refl _ _ | apply Only.drew | apply Only.drewN)), x'.quiet (by repeat (first | exact Only.refl _ _ | apply Only.drew | apply Only.drewN))⟩
end
end
end Go.Proofs.Ytokdpldmoflnkaa
