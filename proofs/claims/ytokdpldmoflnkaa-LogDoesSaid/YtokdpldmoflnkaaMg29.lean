/-
  The document's log: Parse of a header that is right.
-/
import Derived.Test.YtokdpldmoflnkaaMg28
namespace Go.Proofs.Ytokdpldmoflnkaa
open Go.ChangeShapes Go.WideShapes Go.ChangeAt Go.RowKit Go.Maps
set_option linter.unusedVariables false
set_option linter.unusedSimpArgs false
theorem i64_or_nat (a b : Nat) (ha : a < 4294967296) (hb : b < 4294967296) : bits .or .i64 (a : Int) (b : Int) = ((a ||| b : Nat) : Int) := by
  have hx : a ||| b < 2 ^ 32 := Nat.or_lt_two_pow (by omega) (by omega)
  have e : ∀ m : Nat, m < 4294967296 → (BitVec.ofInt 64 (m : Int)).toNat = m := fun m hm => by
    rw [BitVec.ofInt_natCast, BitVec.toNat_ofNat]; exact Nat.mod_eq_of_lt (by omega)
  show IntKind.i64.wrap ((BitVec.ofInt 64 (a : Int) ||| BitVec.ofInt 64 (b : Int)).toNat : Int) = _
  rw [BitVec.toNat_or, e a ha, e b hb, IntKind.wrap_i64]
  omega
theorem two_or {y c : Int} (y0 : 0 ≤ y) (y1 : y ≤ 255) (c0 : 0 ≤ c) (c1 : c ≤ 255) : bits .or .i64 (y * 256) c = y * 256 + c := by
  obtain ⟨a, rfl⟩ := Int.eq_ofNat_of_zero_le y0
  obtain ⟨b, rfl⟩ := Int.eq_ofNat_of_zero_le c0
  have h := i64_or_nat (a * 256) b (by omega) (by omega)
  have h2 : a * 256 ||| b = a * 256 + b := by
    rw [Nat.mul_comm]
    exact (Nat.two_pow_add_eq_or_of_lt (i := 8) (by omega) a).symm
  rw [h2] at h
  simpa using h
theorem gb_two (x : Int) : gb (beB 2 x) 0 = x / 256 % 256 ∧ gb (beB 2 x) 1 = x % 256 := by simp [beB, gb]
set_option maxRecDepth 100000 in
set_option maxHeartbeats 1500000 in
theorem xparse_is {w : World} {d c N a sz : Nat} {gen : Int} {ns : List Int} {r : List Value} (hb : Blk w d 5 (u8l (hdrF gen ns) ++ r).toArray) (g0 : 0 ≤ gen) (g1 : gen < 18446744073709551616) (hsz : sz ≤ 248) (hN : N ≤ 4096) (haN : a + sz ≤ N) (hl : ns.length + 1 ≤ sz) (hnd : ns.Nodup) (hok : ∀ x ∈ ns, blkB N a sz x = true) :
    Calls Try.prog 60 #[.slice (some ⟨d, 0, none⟩) 512 c, .int .i64 a, .int .i64 sz, .int .i64 N] w fun e w' => ∃ v', e = .returned (.tuple #[.int .u64 gen, v', .bool true]) ∧ IRow w' v' ns ∧ (∀ q, v'.ownBlock = some q → w.heap.size ≤ q) ∧ Only [] w w' := by
  have hn : ns.length ≤ 247 := by omega
  have hlen := hdrF_length gen ns hn
  have HB := hide hb
  have HCELL := hide (fun W (ho : Only [] w W) (j : Nat) (hj : j < 512) => (show W.cell? ⟨d, j, none⟩ = some (.int .u8 (gb (hdrF gen ns) j)) from by
    rw [(hb.only ho (by simp)).cell]; exact u8l_get _ _ j (by omega)))
  have HE8 := hide (show beN (beB 8 gen) = gen from by rw [beN_beB 8 gen]; exact Int.emod_eq_of_lt g0 (by simpa using g1))
  have HMEM := hide (fun (i : Nat) (hi : i < ns.length) => (show (∀ j, j < i → (gb ns j == gb ns i) = false) ∧ 0 ≤ gb ns i ∧ gb ns i < N ∧ (gb ns i < a ∨ (a : Int) + sz ≤ gb ns i) from by
    have e : gb ns i = ns[i] := by simp [gb, List.getD, hi]
    have hm : gb ns i ∈ ns := by rw [e]; exact List.getElem_mem hi
    have hb := blkB_yes.1 (hok _ hm)
    refine ⟨fun j hj => ?_, by omega, by omega, by omega⟩
    have e2 : gb ns j = ns[j] := by simp [gb, List.getD, show j < ns.length by omega]
    rw [e, e2]
    simp only [beq_eq_false_iff_ne, ne_eq]
    exact fun h => by
      have := (List.getElem_inj (h₀ := by omega) (h₁ := hi) hnd).1 h
      omega))
  have HRNG := hide (fun x (hx : x ∈ ns) => (show 0 ≤ x ∧ x < 65536 from by have := blkB_yes.1 (hok x hx); omega))
  have HLEN := hide hlen
  clear hb hlen hok hnd
  go_enter Try.func60, Try.ntmps60
  go_wp2
  go_loopw [11, 12] (fun xv iv wr => ∃ i : Nat, i ≤ 8 ∧ iv = .int .i64 i ∧ xv = .int .u64 (beN ((beB 8 gen).take i)) ∧ wr = w) (fun _ iv _ => 8 - (intOf iv).toNat)
  case atStart => exact ⟨0, Nat.zero_le _, rfl, rfl, rfl⟩
  case round =>
    obtain ⟨i, hi, rfl, rfl, rfl⟩ := hrel
    by_cases hlt : i < 8
    · have hck := HCELL.out wr (Only.refl _ _) i (by omega)
      rw [hdr_gen gen ns i hlt] at hck
      have hg := (u8_beB 8 gen).get i
      have hr := beN_rng ((beB 8 gen).take i) ((u8_beB 8 gen).take i) i (by rw [List.length_take, beB_length]; omega)
      have hp : (256 : Int) ^ i ≤ 256 ^ 7 := by
        have : (256 : Nat) ^ i ≤ 256 ^ 7 := Nat.pow_le_pow_right (by decide) (by omega)
        exact_mod_cast this
      have y0 := hr.1
      have y1 : beN ((beB 8 gen).take i) < 72057594037927936 := Int.lt_of_lt_of_le hr.2 (by simpa using hp)
      have HS := hide (show beN ((beB 8 gen).take (i + 1)) = beN ((beB 8 gen).take i) * 256 + gb (beB 8 gen) i by
        rw [List.take_succ_eq_append_getElem (show i < (beB 8 gen).length by rw [beB_length]; omega), beN_snoc]
        congr 1
        simp [gb, List.getD, show i < (beB 8 gen).length by rw [beB_length]; omega])
      have HO := hide (beN_or y0 y1 hg.1 hg.2)
      have hw : beN ((beB 8 gen).take i) * 256 % 18446744073709551616 = beN ((beB 8 gen).take i) * 256 := by omega
      clear hr hp
      generalize beN ((beB 8 gen).take i) = y at *
      generalize gb (beB 8 gen) i = v at *
      go_wp2
      go_roundw
      case rel => exact ⟨i + 1, hlt, by go_num, by rw [HS.out, ← HO.out], trivial⟩
      case measure => simp [intOf]; omega
    · obtain rfl : i = 8 := by omega
      rw [show ((8 : Nat) : Int) = 8 from rfl]
      rw [List.take_of_length_le (by rw [beB_length]; omega), HE8.out]
      have c8 := HCELL.out wr (Only.refl _ _) 8 (by omega)
      have c9 := HCELL.out wr (Only.refl _ _) 9 (by omega)
      rw [hdr_len gen ns 0 (by omega), (gb_two _).1, show (ns.length : Int) / 256 % 256 = 0 from by omega] at c8
      rw [show 9 = 8 + 1 from rfl, hdr_len gen ns 1 (by omega), (gb_two _).2, show (ns.length : Int) % 256 = ns.length from by omega] at c9
      have hor := two_or (y := 0) (c := (ns.length : Int)) (by omega) (by omega) (by omega) (by omega)
      simp only [Int.zero_mul, Int.zero_add] at hor
      have hww : IntKind.i64.wrap 0 = 0 := by rw [IntKind.wrap_i64]; rfl
      simp only [Nat.reduceAdd] at c9
      have d1 : decide ((sz : Int) ≤ ns.length) = false := decide_eq_false (by omega)
      have d2 : decide ((247 : Int) < ns.length) = false := decide_eq_false (by omega)
      have d3 : decide (sz ≤ ns.length) = false := decide_eq_false (by omega)
      have d4 : decide (247 < ns.length) = false := decide_eq_false (by omega)
      go_wp2_with fail
      go_quiet (fail)
      have HOQ := hide ((Only.refl [] wr).drewN nq)
      generalize wr.drewN nq = w1 at *
      clear c8 c9 hor hww
      go_wp2_with fail
      clear d1 d2 d3 d4
      go_loopw [14, 15] (fun ov iv wz => ∃ i : Nat, i ≤ ns.length ∧ iv = .int .i64 i ∧ IRow wz ov (ns.take i) ∧ (∀ q, ov.ownBlock = some q → wr.heap.size ≤ q) ∧ Only [] wr wz) (fun _ iv _ => ns.length - (intOf iv).toNat)
      case atStart => exact ⟨0, Nat.zero_le _, rfl, KRow.nil _ _ _ _, by simp [Value.ownBlock], HOQ.out⟩
      case round =>
        obtain ⟨i, hi, rfl, hrow, hnew, ho⟩ := hrel
        have HR := hide hrow
        have HN := hide hnew
        have HO := hide ho
        have HIL := hide (show (ns.take i).length = i from by rw [List.length_take]; omega)
        obtain ⟨A0, c0, rfl, hA0, -, -, hcell0⟩ := hrow.form2
        have HA0 := hide hA0
        have HC0 := hide hcell0
        clear hrow hnew ho hA0 hcell0
        by_cases hlt : i < ns.length
        · obtain ⟨hne, x0, x1, x2⟩ := HMEM.out i hlt
          have ca := HCELL.out wr HO.out (10 + 2 * i) (by omega)
          have cb := HCELL.out wr HO.out (11 + 2 * i) (by omega)
          have ea := hdr_num gen ns i 0 hlt (by omega)
          have eb := hdr_num gen ns i 1 hlt (by omega)
          rw [(gb_two _).1, Nat.add_zero] at ea
          rw [(gb_two _).2, show 10 + 2 * i + 1 = 11 + 2 * i from by omega] at eb
          rw [ea] at ca
          rw [eb] at cb
          have HNE := hide hne
          have HST := hide (show ns.take (i + 1) = ns.take i ++ [gb ns i] from by rw [List.take_succ_eq_append_getElem hlt]; simp [gb, List.getD, hlt])
          have HGT := hide (fun j (hj : j < i) => (show gb (ns.take i) j = gb ns j from by simp [gb, List.getD, hj]))
          clear ea eb hne
          generalize gb ns i = x at *
          have hor := two_or (y := x / 256 % 256) (c := x % 256) (by omega) (by omega) (by omega) (by omega)
          rw [show x / 256 % 256 * 256 + x % 256 = x from by omega] at hor
          have hw0 : IntKind.i64.wrap (x / 256 % 256 * 256) = x / 256 % 256 * 256 := by rw [IntKind.wrap_i64]; omega
          have hw1 : IntKind.i64.wrap (2 * (i : Int)) = 2 * i := by rw [IntKind.wrap_i64]; omega
          have hw2 : IntKind.i64.wrap (10 + 2 * (i : Int)) = 10 + 2 * i := by rw [IntKind.wrap_i64]; omega
          have hw3 : IntKind.i64.wrap (11 + 2 * (i : Int)) = 11 + 2 * i := by rw [IntKind.wrap_i64]; omega
          have hn1 : (10 + 2 * (i : Int)).toNat = 10 + 2 * i := by omega
          have hn2 : (11 + 2 * (i : Int)).toNat = 11 + 2 * i := by omega
          have hp1 : 10 + 2 * (i : Int) < 512 := by omega
          have hp2 : 11 + 2 * (i : Int) < 512 := by omega
          have hp3 : 0 ≤ 10 + 2 * (i : Int) := by omega
          have hp4 : 0 ≤ 11 + 2 * (i : Int) := by omega
          go_wp2_with fail
          go_quiet (fail)
          have HC2 := hide (show ∀ ad, A0 = some ad → ∃ b, ad = ⟨b, 0, none⟩ ∧ ∀ j u, (i64l (ns.take i))[j]? = some u → (wr.drewN nq).cell? ⟨b, j, none⟩ = some u from fun ad e => by
            obtain ⟨b, e1, -, e2⟩ := HC0.out ad e
            exact ⟨b, e1, e2⟩)
          have HR2 := hide (HR.out.only ((Only.refl [] wr).drewN nq) (by simp))
          have HO2 := hide (HO.out.drewN nq)
          generalize wr.drewN nq = w2 at *
          clear ca cb hor hw0 hw1 hw2 hw3 hn1 hn2 hp1 hp2 hp3 hp4 HC0 HR HO
          generalize ns.take i = L at *
          have dN : decide ((N : Int) ≤ x) = false := decide_eq_false (by omega)
          have HX2 := hide x2
          have hcase : (decide ((a : Int) ≤ x) = true ∧ IntKind.i64.wrap (x - (sz : Int)) = x - sz ∧ decide (x - (sz : Int) < a) = false) ∨ (decide ((a : Int) ≤ x) = false ∧ True ∧ True) := by
            by_cases hxa : (a : Int) ≤ x
            · exact .inl ⟨decide_eq_true hxa, by rw [IntKind.wrap_i64]; omega, decide_eq_false (by omega)⟩
            · exact .inr ⟨decide_eq_false hxa, trivial, trivial⟩
          clear x0 x1 x2
          rcases hcase with ⟨dA, hws, dB⟩ | ⟨dA, hws, dB⟩
          all_goals
            go_wp2_with fail
            go_loopw [91] (fun iv wz => ∃ j : Nat, j ≤ L.length ∧ iv = .int .i64 j ∧ wz = w2) (fun iv _ => L.length - (intOf iv).toNat)
            case atStart => exact ⟨0, Nat.zero_le _, rfl, rfl⟩
            case round =>
              obtain ⟨j, hj, rfl, rfl⟩ := hrel
              by_cases hjl : j < L.length
              · have hji : j < i := by have := HIL.out; omega
                obtain ⟨ad, rfl⟩ : ∃ ad, A0 = some ad := by
                  rcases A0 with _ | ad
                  · have := (HA0.out rfl).1; omega
                  · exact ⟨ad, rfl⟩
                obtain ⟨b, rfl, hcl⟩ := HC2.out ad rfl
                have cj := hcl j (.int .i64 (gb ns j)) (by rw [← HGT.out j hji]; simp [i64l, gb, List.getD, hjl])
                have hneq := HNE.out j hji
                have hjI : (j : Int) < L.length := by omega
                clear hcl
                generalize gb ns j = y at *
                go_wp2_with fail
                go_roundw
                case rel => exact ⟨j + 1, hjl, by go_num, trivial⟩
                case measure => simp [intOf]; omega
              · obtain rfl : j = L.length := by omega
                clear dN
                go_wp2_with (at_builtin; refine wpList_append_any rfl _ _ rfl (.slice A0 L.length c0) L rfl (KRow.only HR2.out ((Only.refl [] _).alloc _) (by simp)) (some ⟨_, 0, none⟩) 1 1 rfl (fun e => by cases e) [x] rfl (one_newsI (Blk.new _ 3 #[.int .i64 x])) (by rw [HIL.out]; omega) ?_)
                intro v2 w3 k1 k2 k3
                obtain ⟨A2, c2, rfl, -⟩ := k1.form2
                have HK1 := hide k1
                have HM := hide HO2.out.size
                have HO3 := hide ((HO2.out.alloc (.cells #[.int .i64 x] 3)).trans' k2 (fun q hq hm => by
                  have := HN.out q (by simpa using hm)
                  omega))
                have HN3 := hide (fun q (hq : (Value.slice A2 (L ++ [x]).length c2).ownBlock = some q) => (by
                  rcases k3 q hq with e | e
                  · exact HN.out q e
                  · have := HM.out; omega : _ ≤ q))
                clear k1 k2 k3
                go_wp2
                go_roundw
                case rel => exact ⟨i + 1, hlt, by go_num, by rw [HST.out]; exact HK1.out, HN3.out, HO3.out⟩
                case measure => simp [intOf]; omega
        · obtain rfl : i = ns.length := by omega
          rw [List.take_length] at HR
          have HH := hide (xheader_is HR.out gen g0 g1 hn HRNG.out)
          have HC9 := hide (fun j (hj : j < 512) W (ho : Only [] wr W) => HCELL.out W (HO.out.trans ho) j hj)
          have HD := hide (show d < wr.heap.size from Nat.lt_of_lt_of_le HB.out.lt HO.out.size)
          clear HCELL HB HMEM
          have HQ := hide (fun w3 d2 (hb2 : Blk w3 d2 5 (u8l (hdrF gen ns) ++ ([] : List Value)).toArray) (ho : Only [] wr w3) => (show (convert 46 9 (.slice (some ⟨d2, 0, none⟩) 512 512)).run Try.prog w3 = .ok (.string (strB (hdrF gen ns))) w3 ∧ (convert 46 9 (.slice (some ⟨d, 0, none⟩) 512 c)).run Try.prog w3 = .ok (.string (strB (hdrF gen ns))) w3 from
            ⟨conv_bytes w3 _ _ _ _ (u8_512 hb2 HLEN.out) (by simp) (u8_hdrF _ _),
            conv_bytes w3 _ _ _ _ ⟨HLEN.out, fun _ => ⟨d, 0, rfl, Nat.lt_of_lt_of_le HD.out ho.size, fun i hi => by rw [Nat.zero_add]; exact HC9.out i hi w3 ho⟩⟩ (by simp) (u8_hdrF _ _)⟩))
          go_wp2_with (go_at_call 46; refine HH.out.mono ?_; rintro e w3 ⟨d2, rfl, hd2, hb2, ho2⟩; obtain ⟨hq1, hq2⟩ := HQ.out w3 d2 hb2 ho2; have HO2 := hide ho2; clear hb2 ho2)
          go_ret3
          exact ⟨_, rfl, KRow.only HR.out HO2.out (by simp), fun q hq => HN.out q (by rw [List.take_length]; exact hq), HO.out.trans HO2.out⟩
end Go.Proofs.Ytokdpldmoflnkaa
/-
  The document's log: Open of a disk whose header is right.
-/
namespace Go.Proofs.Ytokdpldmoflnkaa
open Go.ChangeShapes Go.WideShapes Go.ChangeAt Go.RowKit Go.Maps
set_option linter.unusedVariables false
set_option linter.unusedSimpArgs false
section
variable {w w' w1 : World} {gx gr N a sz : Nat} {k k' : Nat} {F G T : List Nat} {plat : List Int} {l : List (Nat × List Int)}
/-- A log that was just made is one. -/
theorem xlp_mk {w0 : World} {G' : List Nat} {gen nx : Int} (hD : Xd w' gr N plat l k G') (hb : Blk w' gx 62 (xlC gr a sz gen (.slice none 0 0) (.slice none 0 0) false false nx)) (hT : Turned w0 w' G G') (hx : gx ∉ G') (hn : w0.heap.size ≤ gx) (hg : 0 ≤ gen ∧ gen < 18446744073709551616) (hr : 2 ≤ sz ∧ sz ≤ 248 ∧ a + sz ≤ N) : DidXP w0 w' gx gr N a sz none ⟨gen, [], 0, 0, plat, l⟩ k G := by
  have hI : XlI w' gx gr N a sz gen (.slice none 0 0) [] (.slice none 0 0) [] false false nx plat l k G' :=
    ⟨hb, XRw.nil _ _, (by simp), hD, hx, (by intro q hq; rcases hq with e | ⟨x, hx, _⟩ <;> simp [Value.ownBlock] at *), (by simp), hg, hr, by simp; omega, by simp⟩
  have hP := hI.pack (w := w0) (F := G) hT.1 (fun q hq => by
    unfold footX at hq
    simp [Value.ownBlock] at hq
    rcases hq with e | e
    · exact .inr (by rw [e]; exact hn)
    · exact hT.2 q e)
  exact DidXl.lp (p := ⟨gen, [], 0, 0, plat, l⟩) rfl hP
set_option maxRecDepth 100000 in
set_option maxHeartbeats 1500000 in
theorem xopen_ok {gen : Int} {ns : List Int} (h : Xd w gr N plat l k G) (hu : ∀ m, m < N → (sect plat l m).length = 512 ∧ U8 (sect plat l m)) (hm : mayL N a sz = true) (hs : sect plat l a = hdrF gen ns) (g0 : 0 ≤ gen) (g1 : gen < 18446744073709551616) (hl : ns.length + 1 ≤ sz) (hnd : ns.Nodup) (hok : ∀ x ∈ ns, blkB N a sz x = true) (hk : k < 4611686018426000000) (hlen : l.length < 4398045000000) :
    Calls Try.prog 29 #[.pointer (some ⟨gr, 0, none⟩), .int .i64 a, .int .i64 sz] w fun e w' => ∃ gx, e = .returned (.tuple #[.pointer (some ⟨gx, 0, none⟩), .int .i64 ns.length, .int .i64 0]) ∧ w.heap.size ≤ gx ∧ DidXP w w' gx gr N a sz none (endP a (openP a gen ns plat l)) (k + 1 + ns.length + leftP (openP a gen ns plat l)) G := by
  have hr : 2 ≤ sz ∧ sz ≤ 248 ∧ a + sz ≤ N := by
    have := of_decide_eq_true hm
    omega
  have hN := h.big
  have HM := hide (xmay_is h a sz)
  rw [hm] at HM
  have HX := hide h
  have HU := hide hu
  have HOK := hide hok
  have HND := hide hnd
  have HS := hide hs
  clear h hm hu hok hnd hs
  go_enter Try.func29, Try.ntmps29
  go_wp2_with (first | (go_at_call 45; refine HM.out.mono ?_; rintro e w' ⟨rfl, rfl⟩) | fail)
  refine (xd_read HX.out a (by omega) (by omega)).mono ?_
  rintro e w1 ⟨v1, rfl, ⟨d, c, r, rfl, hd, hb, hc⟩, t1, x1⟩
  rw [(HU.out a (by omega)).1] at hc ⊢
  rw [HS.out] at hb
  have HB := hide hb
  have HT1 := hide t1
  have HX1 := hide x1
  have cN := x1.c0
  have HP := hide (xparse_is (c := c) (a := a) (sz := sz) (N := N) hb g0 g1 hr.2.1 hN.2 hr.2.2 hl HND.out HOK.out)
  clear hb hc t1 x1 HM
  by_cases hne : ns = []
  · have hz : ((ns.length : Int) == 0) = true := by rw [hne]; rfl
    go_wp2_with (go_at_call 60; refine HP.out.mono ?_; rintro e w2 ⟨v2, rfl, hrow, hnew, ho2⟩; obtain ⟨A2, c2, rfl, -⟩ := id hrow.form2; have HR := hide hrow; have HN := hide hnew; have HO2 := hide ho2; clear hrow hnew ho2)
    go_ret3
    have hA : Only [] w1 (w2.alloc (.cells (xlC gr a sz gen (.slice none 0 0) (.slice none 0 0) false false 0) 62)) := HO2.out.alloc _
    refine ⟨w2.heap.size, by rw [hne]; rfl, Nat.le_trans HT1.out.1.size HO2.out.size, ?_⟩
    subst hne
    rw [(open_none a gen plat l).1, (open_none a gen plat l).2]
    exact xlp_mk (HX1.out.quiet hA) (Blk.new _ _ _) (turned_trans HT1.out (Turned.same (hA.mono (by simp)))) (fun hq => by have := HX1.out.lt _ hq; have := HO2.out.size; omega) (Nat.le_trans HT1.out.1.size HO2.out.size) ⟨g0, g1⟩ hr
  · have hz : ((ns.length : Int) == 0) = false := by
      have := List.length_pos_iff.2 hne
      simp only [beq_eq_false_iff_ne]; omega
    go_wp2_with (go_at_call 60; refine HP.out.mono ?_; rintro e w2 ⟨v2, rfl, hrow, hnew, ho2⟩; obtain ⟨A2, c2, rfl, -⟩ := id hrow.form2; have HR := hide hrow; have HN := hide hnew; have HO2 := hide ho2; clear hrow hnew ho2)
    have hA : Only [] w1 (w2.alloc (.cells (xlC gr a sz gen (.slice none 0 0) (.slice none 0 0) false false 0) 62)) := HO2.out.alloc _
    have HA := hide hA
    have HX3 := hide (HX1.out.quiet hA)
    have HBX := hide (Blk.new w2 62 (xlC gr a sz gen (.slice none 0 0) (.slice none 0 0) false false 0))
    have HR3 := hide (HR.out.only ((Only.refl [] w2).alloc (.cells (xlC gr a sz gen (.slice none 0 0) (.slice none 0 0) false false 0) 62)) (by simp))
    have HGX := hide (show w2.heap.size ∉ G from fun hq => by have := HX1.out.lt _ hq; have := HO2.out.size; omega)
    have HGW := hide (show w.heap.size ≤ w2.heap.size from Nat.le_trans HT1.out.1.size HO2.out.size)
    have HT3 := hide (turned_trans HT1.out (Turned.same (hA.mono (by simp))))
    have HLT := hide (show w2.heap.size < (w2.alloc (.cells (xlC gr a sz gen (.slice none 0 0) (.slice none 0 0) false false 0) 62)).heap.size by simp)
    have HNQ := hide (fun q (hq : (Value.slice A2 ns.length c2).ownBlock = some q) => (show q ∉ G ∧ q < w2.heap.size from ⟨fun hm => by have := HN.out q hq; have := HX1.out.lt q hm; omega, (HR.out.at_ hq).2.1⟩))
    unfold xlC at HA HX3 HBX HR3 HT3 HLT
    clear hA hz HR HX1 HT1 HP cN HB
    generalize w2.heap.size = gx at *
    generalize w2.alloc (.cells #[.pointer (some ⟨gr, 0, none⟩), .int .i64 a, .int .i64 sz, .int .u64 gen, .slice none 0 0, .slice none 0 0, .bool false, .bool false, .int .i64 0] 62) = w3 at *
    have HXD := hide (fun (i : Nat) (hi : i < ns.length) W Gi (x : Xd W gr N plat (placeL a ns plat l i) (k + 1 + 2 * i) Gi) => (show Calls Try.prog 55 #[.pointer (some ⟨gr, 0, none⟩), .int .i64 ((a : Int) + 1 + (i : Int))] W (fun e w' => ∃ d c, e = .returned (.tuple #[.slice (some ⟨d, 0, none⟩) 512 c, .int .i64 0]) ∧ Turned W w' Gi Gi ∧ Calls Try.prog 47 #[.pointer (some ⟨gr, 0, none⟩), .int .i64 (gb ns i), .slice (some ⟨d, 0, none⟩) 512 c] w' (fun e w2 => e = .returned (.int .i64 0) ∧ ∃ Gj, Turned W w2 Gi Gj ∧ Xd w2 gr N plat (placeL a ns plat l (i + 1)) (k + 1 + 2 * (i + 1)) Gj)) from by
      have hm : gb ns i ∈ ns := by simp only [gb, List.getD, List.getElem?_eq_getElem hi, Option.getD_some]; exact List.getElem_mem hi
      have hbk := blkB_yes.1 (HOK.out _ hm)
      obtain ⟨n', hn'⟩ := Int.eq_ofNat_of_zero_le hbk.1
      have hrd := xd_read x (a + 1 + i) (by omega) (by omega)
      rw [place_sect (N := N) (sz := sz) plat l HOK.out i (by omega) (a + 1 + i) (by omega) (by omega), show ((a + 1 + i : Nat) : Int) = (a : Int) + 1 + (i : Int) from by omega] at hrd
      refine hrd.mono ?_
      rintro e w' ⟨v, rfl, ⟨d, c, r, rfl, hd, hb, hc⟩, t, x'⟩
      obtain ⟨hu1, hu2⟩ := HU.out (a + 1 + i) (by omega)
      rw [hu1] at hc ⊢
      refine ⟨d, c, rfl, t, ?_⟩
      rw [hn']
      refine (xd_write x' n' (some ⟨d, 0, none⟩) c (sect plat l (a + 1 + i)) (by omega) ⟨hu1, fun _ => ⟨d, 0, rfl, hb.lt, fun j hj => by rw [Nat.zero_add, hb.cell]; exact u8l_get _ _ j (by omega)⟩⟩ hu2 (fun b e hq => by injection e with e; subst e; have := x.lt d hq; omega) (by omega) (by rw [placeL_length]; omega)).mono ?_
      rintro e w2 ⟨rfl, Gj, t2, x2⟩
      refine ⟨rfl, Gj, turned_trans t t2, ?_⟩
      rw [placeL_succ, show k + 1 + 2 * (i + 1) = k + 1 + 2 * i + 1 + 1 from by omega, hn']
      exact x2))
    go_wp2_with fail
    go_loopw [77] (fun iv wr => ∃ i : Nat, i ≤ ns.length ∧ iv = .int .i64 i ∧ ∃ Gi, Turned w3 wr G Gi ∧ Xd wr gr N plat (placeL a ns plat l i) (k + 1 + 2 * i) Gi) (fun iv _ => ns.length - (intOf iv).toNat)
    case atStart => exact ⟨0, Nat.zero_le _, rfl, G, Turned.same (Only.refl _ _), by simpa [placeL] using HX3.out⟩
    case round =>
      obtain ⟨i, hi, rfl, Gi, ti, xi⟩ := hrel
      have HTI := hide ti
      have HXI := hide xi
      by_cases hlt : i < ns.length
      · obtain ⟨A', c', hv, hA', -, -, hcl⟩ := IRow.form2 (show IRow wr _ ns from HR3.out.only ti.1 (fun q hq => (HNQ.out q hq).1))
        injection hv with e1 e2 e3
        subst e1 e3
        obtain ⟨ad, rfl⟩ : ∃ ad, A2 = some ad := by
          rcases A2 with _ | ad
          · have := (hA' rfl).1; omega
          · exact ⟨ad, rfl⟩
        obtain ⟨b, rfl, -, hcell⟩ := hcl ad rfl
        have ci := hcell i (.int .i64 (gb ns i)) (by simp [i64l, gb, List.getD, hlt])
        have HRD := hide (HXD.out i hlt wr Gi xi)
        have hltI : (i : Int) < ns.length := by omega
        have ha2 : (a : Int) ≤ 4096 := by omega
        have hi2 : (i : Int) ≤ 4096 := by omega
        clear hcell hcl hA' ti xi
        generalize gb ns i = x at *
        go_wp2_with (first | (go_at_call 55; refine HRD.out.mono ?_; rintro e w4 ⟨d4, c4, rfl, t4, hwr⟩; have HWR := hide hwr; clear t4 hwr) | (go_at_call 47; refine HWR.out.mono ?_; rintro e w5 ⟨rfl, Gj, t5, x5⟩; have HT5 := hide t5; have HX5 := hide x5; clear t5 x5))
        go_roundw
        case rel => exact ⟨i + 1, hlt, by go_num, Gj, turned_trans HTI.out HT5.out, HX5.out⟩
        case measure => simp [intOf]; omega
      · obtain rfl : i = ns.length := by omega
        clear ti xi
        go_wp2_with fail
        refine (xd_flush HXI.out (by omega)).mono ?_
        rintro e w4 ⟨⟨x4, rfl⟩, G4, t4, y4⟩
        have HT4 := hide (turned_trans HTI.out t4)
        have HX4 := hide y4
        clear t4 y4
        go_wp2_with fail
        refine (xheader_is (v := .slice none 0 0) (ns := []) (KRow.nil _ _ _ _) gen g0 g1 (by simp) (by simp)).mono ?_
        rintro e w5 ⟨d5, rfl, hd5, hb5, ho5⟩
        have HX5 := hide (HX4.out.quiet ho5)
        have HB5 := hide hb5
        have HD5 := hide (show ∀ b, (some ⟨d5, 0, none⟩ : Option Addr) = some b → b.block ∉ G4 from fun b e hq => by injection e with e; subst e; have := HX4.out.lt d5 hq; omega)
        have HT5 := hide (turned_quiet HT4.out ho5)
        clear hd5 hb5 ho5
        go_wp2_with fail
        refine (xd_write HX5.out a (some ⟨d5, 0, none⟩) 512 (hdrF gen []) (by omega) (u8_512 HB5.out (hdrF_length _ _ (by simp))) (u8_hdrF _ _) HD5.out (by omega) (by simp)).mono ?_
        rintro e w6 ⟨rfl, G6, t6, y6⟩
        have HT6 := hide (turned_trans HT5.out t6)
        have HX6 := hide y6
        clear t6 y6
        go_wp2_with fail
        refine (xd_flush HX6.out (by omega)).mono ?_
        rintro e w7 ⟨⟨x7, rfl⟩, G7, t7, y7⟩
        have HT7 := hide (turned_trans HT6.out t7)
        have HX7 := hide y7
        clear t7 y7
        go_wp2
        go_ret3
        refine ⟨gx, rfl, HGW.out, ?_⟩
        rw [(open_end a gen ns plat l hne).1, (open_end a gen ns plat l hne).2]
        have hgx7 : gx ∉ G7 := fun hq => by
          rcases HT7.out.2 gx hq with e | e
          · exact HGX.out e
          · have := HLT.out; omega
        have hx := HX7.out
        rw [show k + 1 + 2 * ns.length + 1 + 1 + 1 = k + 1 + ns.length + (ns.length + 3) from by omega] at hx
        exact xlp_mk hx (HBX.out.only HT7.out.1 HGX.out) (turned_trans HT3.out HT7.out) hgx7 HGW.out ⟨g0, g1⟩ hr
end
end Go.Proofs.Ytokdpldmoflnkaa
/-
  LogDoes: does, of the kind Open.
-/
namespace Go.Proofs.Ytokdpldmoflnkaa
open Go.ChangeShapes Go.WideShapes Go.ChangeAt Go.RowKit Go.Maps
set_option linter.unusedVariables false
set_option linter.unusedSimpArgs false
section
variable {w0 w w' w1 w2 : World} {gw gd g gr gx g' gx' N a sz K K' : Nat} {S S' : Option PG} {p p' : LP} {F G F' G' : List Nat}
theorem XlP.xd {k : Nat} (h : XlP w gx gr N a sz S p k F) : ∃ GD, Xd w gr N p.plat p.l k GD ∧ gx ∉ GD ∧ (∀ q ∈ GD, q ∈ F) ∧ w.cell? ⟨gx, 1, none⟩ = some (.int .i64 a) ∧ w.cell? ⟨gx, 2, none⟩ = some (.int .i64 sz) ∧ gx < w.heap.size := by
  obtain ⟨nx, ⟨vG, ws, vS, ss, op, GD, h1, _, _, h4, _⟩, _⟩ := h
  exact ⟨GD, h1.xd, h1.dx, fun q hq => h4 q (by unfold footX; simp [hq]), h1.c1, h1.c2, h1.blk.lt⟩
theorem lgp_open {gen : Int} {ns : List Int} {k : Nat} (h : LgP w g gd N a sz S p k F) (hs : sect p.plat p.l a = hdrF gen ns) (g0 : 0 ≤ gen) (g1 : gen < 18446744073709551616) (hl : ns.length + 1 ≤ sz) (hnd : ns.Nodup) (hok : ∀ x ∈ ns, blkB N a sz x = true) (hk : k < 4611686018426000000) (hlen : p.l.length < 4398045000000) :
    Calls Try.prog 28 #[.pointer (some ⟨gd, 0, none⟩), .int .i64 a, .int .i64 sz] w fun e w' => ∃ g' F', e = .returned (.tuple #[.pointer (some ⟨g', 0, none⟩), .int .i64 ns.length, .int .i64 0]) ∧ Turned w w' F F' ∧ LgP w' g' gd N a sz none (endP a (openP a gen ns p.plat p.l)) (k + 1 + ns.length + leftP (openP a gen ns p.plat p.l)) F' := by
  have hr := h.rng
  obtain ⟨v, m, L, SS, rd, wt, fl, FD, h1, _, _, h4, _⟩ := h
  refine (open_ok h1.dk (by unfold mayL; simp; omega) hs g0 g1 hl hnd hok hk hlen).mono ?_
  rintro e w' ⟨g', F', rfl, ho, hF, hL⟩
  exact ⟨g', F', rfl, ⟨ho.mono (fun q _ hq => h4 q (.inr (.inr hq))), fun q hq => (hF q hq).imp_left (fun e => h4 q (.inr (.inr e)))⟩, hL⟩
/-- Both were opened anew, and stored. -/
theorem Bl.opened (h : Bl w0 w gw gd g gr gx N a sz S p K F G) (hT : Turned w w1 F F') (hL : LgP w1 g' gd N a sz none p' K' F') (hT2 : Turned w1 w2 G G') (hX : XlP w2 gx' gr N a sz none p' K' G')
    (run : IdleP p' ∨ RunsP p') (hdr : HdrOk N a sz p'.plat p'.l) : Bl w0 ((w2.setCell ⟨gw, 1, none⟩ (.pointer (some ⟨g', 0, none⟩))).setCell ⟨gw, 3, none⟩ (.pointer (some ⟨gx', 0, none⟩))) gw gd g' gr gx' N a sz none p' K' F' G' := by
  have hGlt := h.xl.lt
  have hwl := h.wd.lt
  have hfg : ∀ q ∈ F', q ∉ G := fun q hq hm => by
    rcases hT.2 q hq with e | e
    · exact h.apart q e hm
    · have := hGlt q hm; omega
  have hap : ∀ q ∈ F', q ∉ G' := fun q hq hm => by
    rcases hT2.2 q hm with e | e
    · exact hfg q hq e
    · have := hL.lt q hq; omega
  have hw1 : gw ∉ F' := fun hm => by
    rcases hT.2 gw hm with e | e
    · exact h.gwF.1 e
    · omega
  have hw2 : gw ∉ G' := fun hm => by
    rcases hT2.2 gw hm with e | e
    · exact h.gwF.2 e
    · have := hT.1.size; omega
  have hB := (h.wd.only hT.1 h.gwF.1).only hT2.1 h.gwF.2
  have hO : Only [gw] w2 ((w2.setCell ⟨gw, 1, none⟩ (.pointer (some ⟨g', 0, none⟩))).setCell ⟨gw, 3, none⟩ (.pointer (some ⟨gx', 0, none⟩))) :=
    ((Only.refl [gw] w2).setCell (p := ⟨gw, 1, none⟩) _ (by simp)).setCell (p := ⟨gw, 3, none⟩) _ (by simp)
  refine ⟨(hL.only hT2.1 hfg).only hO (fun q hq hm => ?_), hX.only hO (fun q hq hm => ?_), (hB.set_ 1 _).set_ 3 _, fun q hq => ?_, fun q hq => ?_, h.neww, hap, ⟨hw1, hw2⟩, ?_, run, fun e => absurd rfl e, hdr⟩
  · simp at hm; subst hm; exact hw1 hq
  · simp at hm; subst hm; exact hw2 hq
  · rcases hT.2 q hq with e | e
    · exact h.newF q e
    · exact Nat.le_trans h.only.size e
  · rcases hT2.2 q hq with e | e
    · exact h.newG q e
    · exact Nat.le_trans h.only.size (Nat.le_trans hT.1.size e)
  · refine ((h.only.trans' hT.1 (fun q hq hm => ?_)).trans' hT2.1 (fun q hq hm => ?_)).trans' hO (fun q hq hm => ?_)
    · have := h.newF q hm; omega
    · have := h.newG q hm; omega
    · simp at hm; have := h.neww; omega
def OCells (w : World) (gw gd gr gx a sz : Nat) : Prop := w.cell? ⟨gw, 0, none⟩ = some (.pointer (some ⟨gd, 0, none⟩)) ∧ w.cell? ⟨gw, 2, none⟩ = some (.pointer (some ⟨gr, 0, none⟩)) ∧ w.cell? ⟨gw, 3, none⟩ = some (.pointer (some ⟨gx, 0, none⟩)) ∧ w.cell? ⟨gx, 1, none⟩ = some (.int .i64 a) ∧ w.cell? ⟨gx, 2, none⟩ = some (.int .i64 sz)
/-- What the header says behind all steps. -/
theorem hdr_open {gen : Int} {ns : List Int} {k : Nat} (h : LgP w g gd N a sz S p k F) (hh : HdrOk N a sz p.plat p.l) (g0 : 0 ≤ gen) (g1 : gen < 18446744073709551616) (hl : ns.length + 1 ≤ sz) (hnd : ns.Nodup) (hok : ∀ x ∈ ns, blkB N a sz x = true) : Keep N a sz (openP a gen ns p.plat p.l) := by
  have hr := h.rng
  obtain ⟨rd, wt, fl, FD, hd⟩ := h.disk
  refine ⟨open_runs a gen ns p.plat p.l, hh, h.sec, ⟨by show (openG a ns p.plat p.l ns.length).length + 1 ≤ sz; rw [openG_length]; exact hl, by show ((openG a ns p.plat p.l ns.length).map (·.1)).Nodup; rw [openG_keys _ _ _ _ _ (Nat.le_refl _), List.take_length]; exact hnd, fun x hx => ?_⟩, ⟨g0, g1⟩⟩
  simp only [openP, openG, List.mem_map, List.mem_range] at hx
  obtain ⟨j, hj, rfl⟩ := hx
  have hm : gb ns j ∈ ns := by simp only [gb, List.getD, List.getElem?_eq_getElem hj, Option.getD_some]; exact List.getElem_mem hj
  have hs := hd.secOk (m := a + 1 + j) (by omega)
  exact ⟨hok _ hm, hs.1, hs.2⟩
end
end Go.Proofs.Ytokdpldmoflnkaa
