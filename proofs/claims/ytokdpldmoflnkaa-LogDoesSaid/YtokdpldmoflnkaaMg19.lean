/-
  The log: the laws' 'start'.
-/
import Derived.Test.YtokdpldmoflnkaaMg18
namespace Go.Proofs.Ytokdpldmoflnkaa
open Go.ChangeShapes Go.WideShapes Go.ChangeAt Go.RowKit Go.Maps
set_option linter.unusedVariables false
/-- The platter behind Format. -/
def fmtF (N a : Nat) : List Int := layAll (List.replicate (512 * N) 0) [(a, hdrF 0 [])]
/-- Both logs, made behind w. -/
structure Both0 (w w' : World) (gw gd g gr gx N a sz : Nat) (F G : List Nat) : Prop where
  lg : LgP w' g gd N a sz none ⟨0, [], 0, 0, fmtF N a, []⟩ 2 F
  xd : Xd w' gr N (fmtF N a) [] 2 G
  xl : Blk w' gx 62 (xlC gr a sz 0 (.slice none 0 0) (.slice none 0 0) false false 0)
  wd : Blk w' gw 45 #[.pointer (some ⟨gd, 0, none⟩), .pointer (some ⟨g, 0, none⟩), .pointer (some ⟨gr, 0, none⟩), .pointer (some ⟨gx, 0, none⟩)]
  newF : ∀ q ∈ F, w.heap.size ≤ q
  newG : ∀ q ∈ G, w.heap.size ≤ q
  newx : w.heap.size ≤ gx
  neww : w.heap.size ≤ gw
  apart : ∀ q ∈ F, q ∉ G
  gxF : gx ∉ F ∧ gx ∉ G
  gwF : gw ∉ F ∧ gw ∉ G
  only : Only [] w w'
/-- What start gives. -/
def Started (w w' : World) (e : Ending) (count a sz : Int) : Prop :=
  if 1 ≤ count ∧ count ≤ 4096 ∧ mayL count.toNat a sz = true then ∃ gw gd g gr gx F G, e = .returned (.tuple #[.pointer (some ⟨gw, 0, none⟩), .bool true]) ∧ Both0 w w' gw gd g gr gx count.toNat a.toNat sz.toNat F G
  else e = .returned (.tuple #[.pointer none, .bool true]) ∧ Only [] w w'
set_option maxRecDepth 100000 in
set_option maxHeartbeats 2000000 in
theorem start_is (count a sz : Int) (w : World) : Calls Try.prog 4 #[.int .i64 count, .int .i64 a, .int .i64 sz] w fun e w' => Started w w' e count a sz := by
  by_cases hc : 1 ≤ count ∧ count ≤ 4096
  · obtain ⟨N, rfl⟩ := Int.eq_ofNat_of_zero_le (show 0 ≤ count by omega)
    go_enter Try.func4, Try.ntmps4
    go_wp2_with fail
    refine (dk_new (N : Int) _ hc.1 hc.2).mono ?_
    rintro e w1 ⟨gd, FD, rfl, ho1, hFD, hd⟩
    rw [Int.toNat_natCast] at hd
    have HO1 := hide ho1
    have HFD := hide hFD
    have HD1 := hide hd
    clear ho1 hFD hd
    go_wp2_with fail
    refine (xd_new (N : Int) _ hc.1 hc.2).mono ?_
    rintro e w2 ⟨gr, GR, rfl, ho2, hGR, hx⟩
    rw [Int.toNat_natCast] at hx
    have HO2 := hide (HO1.out.trans ho2)
    have HD2 := hide (HD1.out.quiet ho2)
    have HGR := hide hGR
    have HX2 := hide hx
    have HGF := hide (show ∀ q ∈ FD, q ∉ GR from fun q hq hm => by have := HD1.out.lt q hq; have := hGR q hm; omega)
    clear ho2 hGR hx
    go_wp2_with fail
    refine (awake_ok _).mono ?_
    rintro e w3 ⟨rfl, ho3⟩
    have HO3 := hide (HO2.out.trans ho3)
    have HD3 := hide (HD2.out.quiet ho3)
    have HX3 := hide (HX2.out.quiet ho3)
    clear ho3
    have hcN : N ≤ 4096 := by omega
    cases hm : mayL N a sz with
    | false =>
      have HF := hide (format_no hcN a sz (dk_count HD3.out) hm)
      have HXF := hide (xformat_no HX3.out a sz hm)
      have HS := hide (show ¬(1 ≤ (N : Int) ∧ (N : Int) ≤ 4096 ∧ mayL (N : Int).toNat a sz = true) from fun e => by rw [Int.toNat_natCast, hm] at e; cases e.2.2)
      clear hm hc
      go_wp2_with (first | (go_at_call 10; refine HF.out.mono ?_; rintro e w' ⟨rfl, rfl⟩) | (go_at_call 11; refine HXF.out.mono ?_; rintro e w' ⟨rfl, rfl⟩))
      go_ret2
      unfold Started
      rw [if_neg HS.out]
      exact ⟨rfl, HO3.out⟩
    | true =>
      have hmm := of_decide_eq_true hm
      obtain ⟨an, rfl⟩ := Int.eq_ofNat_of_zero_le hmm.2.2.1
      obtain ⟨sn, rfl⟩ := Int.eq_ofNat_of_zero_le (show 0 ≤ sz by omega)
      have HS := hide (show 1 ≤ (N : Int) ∧ (N : Int) ≤ 4096 ∧ mayL (N : Int).toNat (an : Int) (sn : Int) = true from ⟨hc.1, hc.2, by rw [Int.toNat_natCast]; exact hm⟩)
      have HF := hide (format_ok (a := an) (sz := sn) HD3.out hm (by decide) (by decide))
      have HXM := hide hm
      clear hm hmm hc
      go_wp2_with fail
      refine HF.out.mono ?_
      rintro e w4 ⟨g, F, rfl, ho4, hF, hL⟩
      unfold fmtP at hL
      rw [List.nil_append] at hL
      have HO4 := hide (HO3.out.trans' ho4 (fun q hq hm => by have := HFD.out q hm; omega))
      have HX4 := hide (HX3.out.only ho4 (fun q hq hm => HGF.out q hm hq))
      have HF4 := hide (show (∀ q ∈ F, w.heap.size ≤ q) ∧ ∀ q ∈ F, q ∉ GR from ⟨fun q hq => (hF q hq).elim (fun e => HFD.out q e) (fun e => Nat.le_trans HO3.out.size e), fun q hq hm => by
        rcases hF q hq with e | e
        · exact HGF.out q e hm
        · have := HX3.out.lt q hm; omega⟩)
      have HL4 := hide hL
      clear ho4 hF hL
      go_wp2_with fail
      refine (xformat_ok (a := an) (sz := sn) HX4.out HXM.out (by decide) (by decide)).mono ?_
      rintro e w5 ⟨gx, G, rfl, hgx, hgxG, hT, hX, hB⟩
      rw [List.nil_append] at hX
      have HO5 := hide (HO4.out.trans' hT.1 (fun q hq hm => by have := HGR.out q hm; have := HO1.out.size; omega))
      have HL5 := hide (HL4.out.only hT.1 (fun q hq hm => HF4.out.2 q hq hm))
      have HA5 := hide (show (∀ q ∈ G, w.heap.size ≤ q) ∧ (∀ q ∈ F, q ∉ G) ∧ w.heap.size ≤ gx ∧ gx ∉ F ∧ gx ∉ G from ⟨fun q hq => (hT.2 q hq).elim (fun e => Nat.le_trans HO1.out.size (HGR.out q e)) (fun e => Nat.le_trans HO4.out.size e), fun q hq hm => by
        rcases hT.2 q hm with e | e
        · exact HF4.out.2 q hq e
        · have := HL4.out.lt q hq; omega, Nat.le_trans HO4.out.size hgx, fun hm => by have := HL4.out.lt gx hm; omega, hgxG⟩)
      have HX5 := hide hX
      have HB5 := hide hB
      clear hgx hgxG hT hX hB
      go_wp2
      go_ret2
      unfold Started
      rw [if_pos HS.out]
      have hA : Only [] w5 (w5.alloc (.cells #[.pointer (some ⟨gd, 0, none⟩), .pointer (some ⟨g, 0, none⟩), .pointer (some ⟨gr, 0, none⟩), .pointer (some ⟨gx, 0, none⟩)] 45)) := (Only.refl [] w5).alloc _
      refine ⟨w5.heap.size, gd, g, gr, gx, F, G, rfl, ?_⟩
      rw [Int.toNat_natCast, Int.toNat_natCast, Int.toNat_natCast]
      exact ⟨HL5.out.quiet hA, HX5.out.quiet hA, HB5.out.only hA (by simp), Blk.new _ _ _, HF4.out.1, HA5.out.1, HA5.out.2.2.1, HO5.out.size, HA5.out.2.1, HA5.out.2.2.2, ⟨fun hm => absurd (HL5.out.lt _ hm) (Nat.lt_irrefl _), fun hm => absurd (HX5.out.lt _ hm) (Nat.lt_irrefl _)⟩, HO5.out.trans hA⟩
  · have HS := hide (show ¬(1 ≤ count ∧ count ≤ 4096 ∧ mayL count.toNat a sz = true) from fun e => hc ⟨e.1, e.2.1⟩)
    have hb : count < 1 ∨ 4096 < count := by omega
    have HD := hide (fun W => dnew_bad count W hb)
    have HX := hide (fun W => rnew_bad count W hb)
    have hm0 : mayL 0 a sz = false := decide_eq_false (by omega)
    have HF := hide (fun W => format_no (w := W) (N := 0) (by decide) a sz (dcount_nil W) hm0)
    clear hc hb hm0
    go_enter Try.func4, Try.ntmps4
    go_wp2_with (first | (go_at_call 7; refine (HD.out _).mono ?_; rintro e w' ⟨rfl, rfl⟩) | (go_at_call 8; refine (HX.out _).mono ?_; rintro e w' ⟨rfl, rfl⟩) | (go_at_call 9; refine (awake_ok _).mono ?_; rintro e w3 ⟨rfl, ho3⟩; have HO3 := hide ho3; clear ho3) | (go_at_call 10; refine (HF.out _).mono ?_; rintro e w' ⟨rfl, rfl⟩))
    go_ret2
    unfold Started
    rw [if_neg HS.out]
    exact ⟨rfl, HO3.out⟩
end Go.Proofs.Ytokdpldmoflnkaa
/-
  The log (parapet/wlog): Parse of a header that is right.
-/
namespace Go.Proofs.Ytokdpldmoflnkaa
open Go.ChangeShapes Go.WideShapes Go.ChangeAt Go.RowKit Go.Maps
set_option linter.unusedVariables false
theorem gb_appP (a b : List Int) (j : Nat) : gb (a ++ b) j = if j < a.length then gb a j else gb b (j - a.length) := by
  unfold gb
  rw [List.getD_eq_getElem?_getD, List.getD_eq_getElem?_getD, List.getD_eq_getElem?_getD, List.getElem?_append]
  split <;> rfl
theorem gb_repP (n j : Nat) : gb (List.replicate n 0) j = 0 := by
  unfold gb
  rw [List.getD_eq_getElem?_getD]
  by_cases h : j < n
  · simp [h]
  · simp [h]
theorem beN_cons (c : Int) (l : List Int) : beN (c :: l) = c * 256 ^ l.length + beN l := by
  have key : ∀ (l : List Int) (x : Int), l.foldl (fun x c => x * 256 + c) x = x * 256 ^ l.length + l.foldl (fun x c => x * 256 + c) 0 := by
    intro l
    induction l with
    | nil => intro x; simp
    | cons d l ih =>
      intro x
      rw [List.foldl_cons, List.foldl_cons, ih (x * 256 + d), ih (0 * 256 + d), List.length_cons, Int.pow_succ, Int.add_mul, Int.mul_assoc, Int.mul_comm 256, Int.zero_mul, Int.zero_add]
      omega
  show List.foldl _ _ (c :: l) = _
  rw [List.foldl_cons, key]
  simp [beN]
theorem emod_split (x p : Int) (hp : 0 < p) : x % (p * 256) = x / p % 256 * p + x % p := by
  have h1 := Int.mul_ediv_add_emod x p
  have h2 := Int.mul_ediv_add_emod (x / p) 256
  have r0 := Int.emod_nonneg x (Int.ne_of_gt hp)
  have r1 := Int.emod_lt_of_pos x hp
  have t0 := Int.emod_nonneg (x / p) (show (256 : Int) ≠ 0 by decide)
  have t1 := Int.emod_lt_of_pos (x / p) (show (0 : Int) < 256 by decide)
  generalize x % p = r at *
  generalize x / p % 256 = t at *
  generalize x / p / 256 = s at *
  generalize x / p = q at *
  have hx : x = (t * p + r) + (p * 256) * s := by
    rw [← h1, ← h2, Int.mul_add, Int.mul_comm t p, Int.mul_assoc p 256 s]
    omega
  have hb : t * p + r < p * 256 := by
    have : t * p ≤ 255 * p := Int.mul_le_mul_of_nonneg_right (by omega) (Int.le_of_lt hp)
    omega
  have h0 : 0 ≤ t * p + r := by
    have : 0 ≤ t * p := Int.mul_nonneg t0 (Int.le_of_lt hp)
    omega
  rw [hx, Int.add_mul_emod_self_left, Int.emod_eq_of_lt h0 hb]
theorem beN_beB : ∀ (n : Nat) (x : Int), beN (beB n x) = x % 256 ^ n
  | 0, x => by simp [beB, beN]
  | n + 1, x => by
    show beN ((x / 256 ^ n % 256) :: beB n x) = _
    rw [beN_cons, beB_length, beN_beB n x, Int.pow_succ, emod_split x (256 ^ n) (Int.pow_pos (by decide))]
theorem gb_nums : ∀ (ns : List Int) (i j : Nat), i < ns.length → j < 2 → gb (numsF ns) (2 * i + j) = gb (beB 2 (gb ns i)) j
  | [], i, j, h, _ => by simp at h
  | n :: ns, 0, j, h, hj => by
    show gb (beB 2 n ++ numsF ns) _ = _
    rw [gb_appP, if_pos (by rw [beB_length]; omega), show 2 * 0 + j = j from by omega]
    rfl
  | n :: ns, i + 1, j, h, hj => by
    show gb (beB 2 n ++ numsF ns) _ = _
    rw [gb_appP, if_neg (by rw [beB_length]; omega), beB_length, show 2 * (i + 1) + j - 2 = 2 * i + j from by omega, gb_nums ns i j (by simp only [List.length_cons] at h; omega) hj]
    rfl
theorem hdr_gen (gen : Int) (ns : List Int) (j : Nat) (hj : j < 8) : gb (hdrF gen ns) j = gb (beB 8 gen) j := by
  unfold hdrF
  rw [List.append_assoc, List.append_assoc, List.append_assoc, gb_appP, if_pos (by rw [beB_length]; omega)]
theorem hdr_len (gen : Int) (ns : List Int) (j : Nat) (hj : j < 2) : gb (hdrF gen ns) (8 + j) = gb (beB 2 (ns.length : Int)) j := by
  unfold hdrF
  rw [List.append_assoc, List.append_assoc, List.append_assoc, gb_appP, if_neg (by rw [beB_length]; omega), beB_length, gb_appP, if_pos (by rw [beB_length]; omega)]
  congr 1
  omega
theorem hdr_num (gen : Int) (ns : List Int) (i j : Nat) (hi : i < ns.length) (hj : j < 2) : gb (hdrF gen ns) (10 + 2 * i + j) = gb (beB 2 (gb ns i)) j := by
  unfold hdrF
  rw [List.append_assoc, List.append_assoc, List.append_assoc, gb_appP, if_neg (by rw [beB_length]; omega), beB_length, gb_appP, if_neg (by rw [beB_length]; omega), beB_length, gb_appP, if_pos (by rw [numsF_length]; omega), ← gb_nums ns i j hi hj]
  congr 1
  omega
theorem hdr_zero (gen : Int) (ns : List Int) (hn : ns.length ≤ 247) (j : Nat) (h1 : 10 + 2 * ns.length ≤ j) (h2 : j < 504) : gb (hdrF gen ns) j = 0 := by
  unfold hdrF
  rw [List.append_assoc, List.append_assoc, List.append_assoc, gb_appP, if_neg (by rw [beB_length]; omega), beB_length, gb_appP, if_neg (by rw [beB_length]; omega), beB_length, gb_appP, if_neg (by rw [numsF_length]; omega), numsF_length, gb_appP, if_pos (by rw [List.length_replicate]; omega), gb_repP]
theorem hdr_end (gen : Int) (ns : List Int) (hn : ns.length ≤ 247) (j : Nat) (hj : j < 8) : gb (hdrF gen ns) (504 + j) = gb (beB 8 gen) j := by
  unfold hdrF
  rw [List.append_assoc, List.append_assoc, List.append_assoc, gb_appP, if_neg (by rw [beB_length]; omega), beB_length, gb_appP, if_neg (by rw [beB_length]; omega), beB_length, gb_appP, if_neg (by rw [numsF_length]; omega), numsF_length, gb_appP, if_neg (by rw [List.length_replicate]; omega), List.length_replicate]
  congr 1
  omega
theorem parse1_no (w : World) : Calls Try.prog 87 #[.int .u8 0] w fun e w' => e = .returned (.bool false) ∧ w = w' := by
  go_enter Try.func87, Try.ntmps87
  go_wp2
  go_ret
  exact ⟨rfl, rfl⟩
theorem idxB_zero (w : World) (b o n c : Nat) (hn : n ≤ 1000000) (h : ∀ i, i < n → w.cell? ⟨b, o + i, none⟩ = some (.int .u8 0)) :
    Calls Try.prog 93 #[.slice (some ⟨b, o, none⟩) n c, .func (.func 87) #[] #[]] w fun e w' => e = .returned (.int .i64 (-1)) ∧ w = w' := by
  have H := hide h
  clear h
  go_enter Try.func93, Try.ntmps93
  go_wp2
  go_loopw [8] (fun i wr => ∃ k : Nat, k ≤ n ∧ i = .int .i64 k ∧ wr = w) (fun i _ => n - (intOf i).toNat)
  case atStart => exact ⟨0, Nat.zero_le _, rfl, rfl⟩
  case round =>
    obtain ⟨k, hk, rfl, rfl⟩ := hrel
    by_cases hlt : k < n
    · have hck := H.out k hlt
      go_wp2_with (go_at_call 87; refine (parse1_no _).mono ?_; rintro e w' ⟨rfl, rfl⟩)
      go_roundw
      case rel => exact ⟨k + 1, hlt, by go_num, trivial⟩
      case measure => simp [intOf]; omega
    · go_wp2
      go_ret
      exact ⟨rfl, rfl⟩
theorem hasB_zero (w : World) (b o n c : Nat) (hn : n ≤ 1000000) (h : ∀ i, i < n → w.cell? ⟨b, o + i, none⟩ = some (.int .u8 0)) :
    Calls Try.prog 86 #[.slice (some ⟨b, o, none⟩) n c, .func (.func 87) #[] #[]] w fun e w' => e = .returned (.bool false) ∧ w = w' := by
  have H := hide (idxB_zero w b o n c hn h)
  clear h
  go_enter Try.func86, Try.ntmps86
  go_wp2_with (go_at_call 93; refine H.out.mono ?_; rintro e w' ⟨rfl, rfl⟩)
  go_ret
  exact ⟨rfl, rfl⟩
theorem index_no {w : World} {u : Value} {xs : List Int} (hr : IRow w u xs) (hf : xs.length ≤ 1024) (t : Int) (ht : t ∉ xs) : Calls Try.prog 92 #[u, .int .i64 t] w fun e w' => e = .returned (.int .i64 (-1)) ∧ w = w' := by
  obtain ⟨A, c, rfl, hA, _, _, hc⟩ := hr.form2
  have HA := hide hc
  have HAN := hide hA
  have HT := hide ht
  clear hr hc hA ht
  go_enter Try.func92, Try.ntmps92
  go_wp2_with fail
  go_loopw [8] (fun iv wr => ∃ i : Nat, i ≤ xs.length ∧ iv = .int .i64 i ∧ wr = w) (fun iv _ => xs.length - (intOf iv).toNat)
  case atStart => exact ⟨0, Nat.zero_le _, rfl, rfl⟩
  case round =>
    obtain ⟨i, hi, rfl, rfl⟩ := hrel
    by_cases hlt : i < xs.length
    · have hltI : (i : Int) < xs.length := by omega
      obtain ⟨ad, rfl⟩ : ∃ ad, A = some ad := by
        rcases A with _ | ad
        · have := (HAN.out rfl).1; omega
        · exact ⟨ad, rfl⟩
      obtain ⟨b, rfl, _, hcell⟩ := HA.out ad rfl
      have ci := hcell i (.int .i64 xs[i]) (by simp [i64l, hlt])
      have heb : (t == xs[i]) = false := by
        simp
        exact fun e => HT.out (e ▸ List.getElem_mem hlt)
      generalize xs[i] = x at *
      clear hcell
      go_wp2_with fail
      go_roundw
      case rel => exact ⟨i + 1, hlt, by go_num, trivial⟩
      case measure => simp [intOf]; omega
    · obtain rfl : i = xs.length := by omega
      go_wp2
      go_ret
      exact ⟨rfl, rfl⟩
theorem has_no {w : World} {u : Value} {xs : List Int} (hr : IRow w u xs) (hf : xs.length ≤ 1024) (t : Int) (ht : t ∉ xs) : Calls Try.prog 85 #[u, .int .i64 t] w fun e w' => e = .returned (.bool false) ∧ w = w' := by
  have H := hide (index_no hr hf t ht)
  obtain ⟨A, c, rfl, _⟩ := hr.form2
  clear hr ht
  go_enter Try.func85, Try.ntmps85
  go_wp2_with (go_at_call 92; refine H.out.mono ?_; rintro e w' ⟨rfl, rfl⟩)
  go_ret
  exact ⟨rfl, rfl⟩
theorem made_int (n : Nat) : madeCells #[.int .i64 0] n = (i64l (List.replicate n 0) ++ ([] : List Value)).toArray := by
  apply Array.ext'
  rw [toList_madeCells_one]
  simp [i64l]
theorem take_rep_set (ns : List Int) (i : Nat) (h : i < ns.length) : (ns.take i ++ List.replicate (ns.length - i) 0).set i (gb ns i) = ns.take (i + 1) ++ List.replicate (ns.length - (i + 1)) 0 := by
  rw [List.set_append_right _ _ (by rw [List.length_take]; omega), List.length_take, Nat.min_eq_left (by omega), Nat.sub_self, List.take_succ_eq_append_getElem h, show ns.length - i = (ns.length - (i + 1)) + 1 from by omega, List.replicate_succ, List.set_cons_zero, List.append_assoc]
  simp [gb, List.getD, h]
theorem i64l_set (xs : List Int) (i : Nat) (x : Int) : (i64l xs ++ ([] : List Value)).toArray.setIfInBounds i (.int .i64 x) = (i64l (xs.set i x) ++ ([] : List Value)).toArray := by
  rw [List.append_nil, List.append_nil, List.setIfInBounds_toArray]
  simp [i64l, List.map_set]
theorem ending_is {w : World} {d c : Nat} {gen : Int} (hc : 512 ≤ c) (h : Calls Try.prog 84 #[.slice (some ⟨d, 504, none⟩) 8 (c - 504)] w fun e w' => e = .returned (.int .u64 gen) ∧ w = w') : Calls Try.prog 78 #[.slice (some ⟨d, 0, none⟩) 512 c] w fun e w' => e = .returned (.int .u64 gen) ∧ w = w' := by
  have H := hide h
  have hne : ¬ (c = 504) := by omega
  clear h
  go_enter Try.func78, Try.ntmps78
  go_wp2_with (go_at_call 84; refine H.out.mono ?_; rintro e w' ⟨rfl, rfl⟩)
  go_ret
  exact ⟨rfl, rfl⟩
set_option maxRecDepth 100000 in
set_option maxHeartbeats 1000000 in
theorem parse_is {w : World} {d c N a sz : Nat} {gen : Int} {ns : List Int} {r : List Value} (hb : Blk w d 5 (u8l (hdrF gen ns) ++ r).toArray) (hcap : 512 ≤ c) (g0 : 0 ≤ gen) (g1 : gen < 18446744073709551616) (hsz : sz ≤ 248) (hN : N ≤ 4096) (haN : a + sz ≤ N) (hl : ns.length + 1 ≤ sz) (hnd : ns.Nodup) (hok : ∀ x ∈ ns, blkB N a sz x = true) :
    Calls Try.prog 77 #[.slice (some ⟨d, 0, none⟩) 512 c, .int .i64 a, .int .i64 sz, .int .i64 N] w fun e w' => ∃ v', e = .returned (.tuple #[.int .u64 gen, v', .bool true]) ∧ IRow w' v' ns ∧ (∀ q, v'.ownBlock = some q → w.heap.size ≤ q) ∧ Only [] w w' := by
  have hn : ns.length ≤ 247 := by omega
  have hlen := hdrF_length gen ns hn
  have HCELL := hide (fun W (ho : Only [] w W) (j : Nat) (hj : j < 512) => (show W.cell? ⟨d, j, none⟩ = some (.int .u8 (gb (hdrF gen ns) j)) from by
    rw [(hb.only ho (by simp)).cell]; exact u8l_get _ _ j (by omega)))
  have e8 : beN (beB 8 gen) = gen := by rw [beN_beB 8 gen]; exact Int.emod_eq_of_lt g0 (by simpa using g1)
  have e2 : ∀ x : Int, 0 ≤ x → x < 65536 → beN (beB 2 x) = x := fun x h0 h1 => by rw [beN_beB 2 x]; exact Int.emod_eq_of_lt h0 (by simpa using h1)
  have HG := hide (fun W (ho : Only [] w W) => (get_is (some ⟨d, 0, none⟩) 8 c (beB 8 gen) W (beB_length _ _) (by decide) (u8_beB _ _) (fun i hi => ⟨d, 0, rfl, by rw [Nat.zero_add, HCELL.out W ho i (by omega), hdr_gen gen ns i hi]⟩)).mono (R' := fun e w' => e = .returned (.int .u64 gen) ∧ W = w') (fun e w' ⟨q1, q2⟩ => ⟨by rw [q1, e8], q2⟩))
  have HLN := hide (fun W (ho : Only [] w W) => (get_is (some ⟨d, 8, none⟩) 2 (c - 8) (beB 2 (ns.length : Int)) W (beB_length _ _) (by decide) (u8_beB _ _) (fun i hi => ⟨d, 8, rfl, by rw [HCELL.out W ho (8 + i) (by omega), hdr_len gen ns i hi]⟩)).mono (R' := fun e w' => e = .returned (.int .u64 ns.length) ∧ W = w') (fun e w' ⟨q1, q2⟩ => ⟨by rw [q1, e2 _ (by omega) (by omega)], q2⟩))
  have HEN := hide (fun W (ho : Only [] w W) => (get_is (some ⟨d, 504, none⟩) 8 (c - 504) (beB 8 gen) W (beB_length _ _) (by decide) (u8_beB _ _) (fun i hi => ⟨d, 504, rfl, by rw [HCELL.out W ho (504 + i) (by omega), hdr_end gen ns hn i hi]⟩)).mono (R' := fun e w' => e = .returned (.int .u64 gen) ∧ W = w') (fun e w' ⟨q1, q2⟩ => ⟨by rw [q1, e8], q2⟩))
  have HNUM := hide (fun W (ho : Only [] w W) (i : Nat) (hi : i < ns.length) => (get_is (some ⟨d, 10 + 2 * i, none⟩) 2 (c - 10 - 2 * i) (beB 2 (gb ns i)) W (beB_length _ _) (by decide) (u8_beB _ _) (fun j hj => ⟨d, 10 + 2 * i, rfl, by rw [HCELL.out W ho (10 + 2 * i + j) (by omega), hdr_num gen ns i j hi hj]⟩)).mono (R' := fun e w' => e = .returned (.int .u64 (gb ns i)) ∧ W = w') (fun e w' ⟨q1, q2⟩ => ⟨by
    have hm : gb ns i ∈ ns := by simp only [gb, List.getD, List.getElem?_eq_getElem hi, Option.getD_some]; exact List.getElem_mem hi
    have := blkB_yes.1 (hok _ hm)
    rw [q1, e2 _ (by omega) (by omega)], q2⟩))
  have HZ := hide (fun W (ho : Only [] w W) => hasB_zero W d (10 + 2 * ns.length) (494 - 2 * ns.length) (c - 10 - 2 * ns.length) (by omega) (fun i hi => by rw [HCELL.out W ho (10 + 2 * ns.length + i) (by omega), hdr_zero gen ns hn _ (by omega) (by omega)]))
  have HBK := hide (fun (x : Int) (hx : x ∈ ns) W => isBlock_yes N a sz x W haN hN (hok x hx))
  have HMEM := hide (fun (i : Nat) (hi : i < ns.length) => (show gb ns i ∈ ns ∧ gb ns i ∉ ns.take i ∧ 0 ≤ gb ns i ∧ gb ns i < 65536 from by
    have e : gb ns i = ns[i] := by simp [gb, List.getD, hi]
    have hm : gb ns i ∈ ns := by rw [e]; exact List.getElem_mem hi
    have hb := blkB_yes.1 (hok _ hm)
    refine ⟨hm, fun ht => ?_, by omega, by omega⟩
    rw [e] at ht
    obtain ⟨j, hj, hje⟩ := List.getElem_of_mem ht
    rw [List.getElem_take] at hje
    have hj2 : j < i := by rw [List.length_take] at hj; omega
    have := (List.getElem_inj (h₀ := by omega) (h₁ := hi) hnd).1 hje
    omega))
  clear hb hlen hok hnd e8 e2
  go_enter Try.func77, Try.ntmps77
  go_wp2_with fail
  go_quiet ((first | (go_at_call 84; (with_reducible exact Calls.quiet_of_same ((HG.out _ ((Only.refl [] w).drewN _)).mono fun e w' ⟨a, b⟩ => ⟨a, b.symm⟩))) | (go_at_call 84; (with_reducible exact Calls.quiet_of_same ((HG.out _ (Only.refl [] w)).mono fun e w' ⟨a, b⟩ => ⟨a, b.symm⟩))) | (go_at_call 84; (with_reducible exact Calls.quiet_of_same ((HLN.out _ ((Only.refl [] w).drewN _)).mono fun e w' ⟨a, b⟩ => ⟨a, b.symm⟩))) | (go_at_call 84; (with_reducible exact Calls.quiet_of_same ((HLN.out _ (Only.refl [] w)).mono fun e w' ⟨a, b⟩ => ⟨a, b.symm⟩)))))
  have HE1 := hide (ending_is hcap (HEN.out _ ((Only.refl [] w).drewN nq)))
  have HO1 := hide ((Only.refl [] w).drewN nq)
  generalize w.drewN nq = w1 at *
  have d1 : decide ((sz : Int) ≤ ns.length) = false := decide_eq_false (by omega)
  have d2 : decide ((247 : Int) < ns.length) = false := decide_eq_false (by omega)
  have d3 : decide (sz ≤ ns.length) = false := decide_eq_false (by omega)
  have d4 : decide (247 < ns.length) = false := decide_eq_false (by omega)
  clear HG HLN HEN
  go_wp2_with (go_at_call 78; refine HE1.out.mono ?_; rintro e w' ⟨rfl, rfl⟩)
  obtain ⟨i0, hi, hz0, hz1, hz2⟩ := info_parts info_int
  have hmk : ∀ u : World, (Instr.makeSlice 66 (.int .i64 (ns.length : Int)) (.int .i64 (ns.length : Int))).run Try.prog u =
      .ok (.slice (some ⟨u.heap.size, 0, none⟩) ns.length ns.length) (u.alloc (.cells (madeCells #[.int .i64 0] ns.length) 3)) := fun u => by
    have h := run_make (P := Try.prog) u 66 3 i0 (.int .i64 0) Try.underlying66 hi hz0 .i64 .i64 (ns.length : Int) (ns.length : Int) (by omega) (Int.le_refl _) (by rw [hz2]; omega) (by omega)
    simpa [hz1, Value.cells] using h
  clear hi hz0 hz1 hz2 d1 d2 d3 d4
  go_region
  have HB0 := hide (show Blk (w1.alloc (.cells (madeCells #[.int .i64 0] ns.length) 3)).drew w1.heap.size 3 (i64l (ns.take 0 ++ List.replicate (ns.length - 0) 0) ++ ([] : List Value)).toArray from by
    have e : (i64l (ns.take 0 ++ List.replicate (ns.length - 0) 0) ++ ([] : List Value)).toArray = madeCells #[.int .i64 0] ns.length := by rw [made_int, List.take_zero, List.nil_append, Nat.sub_zero]
    rw [e]
    exact (Blk.new w1 3 (madeCells #[.int .i64 0] ns.length)).drew)
  have HO0 := hide (show Only [] w (w1.alloc (.cells (madeCells #[.int .i64 0] ns.length) 3)).drew from (HO1.out.alloc _).drew)
  have HM := hide (show w.heap.size ≤ w1.heap.size from HO1.out.size)
  generalize (w1.alloc (.cells (madeCells #[.int .i64 0] ns.length) 3)).drew = w2 at *
  generalize w1.heap.size = m at *
  clear hmk
  go_wp2
  go_loopw [46, 14, 15, 16] (fun iv rv _ _ wr => ∃ i : Nat, i ≤ ns.length ∧ iv = .int .i64 i ∧ rv = .slice (some ⟨d, 10 + 2 * i, none⟩) (494 - 2 * i) (c - 10 - 2 * i) ∧ Only [] w wr ∧ Blk wr m 3 (i64l (ns.take i ++ List.replicate (ns.length - i) 0) ++ ([] : List Value)).toArray) (fun iv _ _ _ _ => ns.length - (intOf iv).toNat)
  case atStart => exact ⟨0, Nat.zero_le _, rfl, rfl, HO0.out, HB0.out⟩
  case round =>
    clear HB0 HO0
    obtain ⟨i, hi, rfl, rfl, ho, hb⟩ := hrel
    have HO := hide ho
    have HB := hide hb
    by_cases hlt : i < ns.length
    · have hltI : (i : Int) < ns.length := by omega
      have HG := hide (HNUM.out wr ho i hlt)
      obtain ⟨hx1, hx2, hx3, hx4⟩ := HMEM.out i hlt
      have HI := hide (HBK.out _ hx1 wr)
      have hil : (ns.take i).length = i := by rw [List.length_take]; omega
      have hrow : IRow wr (.slice (some ⟨m, 0, none⟩) i ns.length) (ns.take i) := by
        have h := IRow.of_blk (w := wr) (ns := ns.take i) (b := m) (cap := ns.length) (cur := i64l (List.replicate (ns.length - i) 0)) (by rw [← i64l_append]; have := hb; rw [List.append_nil] at this; exact this) (by rw [hil, i64l_length, List.length_replicate]; omega) (by unfold maxLen; omega)
        rw [hil] at h
        exact h
      have HH := hide (has_no hrow (by rw [hil]; omega) (gb ns i) hx2)
      have hne : ¬ (c - 10 - 2 * i = 2) := by omega
      have hcell := hb.cell i
      rw [i64l_get _ _ _ (by rw [List.length_append, hil, List.length_replicate]; omega)] at hcell
      have hfr := hb.frozen i
      have hset := hb.set_ i (.int .i64 (gb ns i))
      rw [i64l_set, take_rep_set ns i hlt] at hset
      have HSET := hide hset
      have HOS := hide (show Only [] w (wr.setCell ⟨m, i, none⟩ (.int .i64 (gb ns i))) from ho.setCell _ (fun h => by have := HM.out; simp at h; omega))
      have hcap2 : 2 ≤ 494 - 2 * i := by omega
      clear ho hb hrow hset hx1 hx2 hil
      generalize gb ns i = x at *
      generalize gb (List.take i ns ++ List.replicate (ns.length - i) 0) i = ox at *
      go_wp2_with (first | (go_at_call 84; refine HG.out.mono ?_; rintro e w' ⟨rfl, rfl⟩) | (go_at_call 68; refine HI.out.mono ?_; rintro e w' ⟨rfl, rfl⟩) | (go_at_call 85; refine HH.out.mono ?_; rintro e w' ⟨rfl, rfl⟩))
      go_region
      go_wp2
      go_roundw
      case rel =>
        refine ⟨i + 1, hlt, by go_num, ?_, HOS.out.drew, HSET.out.drew⟩
        rw [show 10 + 2 * (i + 1) = 10 + 2 * i + 2 from by omega, show 494 - 2 * (i + 1) = 494 - 2 * i - 2 from by omega, show c - 10 - 2 * (i + 1) = c - 10 - 2 * i - 2 from by omega]
      case measure => simp [intOf]; omega
    · obtain rfl : i = ns.length := by omega
      have HZ2 := hide (HZ.out wr ho)
      have HOZ := hide ho
      have HIR := hide (show IRow wr (.slice (some ⟨m, 0, none⟩) ns.length ns.length) ns from by
        have h := IRow.of_blk (w := wr) (ns := ns) (b := m) (cap := ns.length) (cur := []) (by simpa using hb) (by simp) (by unfold maxLen; omega)
        exact h)
      clear hb ho
      go_wp2_with (go_at_call 86; refine HZ2.out.mono ?_; rintro e w' ⟨rfl, rfl⟩)
      go_ret3
      exact ⟨_, rfl, HIR.out, fun q hq => by simp [Value.ownBlock] at hq; have := HM.out; omega, HOZ.out⟩
end Go.Proofs.Ytokdpldmoflnkaa
/-
  The log (parapet/wlog): what Open's mending needs: a sector read, group.write of a packed log; what is mended, plainly.
-/
namespace Go.Proofs.Ytokdpldmoflnkaa
open Go.ChangeShapes Go.WideShapes Go.ChangeAt Go.RowKit Go.Maps
set_option linter.unusedVariables false
set_option linter.unusedSimpArgs false
section
variable {w w' w1 : World} {g gd N a sz : Nat} {k k' : Nat} {F T : List Nat} {S : Option PG} {p : LP}
theorem lg_sector (h : LgP w g gd N a sz S p k F) (n : Nat) (hn : n < N) (hk : k < 4611686018427000000) : Calls Try.prog 76 #[.pointer (some ⟨g, 0, none⟩), .int .i64 n] w fun e w' => ∃ v, e = .returned v ∧ Fresh w' w.heap.size v (sect p.plat p.l n) ∧ Turned w w' F F ∧ LgP w' g gd N a sz S p (k + 1) F := by
  obtain ⟨v, m, L, SS, rd, wt, fl, FD, h1, h2, h3, h4, h5⟩ := h
  have HK := hide ((dk_read h1.dk n hn (by omega)).mono (R' := fun e w' => ∃ v', e = .returned (.tuple #[v', .int .i64 0]) ∧ Fresh w' w.heap.size v' (sect p.plat p.l n) ∧ Turned w w' F F ∧ LgP w' g gd N a sz S p (k + 1) F) (fun e w' ⟨v', e1, e2, e3, e4⟩ => ⟨v', e1, e2, Turned.same (e3.1.mono (fun q _ hq => h4 q (.inr (.inr hq)))), v, m, L, SS, rd + 1, wt, fl, FD, h1.dkT e3 e4, h2, h3, h4, fun z hz => Nat.lt_of_lt_of_le (h5 z hz) e3.1.size⟩))
  have c0 := h1.c0
  clear h1 h2 h3 h4 h5
  go_enter Try.func76, Try.ntmps76
  go_wp2_with (go_at_call 41; refine HK.out.mono ?_; rintro e w1 ⟨v', rfl, hd⟩; have HD := hide hd; clear hd)
  go_ret
  exact ⟨v', rfl, HD.out⟩
theorem lg_gwrite {w0 : World} {gen : Int} {G : PG} {st nx : Int} {plat : List Int} {l : List (Nat × List Int)} (hT : Only F w0 w) (hF0 : ∀ q ∈ F, q < w0.heap.size) (h : Lg w g gd N a sz gen G S st nx plat l k F) (n : Int) (hn : blkB N a sz n = true) (hf : n ∈ G.map (·.1) ∨ G.length + 1 < sz) (b : Nat) (r : List Value) (zs : List Int) (hx : GB.ok w ⟨n, b, zs, r⟩) (hnew : w0.heap.size ≤ b) :
    Calls Try.prog 51 #[.pointer (some ⟨g, 4, none⟩), .int .i64 n, .slice (some ⟨b, 0, none⟩) 512 (512 + r.length)] w fun e w' => e = .returned (.tuple #[]) ∧ DidLg w0 w' g gd N a sz gen (putG G n zs) S st nx plat l k F := by
  obtain ⟨v, m, L, SS, rd, wt, fl, FD, q, rfl, rfl, h4, h5⟩ := h
  have hbig := q.big
  have hb := blkB_yes.1 hn
  have hw : iW n := WalkArith.wf_i64 (by omega)
  have hsz := hT.size
  have hlen : L.length < 4096 := by have := q.len; omega
  have hFD : ∀ z ∈ FD, z < w0.heap.size := fun z hz => hF0 z (h4 z (.inr (.inr hz)))
  have key : ∀ e w', WroteG w w' e g m v (.pointer (some ⟨gd, 0, none⟩)) (bfV SS) a sz gen st nx L ⟨n, b, zs, r⟩ → (e = .returned (.tuple #[]) ∧ DidLg w0 w' g gd N a sz gen (putG (gvG L) n zs) (SS.map (fun s => gvG s.L)) st nx plat l k F) := by
    rintro e w' ⟨rfl, v', L', k1, k2, k3, k4, k5, k6⟩
    refine ⟨rfl, ?_⟩
    rw [← k3]
    have hgm := q.gr.blk_m q.blk
    have T : ∀ z, z ∈ g :: m :: v.ownBlock.toList → z = g ∨ z = m ∨ v.ownBlock = some z := fun z hz => by simpa [mem_own] using hz
    have TF : ∀ z, z ∈ g :: m :: v.ownBlock.toList → z ∈ footL g v m SS := fun z hz => by
      rcases T z hz with e | e | e
      · exact mem_footL.2 (.inl e)
      · exact mem_footL.2 (.inr (.inl e))
      · exact mem_footL.2 (.inr (.inr (.inl e)))
    have hI : LgI w' g gd N a sz gen v' m L' SS st nx plat l rd wt fl k FD := by
      refine ⟨k1, k2, fun s hs => ?_, q.dk.only k6 (fun z hz hm => q.dis z (.inl (TF z hm)) hz), fun z hz => ?_, q.gen_, q.rng, ⟨?_, fun x hx => ?_⟩, q.oks⟩
      · obtain ⟨j1, j2, j3, j4⟩ := q.sv s hs
        have s1 : s.h ∉ g :: m :: v.ownBlock.toList := fun hm => by
          rcases T _ hm with e | e | e
          · exact j1.ne_ q.blk (by decide) e
          · exact q.gr.blk_m j1 e
          · exact q.gr.blk_v j1 (by decide) _ e rfl
        have s2 : ∀ z, s.v.ownBlock = some z → z ∉ g :: m :: v.ownBlock.toList := fun z hz hm => by
          rcases T _ hm with e | e | e
          · exact j2.blk_v q.blk (by decide) _ hz e
          · obtain ⟨cs, hbq⟩ := irow_blk j2.row hz
            exact q.gr.blk_m hbq e
          · exact j4 z hz e
        have s3 : s.m ∉ g :: m :: v.ownBlock.toList := fun hm => by
          rcases T _ hm with e | e | e
          · exact j2.blk_m q.blk e.symm
          · exact j3 e
          · obtain ⟨cs, hbq⟩ := irow_blk q.gr.row e
            exact j2.blk_m hbq rfl
        refine ⟨j1.only k6 s1, j2.only k6 s2 s3 (fun x hx => fun hm => ?_), j3, fun z hz e => ?_⟩
        · exact q.u8_far (j2.ok x hx).row (TF _ hm)
        · rcases k4 z e with e | e
          · exact j4 z hz e
          · have := j2.ltv hz; omega
      · rcases hz with hz | ⟨x, hx, rfl⟩
        · rcases mem_footL.1 hz with e | e | e | e
          · exact q.dis z (.inl (mem_footL.2 (.inl e)))
          · exact q.dis z (.inl (mem_footL.2 (.inr (.inl e))))
          · rcases k4 z e with e | e
            · exact q.dis z (.inl (mem_footL.2 (.inr (.inr (.inl e)))))
            · intro hm; have := hFD z hm; omega
          · exact q.dis z (.inl (mem_footL.2 (.inr (.inr (.inr e)))))
        · rcases mem_bytesL.1 hx with e | e
          · rcases k5 x e with e | e
            · exact q.dis _ (.inr ⟨x, mem_bytesL.2 (.inl e), rfl⟩)
            · subst e; intro hm; have := hFD b hm; omega
          · exact q.dis _ (.inr ⟨x, mem_bytesL.2 (.inr e), rfl⟩)
      · have hl := congrArg List.length k3
        have hok := q.ok.len
        unfold putG at hl
        split at hl
        · simp [gvG] at hl; omega
        · rename_i hnm
          have : (gvG L).length + 1 < sz := by
            rcases hf with e | e
            · exact absurd e hnm
            · exact e
          simp [gvG] at hl this
          omega
      · rcases k5 x hx with e | e
        · exact q.ok.num x e
        · subst e; exact hn
    refine Lg.mk2 hI (hT.trans (k6.mono (fun z _ hz => h4 z (.inl (TF z hz))))) (fun z hz => ?_) (fun z hz => .inl (h4 z (.inr (.inr hz)))) (fun x hx => ?_)
    · rcases mem_footL.1 hz with e | e | e | e
      · exact .inl (h4 z (.inl (mem_footL.2 (.inl e))))
      · exact .inl (h4 z (.inl (mem_footL.2 (.inr (.inl e)))))
      · rcases k4 z e with e | e
        · exact .inl (h4 z (.inl (mem_footL.2 (.inr (.inr (.inl e))))))
        · exact .inr (Nat.le_trans hT.size e)
      · exact .inl (h4 z (.inl (mem_footL.2 (.inr (.inr (.inr e))))))
    · rcases mem_bytesL.1 hx with e | e
      · rcases k5 x e with e | e
        · exact .inl (h4 _ (.inr (.inl ⟨x, mem_bytesL.2 (.inl e), rfl⟩)))
        · subst e; exact .inr hnew
      · exact .inl (h4 _ (.inr (.inl ⟨x, mem_bytesL.2 (.inr e), rfl⟩)))
  by_cases hm : n ∈ nsG L
  · exact (gwrite_old q.blk q.gr ⟨n, b, zs, r⟩ hx hm hlen).mono key
  · exact (gwrite_new q.blk q.gr ⟨n, b, zs, r⟩ hx hw hm hlen).mono key
end
/-- The group that is laid down when a disk is opened. -/
def openG (a : Nat) (ns : List Int) (plat : List Int) (l : List (Nat × List Int)) (i : Nat) : PG := (List.range i).map fun (j : Nat) => (gb ns j, sect plat l (a + 1 + j))
theorem openG_length (a : Nat) (ns : List Int) (plat : List Int) (l : List (Nat × List Int)) (i : Nat) : (openG a ns plat l i).length = i := by simp [openG]
theorem openG_keys (a : Nat) (ns : List Int) (plat : List Int) (l : List (Nat × List Int)) (i : Nat) (hi : i ≤ ns.length) : (openG a ns plat l i).map (·.1) = ns.take i := by
  refine List.ext_getElem (by simp [openG]; omega) fun j h1 h2 => ?_
  have hj : j < ns.length := by rw [List.length_take] at h2; omega
  simp [openG, gb, List.getD, hj]
theorem openG_put (a : Nat) (ns : List Int) (plat : List Int) (l : List (Nat × List Int)) (i : Nat) (hi : i < ns.length) (hnd : ns.Nodup) : putG (openG a ns plat l i) (gb ns i) (sect plat l (a + 1 + i)) = openG a ns plat l (i + 1) := by
  unfold putG
  rw [openG_keys _ _ _ _ _ (by omega), if_neg (fun ht => ?_)]
  · simp [openG, List.range_succ]
  · rw [show gb ns i = ns[i] from by simp [gb, List.getD, hi]] at ht
    obtain ⟨j, hj, hje⟩ := List.getElem_of_mem ht
    rw [List.getElem_take] at hje
    have hj2 : j < i := by rw [List.length_take] at hj; omega
    have := (List.getElem_inj (h₀ := by omega) (h₁ := hi) hnd).1 hje
    omega
/-- The log as it is before what was committed is laid down. -/
def openP (a : Nat) (gen : Int) (ns : List Int) (plat : List Int) (l : List (Nat × List Int)) : LP := ⟨gen, openG a ns plat l ns.length, if ns = [] then 0 else 5, 0, plat, l⟩
theorem open_runs (a : Nat) (gen : Int) (ns : List Int) (plat : List Int) (l : List (Nat × List Int)) : IdleP (openP a gen ns plat l) ∨ RunsP (openP a gen ns plat l) := by
  by_cases h : ns = []
  · exact .inl ⟨by simp [openP, h], rfl⟩
  · have hl : 0 < ns.length := List.length_pos_iff.2 h
    refine .inr ⟨by simp [openP, h], by simp [openP, h], fun _ => by simp [openP, openG_length]; omega, fun e => ?_, fun _ => by simp [openP, openG_length]; omega⟩
    simp [openP, h, eachP] at e
end Go.Proofs.Ytokdpldmoflnkaa
