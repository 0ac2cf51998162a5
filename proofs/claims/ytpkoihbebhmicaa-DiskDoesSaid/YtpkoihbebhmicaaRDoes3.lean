/-
  The law's does over the pair of both disks: Read.
-/
import Derived.Test.YtpkoihbebhmicaaRDoes2
namespace Go.Proofs.Ytpkoihbebhmicaa
open Go.ChangeShapes Go.WideShapes Go.ChangeAt Go.RowKit
set_option linter.unusedVariables false

section
variable {w0 w : World} {g gr N k : Nat} (h : Pr w0 w g gr N k)
include h

theorem Pr.young {B : Nat} (hB : w.heap.size ≤ B) {w1 w2 : World} (h1 : Only [] w w1) (h2 : Only [B] w1 w2) : Pr w0 w2 g gr N k := by
  obtain ⟨plat, l, left, left', stops, rd, wt, fl, F, G, hd, hr, hl, hFG, hF, hG, h0⟩ := h
  have b1 : ∀ q ∈ F, q ∉ [B] := fun q hm => by have := hd.lt q hm; simp; omega
  have b2 : ∀ q ∈ G, q ∉ [B] := fun q hm => by have := hr.lt q hm; simp; omega
  have := h0.size
  have := h1.size
  exact ⟨plat, l, left, left', stops, rd, wt, fl, F, G, (hd.quiet h1).only h2 b1, (hr.quiet h1).only h2 b2, hl, hFG, hF, hG, (h0.trans h1).trans' h2 (fun q hq hm => by simp at hm; omega)⟩

/-- Read of both, one behind the other. -/
theorem pr_read (n : Nat) (hn : n < N) (hk : k < 4398046511000) (wa : World) (ha : Only [] w wa) (B : Nat) (tB : TypeId) (cs : Array Value) (hb : Blk wa B tB cs) (hB : w.heap.size ≤ B) :
    ∃ xs : List Int, xs.length = 512 ∧ U8 xs ∧ Calls Try.prog 16 #[.pointer (some ⟨g, 0, none⟩), .int .i64 n] wa fun e w1 => ∃ v, e = .returned (.tuple #[v, .int .i64 0]) ∧ Fresh w1 wa.heap.size v xs ∧ Blk w1 B tB cs ∧
      Calls Try.prog 29 #[.pointer (some ⟨gr, 0, none⟩), .int .i64 n] w1 fun e w2 => ∃ v', e = .returned (.tuple #[v', .int .i64 0]) ∧ Fresh w2 w1.heap.size v' xs ∧ Fresh w2 wa.heap.size v xs ∧ ∀ S w3, (∀ q ∈ S, wa.heap.size ≤ q) → Only S w2 w3 → Pr w0 w3 g gr N (k + 1) := by
  obtain ⟨plat, l, left, left', stops, rd, wt, fl, F, G, hd, hr, hl, hFG, hF, hG, h0⟩ := h
  have b1 : B ∉ F := fun hm => by have := hd.lt B hm; omega
  have b2 : B ∉ G := fun hm => by have := hr.lt B hm; omega
  obtain ⟨s1, s2⟩ := hd.secOk hn
  have hc := hd.counts
  refine ⟨sect plat l n, s1, s2, ?_⟩
  refine (dk_read (hd.quiet ha) n hn (by omega)).mono ?_
  rintro e w1 ⟨v, he, hf, t1, hd1⟩
  refine ⟨v, he, hf, hb.only t1.1 b1, ?_⟩
  have hr1 := (hr.quiet ha).only t1.1 (fun x hx hx' => hFG x hx' hx)
  refine (rk_read hr1 n hn hc.1.1 (by omega)).mono ?_
  rintro e w2 ⟨v', he', hf', t2, hr2⟩
  obtain ⟨a1, a2, a3, a4, a5, a6⟩ := pr_turn t1 t2 (hd.quiet ha).lt (hr.quiet ha).lt hd1.lt hFG hF hG (h0.trans ha)
  refine ⟨v', he', hf', ?_, fun S w3 hS ho3 => ⟨plat, l, _, _, _, _, _, _, F, G, (hd1.only t2.1 a2).only ho3 (fun q hq hm => ?_), hr2.only ho3 (fun q hq hm => ?_), hl, a3, a4, a5, a6.trans' ho3 (fun q hq hm => ?_)⟩⟩
  · obtain ⟨d, c, r, e, hB2, hbk, hl2⟩ := hf
    refine ⟨d, c, r, e, hB2, hbk.only t2.1 (fun hm => ?_), hl2⟩
    have := hr.lt d hm
    have := ha.size
    omega
  · have := (hd.quiet ha).lt q hq; have := hS q hm; omega
  · have := (hr.quiet ha).lt q hq; have := hS q hm; omega
  · have := hS q hm; have := h0.size; have := ha.size; omega

set_option maxRecDepth 100000 in
set_option maxHeartbeats 1000000 in
theorem does_read (m b x : Int) (K : Option Addr) (kn kc : Nat) (hk : k < 4398046511000) :
    Calls Try.prog 13 #[.pointer (some ⟨g, 0, none⟩), .pointer (some ⟨gr, 0, none⟩), opV 1 m b x K kn kc] w fun e w' => e = .returned (.bool true) ∧ Pr w0 w' g gr N (k + 1) := by
  have HH := hide h
  have HB := hide (Blk.new w 33 (opC 1 m b x K kn kc))
  by_cases hm : m < 0 ∨ N ≤ m
  · obtain ⟨plat, l, left, left', stops, rd, wt, fl, F, G, hd, hr, _⟩ := h
    have HD := hide (dk_read_bad (hd.quiet ((Only.refl [] w).alloc (.cells (opC 1 m b x K kn kc) 33))) m hm)
    have HR := hide (rk_read_bad (hr.quiet ((Only.refl [] w).alloc (.cells (opC 1 m b x K kn kc) 33))) m hm)
    have hq : ∀ W : World, (convert 37 9 (.slice none 0 0)).run Try.prog W = .ok (.string (strB [])) W := fun W => conv_bytes W _ _ _ [] ⟨rfl, by omega⟩ (by simp) (by simp [U8])
    clear hd hr hm
    go_enter Try.func13, Try.ntmps13
    go_wp2_with (first | (go_at_call 16; refine HD.out.mono ?_; rintro e w' ⟨rfl, rfl⟩) | (go_at_call 29; refine HR.out.mono ?_; rintro e w' ⟨rfl, rfl⟩))
    clear hq
    go_loopw [85] (fun i wr => i = .int .i64 0 ∧ Only [] w wr) (fun i _ => 0)
    case atStart => exact ⟨rfl, (Only.refl [] w).alloc _⟩
    case round =>
      obtain ⟨rfl, ho⟩ := hrel
      have HO := hide ho
      clear ho
      go_wp2
      go_ret
      exact ⟨by first | rfl | simp, (HH.out.quiet HO.out).more (Nat.le_succ k)⟩
  · obtain ⟨n, rfl⟩ := Int.eq_ofNat_of_zero_le (show 0 ≤ m by omega)
    obtain ⟨xs, hxl, hxu, hrd⟩ := pr_read h n (by omega) hk (w.alloc (.cells (opC 1 n b x K kn kc) 33)) ((Only.refl [] w).alloc _) w.heap.size 33 (opC 1 n b x K kn kc) (Blk.new _ _ _) (Nat.le_refl _)
    have HRD := hide hrd
    have HX := hide (And.intro hxl hxu)
    clear hrd hm h hxu
    go_enter Try.func13, Try.ntmps13
    go_wp2_with (go_at_call 16; refine HRD.out.mono ?_; rintro e w1 ⟨v, rfl, hf, hb1, hn1⟩; have c1 : w1.cell? ⟨w.heap.size, 1, none⟩ = some (.int .i64 n) := (hb1.cell 1).trans rfl; have HN1 := hide hn1; clear hb1 hn1)
    refine HN1.out.mono ?_
    rintro e w2 ⟨v', rfl, hf', hf2, hp⟩
    obtain ⟨d', c', r', rfl, hB', hbk', hcl'⟩ := hf'
    obtain ⟨d, c, r, rfl, hB, hbk, hcl⟩ := hf2
    have HPR := hide hp
    have HBK := hide hbk
    have HD := hide (show d < w2.heap.size from hbk.lt)
    have HDW := hide (show w.heap.size + 1 ≤ d by simpa using hB)
    rw [hxl]
    have hq1 : (convert 37 9 (.slice (some ⟨d, 0, none⟩) 512 c)).run Try.prog w2 = .ok (.string (strB xs)) w2 :=
      conv_bytes w2 _ _ _ xs ⟨hxl, fun _ => ⟨d, 0, rfl, hbk.lt, fun i hi => by rw [Nat.zero_add, hbk.cell]; exact u8l_get _ _ i (by omega)⟩⟩ (by simp) HX.out.2
    have hq2 : (convert 37 9 (.slice (some ⟨d', 0, none⟩) 512 c')).run Try.prog w2 = .ok (.string (strB xs)) w2 :=
      conv_bytes w2 _ _ _ xs ⟨hxl, fun _ => ⟨d', 0, rfl, hbk'.lt, fun i hi => by rw [Nat.zero_add, hbk'.cell]; exact u8l_get _ _ i (by omega)⟩⟩ (by simp) HX.out.2
    clear hp hbk hbk' hf hcl hcl' hB hB'
    go_wp2_with fail
    clear hq1 hq2 c1
    go_loopw [85] (fun i wr => ∃ j : Nat, j ≤ 512 ∧ i = .int .i64 j ∧ Only [d] w2 wr ∧ ∃ zs : List Int, zs.length = 512 ∧ Blk wr d 5 (u8l zs ++ r).toArray) (fun i _ => 512 - (intOf i).toNat)
    case atStart => exact ⟨0, Nat.zero_le _, rfl, Only.refl _ _, xs, hxl, HBK.out⟩
    case round =>
      obtain ⟨j, hj, rfl, ho, zs, hzl, hbk⟩ := hrel
      have HO := hide ho
      have HBj := hide hbk
      have HZL := hide hzl
      by_cases hlt : j < 512
      · have hck : wr.cell? ⟨d, j, none⟩ = some (.int .u8 (gb zs j)) := by
          rw [hbk.cell]
          exact u8l_get _ _ j (by omega)
        have hfk := hbk.frozen j
        have hk2 : (j : Int) < 512 := by omega
        clear hbk ho hzl
        generalize gb zs j = y at hck
        go_wp2
        go_roundw
        case rel => exact ⟨j + 1, hlt, by go_num, HO.out.setCell _ (by simp), _, (List.length_set ..).trans HZL.out, HBj.out.setu_ (by rw [HZL.out]; exact hlt) _⟩
        case measure => simp [intOf]; omega
      · clear hbk ho
        go_wp2
        go_ret
        exact ⟨rfl, HPR.out [d] _ (by have := HDW.out; simp; omega) HO.out⟩
end
end Go.Proofs.Ytpkoihbebhmicaa
