/-
  Buffers (parapet/buf): Write, New, Kept; Read and Write over 'Bu'.
-/
import Derived.Test.YtenpifamklnkmaaBuRead2
namespace Go.Proofs.Ytenpifamklnkmaa
open Go.ChangeShapes Go.WideShapes Go.ChangeAt Go.RowKit Go.Maps
set_option linter.unusedVariables false
theorem buWrite_nil (w : World) (n : Int) (A : Option Addr) (a c : Nat) : Calls Try.prog 13 #[.pointer none, .int .i64 n, .slice A a c] w fun e w' => e = .returned (.int .i64 6) ∧ w = w' := by
  go_enter Try.func13, Try.ntmps13
  go_wp2_with (go_at_call 25; refine (buclosed_nil _).mono ?_; rintro e w' ⟨rfl, rfl⟩)
  go_ret
  exact ⟨rfl, rfl⟩

section
variable {w w' w1 : World} {g m gd N room : Nat} {v v' : Value} {LL LL' : List BK} {hi mi ev wr : Int} {plat : List Int} {l : List (Nat × List Int)} {rd wt fl : Int} {k k' : Nat} {FD F S : List Nat} {L : List VB}
theorem write_len (h : BuI w g m gd N room v LL hi mi ev wr plat l rd wt fl k FD) (n : Int) (A : Option Addr) (a c : Nat) (ha : a ≠ 512) : Calls Try.prog 13 #[.pointer (some ⟨g, 0, none⟩), .int .i64 n, .slice A a c] w fun e w' => e = .returned (.int .i64 1) ∧ w = w' := by
  have HC := hide (buclosed_is h.is)
  have hb : ((a : Int) != 512) = true := by simp; omega
  clear h
  go_enter Try.func13, Try.ntmps13
  go_wp2_with (go_at_call 25; refine HC.out.mono ?_; rintro e w' ⟨rfl, rfl⟩)
  go_ret
  exact ⟨rfl, rfl⟩
theorem write_no (h : BuI w g m gd N room v LL hi mi ev wr plat l rd wt fl k FD) {n : Int} (hn : iW n) (A : Option Addr) (c : Nat) (hr : refV N room (LL.map BK.v) n ≠ 0) : Calls Try.prog 13 #[.pointer (some ⟨g, 0, none⟩), .int .i64 n, .slice A 512 c] w fun e w' => e = .returned (.int .i64 (refV N room (LL.map BK.v) n)) ∧ Only [] w w' := by
  have HC := hide (buclosed_is h.is)
  have HR := hide (refuses_is h.is h.dk h.small.1 (clOn h.nd) h.mem n hn)
  rw [ref_v h.nd] at HR
  have hne : (refV N room (LL.map BK.v) n != 0) = true := by simpa using hr
  generalize refV N room (LL.map BK.v) n = r at *
  clear h hr
  go_enter Try.func13, Try.ntmps13
  go_wp2_with (first | (go_at_call 25; refine HC.out.mono ?_; rintro e w' ⟨rfl, rfl⟩) | (go_at_call 29; refine HR.out.mono ?_; rintro e w1 ⟨rfl, ho⟩; have HO := hide ho; clear ho))
  go_ret
  exact ⟨rfl, HO.out⟩
set_option maxRecDepth 100000 in
theorem write_ok (h : BuI w g m gd N room v LL hi mi ev wr plat l rd wt fl k FD) (hF : ∀ q, q ∈ footB g m v ∨ q ∈ FD ∨ (∃ x ∈ LL, x.b = q) → q ∈ F) (hk : k < 4611686018427387000) {n : Int} (hn : iW n) (d o c : Nat) (zs : List Int) (hz : zs.length = 512) (hu : U8 zs) (hc : ∀ i, i < 512 → w.cell? ⟨d, o + i, none⟩ = some (.int .u8 (gb zs i))) (hr : refV N room (LL.map BK.v) n = 0) :
    Calls Try.prog 13 #[.pointer (some ⟨g, 0, none⟩), .int .i64 n, .slice (some ⟨d, o, none⟩) 512 c] w fun e w' => e = .returned (.int .i64 0) ∧ ∃ F', Turned w w' F F' ∧ Bu w' g gd N room plat l (putV room (LL.map BK.v) ⟨n, zs, true⟩) (k + 1) F' := by
  have hrng : 0 ≤ n ∧ n < N := by
    unfold refV at hr
    by_cases h0 : n < 0 ∨ (N : Int) ≤ n
    · rw [if_pos h0] at hr; cases hr
    · omega
  have HC := hide (buclosed_is h.is)
  have HR := hide (refuses_is h.is h.dk h.small.1 (clOn h.nd) h.mem n hn)
  rw [ref_v h.nd, hr] at HR
  have hdl : d < w.heap.size := World.block_lt_of_cell? w _ (hc 0 (by decide))
  have HCL := hide (fun W (hW : Only [] w W) => (clone_ok ⟨d, o, none⟩ 512 c zs W hz (by omega) (fun i hi => by rw [add_at, hW.cell hdl (by simp)]; exact hc i hi)).mono (R' := fun e w1 => ∃ b r, e = .returned (.slice (some ⟨b, 0, none⟩) 512 (512 + r.length)) ∧
      Calls Try.prog 27 #[.pointer (some ⟨g, 0, none⟩), .int .i64 n, .agg #[.slice (some ⟨b, 0, none⟩) 512 (512 + (r : List Value).length), .bool true]] w1 (fun e w' => e = .returned (.tuple #[]) ∧ ∃ F', Turned w w' F F' ∧ Bu w' g gd N room plat l (putV room (LL.map BK.v) ⟨n, zs, true⟩) (k + 1) F'))
    (fun e w1 ⟨vv, he, ⟨b, c', r, hv, hb, hblk, hcc⟩, ho⟩ => by
      have o1 : Only [] w w1 := hW.trans ho
      have h1 := (h.quiet o1).more (Nat.le_succ k)
      have hbF : b ∉ FD := fun e => by have := h.dk.lt b e; have := hW.size; omega
      refine ⟨b, r, by rw [he, hv, hz, ← hcc, hz], (pkeep h1 ⟨n, b, r, zs, true⟩ ⟨hblk, hz, hu, hbF, hrng⟩ hr (by have := h.cnt; omega) (by omega)).mono (fun e w' ⟨he, hKF⟩ => ⟨he, keep_end h hF (o1.mono (by simp)) (.inr (Nat.le_trans hW.size hb)) hKF⟩)⟩))
  clear h hF hr hc hn
  go_enter Try.func13, Try.ntmps13
  go_wp2_with (first | (go_at_call 25; refine HC.out.mono ?_; rintro e w' ⟨rfl, rfl⟩) | (go_at_call 29; refine HR.out.mono ?_; rintro e w1 ⟨rfl, ho⟩; have HO := hide ho; clear ho) | (go_at_call 28; refine (HCL.out _ HO.out).mono ?_; rintro e w2 ⟨b, r, rfl, hK⟩; have HK := hide hK; clear hK) | (go_at_call 27; refine HK.out.mono ?_; rintro e w3 ⟨rfl, hB⟩; have HB := hide hB; clear hB))
  go_ret
  exact ⟨rfl, HB.out⟩

set_option maxRecDepth 100000 in
theorem buNew_ok (hd : Dk w gd N plat l (-1) rd wt fl k FD) {r : Int} (hr : 1 ≤ r ∧ r ≤ 1024) : Calls Try.prog 9 #[.pointer (some ⟨gd, 0, none⟩), .int .i64 r] w fun e w' => ∃ g F, e = .returned (.tuple #[.pointer (some ⟨g, 0, none⟩), .int .i64 0]) ∧ Only [] w w' ∧ Bu w' g gd N r.toNat plat l [] k F ∧ (∀ q ∈ F, q ∈ FD ∨ w.heap.size ≤ q) := by
  have HC := hide (dk_count hd)
  have hN := hd.platOk.2.2
  have hNb : ((N : Int) == 0) = false := by simp only [beq_eq_false_iff_ne]; omega
  have hmm := @run_makeMap Try.prog
  have HD := hide hd
  have HCN := hide hd.counts
  clear hd
  go_enter Try.func9, Try.ntmps9
  go_wp2_with (go_at_call 24; refine HC.out.mono ?_; rintro e w' ⟨rfl, rfl⟩)
  go_ret2
  have hm := heap_alloc_new w (.map #[] 0)
  have ho : Only [] w ((w.alloc (.map #[] 0)).alloc (.cells #[.pointer (some ⟨gd, 0, none⟩), .int .i64 r, .map (some w.heap.size), .slice none 0 0, .int .i64 0, .int .i64 0, .int .i64 0, .int .i64 0] 55)) := ((Only.refl [] w).alloc _).alloc _
  have hb := Blk.new (w.alloc (.map #[] 0)) 55 #[.pointer (some ⟨gd, 0, none⟩), .int .i64 r, .map (some w.heap.size), .slice none 0 0, .int .i64 0, .int .i64 0, .int .i64 0, .int .i64 0]
  rw [show (w.alloc (.map #[] 0)).heap.size = w.heap.size + 1 by simp] at hb
  have hr2 : ((r.toNat : Nat) : Int) = r := by omega
  refine ⟨w.heap.size + 1, footB (w.heap.size + 1) w.heap.size (.slice none 0 0) ++ FD, rfl, ho, ⟨w.heap.size, .slice none 0 0, [], 0, 0, 0, 0, rd, wt, fl, FD, ⟨⟨?_, KRow.nil _ _ _ _, .map [], ?_, MHolds.empty⟩, HD.out.quiet ho, by simp, by simp, by omega, by omega, ?_⟩, rfl, ?_, ?_⟩, ?_⟩
  · rw [hr2]
    exact hb
  · obtain ⟨es, clock, h1, F, hs, hD⟩ := World.ownsMap_made w Try.prog 3 elemB
    rw [hm] at h1
    injection h1 with h1
    injection h1 with e1 e2
    subst e1; subst e2
    exact ⟨#[], 0, ((((Only.refl [] (w.alloc (.map #[] 0))).alloc _).block _ (by simp) (by simp))).trans hm, F, hs, hD⟩
  · intro q hq hm
    have := HD.out.lt q hm
    simp [footB, Value.ownBlock] at hq
    omega
  · intro q hq
    rcases hq with hq | hq | ⟨x, hx, _⟩
    · exact List.mem_append.2 (.inl hq)
    · exact List.mem_append.2 (.inr hq)
    · cases hx
  · intro q hq
    rcases List.mem_append.1 hq with hq | hq
    · simp [footB, Value.ownBlock] at hq ⊢
      omega
    · have := HD.out.lt q hq
      have := ho.size
      omega
  · intro q hq
    rcases List.mem_append.1 hq with hq | hq
    · simp [footB, Value.ownBlock] at hq
      exact .inr (by omega)
    · exact .inl hq

theorem buNew_bad (hd : Dk w gd N plat l (-1) rd wt fl k FD) {r : Int} (hr : ¬ (1 ≤ r ∧ r ≤ 1024)) : Calls Try.prog 9 #[.pointer (some ⟨gd, 0, none⟩), .int .i64 r] w fun e w' => e = .returned (.tuple #[.pointer none, .int .i64 1]) ∧ w = w' := by
  have HC := hide (dk_count hd)
  have hN := hd.platOk.2.2
  have hNb : ((N : Int) == 0) = false := by simp only [beq_eq_false_iff_ne]; omega
  clear hd
  by_cases h1 : r < 1
  · clear hr
    go_enter Try.func9, Try.ntmps9
    go_wp2_with (go_at_call 24; refine HC.out.mono ?_; rintro e w' ⟨rfl, rfl⟩)
    go_ret2
    exact ⟨rfl, rfl⟩
  · have h2 : 1024 < r := by omega
    clear hr
    go_enter Try.func9, Try.ntmps9
    go_wp2_with (go_at_call 24; refine HC.out.mono ?_; rintro e w' ⟨rfl, rfl⟩)
    go_ret2
    exact ⟨rfl, rfl⟩

/-! Over 'Bu'. -/
theorem nsK_of {n : Int} (hL : LL.map BK.v = L) : n ∈ nsK LL ↔ n ∈ keysV L := by rw [← hL, keys_v]

theorem bu_read_kept (h : Bu w g gd N room plat l L k F) (hk : k < 4611686018427387000) {x : VB} (hx : x ∈ L) : Calls Try.prog 10 #[.pointer (some ⟨g, 0, none⟩), .int .i64 x.n] w fun e w' => ReadF w w' e g gd N room plat l (putV room L x) (k + 1) F x.d := by
  obtain ⟨m, v, LL, hi, mi, ev, wr, rd, wt, fl, FD, h1, h2, h3, h4⟩ := h
  subst h2
  obtain ⟨y, hy, rfl⟩ := List.mem_map.1 hx
  exact read_kept h1 h3 hk hy

theorem bu_read_no (h : Bu w g gd N room plat l L k F) {n : Int} (hn : iW n) (hno : n ∉ keysV L) (hr : refV N room L n ≠ 0) : Calls Try.prog 10 #[.pointer (some ⟨g, 0, none⟩), .int .i64 n] w fun e w' => e = .returned (.tuple #[.slice none 0 0, .int .i64 (refV N room L n)]) ∧ Only [] w w' := by
  obtain ⟨m, v, LL, hi, mi, ev, wr, rd, wt, fl, FD, h1, h2, h3, h4⟩ := h
  subst h2
  exact read_no h1 hn (by rw [keys_v] at hno; exact hno) hr

theorem bu_read_new (h : Bu w g gd N room plat l L k F) (hk : k < 4611686018427387000) {n : Nat} (hno : (n : Int) ∉ keysV L) (hr : refV N room L n = 0) : Calls Try.prog 10 #[.pointer (some ⟨g, 0, none⟩), .int .i64 n] w fun e w' => ReadF w w' e g gd N room plat l (putV room L ⟨n, sect plat l n, false⟩) (k + 1) F (sect plat l n) := by
  obtain ⟨m, v, LL, hi, mi, ev, wr, rd, wt, fl, FD, h1, h2, h3, h4⟩ := h
  subst h2
  exact read_new h1 h3 h4 hk (by rw [keys_v] at hno; exact hno) hr

theorem bu_write_len (h : Bu w g gd N room plat l L k F) (n : Int) (A : Option Addr) (a c : Nat) (ha : a ≠ 512) : Calls Try.prog 13 #[.pointer (some ⟨g, 0, none⟩), .int .i64 n, .slice A a c] w fun e w' => e = .returned (.int .i64 1) ∧ w = w' := by
  obtain ⟨m, v, LL, hi, mi, ev, wr, rd, wt, fl, FD, h1, h2, h3, h4⟩ := h
  exact write_len h1 n A a c ha

theorem bu_write_no (h : Bu w g gd N room plat l L k F) {n : Int} (hn : iW n) (A : Option Addr) (c : Nat) (hr : refV N room L n ≠ 0) : Calls Try.prog 13 #[.pointer (some ⟨g, 0, none⟩), .int .i64 n, .slice A 512 c] w fun e w' => e = .returned (.int .i64 (refV N room L n)) ∧ Only [] w w' := by
  obtain ⟨m, v, LL, hi, mi, ev, wr, rd, wt, fl, FD, h1, h2, h3, h4⟩ := h
  subst h2
  exact write_no h1 hn A c hr

theorem bu_write_ok (h : Bu w g gd N room plat l L k F) (hk : k < 4611686018427387000) {n : Int} (hn : iW n) (d o c : Nat) (zs : List Int) (hz : zs.length = 512) (hu : U8 zs) (hc : ∀ i, i < 512 → w.cell? ⟨d, o + i, none⟩ = some (.int .u8 (gb zs i))) (hr : refV N room L n = 0) :
    Calls Try.prog 13 #[.pointer (some ⟨g, 0, none⟩), .int .i64 n, .slice (some ⟨d, o, none⟩) 512 c] w fun e w' => e = .returned (.int .i64 0) ∧ ∃ F', Turned w w' F F' ∧ Bu w' g gd N room plat l (putV room L ⟨n, zs, true⟩) (k + 1) F' := by
  obtain ⟨m, v, LL, hi, mi, ev, wr, rd, wt, fl, FD, h1, h2, h3, h4⟩ := h
  subst h2
  exact write_ok h1 h3 hk hn d o c zs hz hu hc hr

theorem bu_kept (h : Bu w g gd N room plat l L k F) : Calls Try.prog 20 #[.pointer (some ⟨g, 0, none⟩)] w fun e w' => ∃ v', e = .returned v' ∧ IRow w' v' (keysV L) ∧ (∀ q, v'.ownBlock = some q → w.heap.size ≤ q) ∧ Only [] w w' := by
  obtain ⟨m, v, LL, hi, mi, ev, wr, rd, wt, fl, FD, h1, h2, h3, h4⟩ := h
  subst h2
  rw [keys_v]
  exact buKept_is h1.is h1.small.1
end
end Go.Proofs.Ytenpifamklnkmaa
