/-
  Buffers (parapet/buf): Forget, Dirty; Back, Forget, Dirty over 'Bu'.
-/
import Derived.Test.YtenpifamklnkmaaBuBack
namespace Go.Proofs.Ytenpifamklnkmaa
open Go.ChangeShapes Go.WideShapes Go.ChangeAt Go.RowKit Go.Maps
set_option linter.unusedVariables false

/-- The dirty ones. -/
def dirtV (L : List VB) : List VB := L.filter fun x => x.y
theorem filter_ns {LL : List BK} (hn : (nsK LL).Nodup) : (nsK LL).filter (fun t => !clK LL t) = nsK (LL.filter fun x => x.y) := by
  unfold nsK
  rw [List.filter_map]
  congr 1
  refine List.filter_congr fun x hx => ?_
  show (!clK LL x.n) = x.y
  rw [clK_at hn hx]
  simp
theorem filter_pr {LL : List BK} : (prK LL).filter (fun p => p.2.2) = prK (LL.filter fun x => x.y) := by
  unfold prK
  rw [List.filter_map]
  rfl
theorem filter_v {LL : List BK} : (LL.filter fun x => x.y).map BK.v = dirtV (LL.map BK.v) := by
  unfold dirtV
  rw [List.filter_map]
  rfl
section
variable {w w' w1 : World} {g m gd N room : Nat} {v v' : Value} {LL LL' : List BK} {hi mi ev wr : Int} {plat : List Int} {l : List (Nat × List Int)} {rd wt fl : Int} {k k' : Nat} {FD F S : List Nat} {L : List VB}
theorem BuI.vblk (h : BuI w g m gd N room v LL hi mi ev wr plat l rd wt fl k FD) : ∀ q, v.ownBlock = some q → q ≠ g ∧ q ≠ m := fun q hq => ⟨h.is.vg hq, h.is.vm hq⟩
set_option maxRecDepth 100000 in
set_option maxHeartbeats 1500000 in
theorem forget_is (h : BuI w g m gd N room v LL hi mi ev wr plat l rd wt fl k FD) (hF : ∀ q, q ∈ footB g m v ∨ q ∈ FD ∨ (∃ x ∈ LL, x.b = q) → q ∈ F) :
    Calls Try.prog 15 #[.pointer (some ⟨g, 0, none⟩)] w fun e w' => e = .returned (.int .i64 ((LL.length : Int) - (dirtV (LL.map BK.v)).length)) ∧ ∃ F', Turned w w' F F' ∧ Bu w' g gd N room plat l (dirtV (LL.map BK.v)) k F' := by
  have HC := hide (buclosed_is h.is)
  have c3 := h.is.c3
  have hlen := h.len
  have hrm := h.rm
  have hfl : (LL.filter fun x => x.y).length ≤ LL.length := List.length_filter_le _ _
  have hL1 : (LL.length : Int) ≤ 1024 := by omega
  have hL2 : ((LL.filter fun x => x.y).length : Int) ≤ LL.length := by omega
  have HLE := hide (show (dirtV (LL.map BK.v)).length = (LL.filter fun x => x.y).length by rw [← filter_v, List.length_map])
  have HD := hide ((delCl_is h.is h.is.row h.small.1 (clOn h.nd) h.vblk).mono (R' := fun e w5 => ∃ A c, e = .returned (.slice A (LL.filter fun x => x.y).length c) ∧ w5.cell? ⟨g, 3, none⟩ = some v ∧ w5.frozen? ⟨g, 3, none⟩ = false ∧ (w5.setCell ⟨g, 3, none⟩ (.slice A (LL.filter fun x => x.y).length c)).cell? ⟨g, 2, none⟩ = some (.map (some m)) ∧ w5.cell? ⟨g, 2, none⟩ = some (.map (some m)) ∧
      Calls Try.prog 33 #[.map (some m), .func (.func 34) #[] #[]] (w5.setCell ⟨g, 3, none⟩ (.slice A (LL.filter fun x => x.y).length c)) (fun e w7 => e = .returned (.tuple #[]) ∧ w7.cell? ⟨g, 3, none⟩ = some (.slice A (LL.filter fun x => x.y).length c) ∧ ∃ F', Turned w w7 F F' ∧ Bu w7 g gd N room plat l (dirtV (LL.map BK.v)) k F'))
    (fun e w5 ⟨v', he, hr, hown, ho⟩ => by
      rw [filter_ns h.nd] at hr
      obtain ⟨A, c, rfl, -⟩ := hr.form2
      have hg5 := h.is.blk.only ho (fun e => h.is.vg (mem_own.1 e) rfl)
      obtain ⟨p1, p2⟩ := h.is.putN ho hr
      have hlk : (nsK (LL.filter fun x => x.y)).length = (LL.filter fun x => x.y).length := by simp [nsK]
      rw [hlk] at he p1 p2 hown
      refine ⟨A, c, he, hg5.cell 3, hg5.frozen 3, p1.c2, hg5.cell 2, (mdel_is p1).mono (fun e w7 ⟨he7, hI, ho7⟩ => ⟨he7, hI.c3, ?_⟩)⟩
      rw [filter_pr] at hI
      have hfm : m ∈ footB g m v := mem_footB.2 (.inr (.inl rfl))
      have hD : DidV w w7 g m v (.slice A (LL.filter fun x => x.y).length c) := ⟨p2.trans (ho7.mono (fun q _ hq => by simp at hq; subst hq; exact hfm)), fun q hq => .inl (by rw [← hown]; exact hq)⟩
      have hB := h.turn (Nat.le_refl k) hI hD (fun x hx => ((h.ok x (List.mem_filter.1 hx).1).only hD.1 (h.u8_far (h.ok x (List.mem_filter.1 hx).1).row))) (by omega) h.cnt
      have := Bu.mk2 (F := F) hB (hD.1.mono (fun q _ hq => hF q (.inl hq))) (fun q hq => by
        rcases mem_footB.1 hq with rfl | rfl | e
        · exact .inl (hF _ (.inl (mem_footB.2 (.inl rfl))))
        · exact .inl (hF _ (.inl hfm))
        · exact (hD.2 q e).imp (fun e => hF q (.inl (mem_footB.2 (.inr (.inr e))))) id) (fun q hq => .inl (hF q (.inr (.inl hq)))) (fun x hx => .inl (hF _ (.inr (.inr ⟨x, (List.mem_filter.1 hx).1, rfl⟩))))
      rw [filter_v] at this
      exact this))
  obtain ⟨A0, c0, hv, -⟩ := h.is.row.form2
  rw [show (nsK LL).length = LL.length by simp [nsK]] at hv
  subst hv
  clear h hF hlen hfl
  go_enter Try.func15, Try.ntmps15
  go_wp2_with (first | (go_at_call 25; refine HC.out.mono ?_; rintro e w' ⟨rfl, rfl⟩) | (go_at_call 31; refine HD.out.mono ?_; rintro e w5 ⟨A, c, rfl, q1, q2, q3, q4, q5⟩; have HM := hide q5; clear q5) | (go_at_call 33; refine HM.out.mono ?_; rintro e w7 ⟨rfl, q6, q7⟩; have HB := hide q7; clear q7))
  go_ret
  exact ⟨by rw [HLE.out]; rfl, HB.out⟩
set_option maxRecDepth 100000 in
theorem dirty_is (h : BuI w g m gd N room v LL hi mi ev wr plat l rd wt fl k FD) :
    Calls Try.prog 16 #[.pointer (some ⟨g, 0, none⟩)] w fun e w' => ∃ v', e = .returned v' ∧ IRow w' v' (sortK (keysV (dirtV (LL.map BK.v)))) ∧ (∀ q, v'.ownBlock = some q → w.heap.size ≤ q) ∧ Only [] w w' := by
  have HC := hide (buclosed_is h.is)
  have HK := hide ((buKept_is h.is h.small.1).mono (R' := fun e w1 => ∃ v1, e = .returned v1 ∧ Calls Try.prog 31 #[v1, .func (.func 32) #[.pointer (some ⟨g, 0, none⟩)] #[]] w1 (fun e w2 => ∃ v2, e = .returned v2 ∧ Calls Try.prog 35 #[v2] w2 (fun e w3 => e = .returned (.tuple #[]) ∧ IRow w3 v2 (sortK (keysV (dirtV (LL.map BK.v)))) ∧ (∀ q, v2.ownBlock = some q → w.heap.size ≤ q) ∧ Only [] w w3)))
    (fun e w1 ⟨v1, he, hr, hb, ho⟩ => by
      have h1 := h.quiet ho
      refine ⟨v1, he, (delCl_is h1.is hr h.small.1 (clOn h.nd) (fun q hq => ⟨fun e => by have := hb q hq; have := h.is.ltg; omega, fun e => by have := hb q hq; have := h.is.ltm; omega⟩)).mono (fun e w2 ⟨v2, he2, hr2, hown, ho2⟩ => ?_)⟩
      rw [filter_ns h.nd] at hr2
      have hl2 : (nsK (LL.filter fun x => x.y)).length ≤ 1024 := by
        have h1 := h.len
        have h2 := h.rm
        have h3 : (LL.filter fun x => x.y).length ≤ LL.length := List.length_filter_le _ _
        simp only [nsK, List.length_map]
        omega
      refine ⟨v2, he2, (sort_k (B := 0) hr2 (by omega)).mono (fun e w3 ⟨he3, hr3, ho3⟩ => ⟨he3, ?_, fun q hq => hb q (by rw [← hown]; exact hq), ?_⟩)⟩
      · rw [← filter_v, keys_v]
        exact hr3
      · refine (ho.trans' ho2 (fun q hq hm => ?_)).trans' ho3 (fun q hq hm => ?_)
        · have := hb q (mem_own.1 hm); omega
        · rw [hown] at hm
          have := hb q (mem_own.1 hm); omega))
  clear h
  go_enter Try.func16, Try.ntmps16
  go_wp2_with (first | (go_at_call 25; refine HC.out.mono ?_; rintro e w' ⟨rfl, rfl⟩) | (go_at_call 20; refine HK.out.mono ?_; rintro e w1 ⟨v1, rfl, q1⟩; have HD := hide q1; clear q1) | (go_at_call 31; refine HD.out.mono ?_; rintro e w2 ⟨v2, rfl, q2⟩; have HS := hide q2; clear q2) | (go_at_call 35; refine HS.out.mono ?_; rintro e w3 ⟨rfl, q3, q4, q5⟩; have HR := hide q3; have HB := hide q4; have HO := hide q5; clear q3 q4 q5))
  go_ret
  exact ⟨v2, rfl, HR.out, HB.out, HO.out⟩

theorem bu_back_no (h : Bu w g gd N room plat l L k F) {n : Int} (hn : iW n) (hno : ∀ x ∈ L, x.n = n → x.y = false) : Calls Try.prog 14 #[.pointer (some ⟨g, 0, none⟩), .int .i64 n] w fun e w' => e = .returned (.tuple #[.bool false, .int .i64 0]) ∧ Only [] w w' := by
  obtain ⟨m, v, LL, hi, mi, ev, wr, rd, wt, fl, FD, h1, h2, h3, h4⟩ := h
  subst h2
  exact back_no h1 hn (fun x hx e => hno x.v (List.mem_map.2 ⟨x, hx, rfl⟩) e)

theorem bu_back_yes (h : Bu w g gd N room plat l L k F) (hk : k < 4398046511000) {x : VB} (hx : x ∈ L) (hy : x.y = true) : Calls Try.prog 14 #[.pointer (some ⟨g, 0, none⟩), .int .i64 x.n] w fun e w' => e = .returned (.tuple #[.bool true, .int .i64 0]) ∧ BackF w w' g gd N room plat l L k F x := by
  obtain ⟨m, v, LL, hi, mi, ev, wr, rd, wt, fl, FD, h1, h2, h3, h4⟩ := h
  subst h2
  obtain ⟨y, hy', rfl⟩ := List.mem_map.1 hx
  exact back_yes h1 h3 hk hy' hy

theorem bu_forget (h : Bu w g gd N room plat l L k F) : Calls Try.prog 15 #[.pointer (some ⟨g, 0, none⟩)] w fun e w' => e = .returned (.int .i64 ((L.length : Int) - (dirtV L).length)) ∧ ∃ F', Turned w w' F F' ∧ Bu w' g gd N room plat l (dirtV L) k F' := by
  obtain ⟨m, v, LL, hi, mi, ev, wr, rd, wt, fl, FD, h1, h2, h3, h4⟩ := h
  subst h2
  rw [List.length_map]
  exact forget_is h1 h3

theorem bu_dirty (h : Bu w g gd N room plat l L k F) : Calls Try.prog 16 #[.pointer (some ⟨g, 0, none⟩)] w fun e w' => ∃ v', e = .returned v' ∧ IRow w' v' (sortK (keysV (dirtV L))) ∧ (∀ q, v'.ownBlock = some q → w.heap.size ≤ q) ∧ Only [] w w' := by
  obtain ⟨m, v, LL, hi, mi, ev, wr, rd, wt, fl, FD, h1, h2, h3, h4⟩ := h
  subst h2
  exact dirty_is h1
end
end Go.Proofs.Ytenpifamklnkmaa
