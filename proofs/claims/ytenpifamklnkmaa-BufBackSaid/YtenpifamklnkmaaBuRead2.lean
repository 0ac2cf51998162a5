/-
  Buffers (parapet/buf): Read of a block that is not kept; Write.
-/
import Derived.Test.YtenpifamklnkmaaBuRead
namespace Go.Proofs.Ytenpifamklnkmaa
open Go.ChangeShapes Go.WideShapes Go.ChangeAt Go.RowKit Go.Maps
set_option linter.unusedVariables false
section
variable {w w' w1 : World} {g m gd N room : Nat} {v v' : Value} {LL LL' : List BK} {hi mi ev wr : Int} {plat : List Int} {l : List (Nat × List Int)} {rd wt fl : Int} {k k' : Nat} {FD F S : List Nat} {L : List VB}
theorem BuI.noLook (h : BuI w g m gd N room v LL hi mi ev wr plat l rd wt fl k FD) {n : Int} (hn : iW n) (hno : n ∉ nsK LL) : (Instr.lookup 53 (.map (some m)) (.int .i64 n) true).run Try.prog w = .ok (.tuple #[.agg #[.slice none 0 0, .bool false], .bool false]) w := by
  obtain ⟨D, k1, k2⟩ := h.is.own
  exact lookB_nok k2 k1 hn (by rw [keys_pr]; exact hno)
set_option maxRecDepth 100000 in
set_option maxHeartbeats 1500000 in
theorem read_no (h : BuI w g m gd N room v LL hi mi ev wr plat l rd wt fl k FD) {n : Int} (hn : iW n) (hno : n ∉ nsK LL) (hr : refV N room (LL.map BK.v) n ≠ 0) :
    Calls Try.prog 10 #[.pointer (some ⟨g, 0, none⟩), .int .i64 n] w fun e w' => e = .returned (.tuple #[.slice none 0 0, .int .i64 (refV N room (LL.map BK.v) n)]) ∧ Only [] w w' := by
  have HC := hide (buclosed_is h.is)
  have c2 := h.is.c2
  have hl := h.noLook hn hno
  have hA : Only [] w (w.alloc (.cells #[.slice none 0 0, .bool false] 57)) := (Only.refl [] w).alloc _
  have hq := Blk.new w 57 #[.slice none 0 0, .bool false]
  have h1 := h.quiet hA
  rw [← ref_v h.nd] at hr ⊢
  have HFE := hide ((bufetch_no h1.is h1.dk h.small.1 (clOn h.nd) h.mem n hn hr).mono (R' := fun e w' => e = .returned (.tuple #[.agg #[.slice none 0 0, .bool false], .int .i64 (refE N room (nsK LL) (clK LL) n)]) ∧ Only [] w w' ∧ Blk w' w.heap.size 57 #[.slice none 0 0, .bool false]) (fun e w' ⟨a, b⟩ => ⟨a, hA.trans b, hq.only b (by simp)⟩))
  have hne : (refE N room (nsK LL) (clK LL) n != 0) = true := by simpa using hr
  generalize refE N room (nsK LL) (clK LL) n = r at *
  clear h h1 hA hq hno hr hn
  go_enter Try.func10, Try.ntmps10
  go_wp2_with (first | (go_at_call 25; refine HC.out.mono ?_; rintro e w' ⟨rfl, rfl⟩) | (go_at_call 26; refine HFE.out.mono ?_; rintro e w1 ⟨rfl, ho, hb⟩; have f0 := hb.frozen 0; have f1 := hb.frozen 1; have b0 := hb.cell 0; have b1 := hb.cell 1; have HO := hide ho; clear ho hb))
  go_ret2
  exact ⟨rfl, (HO.out.setCell _ (by simp)).setCell _ (by simp)⟩
set_option maxRecDepth 100000 in
set_option maxHeartbeats 1500000 in
theorem read_new (h : BuI w g m gd N room v LL hi mi ev wr plat l rd wt fl k FD) (hF : ∀ q, q ∈ footB g m v ∨ q ∈ FD ∨ (∃ x ∈ LL, x.b = q) → q ∈ F) (hFl : ∀ q ∈ F, q < w.heap.size) (hk : k < 4611686018427387000) {n : Nat} (hno : (n : Int) ∉ nsK LL) (hr : refV N room (LL.map BK.v) n = 0) :
    Calls Try.prog 10 #[.pointer (some ⟨g, 0, none⟩), .int .i64 n] w fun e w' => ReadF w w' e g gd N room plat l (putV room (LL.map BK.v) ⟨n, sect plat l n, false⟩) (k + 1) F (sect plat l n) := by
  have hnN : n < N := by
    unfold refV at hr
    by_cases h0 : (n : Int) < 0 ∨ (N : Int) ≤ n
    · rw [if_pos h0] at hr; cases hr
    · omega
  have hN := h.big
  have hn : iW n := WalkArith.wf_i64 (by omega)
  have HC := hide (buclosed_is h.is)
  have c2 := h.is.c2
  have hl := h.noLook hn hno
  have hA : Only [] w (w.alloc (.cells #[.slice none 0 0, .bool false] 57)) := (Only.refl [] w).alloc _
  have hq := Blk.new w 57 #[.slice none 0 0, .bool false]
  have h1 := h.quiet hA
  have hcn := h.cnt
  have hr2 := hr
  rw [← ref_v h.nd] at hr2
  have HFE := hide ((bufetch_ok h1.is h1.dk h.dis h.small.1 (clOn h.nd) h.mem n hnN hr2 (by omega) hcn.2.1.1 (by omega)).mono (R' := fun e w1 => ∃ d r, e = .returned (.tuple #[.agg #[.slice (some ⟨d, 0, none⟩) 512 (512 + r.length), .bool false], .int .i64 0]) ∧ Blk w1 w.heap.size 57 #[.slice none 0 0, .bool false] ∧
      ∀ w2, Only [w.heap.size] w1 w2 → Calls Try.prog 27 #[.pointer (some ⟨g, 0, none⟩), .int .i64 n, .agg #[.slice (some ⟨d, 0, none⟩) 512 (512 + r.length), .bool false]] w2 (fun e w3 => e = .returned (.tuple #[]) ∧ (∀ u, w2.cell? ⟨w.heap.size, 0, none⟩ = some u → w3.cell? ⟨w.heap.size, 0, none⟩ = some u) ∧ BK.ok w3 N FD ⟨n, d, r, sect plat l n, false⟩ ∧ w.heap.size ≤ w3.heap.size ∧
        ∃ F', Turned w w3 F F' ∧ Bu w3 g gd N room plat l (putV room (LL.map BK.v) ⟨n, sect plat l n, false⟩) (k + 1) F'))
    (fun e w1 ⟨d, r, he, hNB, hI, hD, hO⟩ => by
      have hgf : ∀ q, q ∈ g :: FD → q < w.heap.size := fun q hq => by
        rcases List.mem_cons.1 hq with rfl | hq
        · exact h.is.ltg
        · exact h.dk.lt q hq
      have hq1 := hq.only hO (fun e => by have := hgf _ e; omega)
      refine ⟨d, r, he, hq1, fun w2 ho2 => ?_⟩
      have hdF : d ∉ FD := fun e => by have := h.dk.lt d e; have := hNB.1; simp at this; omega
      have hI2 := hI.only ho2 (fun q hq hm => by simp at hm; subst hm; have := h.is.foot_lt hq; omega)
      have hD2 := hD.only ho2 (fun q hq hm => by simp at hm; subst hm; have := h.dk.lt _ hq; omega)
      have hok : BK.ok w2 N FD ⟨n, d, r, sect plat l n, false⟩ := ⟨hNB.2.1.only ho2 (by simpa using hNB.2.1.ne_ hq1 (by decide)), hNB.2.2.1, hNB.2.2.2, hdF, by show (0 : Int) ≤ n; omega, by show (n : Int) < N; omega⟩
      have o12 : Only F w w2 := (((hA.mono (by simp)).trans (hO.mono (S' := F) (fun q _ hq => by
        rcases List.mem_cons.1 hq with rfl | hq
        · exact hF _ (.inl (mem_footB.2 (.inl rfl)))
        · exact hF _ (.inr (.inl hq)))))).trans' ho2 (fun q hq hm => by simp at hm; omega)
      have h2 : BuI w2 g m gd N room v LL hi (mi + 1) ev wr plat l (rd + 1) wt fl (k + 1) FD :=
        ⟨hI2, hD2, fun x hx => ((h1.ok x hx).only hO (fun e => by
          rcases List.mem_cons.1 e with e | e
          · exact (h1.ok x hx).row.ne_ h1.is.blk (by decide) e
          · exact (h1.ok x hx).far e)).only ho2 (fun e => by have := (h.ok x hx).row.lt; simp at e; omega), h.len, h.rm, by omega, h.dis⟩
      refine (pkeep h2 ⟨n, d, r, sect plat l n, false⟩ hok hr (by omega) (by omega)).mono (fun e w3 ⟨he, hKF⟩ => ?_)
      have hKF2 := hKF
      obtain ⟨v', L', ev', hB, hL, hyL, hsub, hD⟩ := hKF
      have hne : w.heap.size ∉ footB g m v := fun e => by have := h.is.foot_lt e; omega
      refine ⟨he, fun u hu => ?_, hB.ok _ hyL, Nat.le_trans o12.size hD.1.size, ?_⟩
      · rw [hD.1.cell (Blk.lt (hq1 |> fun (z : Blk w1 w.heap.size 57 _) => (show Blk w1 w.heap.size 57 _ from z)) |> fun hlt => Nat.lt_of_lt_of_le hlt ho2.size) hne]
        exact hu
      · exact keep_end h hF o12 (.inr (by have := hNB.1; simp at this; show w.heap.size ≤ d; omega)) hKF2))
  clear h h1 hA hq hno hr hn hF hFl hr2 hnN
  go_enter Try.func10, Try.ntmps10
  go_wp2_with (first | (go_at_call 25; refine HC.out.mono ?_; rintro e w' ⟨rfl, rfl⟩) | (go_at_call 26; refine HFE.out.mono ?_; rintro e w1 ⟨d, r, rfl, hb, hK⟩; have f0 := hb.frozen 0; have f1 := hb.frozen 1; have b0 := hb.cell 0; have b1 := hb.cell 1; have HB := hide hb; have HK := hide hK; clear hb hK) | (go_at_call 27; refine (HK.out _ (by repeat (first | exact Only.refl _ _ | (refine Only.setCell ?_ _ (by simp))))).mono ?_; rintro e w3 ⟨rfl, z0, zok, zs, zF⟩; have z1 := z0 _ (((HB.out.set_ 0 (.slice (some ⟨d, 0, none⟩) 512 (512 + r.length))).set_ 1 (.bool false)).cell 0); have HZ := hide zF; have HZS := hide zs; have HCL := hide (clone_bk zok); clear z0 zok zF zs) | (go_at_call 28; refine HCL.out.mono ?_; rintro e w4 ⟨vd, rfl, hfr, hof⟩; have HFR := hide hfr; have HOF := hide hof; clear hfr hof))
  go_ret2
  obtain ⟨F', hT, hB⟩ := HZ.out
  exact ⟨vd, _, F', rfl, HFR.out, HZS.out, hB.lt, hT.quiet HOF.out, hB.quiet HOF.out⟩
end
end Go.Proofs.Ytenpifamklnkmaa
