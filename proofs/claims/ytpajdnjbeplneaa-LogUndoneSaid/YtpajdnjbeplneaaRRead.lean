/-
  The document's own disk: Sector, Read.
-/
import Derived.Test.YtpajdnjbeplneaaRDisk
namespace Go.Proofs.Ytpajdnjbeplneaa
open Go.ChangeShapes Go.WideShapes Go.ChangeAt Go.RowKit
set_option linter.unusedVariables false

theorem sect_snoc (plat : List Int) (l : List (Nat × List Int)) (p : Nat × List Int) (n : Nat) : sect plat (l ++ [p]) n = if p.1 = n then p.2 else sect plat l n := by
  unfold sect
  rw [List.foldl_append]
  rfl
theorem ofW_take {ws : List WR} {k : Nat} {x : WR} (hx : ws[k]? = some x) : ofW (ws.take (k + 1)) = ofW (ws.take k) ++ [(x.sec, x.data)] := by
  have hk : k < ws.length := (List.getElem?_eq_some_iff.1 hx).1
  unfold ofW
  rw [List.take_succ_eq_append_getElem hk, List.map_append]
  simp [(List.getElem?_eq_some_iff.1 hx).2]
theorem ofW_len {w : World} {N : Nat} {ws : List WR} (h : ∀ x ∈ ws, x.ok w N) : ∀ p ∈ ofW ws, p.2.length = 512 := by
  intro p hp
  obtain ⟨x, hx, rfl⟩ := List.mem_map.1 hp
  exact (h x hx).len

theorem Fresh.quiet {w w' : World} {B : Nat} {v : Value} {xs : List Int} (h : Fresh w B v xs) (ho : Only [] w w') : Fresh w' B v xs := by
  obtain ⟨d, c, r, e, h1, h2, h3⟩ := h
  exact ⟨d, c, r, e, h1, h2.only ho (by simp), h3⟩
/-- What Sector has read behind k writes. -/
def SecRel (w : World) (plat : List Int) (ws : List WR) (n : Nat) (out i : Value) (wr : World) : Prop :=
  ∃ k : Nat, k ≤ ws.length ∧ i = .int .i64 k ∧ Only [] w wr ∧ Fresh wr w.heap.size out (sect plat (ofW (ws.take k)) n)

section
variable {w : World} {g pb pc : Nat} {pr : List Value} {pv : Value} {N : Nat} {plat : List Int} {ws : List WR} {left : Int} {stops : Bool} {rd wt fl : Int} (h : IsR2 w g pb pc pr pv N plat ws left stops rd wt fl)
include h

set_option maxRecDepth 100000 in
theorem r2sector_is (n : Nat) (hn : n < N) : Calls Try.prog 81 #[.pointer (some ⟨g, 0, none⟩), .int .i64 n] w fun e w' => ∃ v, e = .returned v ∧ Fresh w' w.heap.size v (sect plat (ofW ws) n) ∧ Only [] w w' := by
  have hc1 := h.c1
  have hc2 := h.c2
  have hcap := h.cap
  have hb := h.big
  have hfew := h.few
  have hca : ∀ o, (w.alloc o).cell? ⟨g, 1, none⟩ = some (.slice (some ⟨pb, 0, none⟩) (512 * N) pc) := fun o => ((h.str.alloc o).cell 1).trans rfl
  have HE := hide (show n * 512 = 512 * n ∧ (n + 1) * 512 - 512 * n = 512 by omega)
  have hle : 512 * N ≤ pc := by omega
  have HD := hide h
  have HS := hide (show Sees (w.alloc (.cells #[] 5)) (some ⟨pb, n * 512, none⟩) ((n + 1) * 512 - n * 512) ((plat.drop (512 * n)).take 512) from by
    rw [HE.out.1, HE.out.2]
    exact ⟨by have := h.len; simp; omega, fun _ => ⟨pb, 512 * n, rfl, by have := h.row.lt; simp; omega, fun i hi => by
      rw [(h.row.alloc _).cell, gb_cut _ _ _ _ hi]
      exact u8l_get _ _ _ (by have := h.len; omega)⟩⟩)
  obtain ⟨A, cap, rfl, hA, hA2⟩ := sec_form h.own
  have HA2 := hide hA2
  clear h hcap hA hA2
  go_enter Try.func81, Try.ntmps81
  go_wp2_with (at_builtin; refine wpList_append_new rfl _ _ rfl _ w.heap.size w.heap.size rfl (Nat.le_refl _) (Blk.new w 5 #[]) (some ⟨pb, n * 512, none⟩) ((n + 1) * 512 - n * 512) (pc - n * 512) rfl (by simp) _ HS.out (by omega) ?_; intro v' w1 hf ho; have HF := hide hf; have HO := hide (((Only.refl [] w).alloc (.cells #[] 5)).trans' ho (fun k hk hm => by simp at hm; omega)); clear hf ho hca hc1; have hc2' := ((HD.out.quiet HO.out).c2))
  clear hc2 hc2'
  go_loopw [5, 25] (fun out i wr => SecRel w plat ws n out i wr) (fun _ i _ => ws.length - (intOf i).toNat)
  case atStart => exact ⟨0, Nat.zero_le _, rfl, HO.out, by simpa [ofW, sect] using HF.out⟩
  case round =>
    obtain ⟨k, hk, rfl, ho, hf⟩ := hrel
    have HO1 := hide ho
    have HF1 := hide hf
    by_cases hlt : k < ws.length
    · obtain ⟨x, hx⟩ : ∃ x, ws[k]? = some x := ⟨_, List.getElem?_eq_getElem hlt⟩
      have HA3 : ∃ q, A = some ⟨q, 0, none⟩ ∧ w.cell? ⟨q, k * 2, none⟩ = some (.int .i64 x.sec) ∧ w.cell? ⟨q, k * 2 + 1, none⟩ = some (.slice (some ⟨x.blk, 0, none⟩) 512 (512 + x.rest.length)) ∧ q < w.heap.size := by
        obtain ⟨A', cap', e, hA, hA2⟩ := sec_form HD.out.own
        cases e
        rcases A with _ | b
        · exact absurd (hA rfl).1 (by omega)
        · obtain ⟨q, rfl, hq, _, _, hc⟩ := HA2.out b rfl
          exact ⟨q, rfl, (hc k x hx).1, (hc k x hx).2, hq⟩
      obtain ⟨q, rfl, s0, s1, hq⟩ := HA3
      have e0 := (ho.cell hq (by simp)).trans s0
      have e1 := (ho.cell hq (by simp)).trans s1
      have HX := hide hx
      have hok := HD.out.wok x (List.mem_of_getElem? hx)
      have HSE := hide (show sect plat (ofW (ws.take (k + 1))) n = if x.sec = n then x.data else sect plat (ofW (ws.take k)) n by rw [ofW_take hx, sect_snoc])
      clear s0 s1 hx ho hf
      by_cases hs : x.sec = n
      · rw [if_pos hs] at HSE
        have HSS := hide (fun (o1 o2 : Obj) => show Sees ((wr.alloc o1).alloc o2) (some ⟨x.blk, 0, none⟩) 512 x.data from
          ⟨hok.len, fun _ => ⟨x.blk, 0, rfl, by have := hok.row.lt; have := HO1.out.size; simp; omega, fun i hi => by
            rw [Nat.zero_add, ((hok.row.only (HO1.out.alloc o1) (by simp)).alloc o2).cell]
            exact u8l_get _ _ _ (by rw [hok.len]; exact hi)⟩⟩)
        clear hok
        subst hs
        go_wp2_with (at_builtin; refine wpList_append_new rfl _ _ rfl _ w.heap.size (wr.heap.size + 1) rfl ?qb ?qk (some ⟨x.blk, 0, none⟩) 512 (512 + x.rest.length) rfl (by simp) _ (HSS.out _ _) (by omega) ?_)
        case qb => have := HO1.out.size; omega
        case qk =>
          have hb := Blk.new (wr.alloc (.cells #[.int .i64 x.sec, .slice (some ⟨x.blk, 0, none⟩) 512 (512 + x.rest.length)] 112)) 5 #[]
          rw [show (wr.alloc (.cells #[.int .i64 x.sec, .slice (some ⟨x.blk, 0, none⟩) 512 (512 + x.rest.length)] 112)).heap.size = wr.heap.size + 1 by simp] at hb
          exact hb
        intro v' w2 hf2 ho2
        have HF2 := hide hf2
        have HO2 := hide ((((HO1.out).alloc _).alloc _).trans' ho2 (fun q hq hm => by have := HO1.out.size; simp at hm; omega))
        clear hf2 ho2
        go_wp2
        go_roundw
        case rel => exact ⟨k + 1, hlt, by go_num, HO2.out, by rw [HSE.out]; exact HF2.out⟩
        case measure => simp [intOf]; omega
      · rw [if_neg hs] at HSE
        have hs2 : ¬ ((x.sec : Int) = n) := by omega
        clear hok
        go_wp2
        go_roundw
        case rel => exact ⟨k + 1, hlt, by go_num, HO1.out.alloc _, by rw [HSE.out]; exact Fresh.quiet HF1.out ((Only.refl [] wr).alloc _)⟩
        case measure => simp [intOf]; omega
    · obtain rfl : k = ws.length := by omega
      rw [List.take_length] at hf
      have HF3 := hide hf
      clear hf ho
      go_wp2
      go_ret
      exact ⟨_, rfl, HF3.out, HO1.out⟩

theorem rread_bad (n : Int) (hn : n < 0 ∨ N ≤ n) : Calls Try.prog 63 #[.pointer (some ⟨g, 0, none⟩), .int .i64 n] w fun e w' => e = .returned (.tuple #[.slice none 0 0, .int .i64 20]) ∧ w = w' := by
  have hc0 := h.c0
  clear h
  by_cases h0 : n < 0
  · clear hn
    go_enter Try.func63, Try.ntmps63
    go_wp2
    go_ret2
    exact ⟨rfl, rfl⟩
  · have h1 : N ≤ n := by omega
    clear hn
    go_enter Try.func63, Try.ntmps63
    go_wp2
    go_ret2
    exact ⟨rfl, rfl⟩

theorem rread_ok (n : Nat) (h1 : n < N) (hr0 : 0 ≤ rd) (hr1 : rd < 9223372036854775807) : Calls Try.prog 63 #[.pointer (some ⟨g, 0, none⟩), .int .i64 n] w fun e w' =>
    ∃ v, e = .returned (.tuple #[v, .int .i64 0]) ∧ Fresh w' w.heap.size v (sect plat (ofW ws) n) ∧ Only [g] w w' ∧ IsR2 w' g pb pc pr pv N plat ws left stops (rd + 1) wt fl := by
  have hc0 := h.c0
  have hc5 := h.c5
  have hf5 := h.fr 5
  have ho1 : Only [g] w (w.setCell ⟨g, 5, none⟩ (.int .i64 (rd + 1))) := (Only.refl _ _).setCell _ (by simp)
  have HD1 := hide (h.restr (rd' := rd + 1) ho1 (h.str.set_ 5 _))
  have HO1 := hide ho1
  have HC := hide (r2sector_is HD1.out n h1)
  have hsz : (w.setCell ⟨g, 5, none⟩ (.int .i64 (rd + 1))).heap.size = w.heap.size := by simp
  rw [hsz] at HC
  clear h ho1 hsz
  go_enter Try.func63, Try.ntmps63
  go_wp2_with (go_at_call 81; refine HC.out.mono ?_; rintro e w2 ⟨v, rfl, hfv, hov⟩; have HF := hide hfv; have HO := hide hov; clear hfv hov)
  go_ret2
  exact ⟨v, rfl, HF.out, HO1.out.trans (HO.out.mono (by simp)), HD1.out.quiet HO.out⟩
end
end Go.Proofs.Ytpajdnjbeplneaa
