/-
  The walk of 'NamecKeeps'.
-/
import Derived.Test.YtjpojoflbjhjjaaNcKb
import Derived.Deep.RegionHeld3
import Derived.Deep.Cut
import Derived.Deep.CutRange
import Derived.Deep.CutBlock
namespace Go.Proofs.Ytjpojoflbjhjjaa
open Go.ChangeShapes Go.WideShapes Go.ChangeAt Go.RowKit Go.Maps Go.Deep
set_option linter.unusedVariables false
set_option linter.unusedSimpArgs false
/-- Where the law's own call lies. -/
def Cl (W : World) (g : Nat) (k : NM) (n : Int) : Prop := W.cell? ⟨g, 1, none⟩ = some (.int .i64 k.dir) ∧ W.cell? ⟨g, 2, none⟩ = some (.string k.name) ∧ W.cell? ⟨g, 3, none⟩ = some (.int .i64 n)
theorem Blk.cl {W : World} {g : Nat} {kd n : Int} {k : NM} (h : Blk W g 44 #[.int .i64 kd, .int .i64 k.dir, .string k.name, .int .i64 n]) : W.cell? ⟨g, 1, none⟩ = some (.int .i64 k.dir) ∧ W.cell? ⟨g, 2, none⟩ = some (.string k.name) ∧ W.cell? ⟨g, 3, none⟩ = some (.int .i64 n) :=
  ⟨(h.cell 1).trans rfl, (h.cell 2).trans rfl, (h.cell 3).trans rfl⟩
section
variable {w w' : World}
theorem kb_first {w w1 w2 w3 : World} {d c : Nat} {room : Int} {s : RS} {FD : List Nat} (ho1 : Only [] w w1) (hFD : ∀ q ∈ FD, w.heap.size ≤ q) (hs : s.L = [])
    (hC : ∃ G, Ca w2 c d ⟨room, [], 0, s⟩ G ∧ ∀ q ∈ G, q ∈ FD ∨ w1.heap.size ≤ q) (ho2 : Only [] w1 w2) (ho3 : Only [] w2 w3) :
    Kb w (w3.alloc (.cells #[.int .i64 room, .slice none 0 0, .int .i64 0, .slice none 0 0] 40)) c d w3.heap.size ⟨room, [], 0, s⟩ := by
  obtain ⟨G, h1, h2⟩ := hC
  have hx := Blk.new w3 40 #[.int .i64 room, .slice none 0 0, .int .i64 0, .slice none 0 0]
  refine ⟨G, [w3.heap.size], (h1.quiet ho3).quiet ((Only.refl _ _).alloc _), ⟨.slice none 0 0, .slice none 0 0, ⟨hx, XkR.nil _, by simp only [hs, List.map_nil]; exact KRow.nil _ _ _ _⟩, fun q hq => by simpa [Value.ownBlock] using hq, fun q hq => by rw [List.mem_singleton.1 hq]; exact hx.lt⟩, fun q hq hm => ?_, fun q hq => ?_, fun q hq => ?_, (((ho1.trans ho2).trans ho3).alloc _)⟩
  · have e := List.mem_singleton.1 hm
    have := (h1.quiet ho3).lt q hq
    omega
  · rcases h2 q hq with h | h
    · exact hFD q h
    · exact Nat.le_trans ho1.size h
  · rw [List.mem_singleton.1 hq]
    exact Nat.le_trans ho1.size (Nat.le_trans ho2.size ho3.size)
theorem IRow.gets {v : Value} {ns : List Int} (h : IRow w v ns) : ∃ A cap, v = .slice A ns.length cap ∧ ∀ W, Only [] w W → ∀ (i : Nat) (n : Int), ns[i]? = some n → ∃ b, A = some ⟨b, 0, none⟩ ∧ W.cell? ⟨b, i, none⟩ = some (.int .i64 n) := by
  obtain ⟨A, cap, e, hA⟩ := KRow.form h
  refine ⟨A, cap, e, fun W ho i n hn => ?_⟩
  obtain ⟨hi, hv⟩ := List.getElem?_eq_some_iff.1 hn
  obtain ⟨b, e1, h1, h2, h3⟩ := hA (by omega)
  have h4 := h3 i hi
  refine ⟨b, e1, ?_⟩
  rw [ho.cell h2 (by simp), h4]
  simp [gb, List.getD, hn]
theorem XkR.gets {v : Value} {L : List KE} (h : XkR w v L) : ∃ A cap, v = .slice A L.length cap ∧ ∀ W, Only [] w W → ∀ (i : Nat) (e : KE), L[i]? = some e → ∃ b, A = some ⟨b, 0, none⟩ ∧ W.cell? ⟨b, i * 4, none⟩ = some (.int .i64 e.key.dir) ∧ W.cell? ⟨b, i * 4 + 1, none⟩ = some (.string e.key.name) := by
  obtain ⟨A, cap, e, hA⟩ := h.form
  refine ⟨A, cap, e, fun W ho i n hn => ?_⟩
  obtain ⟨hi, hv⟩ := List.getElem?_eq_some_iff.1 hn
  obtain ⟨b, e1, h1⟩ := hA (by omega)
  obtain ⟨g1, g2, _⟩ := (h.only ho (by simp)).cell e e1 hn
  exact ⟨b, e1, g1, g2⟩
theorem NRw.gets {v : Value} {L : List NM} (h : NRw w v L) : ∃ A cap, v = .slice A L.length cap ∧ ∀ W, Only [] w W → ∀ (i : Nat) (e : NM), L[i]? = some e → ∃ b, A = some ⟨b, 0, none⟩ ∧ W.cell? ⟨b, i * 2, none⟩ = some (.int .i64 e.dir) ∧ W.cell? ⟨b, i * 2 + 1, none⟩ = some (.string e.name) := by
  obtain ⟨A, cap, e, hA⟩ := h.form
  refine ⟨A, cap, e, fun W ho i n hn => ?_⟩
  obtain ⟨hi, hv⟩ := List.getElem?_eq_some_iff.1 hn
  obtain ⟨b, e1, h1⟩ := hA (by omega)
  exact ⟨b, e1, (h.only ho (by simp)).cell e e1 hn⟩
/-- What the document's cache shows. -/
theorem Kb.doc {w0 : World} {c d x : Nat} {p : CS} (h : Kb w0 w c d x p) : ∃ A cA B cB, ∀ W, Only [] w W →
    W.cell? ⟨x, 1, none⟩ = some (.slice A p.L.length cA) ∧ W.cell? ⟨x, 3, none⟩ = some (.slice B (p.s.L.map (·.1)).length cB) ∧
    (∀ (i : Nat) (e : KE), p.L[i]? = some e → ∃ b, A = some ⟨b, 0, none⟩ ∧ W.cell? ⟨b, i * 4, none⟩ = some (.int .i64 e.key.dir) ∧ W.cell? ⟨b, i * 4 + 1, none⟩ = some (.string e.key.name)) ∧
    (∀ (i : Nat) (n : Int), (p.s.L.map (·.1))[i]? = some n → ∃ b, B = some ⟨b, 0, none⟩ ∧ W.cell? ⟨b, i, none⟩ = some (.int .i64 n)) := by
  obtain ⟨G, F, _, ⟨v, u, hx, _⟩, _⟩ := h
  obtain ⟨A, cA, rfl, hA⟩ := hx.rl.gets
  obtain ⟨B, cB, rfl, hB⟩ := IRow.gets hx.rg
  exact ⟨A, cA, B, cB, fun W ho => ⟨(hx.quiet ho).c1, (hx.quiet ho).c3, hA W ho, hB W ho⟩⟩
theorem kb_waiting {w0 : World} {c d x : Nat} {p : CS} (h : Kb w0 w c d x p) : Calls Try.prog 20 #[.pointer (some ⟨d, 0, none⟩)] w fun e w' => ∃ A cap, e = .returned (.slice A (p.s.L.map (·.1)).length cap) ∧ Only [] w w' ∧
    ∀ W, Only [] w' W → ∀ (i : Nat) (n : Int), (p.s.L.map (·.1))[i]? = some n → ∃ b, A = some ⟨b, 0, none⟩ ∧ W.cell? ⟨b, i, none⟩ = some (.int .i64 n) := by
  obtain ⟨G, F, h1, _⟩ := h
  obtain ⟨FD, h2⟩ := ca_dom h1
  refine (rWaiting_is h2).mono ?_
  rintro e w' ⟨v, rfl, h3, h4, h5⟩
  obtain ⟨A, cap, rfl, hA⟩ := IRow.gets h3
  exact ⟨A, cap, rfl, h5, hA⟩
theorem kb_kept {w0 : World} {c d x : Nat} {p : CS} (h : Kb w0 w c d x p) : Calls Try.prog 21 #[.pointer (some ⟨c, 0, none⟩)] w fun e w' => ∃ A cap, e = .returned (.slice A p.L.length cap) ∧ Only [] w w' ∧
    ∀ W, Only [] w' W → ∀ (i : Nat) (e : KE), p.L[i]? = some e → ∃ b, A = some ⟨b, 0, none⟩ ∧ W.cell? ⟨b, i * 2, none⟩ = some (.int .i64 e.key.dir) ∧ W.cell? ⟨b, i * 2 + 1, none⟩ = some (.string e.key.name) := by
  obtain ⟨G, F, h1, _⟩ := h
  refine (ca_kept h1).mono ?_
  rintro e w' ⟨v, rfl, h3, h4, h5⟩
  obtain ⟨A, cap, rfl, hA⟩ := h3.gets
  refine ⟨A, cap, by rw [List.length_map], h5, fun W ho i e he => hA W ho i e.key (by simp [he])⟩
theorem name_neq_no (k : NM) (w : World) : (binOp .neq 42 (.agg #[.int .i64 k.dir, .string k.name]) (.agg #[.int .i64 k.dir, .string k.name])).run Try.prog w = .ok (.bool false) w := by
  rw [run_neq_struct, name_eq (decide_eq_true rfl) w]
  rfl
set_option maxRecDepth 100000 in
set_option maxHeartbeats 4000000 in
theorem namecKeeps_walk {H : Type} {enc : TypeId × Value → H} {dd : DataW H} {room : Int} {A0 : Option Addr} {len cap : Nat} (rv : Rd enc Try.prog w 29 [.slice A0 len cap] dd) :
    Calls Try.prog 4 #[.int .i64 room, .slice A0 len cap] w fun e w' => e = .returned (.bool true) ∧ Below w.heap.size w w' := by
  obtain ⟨hlen, hops⟩ := Rd.ops19 rv
  have HOP := hide hops
  have HNM := hide (fun (i : Nat) (hi : i < len) q o (hA : A0 = some ⟨q, o, none⟩) s (hc : w.cell? ⟨q, o + (i * 4 + 2), none⟩ = some (.string s)) => Rd.name19 rv hi hA hc)
  clear rv hops
  by_cases hroom : room < 1 ∨ 4096 < room
  · have HBD := hide (fun W d => ncNew_bad (d := d) room hroom W)
    rcases hroom with hr | hr
    · have hg : decide (room < 1) = true := decide_eq_true hr
      go_enter Try.func4, Try.ntmps4
      go_wp2_with (first | (go_at_call 10; refine (rcNew_ok 1 (by decide) _).mono ?_; rintro e w1 ⟨d, FD, rfl, ho, hFD, hR⟩; have HO1 := hide ho; clear ho hFD hR) | (go_at_call 11; refine (HBD.out _ _).mono ?_; rintro e w2 ⟨rfl, rfl⟩) | (go_at_call 8; refine (lives_is _).mono ?_; rintro e w3 ⟨rfl, ho⟩; have HO3 := hide ho; clear ho))
      go_ret
      exact ⟨rfl, (HO1.out.trans HO3.out).below (Nat.le_refl _) (by simp)⟩
    · have hg : decide (4096 < room) = true := decide_eq_true hr
      have hg1 : decide (room < 1) = false := decide_eq_false (by omega)
      go_enter Try.func4, Try.ntmps4
      go_wp2_with (first | (go_at_call 10; refine (rcNew_ok 1 (by decide) _).mono ?_; rintro e w1 ⟨d, FD, rfl, ho, hFD, hR⟩; have HO1 := hide ho; clear ho hFD hR) | (go_at_call 11; refine (HBD.out _ _).mono ?_; rintro e w2 ⟨rfl, rfl⟩) | (go_at_call 8; refine (lives_is _).mono ?_; rintro e w3 ⟨rfl, ho⟩; have HO3 := hide ho; clear ho))
      go_ret
      exact ⟨rfl, (HO1.out.trans HO3.out).below (Nat.le_refl _) (by simp)⟩
  · have hg1 : decide (room < 1) = false := decide_eq_false (by omega)
    have hg2 : decide (4096 < room) = false := decide_eq_false (by omega)
    have HRM := hide (show 1 ≤ room ∧ room ≤ 4096 by omega)
    clear hroom
    go_enter Try.func4, Try.ntmps4
    go_wp2_with (first | (go_at_call 10; refine (rcNew_ok 1 (by decide) _).mono ?_; rintro e w1 ⟨d, FD, rfl, ho, hFD, hR⟩; have HO1 := hide ho; have HFD := hide hFD; have HR := hide hR; clear ho hFD hR) | (go_at_call 11; refine (ca_new HR.out rfl room HRM.out.1 HRM.out.2).mono ?_; rintro e w2 ⟨c, G, rfl, hC, ho, hG⟩; have HO2 := hide ho; have HC := hide (show ∃ G, Ca w2 c d _ G ∧ ∀ q ∈ G, q ∈ FD ∨ w1.heap.size ≤ q from ⟨G, hC, hG⟩); clear hC ho hG) | (go_at_call 8; refine (lives_is _).mono ?_; rintro e w3 ⟨rfl, ho⟩; have HO3 := hide ho; clear ho))
    have HK0 := hide (kb_first (w3 := w3) HO1.out HFD.out rfl HC.out HO2.out HO3.out)
    clear HR HC HFD
    generalize w3.alloc (.cells #[.int .i64 room, .slice none 0 0, .int .i64 0, .slice none 0 0] 40) = w4 at *
    generalize w3.heap.size = x at *
    go_loopw [10] (fun iv wr => ∃ (i : Nat) (p : CS), i ≤ len ∧ iv = .int .i64 i ∧ Kb w wr c d x p ∧ p.made ≤ i) (fun iv _ => len - (intOf iv).toNat)
    case atStart => exact ⟨0, _, Nat.zero_le _, rfl, HK0.out, Int.le_refl _⟩
    case round =>
      obtain ⟨i, p, hi, rfl, hK, hmade⟩ := hrel
      have HK := hide hK
      have HM := hide hmade
      by_cases hlt : i < len
      · have hltI : (i : Int) < len := by omega
        obtain ⟨q, o, kd, k, n, rfl, hq, hwf, c0, c1, c2, c3⟩ := HOP.out i hlt
        have HKS := hide (HNM.out i hlt q o rfl k.name (by rw [← Nat.add_assoc]; exact c2))
        have hba := hK.on
        have d0 := (hba.cell hq (by simp) (o := o + i * 4) (s := none)).trans c0
        have d1 := (hba.cell hq (by simp) (o := o + i * 4 + 1) (s := none)).trans c1
        have d2 := (hba.cell hq (by simp) (o := o + i * 4 + 2) (s := none)).trans c2
        have d3 := (hba.cell hq (by simp) (o := o + i * 4 + 3) (s := none)).trans c3
        have HX := hide (hK.box 44 #[.int .i64 kd, .int .i64 k.dir, .string k.name, .int .i64 n])
        have HOK := hide hK.ok
        have HWF := hide hwf
        have HT := hide (show p.made + 1 < 3900000000000 by omega)
        clear c0 c1 c2 c3 hba hK hmade hwf
        go_upto_block 2 with fail
        obtain ⟨b1, b2, b3⟩ := HX.out.blk.cl
        by_cases k1 : kd = 1
        · subst k1
          have HLC := hide (kc_look HX.out HWF.out)
          have HLX := hide (fun W (ho : Only [] (wr.alloc (.cells #[.int .i64 1, .int .i64 k.dir, .string k.name, .int .i64 n] 44)) W) => kx_look (HX.out.quiet ho) HOK.out k)
          have HCL := hide (fun W (ho : Only [] (wr.alloc (.cells #[.int .i64 1, .int .i64 k.dir, .string k.name, .int .i64 n] 44)) W) => (HX.out.quiet ho).blk.cl)
          generalize (lookC p k).1 = a1 at *
          generalize (lookC p k).2 = a2 at *
          have e1 : (a1 != a1) = false := by simp
          have e2 : (a2 != a2) = false := by simp
          dsimp only [kV] at HLC HLX
          go_wp2_with (first | (go_at_call 12; refine HLC.out.mono ?_; rintro e w5 ⟨rfl, ho⟩; have HO5 := hide ho; obtain ⟨b51, b52, b53⟩ := HCL.out _ ho; clear ho) | (go_at_call 13; refine (HLX.out _ HO5.out).mono ?_; rintro e w6 ⟨rfl, ho⟩; have HK6 := hide (HX.out.quiet (HO5.out.trans ho)); clear ho))
          go_roundw
          case rel => exact ⟨i + 1, p, hlt, by go_num, HK6.out.kb, by have := HM.out; omega⟩
          case measure => simp [intOf]; omega
        · have k1b : (kd == 1) = false := beq_eq_false_iff_ne.2 k1
          by_cases k2 : kd = 2
          · subst k2
            clear k1 k1b
            go_wp2_with fail
            go_region_held3 (fun W => W.cell? ⟨wr.heap.size, 1, none⟩ = some (.int .i64 k.dir) ∧ W.cell? ⟨wr.heap.size, 2, none⟩ = some (.string k.name) ∧ W.cell? ⟨wr.heap.size, 3, none⟩ = some (.int .i64 n)) (first | go_keep | exact cc2 | exact cc1 | exact ⟨b1, b2, b3⟩) (first | (go_at_call 14; refine (kc_put (HX.out.quiet (by repeat (first | exact Only.refl _ _ | apply Only.drew | apply Only.drewN))) HWF.out HKS.out n HT.out).mono ?_; rintro e w5 ⟨rfl, h1⟩; have HX1 := hide h1; have cc1 := h1.blk.cl; clear h1) | (go_at_call 15; refine (kx_put (HX1.out.quiet (by repeat (first | exact Only.refl _ _ | apply Only.drew | apply Only.drewN))) HOK.out k n HT.out).mono ?_; rintro e w6 ⟨rfl, h2⟩; have HX2 := hide h2; have cc2 := h2.blk.cl; clear h2))
            have hpm := putC19_made HOK.out k n
            have HPM := hide hpm
            clear hpm cc1 cc2 b1 b2 b3
            generalize (putC19 p k n).1 = a1 at *
            have e1 : (a1 != a1) = false := by simp
            go_wp2_with fail
            go_roundw
            case rel => exact ⟨i + 1, _, hlt, by go_num, HX2.out.kb, by have := HM.out; have := HPM.out; omega⟩
            case measure => simp [intOf]; omega
          · have k2b : (kd == 2) = false := beq_eq_false_iff_ne.2 k2
            by_cases k3 : kd = 3
            · subst k3
              clear k1 k1b k2 k2b
              go_wp2_with fail
              go_region_held3 (fun W => W.cell? ⟨wr.heap.size, 1, none⟩ = some (.int .i64 k.dir) ∧ W.cell? ⟨wr.heap.size, 2, none⟩ = some (.string k.name) ∧ W.cell? ⟨wr.heap.size, 3, none⟩ = some (.int .i64 n)) (first | go_keep | exact cc2 | exact cc1 | exact ⟨b1, b2, b3⟩) (first | (go_at_call 16; refine (kc_forget (HX.out.quiet (by repeat (first | exact Only.refl _ _ | apply Only.drew | apply Only.drewN))) HWF.out).mono ?_; rintro e w5 ⟨rfl, h1⟩; have HX1 := hide h1; have cc1 := h1.blk.cl; clear h1) | (go_at_call 17; refine (kx_forget (HX1.out.quiet (by repeat (first | exact Only.refl _ _ | apply Only.drew | apply Only.drewN))) HOK.out k).mono ?_; rintro e w6 ⟨rfl, h2⟩; have HX2 := hide h2; have cc2 := h2.blk.cl; clear h2))
              have hpm := (CS.forget_made p k).1
              have HPM := hide hpm
              clear hpm cc1 cc2 b1 b2 b3
              generalize (p.at k).isSome = a1 at *
              have e1 : (a1 != a1) = false := by simp
              go_wp2_with fail
              go_roundw
              case rel => exact ⟨i + 1, _, hlt, by go_num, HX2.out.kb, by have := HM.out; have := HPM.out; omega⟩
              case measure => simp [intOf]; omega
            · have k3b : (kd == 3) = false := beq_eq_false_iff_ne.2 k3
              by_cases k4 : kd = 4
              · subst k4
                clear k1 k1b k2 k2b k3 k3b
                go_wp2_with fail
                go_region_held3 (fun W => W.cell? ⟨wr.heap.size, 1, none⟩ = some (.int .i64 k.dir) ∧ W.cell? ⟨wr.heap.size, 2, none⟩ = some (.string k.name) ∧ W.cell? ⟨wr.heap.size, 3, none⟩ = some (.int .i64 n)) (first | go_keep | exact cc2 | exact cc1 | exact ⟨b1, b2, b3⟩) (first | (go_at_call 18; refine (kc_forgetDir (HX.out.quiet (by repeat (first | exact Only.refl _ _ | apply Only.drew | apply Only.drewN))) k.dir).mono ?_; rintro e w5 ⟨rfl, h1⟩; have HX1 := hide h1; have cc1 := h1.blk.cl; clear h1) | (go_at_call 19; refine (kx_forgetDir (HX1.out.quiet (by repeat (first | exact Only.refl _ _ | apply Only.drew | apply Only.drewN))) HOK.out k.dir).mono ?_; rintro e w6 ⟨rfl, h2⟩; have HX2 := hide h2; have cc2 := h2.blk.cl; clear h2))
                have HPM := hide (show (p.forgetDir k.dir).made = p.made from rfl)
                clear cc1 cc2 b1 b2 b3
                generalize ((p.L.length : Int) - (p.forgetDir k.dir).L.length) = a1 at *
                have e1 : (a1 != a1) = false := by simp
                go_wp2_with fail
                go_roundw
                case rel => exact ⟨i + 1, _, hlt, by go_num, HX2.out.kb, by have := HM.out; have := HPM.out; omega⟩
                case measure => simp [intOf]; omega
              · have k4b : (kd == 4) = false := beq_eq_false_iff_ne.2 k4
                by_cases k5 : kd = 5
                · subst k5
                  clear k1 k1b k2 k2b k3 k3b k4 k4b
                  have HWA := hide (fun W (ho : Only [] (wr.alloc (.cells #[.int .i64 5, .int .i64 k.dir, .string k.name, .int .i64 n] 44)) W) => kb_waiting (HX.out.kb.quiet ho))
                  obtain ⟨A1, cA1, B1, cB1, hdoc⟩ := HX.out.kb.doc
                  have HD := hide hdoc
                  clear hdoc
                  have HZL := hide (show (p.s.L.map (·.1)).length < 3900000000000 by have := HOK.out.cnt; have := HOK.out.top; rw [List.length_map]; omega)
                  generalize p.s.L.map (·.1) = Z at HWA HD HZL
                  go_wp2_with (first | (go_at_call 20; refine (HWA.out _ (Only.refl _ _)).mono ?_; rintro e w5 ⟨A5, c5, rfl, ho, hg⟩; have HO5 := hide ho; have HG5 := hide hg; have x3 := (HD.out _ ho).2.1; clear ho hg))
                  have e1 : ((Z.length : Int) != (Z.length : Int)) = false := by simp
                  go_wp2_with fail
                  go_loopw [17] (fun iv wx => ∃ (j : Nat), j ≤ Z.length ∧ iv = .int .i64 j ∧ Only [] w5 wx) (fun iv _ => Z.length - (intOf iv).toNat)
                  case atStart => exact ⟨0, Nat.zero_le _, rfl, Only.refl _ _⟩
                  case round =>
                    obtain ⟨j, hj, rfl, hw⟩ := hrel
                    have HW := hide hw
                    by_cases hlt2 : j < Z.length
                    · have hltI2 : (j : Int) < Z.length := by omega
                      have hjb : (j : Int) < 3900000000000 := by have := HZL.out; omega
                      obtain ⟨b5, rfl, y5⟩ := HG5.out _ hw j Z[j] (by simp [hlt2])
                      obtain ⟨_, z3, _, hz⟩ := HD.out _ (HO5.out.trans hw)
                      obtain ⟨b6, rfl, y6⟩ := hz j Z[j] (by simp [hlt2])
                      generalize Z[j] = z at *
                      have e2 : (z != z) = false := by simp
                      clear hw hz x3
                      go_wp2_with fail
                      go_region
                      go_wp2_with fail
                      go_roundw
                      case rel => exact ⟨j + 1, hlt2, by go_num, HW.out.drew⟩
                      case measure => simp [intOf]; omega
                    · obtain rfl : j = Z.length := by omega
                      go_wp2_with fail
                      go_roundw
                      case rel => exact ⟨i + 1, p, hlt, by go_num, HX.out.kb.quiet (HO5.out.trans HW.out), by have := HM.out; omega⟩
                      case measure => simp [intOf]; omega
                · have k5b : (kd == 5) = false := beq_eq_false_iff_ne.2 k5
                  go_wp2_with fail
                  go_roundw
                  case rel => exact ⟨i + 1, p, hlt, by go_num, HX.out.kb, by have := HM.out; omega⟩
                  case measure => simp [intOf]; omega
      · obtain rfl : i = len := by omega
        have HKP := hide (kb_kept HK.out)
        have HON := hide hK.on
        have HOKE := hide hK.ok
        obtain ⟨A1, cA1, B1, cB1, hdoc⟩ := HK.out.doc
        have HD := hide hdoc
        clear hdoc hK hmade
        go_wp2_with (first | (go_at_call 21; refine HKP.out.mono ?_; rintro e w5 ⟨A5, c5, rfl, ho, hg⟩; have HO5 := hide ho; have HG5 := hide hg; have x1 := (HD.out _ ho).1; clear ho hg))
        have HZL := hide (show p.L.length < 3900000000000 by have := HOKE.out.len; have := HOKE.out.r1; omega)
        generalize p.L = Z at *
        have e1 : ((Z.length : Int) != (Z.length : Int)) = false := by simp
        go_wp2_with fail
        go_loopw [19] (fun iv wx => ∃ (j : Nat), j ≤ Z.length ∧ iv = .int .i64 j ∧ Only [] w5 wx) (fun iv _ => Z.length - (intOf iv).toNat)
        case atStart => exact ⟨0, Nat.zero_le _, rfl, Only.refl _ _⟩
        case round =>
          obtain ⟨j, hj, rfl, hw⟩ := hrel
          have HW := hide hw
          by_cases hlt2 : j < Z.length
          · have hltI2 : (j : Int) < Z.length := by omega
            have hjb : (j : Int) < 3900000000000 := by have := HZL.out; omega
            obtain ⟨b5, rfl, y5, y6⟩ := HG5.out _ hw j Z[j] (by simp [hlt2])
            obtain ⟨z1, _, hz, _⟩ := HD.out _ (HO5.out.trans hw)
            obtain ⟨b6, rfl, y7, y8⟩ := hz j Z[j] (by simp [hlt2])
            generalize Z[j] = z at *
            have heq : ∀ w : World, (binOp .neq 42 (.agg #[.int .i64 z.key.dir, .string z.key.name]) (.agg #[.int .i64 z.key.dir, .string z.key.name])).run Try.prog w = .ok (.bool false) w := name_neq_no z.key
            clear hw hz x1
            go_wp2_with fail
            go_region
            go_wp2_with fail
            go_roundw
            case rel => exact ⟨j + 1, hlt2, by go_num, HW.out.drew⟩
            case measure => simp [intOf]; omega
          · obtain rfl : j = Z.length := by omega
            go_wp2_with fail
            go_ret
            exact ⟨rfl, (HON.out.trans (HO5.out.trans HW.out)).below (Nat.le_refl _) (by simp)⟩
end
end Go.Proofs.Ytjpojoflbjhjjaa
