/-
  Buffers (parapet/buf): refuses, fetch: why a block can't be kept; a block as the disk has it.
-/
import Derived.Test.YtenpifamklnkmaaBuKeep2
namespace Go.Proofs.Ytenpifamklnkmaa
open Go.ChangeShapes Go.WideShapes Go.ChangeAt Go.RowKit Go.Maps
set_option linter.unusedVariables false

/-- Why block n can't be kept; 0 if it can. -/
def refE (N : Nat) (room : Int) (ns : List Int) (cl : Int → Bool) (n : Int) : Int :=
  if n < 0 ∨ (N : Int) ≤ n then 20 else if n ∈ ns ∨ (ns.length : Int) < room ∨ ns.any cl = true then 0 else 150

theorem svO_form (s : SO) : ∃ A a b, svO s = .slice A a b := by
  cases s with
  | none => exact ⟨_, _, _, rfl⟩
  | some s => exact ⟨_, _, _, rfl⟩

section
variable {w w' w1 w3 : World} {g m gd N : Nat} {room : Int} {v u : Value} {ns xs : List Int} {O : List (Int × BV)} {hi mi ev wr : Int} {cl : Int → Bool} {plat : List Int} {l : List (Nat × List Int)} {left rd wt fl : Int} {k : Nat} {F : List Nat}
set_option maxHeartbeats 1500000 in
set_option maxRecDepth 100000 in
theorem refuses_is (h : IsBu w g m gd room v ns O hi mi ev wr) (hd : Dk w gd N plat l left rd wt fl k F) (hf : ns.length ≤ 1024) (hc : ClOn cl O ns) (hk : ∀ t, t ∈ ns ↔ t ∈ O.map (·.1)) (n : Int) (hn : iW n) :
    Calls Try.prog 29 #[.pointer (some ⟨g, 0, none⟩), .int .i64 n] w fun e w' => e = .returned (.int .i64 (refE N room ns cl n)) ∧ Only [] w w' := by
  have HCN := hide (dk_count hd)
  have c0 := h.c0
  have c1 := h.c1
  have c2 := h.c2
  have c3 := h.c3
  by_cases h0 : n < 0
  · have hE : refE N room ns cl n = 20 := if_pos (.inl h0)
    rw [hE]
    clear h hd hc hk hE hn
    go_enter Try.func29, Try.ntmps29
    go_wp2
    go_ret
    exact ⟨rfl, Only.refl _ _⟩
  by_cases hN : (N : Int) ≤ n
  · have hE : refE N room ns cl n = 20 := if_pos (.inr hN)
    rw [hE]
    clear h hd hc hk hE hn
    go_enter Try.func29, Try.ntmps29
    go_wp2_with (go_at_call 24; refine HCN.out.mono ?_; rintro e w' ⟨rfl, rfl⟩)
    go_ret
    exact ⟨rfl, Only.refl _ _⟩
  have hE : refE N room ns cl n = if n ∈ ns ∨ (ns.length : Int) < room ∨ ns.any cl = true then 0 else 150 := if_neg (by omega)
  obtain ⟨A, c, rfl, -⟩ := h.row.form2
  obtain ⟨D, k1, k2⟩ := h.own
  by_cases hm : n ∈ ns
  · rw [if_pos (.inl hm)] at hE
    rw [hE]
    obtain ⟨p, hp, rfl⟩ := List.mem_map.1 ((hk n).1 hm)
    have hl : (Instr.lookup 53 (.map (some m)) (.int .i64 p.1) true).run Try.prog w = .ok (.tuple #[.agg #[svO p.2.1, .bool p.2.2], .bool true]) w := lookB_ok k2 k1 hp
    obtain ⟨A1, n1, c1', hsv⟩ : ∃ A a b, svO p.2.1 = .slice A a b := svO_form _
    rw [hsv] at hl
    generalize p.2.2 = dd at hl
    generalize p.1 = n at *
    clear h hd hc hk hE hn k1 k2 hp hm hsv
    go_enter Try.func29, Try.ntmps29
    go_wp2_with (go_at_call 24; refine HCN.out.mono ?_; rintro e w' ⟨rfl, rfl⟩)
    go_quiet (fail)
    go_wp2
    go_ret
    exact ⟨rfl, ((Only.refl _ _).alloc _).drewN _⟩
  · have hl := lookB_nok k2 k1 hn (fun e => hm ((hk n).2 e))
    have HI := hide (fun W (hW : Only [] w W) => hasCl_is (h.quiet hW) (h.quiet hW).row hf hc)
    have hc1 := fun o => (h.quiet ((Only.refl [] w).alloc o)).c1
    have hc3 := fun o => (h.quiet ((Only.refl [] w).alloc o)).c3
    have HO := hide (fun o => (Only.refl [] w).alloc o)
    by_cases hr : (ns.length : Int) < room
    · rw [if_pos (.inr (.inl hr))] at hE
      rw [hE]
      clear h hd hc hk hE hn k1 k2 hm HI
      go_enter Try.func29, Try.ntmps29
      go_wp2_with (go_at_call 24; refine HCN.out.mono ?_; rintro e w' ⟨rfl, rfl⟩)
      go_quiet (fail)
      go_wp2
      go_ret
      exact ⟨rfl, (HO.out _).drewN _⟩
    · have hrb : decide ((ns.length : Int) < room) = false := by simpa using hr
      cases ha : ns.any cl
      · rw [if_neg (by rw [ha]; simp [hm]; omega)] at hE
        rw [hE]
        rw [ha] at HI
        clear h hd hc hk hE hn k1 k2 hm ha hr
        go_enter Try.func29, Try.ntmps29
        go_wp2_with (go_at_call 24; refine HCN.out.mono ?_; rintro e w' ⟨rfl, rfl⟩)
        go_quiet ((go_at_call 46; exact Calls.quiet_of_same ((HI.out _ (by repeat (first | exact HO.out _ | apply Only.drew | apply Only.drewN))).mono fun _ _ h => ⟨h.1, h.2.symm⟩)))
        go_wp2
        go_ret
        exact ⟨rfl, (HO.out _).drewN _⟩
      · rw [if_pos (.inr (.inr ha))] at hE
        rw [hE]
        rw [ha] at HI
        clear h hd hc hk hE hn k1 k2 hm ha hr
        go_enter Try.func29, Try.ntmps29
        go_wp2_with (go_at_call 24; refine HCN.out.mono ?_; rintro e w' ⟨rfl, rfl⟩)
        go_quiet ((go_at_call 46; exact Calls.quiet_of_same ((HI.out _ (by repeat (first | exact HO.out _ | apply Only.drew | apply Only.drewN))).mono fun _ _ h => ⟨h.1, h.2.symm⟩)))
        go_wp2
        go_ret
        exact ⟨rfl, (HO.out _).drewN _⟩

theorem bufetch_no (h : IsBu w g m gd room v ns O hi mi ev wr) (hd : Dk w gd N plat l left rd wt fl k F) (hf : ns.length ≤ 1024) (hc : ClOn cl O ns) (hk : ∀ t, t ∈ ns ↔ t ∈ O.map (·.1)) (n : Int) (hn : iW n) (he : refE N room ns cl n ≠ 0) :
    Calls Try.prog 26 #[.pointer (some ⟨g, 0, none⟩), .int .i64 n] w fun e w' => e = .returned (.tuple #[.agg #[.slice none 0 0, .bool false], .int .i64 (refE N room ns cl n)]) ∧ Only [] w w' := by
  have hA : Only [] w (w.alloc (.cells #[.slice none 0 0, .bool false] 57)) := (Only.refl [] w).alloc _
  have hq := Blk.new w 57 #[.slice none 0 0, .bool false]
  have HR := hide ((refuses_is (h.quiet hA) (hd.quiet hA) hf hc hk n hn).mono (R' := fun e w' => e = .returned (.int .i64 (refE N room ns cl n)) ∧ Only [] w w' ∧ Blk w' w.heap.size 57 #[.slice none 0 0, .bool false]) (fun e w' ⟨h1, h2⟩ => ⟨h1, hA.trans h2, hq.only h2 (by simp)⟩))
  have hne : ((refE N room ns cl n) != 0) = true := by simpa using he
  clear h hd hc hk hn he hA hq
  generalize refE N room ns cl n = r at *
  go_enter Try.func26, Try.ntmps26
  go_wp2_with (go_at_call 29; refine HR.out.mono ?_; rintro e w' ⟨rfl, ho, hb⟩; have f0 := hb.frozen 0; have f1 := hb.frozen 1; have b0 := hb.cell 0; have b1 := hb.cell 1; have HO := hide ho; have HB := hide hb; clear ho hb)
  have hb2 := ((HB.out.set_ 0 (.slice none 0 0)).set_ 1 (.bool false))
  have e0 := hb2.cell 0
  have e1 := hb2.cell 1
  refine bodyPost_ret (v := .tuple #[.agg #[.slice none 0 0, .bool false], .int .i64 r]) (by simp [results, Try.results26, go_sem, e0, e1]) rfl ⟨rfl, ?_⟩
  exact (HO.out.setCell _ (by simp)).setCell _ (by simp)
/-- A new row of bytes: block d, the bytes zs, r behind. -/
def NewB (w' : World) (B d : Nat) (zs : List Int) (r : List Value) : Prop := B ≤ d ∧ Blk w' d 5 (u8l zs ++ r).toArray ∧ zs.length = 512 ∧ U8 zs
/-- What a fetch leaves. -/
def FetF (w w' : World) (g m gd N : Nat) (room : Int) (v : Value) (ns : List Int) (O : List (Int × BV)) (hi mi ev wr : Int) (plat : List Int) (l : List (Nat × List Int)) (left rd wt fl : Int) (k : Nat) (F : List Nat) (zs : List Int) (d : Nat) (r : List Value) : Prop :=
  NewB w' w.heap.size d zs r ∧ IsBu w' g m gd room v ns O hi (mi + 1) ev wr ∧ Dk w' gd N plat l left (rd + 1) wt fl (k + 1) F ∧ Only (g :: F) w w'
theorem fetch_facts {w2 w3 : World} {q : Nat} {zs : List Int} {vd : Value} (h : IsBu w2 g m gd room v ns O hi mi ev wr) (hdis : ∀ q ∈ footB g m v, q ∉ F) (ho2 : Only [] w w2) (hq : Blk w2 q 57 #[.slice none 0 0, .bool false]) (hqw : w.heap.size ≤ q) (hqg : q ∉ footB g m v) (hqF : q ∉ F)
    (hf : Fresh w3 w2.heap.size vd zs) (hz : zs.length = 512 ∧ U8 zs) (hT : Turned w2 w3 F F) (hd : Dk w3 gd N plat l left (rd + 1) wt fl (k + 1) F) :
    ∃ d r, vd = .slice (some ⟨d, 0, none⟩) 512 (512 + r.length) ∧ w3.cell? ⟨g, 5, none⟩ = some (.int .i64 mi) ∧ w3.frozen? ⟨g, 5, none⟩ = false ∧ w3.cell? ⟨g, 0, none⟩ = some (.pointer (some ⟨gd, 0, none⟩)) ∧
      Blk (w3.setCell ⟨g, 5, none⟩ (.int .i64 (mi + 1))) q 57 #[.slice none 0 0, .bool false] ∧
      ∀ w5, Only [q] (w3.setCell ⟨g, 5, none⟩ (.int .i64 (mi + 1))) w5 → FetF w w5 g m gd N room v ns O hi mi ev wr plat l left rd wt fl k F zs d r := by
  obtain ⟨d, c, r, rfl, hdw, hb, hc⟩ := hf
  have h3 := h.only hT.1 hdis
  have ho : Only [g] w3 (w3.setCell ⟨g, 5, none⟩ (.int .i64 (mi + 1))) := (Only.refl _ _).setCell _ (by simp)
  have h4 := h3.restr (mi' := mi + 1) ho (h3.blk.set_ 5 _)
  have hgF : g ∉ F := hdis g (mem_footB.2 (.inl rfl))
  have hq3 : Blk w3 q 57 #[.slice none 0 0, .bool false] := hq.only hT.1 hqF
  have hq4 := hq3.only ho (by simpa using hq3.ne_ h3.blk (by decide))
  refine ⟨d, r, by rw [hz.1, ← hc, hz.1], h3.c5, h3.fr 5, h3.c0, hq4, fun w5 h5 => ⟨⟨Nat.le_trans ho2.size hdw, ?_, hz⟩, h4.only h5 (fun k hk hm => hqg (by rw [← List.mem_singleton.1 hm]; exact hk)), (hd.only ho (fun x hx hm => hgF (by rw [← List.mem_singleton.1 hm]; exact hx))).only h5 (fun x hx hm => hqF (by rw [← List.mem_singleton.1 hm]; exact hx)), ?_⟩⟩
  · exact (hb.only ho (by simpa using hb.ne_ h3.blk (by decide))).only h5 (by simpa using hb.ne_ hq3 (by decide))
  · exact (((ho2.mono (by simp)).trans (hT.1.mono (fun x _ hx => by simp [hx]))).trans (ho.mono (fun x _ hx => by simp at hx; simp [hx]))).trans' h5 (fun x hx hm => by simp at hm; omega)
set_option maxHeartbeats 1500000 in
theorem bufetch_ok (h : IsBu w g m gd room v ns O hi mi ev wr) (hd : Dk w gd N plat l left rd wt fl k F) (hdis : ∀ q ∈ footB g m v, q ∉ F) (hf : ns.length ≤ 1024) (hc : ClOn cl O ns) (hk : ∀ t, t ∈ ns ↔ t ∈ O.map (·.1)) (n : Nat) (hn : n < N) (he : refE N room ns cl n = 0) (hkk : k < 4611686018427387904) (hm0 : 0 ≤ mi) (hm1 : mi < 9223372036854775807) :
    Calls Try.prog 26 #[.pointer (some ⟨g, 0, none⟩), .int .i64 n] w fun e w' => ∃ d r, e = .returned (.tuple #[.agg #[.slice (some ⟨d, 0, none⟩) 512 (512 + r.length), .bool false], .int .i64 0]) ∧ FetF w w' g m gd N room v ns O hi mi ev wr plat l left rd wt fl k F (sect plat l n) d r := by
  have hA : Only [] w (w.alloc (.cells #[.slice none 0 0, .bool false] 57)) := (Only.refl [] w).alloc _
  have hq := Blk.new w 57 #[.slice none 0 0, .bool false]
  have hN := hd.platOk
  have HR := hide ((refuses_is (h.quiet hA) (hd.quiet hA) hf hc hk n (WalkArith.wf_i64 (by omega))).mono (R' := fun e w' => e = .returned (.int .i64 (refE N room ns cl n)) ∧ Only [] w w' ∧ Blk w' w.heap.size 57 #[.slice none 0 0, .bool false] ∧ w'.cell? ⟨g, 0, none⟩ = some (.pointer (some ⟨gd, 0, none⟩))) (fun e w' ⟨h1, h2⟩ => ⟨h1, hA.trans h2, hq.only h2 (by simp), ((h.quiet hA).quiet h2).c0⟩))
  rw [he] at HR
  have HD := hide (fun W (hW : Only [] w W) => dk_read (hd.quiet hW) n hn hkk)
  have HF := hide (fun W w3 vd (hW : Only [] w W) (hb : Blk W w.heap.size 57 #[.slice none 0 0, .bool false]) hf hT (hd3 : Dk w3 gd N plat l left (rd + 1) wt fl (k + 1) F) => fetch_facts (zs := sect plat l n) (vd := vd) (w3 := w3) (h.quiet hW) hdis hW hb (Nat.le_refl _) (fun e => by have := h.foot_lt e; omega) (fun e => by have := hd.lt _ e; omega) hf (hd.secOk hn) hT hd3)
  clear h hd hc hk he hA hq hdis hN
  go_enter Try.func26, Try.ntmps26
  go_wp2_with (first | (go_at_call 29; refine HR.out.mono ?_; rintro e w1 ⟨rfl, ho, hb, h0⟩; have HO := hide ho; have HB := hide hb; clear ho hb) | (go_at_call 19; refine (HD.out _ HO.out).mono ?_; rintro e w3 ⟨vd, rfl, hf, hT, hd3⟩; obtain ⟨d, r, rfl, f0, f1, f2, f3, f4⟩ := HF.out _ _ _ HO.out HB.out hf hT hd3; have HQ := hide f4; have g0 := f3.frozen 0; have g1 := f3.frozen 1; have b0 := f3.cell 0; have b1 := f3.cell 1; have HB3 := hide f3; clear hf hT hd3 f3 f4))
  have hb2 := ((HB3.out.set_ 0 (.slice (some ⟨d, 0, none⟩) 512 (512 + r.length))).set_ 1 (.bool false))
  have e0 := hb2.cell 0
  have e1 := hb2.cell 1
  refine bodyPost_ret (v := .tuple #[.agg #[.slice (some ⟨d, 0, none⟩) 512 (512 + r.length), .bool false], .int .i64 0]) (by simp [results, Try.results26, go_sem, e0, e1]) rfl ⟨d, r, rfl, HQ.out _ ?_⟩
  exact ((Only.refl _ _).setCell _ (by simp)).setCell _ (by simp)
end
end Go.Proofs.Ytenpifamklnkmaa
