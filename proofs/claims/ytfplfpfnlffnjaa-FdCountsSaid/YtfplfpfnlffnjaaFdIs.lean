/-
  Open files (parapet/fdtab): the files; closed, has, least, New, Get, Open, share, Drop, Move.
-/
import Derived.Test.YtfplfpfnlffnjaaFdMap
import Derived.Deep.RegionLaw
namespace Go.Proofs.Ytfplfpfnlffnjaa
open Go.ChangeShapes Go.WideShapes Go.ChangeAt Go.RowKit Go.Maps
set_option linter.unusedVariables false
set_option linter.unusedSimpArgs false

theorem ownsMap_only {w w' : World} {kt : TypeId} {el : Value → Option (DataW Unit × List MemPlace)} {b n : Nat} {D : DataW Unit} {S : List Nat} (h : w.ownsMap Try.prog kt el b n D) (ho : Only S w w') (hs : b ∉ S) : w'.ownsMap Try.prog kt el b n D := by
  obtain ⟨es, clock, hb, F, hsz, rfl⟩ := h
  have hlt : b < w.heap.size := by
    rcases Nat.lt_or_ge b w.heap.size with h | h
    · exact h
    · rw [Array.getElem?_eq_none h] at hb; cases hb
  exact ⟨es, clock, (ho.block b hlt hs).trans hb, F, hsz, rfl⟩
theorem ownsMap_lt {w : World} {kt : TypeId} {el : Value → Option (DataW Unit × List MemPlace)} {b n : Nat} {D : DataW Unit} (h : w.ownsMap Try.prog kt el b n D) : b < w.heap.size := by
  obtain ⟨es, clock, hb, F, hsz, rfl⟩ := h
  rcases Nat.lt_or_ge b w.heap.size with h | h
  · exact h
  · rw [Array.getElem?_eq_none h] at hb; cases hb
theorem ownsMap_ne {w : World} {kt : TypeId} {el : Value → Option (DataW Unit × List MemPlace)} {b n q : Nat} {D : DataW Unit} {t : TypeId} {cs : Array Value} (h : w.ownsMap Try.prog kt el b n D) (hq : Blk w q t cs) : b ≠ q := by
  rintro rfl
  obtain ⟨es, clock, hb, F, hsz, rfl⟩ := h
  unfold Blk at hq
  rw [hb] at hq
  cases hq

/-- Open files in block f, their map in m: just these. -/
structure IsFi (w : World) (f m : Nat) (O : List (Int × F5)) : Prop where
  blk : Blk w f 52 #[.map (some m)]
  own : ∃ D, w.ownsMap Try.prog 3 elemF m O.length D ∧ MHolds encF D O
  ids : ∀ p ∈ O, 0 ≤ p.1 ∧ p.1 < 64
  few : O.length ≤ 64
section
variable {w w' w1 : World} {f m : Nat} {O : List (Int × F5)} {S : List Nat} {k : Int} {x : F5}
theorem IsFi.c0 (h : IsFi w f m O) : w.cell? ⟨f, 0, none⟩ = some (.map (some m)) := h.blk.cell 0
theorem IsFi.ne (h : IsFi w f m O) : m ≠ f := by
  obtain ⟨D, d1, d2⟩ := h.own
  exact ownsMap_ne d1 h.blk
theorem IsFi.lt (h : IsFi w f m O) : f < w.heap.size ∧ m < w.heap.size := by
  obtain ⟨D, d1, d2⟩ := h.own
  exact ⟨h.blk.lt, ownsMap_lt d1⟩
theorem IsFi.only (h : IsFi w f m O) (ho : Only S w w') (h1 : f ∉ S) (h2 : m ∉ S) : IsFi w' f m O := by
  obtain ⟨D, d1, d2⟩ := h.own
  exact ⟨h.blk.only ho h1, ⟨D, ownsMap_only d1 ho h2, d2⟩, h.ids, h.few⟩
theorem IsFi.quiet (h : IsFi w f m O) (ho : Only [] w w') : IsFi w' f m O := h.only ho (by simp) (by simp)
theorem IsFi.nd (h : IsFi w f m O) : (O.map (·.1)).Nodup := by
  obtain ⟨D, d1, d2⟩ := h.own
  exact d2.nd
theorem fdclosed_is (h : IsFi w f m O) : Calls Try.prog 38 #[.pointer (some ⟨f, 0, none⟩)] w fun e w' => e = .returned (.bool false) ∧ w = w' := by
  have c0 := h.c0
  clear h
  have qM : ∀ (w : World) (r : Option Nat), (binOp .eql 50 (.map r) (.map none)).run Try.prog w = .ok (.bool r.isNone) w := fun w r => run_eql_map_nil w _ _ _ r Try.underlying50
  go_enter Try.func38, Try.ntmps38
  go_wp2
  go_ret
  exact ⟨rfl, rfl⟩
/-- Is there such a number? -/
def hasB (O : List (Int × F5)) (k : Int) : Bool := decide (k ∈ O.map (·.1))
theorem fdhas_is (h : IsFi w f m O) (hk : iW k) : Calls Try.prog 40 #[.pointer (some ⟨f, 0, none⟩), .int .i64 k] w fun e w' => e = .returned (.bool (hasB O k)) ∧ Only [] w w' := by
  have c0 := h.c0
  obtain ⟨D, d1, d2⟩ := h.own
  by_cases hm : k ∈ O.map (·.1)
  · obtain ⟨⟨k', x⟩, hp, rfl⟩ := List.mem_map.1 hm
    have HL : ∀ W, Only [] w W → (Instr.lookup 50 (.map (some m)) (.int .i64 k') true).run Try.prog W = .ok (.tuple #[fV x, .bool true]) W := fun W ho => lookF d2 (ownsMap_only d1 ho (by simp)) hp true
    have hl := HL w (Only.refl _ _)
    have HB := hide (show hasB O k' = true from decide_eq_true hm)
    clear h d1 d2 HL hm hp hk
    unfold fV fC at hl
    go_enter Try.func40, Try.ntmps40
    go_wp2
    go_ret
    exact ⟨by rw [HB.out]; rfl, (Only.refl _ _).alloc _⟩
  · have hl := lookF_no d2 d1 hk hm
    have HB := hide (show hasB O k = false from decide_eq_false hm)
    clear h d1 d2 hm hk
    unfold fV fC at hl
    go_enter Try.func40, Try.ntmps40
    go_wp2
    go_ret
    exact ⟨by rw [HB.out]; rfl, (Only.refl _ _).alloc _⟩
theorem fdleast_is (h : IsFi w f m O) : Calls Try.prog 39 #[.pointer (some ⟨f, 0, none⟩)] w fun e w' => Only [] w w' ∧ ∃ i : Nat, i ≤ 64 ∧ e = .returned (.int .i64 i) ∧ ((i : Int) ∉ O.map (·.1)) ∧ ∀ j : Nat, j < i → (j : Int) ∈ O.map (·.1) := by
  have HH := hide (fun W (ho : Only [] w W) (i : Nat) (hi : i ≤ 64) => fdhas_is (k := i) (h.quiet ho) (iW_small (by omega) (by omega)))
  have HI := hide (show ∀ i : Nat, (i : Int) ∈ O.map (·.1) → i < 64 from fun i hi => by
    obtain ⟨p, hp, e⟩ := List.mem_map.1 hi
    have := h.ids p hp
    omega)
  clear h
  go_enter Try.func39, Try.ntmps39
  go_wp2_with fail
  go_loopw [3] (fun iv wr => ∃ i : Nat, i ≤ 64 ∧ iv = .int .i64 i ∧ (∀ j : Nat, j < i → (j : Int) ∈ O.map (·.1)) ∧ Only [] w wr) (fun iv _ => 64 - (intOf iv).toNat)
  case atStart => exact ⟨0, by omega, rfl, fun j hj => absurd hj (by omega), Only.refl _ _⟩
  case round =>
    obtain ⟨i, hi, rfl, hj, ho⟩ := hrel
    have HJ := hide hj
    have HO := hide ho
    have HC := hide (HH.out wr ho i hi)
    clear hj ho HH
    by_cases hm : (i : Int) ∈ O.map (·.1)
    · have hlt := HI.out i hm
      rw [show hasB O i = true from decide_eq_true hm] at HC
      have HM := hide hm
      clear hm
      go_wp2_with (go_at_call 40; refine HC.out.mono ?_; rintro e w' ⟨rfl, ho⟩; have HO2 := hide ho; clear ho)
      go_roundw
      case rel => exact ⟨i + 1, by omega, by go_num, fun j hj => (by
          by_cases e : j = i
          · subst e; exact HM.out
          · exact HJ.out j (by omega)), HO.out.trans HO2.out⟩
      case measure => simp [intOf]; omega
    · rw [show hasB O i = false from decide_eq_false hm] at HC
      have HM := hide hm
      clear hm
      go_wp2_with (go_at_call 40; refine HC.out.mono ?_; rintro e w' ⟨rfl, ho⟩; have HO2 := hide ho; clear ho)
      go_ret
      exact ⟨HO.out.trans HO2.out, i, hi, rfl, HM.out, HJ.out⟩
theorem fdNew_is (w : World) : Calls Try.prog 25 #[] w fun e w' => e = .returned (.pointer (some ⟨w.heap.size + 1, 0, none⟩)) ∧ Only [] w w' ∧ IsFi w' (w.heap.size + 1) w.heap.size [] := by
  have hmm := @run_makeMap Try.prog
  go_enter Try.func25, Try.ntmps25
  go_wp2
  go_ret
  refine ⟨rfl, ((Only.refl _ _).alloc _).alloc _, ?_, ⟨.map [], ownsMap_only (w := w.alloc (.map #[] 0)) (S := []) ?_ ((Only.refl _ _).alloc _) (by simp), MHolds.empty⟩, by simp, by simp⟩
  · have := Blk.new (w.alloc (.map #[] 0)) 52 #[.map (some w.heap.size)]
    rw [World.size_alloc] at this
    exact this
  · exact World.ownsMap_made w _ _ _
theorem pigeon {L : List Int} {n : Nat} (h : ∀ j : Nat, j < n → (j : Int) ∈ L) : n ≤ L.length := by
  induction n generalizing L with
  | zero => exact Nat.zero_le _
  | succ n ih =>
    have h1 := h n (Nat.lt_succ_self _)
    have h2 := ih (L := L.erase (n : Int)) (fun j hj => (List.mem_erase_of_ne (by omega)).2 (h j (by omega)))
    have h3 := List.length_erase_of_mem h1
    have h4 := List.length_pos_of_mem h1
    omega
theorem open_bad (h : IsFi w f m O) {a : Int} (b c : Int) (ha : a < 1 ∨ 4 < a) : Calls Try.prog 10 #[.pointer (some ⟨f, 0, none⟩), .int .i64 a, .int .i64 b, .int .i64 c] w fun e w' => e = .returned (.tuple #[.int .i64 0, .int .i64 1]) ∧ w = w' := by
  have HC := hide (fdclosed_is h)
  clear h
  rcases ha with ha | ha
  · go_enter Try.func10, Try.ntmps10
    go_wp2_with (go_at_call 38; refine HC.out.mono ?_; rintro e w' ⟨rfl, rfl⟩)
    go_ret2
    exact ⟨rfl, rfl⟩
  · have h1 : ¬ a < 1 := by omega
    go_enter Try.func10, Try.ntmps10
    go_wp2_with (go_at_call 38; refine HC.out.mono ?_; rintro e w' ⟨rfl, rfl⟩)
    go_ret2
    exact ⟨rfl, rfl⟩
theorem open_full (h : IsFi w f m O) {a : Int} (b c : Int) (h1 : 1 ≤ a) (h4 : a ≤ 4) (hf : O.length = 64) : Calls Try.prog 10 #[.pointer (some ⟨f, 0, none⟩), .int .i64 a, .int .i64 b, .int .i64 c] w fun e w' => e = .returned (.tuple #[.int .i64 0, .int .i64 2]) ∧ w = w' := by
  have HC := hide (fdclosed_is h)
  have c0 := h.c0
  obtain ⟨D, d1, d2⟩ := h.own
  have hl := fun ty => lenF d2 d1 ty
  rw [hf] at hl
  clear h d1 d2 hf
  have g1 : ¬ a < 1 := by omega
  have g4 : ¬ 4 < a := by omega
  go_enter Try.func10, Try.ntmps10
  go_wp2_with (go_at_call 38; refine HC.out.mono ?_; rintro e w' ⟨rfl, rfl⟩)
  go_ret2
  exact ⟨rfl, rfl⟩
theorem least_lt (h : IsFi w f m O) (hf : O.length ≠ 64) : Calls Try.prog 39 #[.pointer (some ⟨f, 0, none⟩)] w fun e w' => Only [] w w' ∧ ∃ i : Nat, i < 64 ∧ e = .returned (.int .i64 i) ∧ ((i : Int) ∉ O.map (·.1)) ∧ ∀ j : Nat, j < i → (j : Int) ∈ O.map (·.1) := by
  have hfew := h.few
  refine (fdleast_is h).mono ?_
  rintro e w' ⟨ho, i, hi, rfl, hn, hj⟩
  have h1 := pigeon hj
  rw [List.length_map] at h1
  exact ⟨ho, i, by omega, rfl, hn, hj⟩
theorem IsFi.add (h : IsFi w f m O) (hf : O.length ≠ 64) {i : Nat} (hi : i < 64) (hn : (i : Int) ∉ O.map (·.1)) (x : F5) (ho : Only [] w w1) :
    ∃ w4, (Instr.mapUpdate 50 (.map (some m)) (.int .i64 i) (fV x)).run Try.prog w1 = .ok () w4 ∧ IsFi w4 f m (O ++ [((i : Int), x)]) ∧ Only [m] w1 w4 := by
  have h1 := h.quiet ho
  have hfew := h.few
  obtain ⟨D, d1, d2⟩ := h1.own
  obtain ⟨w4, k1, k2, k3⟩ := storeF_new (f := x) d2 d1 (by unfold maxLen; omega) (iW_small (x := (i : Int)) (by omega) (by omega)) hn
  refine ⟨w4, k1, ⟨h1.blk.only k3 (by simpa using h.ne.symm), ⟨_, k2, d2.new (iW_small (x := (i : Int)) (by omega) (by omega)) hn⟩, fun p hp => ?_, by simp; omega⟩, k3⟩
  rcases List.mem_append.1 hp with hp | hp
  · exact h.ids p hp
  · rw [List.mem_singleton.1 hp]; exact ⟨by show (0 : Int) ≤ (i : Int); omega, by show (i : Int) < 64; omega⟩
theorem IsFi.put (h : IsFi w f m O) {y : F5} (hp : (k, y) ∈ O) (x : F5) (ho : Only [] w w1) :
    ∃ w4, (Instr.mapUpdate 50 (.map (some m)) (.int .i64 k) (fV x)).run Try.prog w1 = .ok () w4 ∧ IsFi w4 f m (setV O k x) ∧ Only [m] w1 w4 := by
  have h1 := h.quiet ho
  have hfew := h.few
  obtain ⟨D, d1, d2⟩ := h1.own
  obtain ⟨w4, k1, k2, k3⟩ := storeF_old d2 d1 (by unfold maxLen; omega) hp x
  refine ⟨w4, k1, ⟨h1.blk.only k3 (by simpa using h.ne.symm), ⟨_, k2, d2.old hp x⟩, fun p hq => ?_, by unfold setV; rw [List.length_map]; exact hfew⟩, k3⟩
  have : p.1 ∈ (setV O k x).map (·.1) := List.mem_map.2 ⟨p, hq, rfl⟩
  rw [setV_keys] at this
  obtain ⟨q, hq2, e⟩ := List.mem_map.1 this
  rw [← e]
  exact h.ids q hq2
theorem IsFi.del (h : IsFi w f m O) {y : F5} (hp : (k, y) ∈ O) (ty : TypeId) (ho : Only [] w w1) :
    ∃ w4, (Builtin.delete_ #[50, 3] ty #[.map (some m), .int .i64 k]).run Try.prog w1 = .ok (.tuple #[]) w4 ∧ IsFi w4 f m (outV O k) ∧ Only [m] w1 w4 := by
  have h1 := h.quiet ho
  have hfew := h.few
  obtain ⟨D, d1, d2⟩ := h1.own
  obtain ⟨w4, k1, k2, k3⟩ := dropF d2 d1 hp ty
  refine ⟨w4, k1, ⟨h1.blk.only k3 (by simpa using h.ne.symm), ⟨_, k2, d2.del hp⟩, fun p hq => h.ids p (List.mem_filter.1 hq).1, Nat.le_trans (List.length_filter_le _ _) hfew⟩, k3⟩
theorem open_ok (h : IsFi w f m O) {a : Int} (b c : Int) (h1 : 1 ≤ a) (h4 : a ≤ 4) (hf : O.length ≠ 64) : Calls Try.prog 10 #[.pointer (some ⟨f, 0, none⟩), .int .i64 a, .int .i64 b, .int .i64 c] w fun e w' => ∃ i : Nat, i < 64 ∧ e = .returned (.tuple #[.int .i64 i, .int .i64 0]) ∧ ((i : Int) ∉ O.map (·.1)) ∧ (∀ j : Nat, j < i → (j : Int) ∈ O.map (·.1)) ∧ IsFi w' f m (O ++ [((i : Int), ⟨a, b, 0, c, 1⟩)]) ∧ Only [m] w w' := by
  have HC := hide (fdclosed_is h)
  have c0 := h.c0
  obtain ⟨D, d1, d2⟩ := h.own
  have hl := fun ty => lenF d2 d1 ty
  have hfi : ((O.length : Int) == 64) = false := by simp only [beq_eq_false_iff_ne]; omega
  have HL := hide (least_lt h hf)
  have HS := hide (fun W (ho : Only [] w W) (i : Nat) (hi : i < 64) (hn : (i : Int) ∉ O.map (·.1)) => h.add hf hi hn ⟨a, b, 0, c, 1⟩ ho)
  have HCW := hide (fun W (ho : Only [] w W) => (h.quiet ho).c0)
  clear h d1 d2 hf
  have g1 : ¬ a < 1 := by omega
  have g4 : ¬ 4 < a := by omega
  go_enter Try.func10, Try.ntmps10
  go_wp2_with (first | (go_at_call 38; refine HC.out.mono ?_; rintro e w' ⟨rfl, rfl⟩) | (go_at_call 39; refine HL.out.mono ?_; rintro e w1 ⟨ho, i, hi, rfl, hn, hj⟩; have c1 := HCW.out w1 ho; obtain ⟨w4, hrun, h5, ho4⟩ := HS.out w1 ho i hi hn; dsimp only [fV, fC] at hrun; have HI := hide (And.intro hn hj); have H5 := hide h5; have HO4 := hide ((ho.mono (S' := [m]) (by simp)).trans ho4); clear ho hn hj h5 ho4 hl hfi c0))
  go_ret2
  exact ⟨i, hi, rfl, HI.out.1, HI.out.2, H5.out, HO4.out⟩
theorem get_ok (h : IsFi w f m O) (hp : (k, x) ∈ O) : Calls Try.prog 19 #[.pointer (some ⟨f, 0, none⟩), .int .i64 k] w fun e w' => e = .returned (.tuple #[fV x, .int .i64 0]) ∧ Only [] w w' := by
  have HC := hide (fun W (ho : Only [] w W) => fdclosed_is (h.quiet ho))
  obtain ⟨D, d1, d2⟩ := h.own
  have hl : (Instr.lookup 50 (.map (some m)) (.int .i64 k) true).run Try.prog (w.alloc (.cells (fC f0) 42)) = .ok (.tuple #[fV x, .bool true]) (w.alloc (.cells (fC f0) 42)) := lookF d2 (ownsMap_only d1 ((Only.refl [] w).alloc _) (by simp)) hp true
  have c0 := (h.quiet ((Only.refl [] w).alloc (.cells (fC f0) 42))).c0
  have HW := hide (show Blk ((w.alloc (.cells (fC f0) 42)).alloc (.cells (fC x) 42)) w.heap.size 42 (fC f0) ∧ Blk ((w.alloc (.cells (fC f0) 42)).alloc (.cells (fC x) 42)) (w.heap.size + 1) 42 (fC x) ∧ Only [] w (((w.alloc (.cells (fC f0) 42)).alloc (.cells (fC x) 42)).setRow w.heap.size (fC x)) from
    ⟨(Blk.new w _ _).alloc _, (by have := Blk.new (w.alloc (.cells (fC f0) 42)) 42 (fC x); rw [World.size_alloc] at this; exact this), (((Only.refl [] w).alloc _).alloc _).setRow _ (fun hlt => absurd hlt (Nat.lt_irrefl _))⟩)
  clear h d1 d2 hp
  obtain ⟨x1, x2, x3, x4, x5⟩ := x
  dsimp only [fV, fC] at hl c0
  go_enter Try.func19, Try.ntmps19
  go_wp2_with (first | (with_reducible refine wp_region_lit (id := 6) ?_) | (go_at_call 38; refine (HC.out _ (by repeat (first | exact Only.refl _ _ | apply Only.drew | apply Only.drewN | apply Only.alloc))).mono ?_; rintro e w' ⟨rfl, rfl⟩) | ((with_reducible refine file_load (.tmp 6) HW.out.2.1 ?_ ?_); (· rfl)) | ((with_reducible refine file_store (.tmp 4) (.tmp 23) ⟨x1, x2, x3, x4, x5⟩ HW.out.1 ?_ ?_ ?_); (· rfl); (· rfl)))
  exact bodyPost_ret (get_results (p := 4) (q := 5) rfl rfl rfl (HW.out.1.row _)) rfl ⟨rfl, HW.out.2.2⟩
theorem get_none (h : IsFi w f m O) (hk : iW k) (hn : k ∉ O.map (·.1)) : Calls Try.prog 19 #[.pointer (some ⟨f, 0, none⟩), .int .i64 k] w fun e w' => e = .returned (.tuple #[fV f0, .int .i64 221]) ∧ Only [] w w' := by
  have HC := hide (fun W (ho : Only [] w W) => fdclosed_is (h.quiet ho))
  obtain ⟨D, d1, d2⟩ := h.own
  have hl : (Instr.lookup 50 (.map (some m)) (.int .i64 k) true).run Try.prog (w.alloc (.cells (fC f0) 42)) = .ok (.tuple #[fV f0, .bool false]) (w.alloc (.cells (fC f0) 42)) := lookF_no d2 (ownsMap_only d1 ((Only.refl [] w).alloc _) (by simp)) hk hn
  have c0 := (h.quiet ((Only.refl [] w).alloc (.cells (fC f0) 42))).c0
  have HW := hide (show Blk ((w.alloc (.cells (fC f0) 42)).alloc (.cells (fC f0) 42)) w.heap.size 42 (fC f0) ∧ Only [] w (((w.alloc (.cells (fC f0) 42)).alloc (.cells (fC f0) 42)).setRow w.heap.size (fC f0)) from
    ⟨(Blk.new w _ _).alloc _, (((Only.refl [] w).alloc _).alloc _).setRow _ (fun hlt => absurd hlt (Nat.lt_irrefl _))⟩)
  clear h d1 d2 hk hn
  dsimp only [fV, fC] at hl c0
  go_enter Try.func19, Try.ntmps19
  go_wp2_with (first | (with_reducible refine wp_region_lit (id := 5) ?_) | (go_at_call 38; refine (HC.out _ (by repeat (first | exact Only.refl _ _ | apply Only.drew | apply Only.drewN | apply Only.alloc))).mono ?_; rintro e w' ⟨rfl, rfl⟩) | ((with_reducible refine file_store (.tmp 4) (.tmp 22) f0 HW.out.1 ?_ ?_ ?_); (· rfl); (· rfl)))
  exact bodyPost_ret (get_results (p := 4) (q := 5) (f := f0) rfl rfl rfl (HW.out.1.row _)) rfl ⟨rfl, HW.out.2⟩
end
end Go.Proofs.Ytfplfpfnlffnjaa
