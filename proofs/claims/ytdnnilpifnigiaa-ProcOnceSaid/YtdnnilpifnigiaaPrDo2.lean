/-
  Processes and threads (parapet/proc): New, Wait, Proc, Thread.
-/
import Derived.Test.YtdnnilpifnigiaaPrDo
namespace Go.Proofs.Ytdnnilpifnigiaa
open Go.ChangeShapes Go.WideShapes Go.ChangeAt Go.RowKit Go.Maps
set_option linter.unusedVariables false
set_option linter.unusedSimpArgs false
/-- A process with its threads, as Proc tells it. -/
abbrev kTC (k : K5) (v : Value) : Array Value := #[.int .i64 k.pid, .int .i64 k.par, .bool k.zom, .int .i64 k.code, v]
theorem kinT_load {ops : Array Oper} {rest : List Oper} {ds ty ps af} {a : Act} {w : World} {Q : Exit → Act → World → Prop} (x : Operand)
    {g : Nat} {f : K5} {v : Value} (hg : Blk w g 58 (kTC f v)) (hx : a.eval x = .pointer (some ⟨g, 0, none⟩))
    (h : wpList Try.prog ops Q rest (a.put ds (.agg (kTC f v))) w) : wpList Try.prog ops Q (⟨ds, .load 58 x, ty, ps, af, none⟩ :: rest) a w :=
  wpList_load_row rfl 58 x rfl _ hx 58 (kTC f v) (0, 0) _ hg Try.underlying58 rfl (by rw [info_kin]; rfl) h
theorem kinT_store {ops : Array Oper} {rest : List Oper} {ds ty ps af} {a : Act} {w : World} {Q : Exit → Act → World → Prop} (x y : Operand)
    {g : Nat} (f : K5) (A : Option Addr) (n c : Nat) {fo : K5} {vo : Value} (hg : Blk w g 58 (kTC fo vo)) (hx : a.eval x = .pointer (some ⟨g, 0, none⟩)) (hy : a.eval y = .agg (kTC f (.slice A n c)))
    (h : wpList Try.prog ops Q rest (a.put ds undef) (w.setRow g (kTC f (.slice A n c)))) : wpList Try.prog ops Q (⟨ds, .store 58 x y, ty, ps, af, none⟩ :: rest) a w :=
  wpList_store_row rfl 58 x y rfl _ (kTC f (.slice A n c)) hx hy 58 (kTC fo vo) hg (by rw [info_kin]; rfl) rfl (by simp [kTC, Value.oneCell']) h
section
variable {w : World} {fn : Func} {p q : Tmp} {r : Nat} {f : K5} {g : S4} {v0 : Value}
theorem kin_results (hf : fn.results = #[.cell p 58, .tmp q]) {tmps : Array Value} {v : Value}
    (hp : tmps.getD p undef = .pointer (some ⟨r, 0, none⟩)) (hq : tmps.getD q undef = v) (h1 : Blk w r 58 (kTC f v0)) :
    (results fn tmps).run Try.prog w = .ok (.tuple #[.agg (kTC f v0), v]) w := by
  have hp' : tmps[p]?.getD undef = .pointer (some ⟨r, 0, none⟩) := by simpa using hp
  have hq' : tmps[q]?.getD undef = v := by simpa using hq
  have e1 := run_loadVar_row (P := Try.prog) w r 58 58 (kTC f v0) (0, 0) _ h1 Try.underlying58 rfl (by rw [info_kin]; rfl)
  simp [results, hf, hp', hq', asAddr, e1]
theorem strand_results (hf : fn.results = #[.cell p 43, .tmp q]) {tmps : Array Value} {v : Value}
    (hp : tmps.getD p undef = .pointer (some ⟨r, 0, none⟩)) (hq : tmps.getD q undef = v) (h1 : Blk w r 43 (sC g)) :
    (results fn tmps).run Try.prog w = .ok (.tuple #[sV g, v]) w := by
  have hp' : tmps[p]?.getD undef = .pointer (some ⟨r, 0, none⟩) := by simpa using hp
  have hq' : tmps[q]?.getD undef = v := by simpa using hq
  have e1 := run_loadVar_row (P := Try.prog) w r 43 43 (sC g) (0, 0) _ h1 Try.underlying43 rfl (by rw [info_strand]; rfl)
  simp [results, hf, hp', hq', asAddr, e1]
end
/-- What Proc, Thread tell. -/
def procS (s : PS) (pid : Int) : K5 × List Int × Int := if pid ∈ s.P.map (·.pid) then (getK s.P pid, thP s.T pid, 0) else (k0, [], 240)
def threadS (s : PS) (tid : Int) : S4 × Int := if tid ∈ s.T.map (·.tid) then (getT s.T tid, 0) else (s0, 241)
section
variable {w w' w1 : World} {t a b : Nat} {s : PS} {S : List Nat} {x : K5} {y : S4}
set_option maxRecDepth 100000 in
theorem new_is (w : World) : Calls Try.prog 7 #[] w fun e w' => ∃ t a b, e = .returned (.pointer (some ⟨t, 0, none⟩)) ∧ IsPt w' t a b ps1 ∧ w.heap.size ≤ t ∧ w.heap.size ≤ a ∧ w.heap.size ≤ b ∧ Only [] w w' := by
  have hmm := @run_makeMap Try.prog
  have h0 : IsPt (((w.alloc (.map #[] 0)).alloc (.map #[] 0)).alloc (.cells #[.map (some w.heap.size), .map (some (w.heap.size + 1)), .int .i64 0, .int .i64 0] 54)) (w.heap.size + 1 + 1) w.heap.size (w.heap.size + 1) ⟨[], [], 0, 0⟩ := by
    refine ⟨?_, ⟨.map [], ownsMap_only (w := w.alloc (.map #[] 0)) (S := []) ?_ (((Only.refl _ _).alloc _).alloc _) (by simp), MHolds.empty⟩, ⟨.map [], ownsMap_only (w := (w.alloc (.map #[] 0)).alloc (.map #[] 0)) (S := []) ?_ ((Only.refl _ _).alloc _) (by simp), MHolds.empty⟩, by omega⟩
    · have := Blk.new ((w.alloc (.map #[] 0)).alloc (.map #[] 0)) 54 #[.map (some w.heap.size), .map (some (w.heap.size + 1)), .int .i64 0, .int .i64 0]
      rw [World.size_alloc, World.size_alloc] at this
      exact this
    · exact World.ownsMap_made w _ _ _
    · have := World.ownsMap_made (w.alloc (.map #[] 0)) Try.prog 3 elemS
      rw [World.size_alloc] at this
      exact this
  have HB := hide (begin_is h0 (by decide) (by decide) (by decide) (by decide) (by simp) (by simp) (by simp) (by simp) 0)
  have HO0 := hide (show Only [] w (((w.alloc (.map #[] 0)).alloc (.map #[] 0)).alloc (.cells #[.map (some w.heap.size), .map (some (w.heap.size + 1)), .int .i64 0, .int .i64 0] 54)) from (((Only.refl _ _).alloc _).alloc _).alloc _)
  clear h0
  go_enter Try.func7, Try.ntmps7
  go_wp2_with (go_at_call 25; refine HB.out.mono ?_; rintro e w2 ⟨rfl, h2, ho2⟩; have H2 := hide h2; have HO2 := hide ho2; clear h2 ho2)
  go_ret
  exact ⟨_, _, _, rfl, H2.out, by omega, by omega, by omega, HO0.out.trans' HO2.out (fun q hq hm => by simp at hm; omega)⟩
theorem head_find {α : Type} {l : List α} {p : α → Bool} {i : Nat} {x : α} (hx : l[i]? = some x) (hp : p x = true) (hno : ∀ j z, j < i → l[j]? = some z → p z = false) : (l.filter p).head? = some x := by
  rw [List.head?_filter, List.find?_eq_some_iff_getElem]
  obtain ⟨hi, e⟩ := List.getElem?_eq_some_iff.1 hx
  exact ⟨hp, i, hi, e, fun j hj => by rw [hno j l[j] hj (List.getElem?_eq_getElem (by omega))]; rfl⟩
theorem zomsP_eq (P : List K5) (pid : Int) : zomsP P pid = (P.filter fun k => k.par == pid).filter fun k => k.zom := by
  unfold zomsP
  rw [List.filter_filter]
  refine List.filter_congr fun x _ => ?_
  rw [Bool.and_comm]
set_option maxRecDepth 100000 in
set_option maxHeartbeats 1000000 in
theorem wait_is (h : IsPt w t a b s) (ok : OkS s) {pid : Int} (hk : iW pid) : Calls Try.prog 19 #[.pointer (some ⟨t, 0, none⟩), .int .i64 pid] w fun e w' => e = .returned (.tuple #[.int .i64 (waitS s pid).1.1, .int .i64 (waitS s pid).1.2.1, .int .i64 (waitS s pid).1.2.2]) ∧ IsPt w' t a b (waitS s pid).2 ∧ Only [t, a, b] w w' := by
  have HC := hide (pcclosed_is h)
  have HLV := hide (lives_is h hk)
  have H := hide h
  unfold waitS
  cases hb : livesP s.P pid
  · rw [hb] at HLV
    rw [if_neg (by decide)]
    clear h ok hk
    go_enter Try.func19, Try.ntmps19
    go_wp2_with (first | (go_at_call 27; refine HC.out.mono ?_; rintro e w' ⟨rfl, rfl⟩) | (go_at_call 30; refine HLV.out.mono ?_; rintro e w1 ⟨rfl, ho⟩; have HO := hide ho; clear ho))
    go_ret3
    exact ⟨rfl, H.out.quiet HO.out, HO.out.mono (by simp)⟩
  · rw [hb] at HLV
    rw [if_pos rfl]
    have HCH := hide (fun W (ho : Only [] w W) => children_is (h.quiet ho) ok.sp (by have := ok.fp; omega) pid)
    by_cases hnil : chP s.P pid = []
    · rw [if_pos hnil]
      rw [hnil] at HCH
      clear h ok hk hb
      go_enter Try.func19, Try.ntmps19
      go_wp2_with (first | (go_at_call 27; refine HC.out.mono ?_; rintro e w' ⟨rfl, rfl⟩) | (go_at_call 30; refine HLV.out.mono ?_; rintro e w1 ⟨rfl, ho⟩; have HO := hide ho; clear ho) | (go_at_call 18; refine (HCH.out _ HO.out).mono ?_; rintro e w2 ⟨v, rfl, hr, ho⟩; obtain ⟨A, cap, rfl, -⟩ := hr.form; have HO2 := hide (HO.out.trans ho); clear hr ho; dsimp only [List.length_nil]))
      go_ret3
      exact ⟨rfl, H.out.quiet HO2.out, HO2.out.mono (by simp)⟩
    · rw [if_neg hnil]
      have hlen : (chP s.P pid).length = (s.P.filter fun k => k.par == pid).length := by unfold chP; simp
      have hpos : 0 < (chP s.P pid).length := List.length_pos_iff.2 hnil
      have hne : (((chP s.P pid).length : Int) == 0) = false := by rw [beq_eq_false_iff_ne]; omega
      have hsm : (chP s.P pid).length < 100000 := by
        have h1 := (chP_sub s.P pid).length_le
        have h2 := ok.fp
        rw [List.length_map] at h1
        omega
      have HGB := hide (fun (i : Nat) (x : K5) (hx : (s.P.filter fun k => k.par == pid)[i]? = some x) => (show gb (chP s.P pid) i = x.pid from by
        unfold chP gb
        simp [List.getD, hx]))
      have HLX := hide (fun (i : Nat) (hi : i < (chP s.P pid).length) => (show ∃ x, (s.P.filter fun k => k.par == pid)[i]? = some x ∧ x ∈ s.P from ⟨_, List.getElem?_eq_getElem (by omega), (List.mem_filter.1 (List.getElem_mem (show i < (s.P.filter fun k => k.par == pid).length by omega))).1⟩))
      have HLT := hide h.lt_
      rw [zomsP_eq]
      generalize hR : waitM s ((s.P.filter fun k => k.par == pid).filter fun k => k.zom).head? = R
      have HR := hide hR
      clear h ok hk hb hnil hR
      go_enter Try.func19, Try.ntmps19
      go_wp2_with (first | (go_at_call 27; refine HC.out.mono ?_; rintro e w' ⟨rfl, rfl⟩) | (go_at_call 30; refine HLV.out.mono ?_; rintro e w1 ⟨rfl, ho⟩; have HO := hide ho; clear ho) | (go_at_call 18; refine (HCH.out _ HO.out).mono ?_; rintro e w2 ⟨v, rfl, hr, ho⟩; obtain ⟨A, cap, rfl, hA⟩ := hr.form; have HA := hide hA; have HO2 := hide (HO.out.trans ho); clear hr ho hA))
      generalize hn : (chP s.P pid).length = n at *
      generalize (s.P.filter fun k => k.par == pid) = L at *
      go_loopw [25] (fun iv wr => ∃ i : Nat, i ≤ n ∧ iv = .int .i64 i ∧ Only [] w2 wr ∧ ∀ j z, j < i → L[j]? = some z → z.zom = false) (fun iv _ => n - (intOf iv).toNat)
      case atStart => exact ⟨0, Nat.zero_le _, rfl, Only.refl _ _, fun j z hj => absurd hj (by omega)⟩
      case round =>
        obtain ⟨i, hi, rfl, ho, hno⟩ := hrel
        have HO3 := hide ho
        have HNO := hide hno
        by_cases hlt : i < n
        · have hltI : (i : Int) < n := by omega
          obtain ⟨q, rfl, hq1, hq2, hq3⟩ := HA.out (by omega)
          obtain ⟨x, hx, hxm⟩ := HLX.out i hlt
          have hI := H.out.quiet (HO2.out.trans ho)
          have cq : wr.cell? ⟨q, i, none⟩ = some (.int .i64 x.pid) := by
            rw [← HGB.out i x hx]
            exact (ho.cell hq2 (by simp)).trans (hq3 i (by omega))
          have c1 := hI.c0
          have hl := hI.seeK hxm false (Only.refl _ _)
          have HX := hide hx
          clear ho hno hq3 hx
          cases hz : x.zom
          · have HZ := hide hz
            obtain ⟨x1, x2, x3, x4⟩ := x
            dsimp only at hz
            subst hz
            dsimp only [kV, kC] at *
            clear hI hxm
            go_wp2
            go_roundw
            case rel =>
              refine ⟨i + 1, hlt, by go_num, HO3.out.alloc _, fun j z hj hz => ?_⟩
              rcases Nat.lt_or_ge j i with e | e
              · exact HNO.out j z e hz
              · have : j = i := by omega
                subst this
                rw [HX.out] at hz
                injection hz with hz
                rw [← hz]
            case measure => simp [intOf]; omega
          · have HH := hide (head_find (p := fun k => k.zom) HX.out hz HNO.out)
            obtain ⟨w4, hrun, h4, ho4⟩ := hI.delK hxm 0 ((Only.refl _ wr).alloc (.cells (kC x) 58))
            have H4 := hide h4
            have HO4 := hide ho4
            have b3 : w4.cell? ⟨wr.heap.size, 3, none⟩ = some (.int .i64 x.code) := ((Blk.new wr 58 (kC x)).only ho4 (by have := hI.lt_; simp; omega)).cell 3
            have c2 := (hI.quiet ((Only.refl _ wr).alloc (.cells (kC x) 58))).c0
            have hRR : R = ((x.pid, x.code, 0), { s with P := delK s.P x.pid }) := by rw [← HR.out, HH.out]; rfl
            subst hRR
            obtain ⟨x1, x2, x3, x4⟩ := x
            dsimp only at hz
            subst hz
            dsimp only [kV, kC] at *
            clear hI hxm h4 ho4 HH HR
            go_wp2
            go_region
            all_goals go_wp2
            all_goals go_ret3
            all_goals exact ⟨rfl, H4.out.quiet (by repeat (first | exact Only.refl _ _ | apply Only.drew | apply Only.drewN)), ((((HO2.out.trans HO3.out).alloc _).mono (by simp)).trans (HO4.out.mono (by intro q _ hq; simp at hq ⊢; omega))).trans (by repeat (first | exact Only.refl _ _ | apply Only.drew | apply Only.drewN))⟩
        · obtain rfl : i = n := by omega
          have HH := hide (show (L.filter fun k => k.zom) = [] from List.filter_eq_nil_iff.2 (fun z hz => by
            obtain ⟨j, hj, e⟩ := List.getElem_of_mem hz
            have := HNO.out j z (by omega) (by rw [List.getElem?_eq_getElem hj, e])
            simp [this]))
          have hRR : R = ((0, 0, 211), s) := by rw [← HR.out, HH.out]; rfl
          subst hRR
          clear HR HH
          go_wp2
          go_ret3
          exact ⟨rfl, H.out.quiet (HO2.out.trans HO3.out), (HO2.out.trans HO3.out).mono (by simp)⟩
set_option maxRecDepth 100000 in
theorem thread_is (h : IsPt w t a b s) {tid : Int} (hk : iW tid) : Calls Try.prog 16 #[.pointer (some ⟨t, 0, none⟩), .int .i64 tid] w fun e w' => e = .returned (.tuple #[sV (threadS s tid).1, .int .i64 (threadS s tid).2]) ∧ Only [] w w' := by
  have HC := hide (fun W (ho : Only [] w W) => pcclosed_is (h.quiet ho))
  have c1 := (h.quiet ((Only.refl [] w).alloc (.cells (sC s0) 43))).c1
  unfold threadS
  by_cases hm : tid ∈ s.T.map (·.tid)
  · rw [if_pos hm]
    obtain ⟨y, hy, rfl⟩ := List.mem_map.1 hm
    rw [getT_at h.ndT hy]
    have hl := h.seeT hy true ((Only.refl [] w).alloc (.cells (sC s0) 43))
    have HW := hide (show Blk ((w.alloc (.cells (sC s0) 43)).alloc (.cells (sC y) 43)) w.heap.size 43 (sC s0) ∧ Blk ((w.alloc (.cells (sC s0) 43)).alloc (.cells (sC y) 43)) (w.heap.size + 1) 43 (sC y) ∧ Only [] w (((w.alloc (.cells (sC s0) 43)).alloc (.cells (sC y) 43)).setRow w.heap.size (sC y)) from
      ⟨(Blk.new w _ _).alloc _, (by have := Blk.new (w.alloc (.cells (sC s0) 43)) 43 (sC y); rw [World.size_alloc] at this; exact this), (((Only.refl [] w).alloc _).alloc _).setRow _ (fun hlt => absurd hlt (Nat.lt_irrefl _))⟩)
    clear h hy hm hk
    obtain ⟨x1, x2, x3, x4⟩ := y
    dsimp only [sV, sC] at hl c1 HC
    go_enter Try.func16, Try.ntmps16
    go_wp2_with (first | (with_reducible refine wp_region_lit (id := 6) ?_) | (go_at_call 27; refine (HC.out _ (by repeat (first | exact Only.refl _ _ | apply Only.drew | apply Only.drewN | apply Only.alloc))).mono ?_; rintro e w' ⟨rfl, rfl⟩) | ((with_reducible refine strand_load (.tmp 6) HW.out.2.1 ?_ ?_); (· rfl)) | ((with_reducible refine strand_store (.tmp 4) (.tmp 23) ⟨x1, x2, x3, x4⟩ HW.out.1 ?_ ?_ ?_); (· rfl); (· rfl)))
    exact bodyPost_ret (strand_results (p := 4) (q := 5) rfl rfl rfl (HW.out.1.row _)) rfl ⟨rfl, HW.out.2.2⟩
  · rw [if_neg hm]
    have hl := h.seeT_no hk hm ((Only.refl [] w).alloc (.cells (sC s0) 43))
    have HW := hide (show Blk ((w.alloc (.cells (sC s0) 43)).alloc (.cells (sC s0) 43)) w.heap.size 43 (sC s0) ∧ Only [] w (((w.alloc (.cells (sC s0) 43)).alloc (.cells (sC s0) 43)).setRow w.heap.size (sC s0)) from
      ⟨(Blk.new w _ _).alloc _, (((Only.refl [] w).alloc _).alloc _).setRow _ (fun hlt => absurd hlt (Nat.lt_irrefl _))⟩)
    clear h hm hk
    dsimp only [sV, sC] at hl c1 HC
    go_enter Try.func16, Try.ntmps16
    go_wp2_with (first | (with_reducible refine wp_region_lit (id := 5) ?_) | (go_at_call 27; refine (HC.out _ (by repeat (first | exact Only.refl _ _ | apply Only.drew | apply Only.drewN | apply Only.alloc))).mono ?_; rintro e w' ⟨rfl, rfl⟩) | ((with_reducible refine strand_store (.tmp 4) (.tmp 22) s0 HW.out.1 ?_ ?_ ?_); (· rfl); (· rfl)))
    exact bodyPost_ret (strand_results (p := 4) (q := 5) (g := s0) rfl rfl rfl (HW.out.1.row _)) rfl ⟨rfl, HW.out.2⟩
end
end Go.Proofs.Ytdnnilpifnigiaa
