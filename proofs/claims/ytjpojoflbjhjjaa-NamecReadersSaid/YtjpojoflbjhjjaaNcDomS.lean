/-
  Domains (parapet/rcu): Step.
-/
import Derived.Test.YtjpojoflbjhjjaaNcDom
namespace Go.Proofs.Ytjpojoflbjhjjaa
open Go.ChangeShapes Go.WideShapes Go.ChangeAt Go.RowKit Go.Maps
set_option linter.unusedVariables false
set_option linter.unusedSimpArgs false
section
variable {w w' w1 : World} {d nb pb m : Nat} {v : Value} {s : RS} {S F F' : List Nat}

theorem idxBool_is {ps : List Bool} (h : Blk w pb 4 (boolL ps).toArray) (hl : ps.length ≤ 8) : Calls Try.prog 54 #[.slice (some ⟨pb, 0, none⟩) ps.length ps.length, .bool false] w fun e w' => (∃ r : Int, e = .returned (.int .i64 r) ∧ ((false ∈ ps ∧ 0 ≤ r) ∨ (false ∉ ps ∧ r < 0))) ∧ w = w' := by
  have HB := hide h
  have HL := hide hl
  clear h hl
  go_enter Try.func54, Try.ntmps54
  go_wp2
  go_loopw [8] (fun iv wr => ∃ (i : Nat), i ≤ ps.length ∧ iv = .int .i64 i ∧ wr = w ∧ ∀ j, j < i → ps[j]? = some true) (fun iv _ => ps.length - (intOf iv).toNat)
  case atStart => exact ⟨0, Nat.zero_le _, rfl, rfl, fun j hj => absurd hj (by omega)⟩
  case round =>
    obtain ⟨i, hi, rfl, rfl, hall⟩ := hrel
    have HA := hide hall
    have hsm : (i : Int) ≤ 8 := by have := HL.out; omega
    by_cases hlt : i < ps.length
    · have hltI : (i : Int) < ps.length := by omega
      obtain ⟨b, hb⟩ : ∃ b, ps[i]? = some b := ⟨_, List.getElem?_eq_getElem hlt⟩
      have cb : wr.cell? ⟨pb, i, none⟩ = some (.bool b) := by rw [HB.out.cell]; exact boolL_get hb
      have HBB := hide hb
      clear hall hb
      cases b
      · go_wp2
        go_ret
        exact ⟨⟨i, rfl, .inl ⟨List.mem_of_getElem? HBB.out, by omega⟩⟩, rfl⟩
      · go_wp2
        go_roundw
        case rel => exact ⟨i + 1, hlt, by go_num, (by trivial), fun j hj => by
          by_cases e : j = i
          · rw [e]; exact HBB.out
          · exact HA.out j (by omega)⟩
        case measure => simp [intOf]; omega
    · obtain rfl : i = ps.length := by omega
      clear hall
      go_wp2
      go_ret
      refine ⟨⟨_, rfl, .inr ⟨fun hm => ?_, by decide⟩⟩, rfl⟩
      obtain ⟨j, hj, e⟩ := List.mem_iff_getElem.1 hm
      have := HA.out j hj
      rw [List.getElem?_eq_getElem hj, e] at this
      cases this

theorem contBool_is {ps : List Bool} (h : Blk w pb 4 (boolL ps).toArray) (hl : ps.length ≤ 8) : Calls Try.prog 46 #[.slice (some ⟨pb, 0, none⟩) ps.length ps.length, .bool false] w fun e w' => e = .returned (.bool (decide (false ∈ ps))) ∧ w = w' := by
  have HI := hide (idxBool_is h hl)
  clear h hl
  go_enter Try.func46, Try.ntmps46
  go_wp2_with (go_at_call 54; refine HI.out.mono ?_; rintro e w' ⟨⟨r, rfl, hr⟩, rfl⟩)
  by_cases hm : false ∈ ps
  · have hr0 : 0 ≤ r := by
      rcases hr with ⟨_, h⟩ | ⟨h, _⟩
      · exact h
      · exact absurd hm h
    clear hr
    go_wp2
    go_ret
    exact ⟨by simp [hm, hr0], rfl⟩
  · have hr0 : r < 0 := by
      rcases hr with ⟨h, _⟩ | ⟨_, h⟩
      · exact absurd h hm
      · exact h
    clear hr
    go_wp2
    go_ret
    exact ⟨by simp [hm]; omega, rfl⟩
theorem bool_zero {P : Program} {t : TypeId} (h : (P.info? t).map (fun i => (i.zero, i.size, i.bytes)) = some (some (.bool false), 1, 1)) : ∀ w, (zeroValue t).run P w = .ok (.bool false) w := by
  intro w
  obtain ⟨i, hi, hz, _, _⟩ := info_parts h
  simp [zeroValue, typeInfo, hi, hz]
theorem run_clear_bools {ps : List Bool} (hb : Blk w pb 4 (boolL ps).toArray) (hn : 0 < ps.length) :
    ∃ w1, (∀ ty, (Builtin.clear_ #[64] ty #[.slice (some ⟨pb, 0, none⟩) ps.length ps.length]).run Try.prog w = .ok (.tuple #[]) w1) ∧ Only [pb] w w1 ∧ Blk w1 pb 4 (boolL (List.replicate ps.length false)).toArray := by
  refine ⟨w.setCells pb 0 (List.replicate ps.length (Value.bool false)), fun ty => ?_, only_setCells _ _ _, ?_⟩
  · refine Lib.run_clear_slice w 64 4 ty (.bool false) Try.underlying64 (bool_zero info_bool) rfl rfl pb 0 ps.length ps.length hn (fun j hj => ?_) (fun j hj => hb.frozen _)
    rw [Nat.zero_add, hb.cell, boolL_get (List.getElem?_eq_getElem hj)]
    rfl
  · have := blk_setCells (List.replicate ps.length (Value.bool false)) 0 w (boolL ps) hb (by simp [boolL])
    rw [List.take_zero, List.nil_append, List.drop_of_length_le (by simp [boolL]), List.append_nil] at this
    simpa [boolL] using this

theorem rStep_no (h : Rc w d s F) (hf : false ∈ s.ps) : Calls Try.prog 24 #[.pointer (some ⟨d, 0, none⟩)] w fun e w' => e = .returned (.bool false) ∧ w = w' := by
  have HC := hide (rclosed_is h)
  obtain ⟨nb, pb, m, v, hc, h2, h3⟩ := h
  have c1 := hc.c1
  have HT := hide (contBool_is hc.pass (by have := hc.ok.same; have := hc.ok.few; omega))
  have hd : decide (false ∈ s.ps) = true := decide_eq_true hf
  rw [hd] at HT
  clear hc h2 h3 hf hd
  go_enter Try.func24, Try.ntmps24
  go_wp2_with (first | (go_at_call 42; refine HC.out.mono ?_; rintro e w' ⟨rfl, rfl⟩) | (go_at_call 46; refine HT.out.mono ?_; rintro e w' ⟨rfl, rfl⟩))
  go_ret
  exact ⟨rfl, rfl⟩

set_option maxRecDepth 100000 in
theorem rStep_yes (h : Rc w d s F) (hf : false ∉ s.ps) (he : s.ep + 1 < 4611686018427387904) : Calls Try.prog 24 #[.pointer (some ⟨d, 0, none⟩)] w fun e w' => e = .returned (.bool true) ∧ DidR w w' d { s with ep := s.ep + 1, ps := List.replicate s.ps.length false } F := by
  have HC := hide (rclosed_is h)
  obtain ⟨nb, pb, m, v, hc, h2, h3⟩ := h
  have c1 := hc.c1
  have c2 := hc.c2
  have hfz := hc.fr 2
  have HT := hide (contBool_is hc.pass (by have := hc.ok.same; have := hc.ok.few; omega))
  have hd : decide (false ∈ s.ps) = false := decide_eq_false hf
  rw [hd] at HT
  have he0 := hc.ok.ep0
  have ho2 : Only [d] w (w.setCell ⟨d, 2, none⟩ (.int .i64 (s.ep + 1))) := (Only.refl [d] w).setCell (p := ⟨d, 2, none⟩) _ (by simp)
  have hdp : d ≠ pb := hc.blk.ne_ hc.pass (by decide)
  have hdn : nb ≠ d := hc.nests.ne_ hc.blk (by decide)
  have hpn : nb ≠ pb := hc.nests.ne_ hc.pass (by decide)
  have hp2 := hc.pass.only ho2 (by simpa using fun e => hdp e.symm)
  obtain ⟨w3, hr3, ho3, hb3⟩ := run_clear_bools hp2 (by have := hc.ok.same; have := hc.ok.one; omega)
  have HD3 := hide (show DidR w w3 d { s with ep := s.ep + 1, ps := List.replicate s.ps.length false } F from by
    obtain ⟨D, d1, d2⟩ := hc.own
    have hmd := ownsMap_ne d1 hc.blk
    have hmp := ownsMap_ne d1 hc.pass
    have hvd : ∀ q, v.ownBlock = some q → q ≠ d := hc.row.apart hc.blk (by decide)
    have hI : IsRc w3 d nb pb m v { s with ep := s.ep + 1, ps := List.replicate s.ps.length false } := by
      refine ⟨?_, (hc.nests.only ho2 (by simpa using hdn)).only ho3 (by simpa using hpn), hb3, (hc.row.only ho2 (fun q hq hm => hvd q hq (by simpa using hm))).only ho3 (fun q hq hm => hc.vp q hq (by simpa using hm)), ⟨D, ownsMap_only (ownsMap_only d1 ho2 (by simpa using hmd)) ho3 (by simpa using hmp), d2⟩, hc.vn, ⟨hc.ok.one, hc.ok.few, by simpa using hc.ok.same, by simp only; omega, he, hc.ok.len⟩⟩
      have := (hc.blk.set_ 2 (.int .i64 (s.ep + 1))).only ho3 (by simpa using hdp)
      simpa using this
    refine hI.pack ((ho2.mono (fun q _ hq => ?_)).trans (ho3.mono (fun q _ hq => ?_))) (fun q hq => .inl (h2 q hq))
    · rw [List.mem_singleton.1 hq]; exact h2 d (mem_footR.2 (.inl rfl))
    · rw [List.mem_singleton.1 hq]; exact h2 pb (mem_footR.2 (.inr (.inr (.inl rfl)))))
  have c1' : (w.setCell ⟨d, 2, none⟩ (.int .i64 (s.ep + 1))).cell? ⟨d, 1, none⟩ = some (.slice (some ⟨pb, 0, none⟩) s.ps.length s.ps.length) := by
    have := (hc.blk.set_ 2 (.int .i64 (s.ep + 1))).cell 1
    simpa using this
  have HR := hide hr3
  clear hc h2 h3 hf hd hr3 ho3 hb3 hp2 ho2 hdp hdn hpn
  go_enter Try.func24, Try.ntmps24
  go_wp2_with (first | (go_at_call 42; refine HC.out.mono ?_; rintro e w' ⟨rfl, rfl⟩) | (go_at_call 46; refine HT.out.mono ?_; rintro e w' ⟨rfl, rfl⟩) | (simp only [HR.out]))
  go_ret
  exact ⟨rfl, HD3.out⟩
end
end Go.Proofs.Ytjpojoflbjhjjaa
