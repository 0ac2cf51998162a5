/-
  Domains (parapet/rcu): has, Enter, Pass, Leave.
-/
import Derived.Test.YtjpojoflbjhjjaaNcRcNew
namespace Go.Proofs.Ytjpojoflbjhjjaa
open Go.ChangeShapes Go.WideShapes Go.ChangeAt Go.RowKit Go.Maps
set_option linter.unusedVariables false
set_option linter.unusedSimpArgs false
theorem ints_set (l : List Int) (i : Nat) (x : Int) : (i64l l).toArray.setIfInBounds i (.int .i64 x) = (i64l (l.set i x)).toArray := by
  rw [List.setIfInBounds_toArray]
  simp [i64l, List.map_set]
theorem ints_get {l : List Int} {i : Nat} {x : Int} (h : l[i]? = some x) : (i64l l).toArray[i]? = some (.int .i64 x) := by simp [i64l, h]
section
variable {w w' w1 : World} {d nb pb m : Nat} {v : Value} {s : RS} {S F F' : List Nat}
theorem IsRc.vp (h : IsRc w d nb pb m v s) : ∀ q, v.ownBlock = some q → q ≠ pb := h.row.apart h.pass (by decide)
theorem IsRc.setN (h : IsRc w d nb pb m v s) (i : Nat) (x : Int) : IsRc (w.setCell ⟨nb, i, none⟩ (.int .i64 x)) d nb pb m v { s with ns := s.ns.set i x } := by
  have ho : Only [nb] w (w.setCell ⟨nb, i, none⟩ (.int .i64 x)) := (Only.refl [nb] w).setCell (p := ⟨nb, i, none⟩) _ (by simp)
  obtain ⟨D, d1, d2⟩ := h.own
  have hd : d ≠ nb := h.blk.ne_ h.nests (by decide)
  have hp : pb ≠ nb := h.pass.ne_ h.nests (by decide)
  have hm := ownsMap_ne d1 h.nests
  have h1 := h.nests.set_ i (.int .i64 x)
  rw [ints_set] at h1
  refine ⟨?_, h1, h.pass.only ho (by simpa using hp), h.row.only ho (fun q hq hm => ?_), ⟨D, ownsMap_only d1 ho (by simpa using hm), d2⟩, h.vn, ⟨by simpa using h.ok.one, by simpa using h.ok.few, by simpa using h.ok.same, h.ok.ep0, h.ok.ep1, h.ok.len⟩⟩
  · have := h.blk.only ho (by simpa using hd)
    simpa using this
  · simp at hm
    subst hm
    exact h.vn hq
theorem IsRc.setP (h : IsRc w d nb pb m v s) (i : Nat) (x : Bool) : IsRc (w.setCell ⟨pb, i, none⟩ (.bool x)) d nb pb m v { s with ps := s.ps.set i x } := by
  have ho : Only [pb] w (w.setCell ⟨pb, i, none⟩ (.bool x)) := (Only.refl [pb] w).setCell (p := ⟨pb, i, none⟩) _ (by simp)
  obtain ⟨D, d1, d2⟩ := h.own
  have hd : d ≠ pb := h.blk.ne_ h.pass (by decide)
  have hn : nb ≠ pb := h.nests.ne_ h.pass (by decide)
  have hm := ownsMap_ne d1 h.pass
  have h1 := h.pass.set_ i (.bool x)
  rw [boolL_set] at h1
  refine ⟨?_, h.nests.only ho (by simpa using hn), h1, h.row.only ho (fun q hq hm => ?_), ⟨D, ownsMap_only d1 ho (by simpa using hm), d2⟩, h.vn, ⟨h.ok.one, h.ok.few, by simpa using h.ok.same, h.ok.ep0, h.ok.ep1, h.ok.len⟩⟩
  · have := h.blk.only ho (by simpa using hd)
    simpa using this
  · simp at hm
    subst hm
    exact h.vp _ hq rfl
theorem IsRc.did (h0 : IsRc w d nb pb m v s) (h2 : ∀ q ∈ footR d nb pb m v, q ∈ F) {s' : RS} (h : IsRc w' d nb pb m v s') {q : Nat} (hq : q ∈ footR d nb pb m v) (ho : Only [q] w w') : DidR w w' d s' F :=
  h.pack (ho.mono (fun k _ hk => by rw [List.mem_singleton.1 hk]; exact h2 q hq)) (fun k hk => .inl (h2 k hk))

theorem rhas_is (h : Rc w d s F) (i : Nat) (hi : i < s.ns.length) : Calls Try.prog 45 #[.pointer (some ⟨d, 0, none⟩), .int .i64 i] w fun e w' => e = .returned (.bool true) ∧ w = w' := by
  have HC := hide (rclosed_is h)
  obtain ⟨nb, pb, m, v, h1, h2, h3⟩ := h
  have c0 := h1.c0
  have hI : (i : Int) < s.ns.length := by omega
  have hI0 : (0 : Int) ≤ i := by omega
  clear h1 h2 h3
  go_enter Try.func45, Try.ntmps45
  go_wp2_with (go_at_call 42; refine HC.out.mono ?_; rintro e w' ⟨rfl, rfl⟩)
  go_ret
  exact ⟨rfl, rfl⟩

set_option maxRecDepth 100000 in
theorem rEnter_ok (h : Rc w d s F) (i : Nat) {n : Int} (hi : s.ns[i]? = some n) (h0 : 0 ≤ n) (h1 : n < 16) : Calls Try.prog 22 #[.pointer (some ⟨d, 0, none⟩), .int .i64 i] w fun e w' => e = .returned (.int .i64 0) ∧ DidR w w' d { s with ns := s.ns.set i (n + 1) } F := by
  have HC := hide (rclosed_is h)
  have hlt := (List.getElem?_eq_some_iff.1 hi).1
  have HH := hide (rhas_is h i hlt)
  obtain ⟨nb, pb, m, v, hc, h2, h3⟩ := h
  have c0 := hc.c0
  have hI : (i : Int) < s.ns.length := by omega
  have hI0 : (0 : Int) ≤ i := by omega
  have ck : w.cell? ⟨nb, i, none⟩ = some (.int .i64 n) := by rw [hc.nests.cell]; exact ints_get hi
  have hf := hc.nests.frozen i
  have hne : (n == 16) = false := by simp only [beq_eq_false_iff_ne]; omega
  have HI := hide hc
  have H2 := hide h2
  clear hc h2 h3 hi
  go_enter Try.func22, Try.ntmps22
  go_wp2_with (first | (go_at_call 42; refine HC.out.mono ?_; rintro e w' ⟨rfl, rfl⟩) | (go_at_call 45; refine HH.out.mono ?_; rintro e w' ⟨rfl, rfl⟩))
  go_ret
  exact ⟨rfl, HI.out.did H2.out (HI.out.setN i (n + 1)) (mem_footR.2 (.inr (.inl rfl))) ((Only.refl [nb] w).setCell (p := ⟨nb, i, none⟩) _ (by simp))⟩

set_option maxRecDepth 100000 in
theorem rPass_ok (h : Rc w d s F) (i : Nat) (hi : s.ns[i]? = some 0) : Calls Try.prog 23 #[.pointer (some ⟨d, 0, none⟩), .int .i64 i] w fun e w' => e = .returned (.bool true) ∧ DidR w w' d { s with ps := s.ps.set i true } F := by
  have hlt := (List.getElem?_eq_some_iff.1 hi).1
  have HH := hide (rhas_is h i hlt)
  obtain ⟨nb, pb, m, v, hc, h2, h3⟩ := h
  have c0 := hc.c0
  have c1 := hc.c1
  have hI : (i : Int) < s.ns.length := by omega
  have hP : (i : Int) < s.ps.length := by have := hc.ok.same; omega
  have hI0 : (0 : Int) ≤ i := by omega
  have ck : w.cell? ⟨nb, i, none⟩ = some (.int .i64 0) := by rw [hc.nests.cell]; exact ints_get hi
  obtain ⟨b, hb⟩ : ∃ b, s.ps[i]? = some b := ⟨_, List.getElem?_eq_getElem (by have := hc.ok.same; omega)⟩
  have cp : w.cell? ⟨pb, i, none⟩ = some (.bool b) := by rw [hc.pass.cell]; exact boolL_get hb
  have hf := hc.pass.frozen i
  have HI := hide hc
  have H2 := hide h2
  clear hc h2 h3 hi hb
  go_enter Try.func23, Try.ntmps23
  go_wp2_with (go_at_call 45; refine HH.out.mono ?_; rintro e w' ⟨rfl, rfl⟩)
  go_ret
  exact ⟨rfl, HI.out.did H2.out (HI.out.setP i true) (mem_footR.2 (.inr (.inr (.inl rfl)))) ((Only.refl [pb] w).setCell (p := ⟨pb, i, none⟩) _ (by simp))⟩

set_option maxRecDepth 100000 in
/-- The last section is left. -/
theorem rLeave_ok (h : Rc w d s F) (i : Nat) (hi : s.ns[i]? = some 1) : Calls Try.prog 26 #[.pointer (some ⟨d, 0, none⟩), .int .i64 i] w fun e w' => e = .returned (.int .i64 0) ∧ DidR w w' d { s with ns := s.ns.set i 0, ps := s.ps.set i true } F := by
  have HC := hide (rclosed_is h)
  have hlt := (List.getElem?_eq_some_iff.1 hi).1
  have HH := hide (rhas_is h i hlt)
  obtain ⟨nb, pb, m, v, hc, h2, h3⟩ := h
  have c0 := hc.c0
  have hI : (i : Int) < s.ns.length := by omega
  have hI0 : (0 : Int) ≤ i := by omega
  have ck : w.cell? ⟨nb, i, none⟩ = some (.int .i64 1) := by rw [hc.nests.cell]; exact ints_get hi
  have hf := hc.nests.frozen i
  have hone : ((1 : Int) == 0) = false := by decide
  have hdid := hc.did h2 (hc.setN i 0) (mem_footR.2 (.inr (.inl rfl))) ((Only.refl [nb] w).setCell (p := ⟨nb, i, none⟩) _ (by simp))
  obtain ⟨F1, ht, hr⟩ := hdid
  have HP := hide (rPass_ok hr i (by rw [List.getElem?_set_self hlt]))
  have HT := hide ht
  clear hc h2 h3 hi ht hr
  go_enter Try.func26, Try.ntmps26
  go_wp2_with (first | (go_at_call 42; refine HC.out.mono ?_; rintro e w' ⟨rfl, rfl⟩) | (go_at_call 45; refine HH.out.mono ?_; rintro e w' ⟨rfl, rfl⟩) | (go_at_call 23; refine HP.out.mono ?_; rintro e w' ⟨rfl, F2, ht2, hr2⟩; have HT2 := hide ht2; have HR2 := hide hr2; clear ht2 hr2))
  go_ret
  exact ⟨rfl, F2, HT.out.trans HT2.out, HR2.out⟩
end
end Go.Proofs.Ytjpojoflbjhjjaa
