/-
  Processes and threads (parapet/proc): threadsOf, Children; does one of some threads run?
-/
import Derived.Test.YtdnnilpifnigiaaPrDelF
namespace Go.Proofs.Ytdnnilpifnigiaa
open Go.ChangeShapes Go.WideShapes Go.ChangeAt Go.RowKit Go.Maps
set_option linter.unusedVariables false
set_option linter.unusedSimpArgs false
theorem KRow.base {k : IntKind} {e : TypeId} {w : World} {B B' : Nat} {v : Value} {ns : List Int} (h : KRow k e w B v ns) (hB : B' ≤ B) : KRow k e w B' v ns := by
  obtain ⟨hl, h⟩ := h
  refine ⟨hl, ?_⟩
  rcases h with hn | ⟨q, cap, cur, rfl, hb, rest⟩
  · exact .inl hn
  · exact .inr ⟨q, cap, cur, rfl, by omega, rest⟩

/-- A process's threads. -/
def thP (T : List S4) (pid : Int) : List Int := (T.filter fun y => y.pid == pid).map (·.tid)
def qT (T : List S4) (pid x : Int) : Bool := !(T.any fun y => y.tid == x && y.pid == pid)
theorem qT_at {T : List S4} (nd : (T.map (·.tid)).Nodup) (pid : Int) {y : S4} (hy : y ∈ T) : qT T pid y.tid = (y.pid != pid) := by
  unfold qT
  have : (T.any fun z => z.tid == y.tid && z.pid == pid) = (y.pid == pid) := by
    cases e : (y.pid == pid)
    · rw [List.any_eq_false]
      intro z hz
      by_cases e2 : z.tid = y.tid
      · rw [uniqT nd hz hy e2, e]; simp
      · simp [e2]
    · rw [List.any_eq_true]
      exact ⟨y, hy, by simp [e]⟩
  rw [this]
  rfl
theorem qT_filter {T : List S4} (nd : (T.map (·.tid)).Nodup) (pid : Int) : (T.map (·.tid)).filter (fun x => !qT T pid x) = thP T pid := by
  unfold thP
  rw [List.filter_map]
  congr 1
  refine List.filter_congr fun y hy => ?_
  simp only [Function.comp]
  rw [qT_at nd pid hy]
  simp [bne]
section
variable {w w' w1 : World} {t a b : Nat} {s : PS}
set_option maxHeartbeats 1000000 in
set_option maxRecDepth 100000 in
theorem thof_is (h : IsPt w t a b s) (hs : (s.T.map (·.tid)).Pairwise (· < ·)) (hl : s.T.length < 100000) (pid : Int) : Calls Try.prog 31 #[.pointer (some ⟨t, 0, none⟩), .int .i64 pid] w fun e w' => ∃ v, e = .returned v ∧ KRow .i64 3 w' w.heap.size v (thP s.T pid) ∧ Only [] w w' := by
  have HT := hide (fun W (ho : Only [] w W) => threads_is (h.quiet ho) hs hl)
  have HX := hide (fun (W W3 : World) (v : Value) (hW : W = (w.alloc (.cells #[.pointer (some ⟨t, 0, none⟩)] 23)).alloc (.cells #[.int .i64 pid] 3)) (ho : Only [] W W3) (hr : KRow .i64 3 W3 W.heap.size v (s.T.map (·.tid))) => (show Calls Try.prog 46 #[v, .func (.func 52) #[] #[.pointer (some ⟨w.heap.size, 0, none⟩), .pointer (some ⟨w.heap.size + 1, 0, none⟩)]] W3 fun e w' => ∃ v', e = .returned v' ∧ KRow .i64 3 w' w.heap.size v' (thP s.T pid) ∧ Only [] w w' from by
    obtain ⟨l1, l2, l3⟩ := h.lt_
    have hsz : W.heap.size = w.heap.size + 2 := by rw [hW, World.size_alloc, World.size_alloc]
    have hv : ∀ q, v.ownBlock = some q → w.heap.size + 2 ≤ q := fun q hq => by have := (hr.at_ hq).1; omega
    have hoW : Only [] w W := by rw [hW]; exact ((Only.refl _ _).alloc _).alloc _
    have hB1 : Blk W w.heap.size 23 #[.pointer (some ⟨t, 0, none⟩)] := by rw [hW]; exact (Blk.new w _ _).alloc _
    have hB2 : Blk W (w.heap.size + 1) 3 #[.int .i64 pid] := by
      have := Blk.new (w.alloc (.cells #[.pointer (some ⟨t, 0, none⟩)] 23)) 3 #[.int .i64 pid]
      rw [World.size_alloc] at this
      rw [hW]; exact this
    have hno : ∀ q, q < w.heap.size + 2 → q ∉ v.ownBlock.toList := fun q hq hm => by
      have := hv q (by simpa using hm)
      omega
    refine (delTh_is hr (by rw [List.length_map]; omega) (q := qT s.T pid) (fun W4 ho4 x hx => ?_)).mono ?_
    · obtain ⟨y, hy, rfl⟩ := List.mem_map.1 hx
      rw [qT_at h.ndT pid hy]
      have h4 : IsPt W4 t a b s := ((h.quiet hoW).quiet ho).only ho4 (hno _ (by omega)) (hno _ (by omega)) (hno _ (by omega))
      have c1 := ((hB1.only ho (by simp)).only ho4 (hno _ (by omega))).cell 0
      have c2 := ((hB2.only ho (by simp)).only ho4 (hno _ (by omega))).cell 0
      exact th1_is h4 c1 c2 hy
    · rintro e w' ⟨v', rfl, hr', hb', ho'⟩
      rw [qT_filter h.ndT pid] at hr'
      exact ⟨v', rfl, hr'.base (by omega), (hoW.trans ho).trans' ho' (fun q hq hm => by
        have := hv q (by simpa using hm)
        omega)⟩))
  clear h hs hl
  go_enter Try.func31, Try.ntmps31
  go_wp2_with (first | (go_at_call 24; refine (HT.out _ (((Only.refl _ _).alloc _).alloc _)).mono ?_; rintro e w3 ⟨v, rfl, hr, ho⟩; have HXX := hide (HX.out _ w3 v rfl ho hr); clear hr ho) | (go_at_call 46; refine HXX.out.mono ?_; rintro e w4 ⟨v', rfl, hr, ho⟩; have HR := hide hr; have HO := hide ho; clear hr ho))
  go_ret
  exact ⟨_, rfl, HR.out, HO.out⟩
end

/-- Whose parent it is. -/
def chP (T : List K5) (pid : Int) : List Int := (T.filter fun y => y.par == pid).map (·.pid)
def qC (T : List K5) (pid x : Int) : Bool := !(T.any fun y => y.pid == x && y.par == pid)
theorem qC_at {T : List K5} (nd : (T.map (·.pid)).Nodup) (pid : Int) {y : K5} (hy : y ∈ T) : qC T pid y.pid = (y.par != pid) := by
  unfold qC
  have : (T.any fun z => z.pid == y.pid && z.par == pid) = (y.par == pid) := by
    cases e : (y.par == pid)
    · rw [List.any_eq_false]
      intro z hz
      by_cases e2 : z.pid = y.pid
      · rw [uniqK nd hz hy e2, e]; simp
      · simp [e2]
    · rw [List.any_eq_true]
      exact ⟨y, hy, by simp [e]⟩
  rw [this]
  rfl
theorem qC_filter {T : List K5} (nd : (T.map (·.pid)).Nodup) (pid : Int) : (T.map (·.pid)).filter (fun x => !qC T pid x) = chP T pid := by
  unfold chP
  rw [List.filter_map]
  congr 1
  refine List.filter_congr fun y hy => ?_
  simp only [Function.comp]
  rw [qC_at nd pid hy]
  simp [bne]
section
variable {w w' w1 : World} {t a b : Nat} {s : PS}
set_option maxHeartbeats 1000000 in
set_option maxRecDepth 100000 in
theorem children_is (h : IsPt w t a b s) (hs : (s.P.map (·.pid)).Pairwise (· < ·)) (hl : s.P.length < 100000) (pid : Int) : Calls Try.prog 18 #[.pointer (some ⟨t, 0, none⟩), .int .i64 pid] w fun e w' => ∃ v, e = .returned v ∧ KRow .i64 3 w' w.heap.size v (chP s.P pid) ∧ Only [] w w' := by
  have HT := hide (fun W (ho : Only [] w W) => procs_is (h.quiet ho) hs hl)
  have HX := hide (fun (W W3 : World) (v : Value) (hW : W = (w.alloc (.cells #[.pointer (some ⟨t, 0, none⟩)] 23)).alloc (.cells #[.int .i64 pid] 3)) (ho : Only [] W W3) (hr : KRow .i64 3 W3 W.heap.size v (s.P.map (·.pid))) => (show Calls Try.prog 46 #[v, .func (.func 47) #[] #[.pointer (some ⟨w.heap.size, 0, none⟩), .pointer (some ⟨w.heap.size + 1, 0, none⟩)]] W3 fun e w' => ∃ v', e = .returned v' ∧ KRow .i64 3 w' w.heap.size v' (chP s.P pid) ∧ Only [] w w' from by
    obtain ⟨l1, l2, l3⟩ := h.lt_
    have hsz : W.heap.size = w.heap.size + 2 := by rw [hW, World.size_alloc, World.size_alloc]
    have hv : ∀ q, v.ownBlock = some q → w.heap.size + 2 ≤ q := fun q hq => by have := (hr.at_ hq).1; omega
    have hoW : Only [] w W := by rw [hW]; exact ((Only.refl _ _).alloc _).alloc _
    have hB1 : Blk W w.heap.size 23 #[.pointer (some ⟨t, 0, none⟩)] := by rw [hW]; exact (Blk.new w _ _).alloc _
    have hB2 : Blk W (w.heap.size + 1) 3 #[.int .i64 pid] := by
      have := Blk.new (w.alloc (.cells #[.pointer (some ⟨t, 0, none⟩)] 23)) 3 #[.int .i64 pid]
      rw [World.size_alloc] at this
      rw [hW]; exact this
    have hno : ∀ q, q < w.heap.size + 2 → q ∉ v.ownBlock.toList := fun q hq hm => by
      have := hv q (by simpa using hm)
      omega
    refine (delCh_is hr (by rw [List.length_map]; omega) (q := qC s.P pid) (fun W4 ho4 x hx => ?_)).mono ?_
    · obtain ⟨y, hy, rfl⟩ := List.mem_map.1 hx
      rw [qC_at h.ndP pid hy]
      have h4 : IsPt W4 t a b s := ((h.quiet hoW).quiet ho).only ho4 (hno _ (by omega)) (hno _ (by omega)) (hno _ (by omega))
      have c1 := ((hB1.only ho (by simp)).only ho4 (hno _ (by omega))).cell 0
      have c2 := ((hB2.only ho (by simp)).only ho4 (hno _ (by omega))).cell 0
      exact ch1_is h4 c1 c2 hy
    · rintro e w' ⟨v', rfl, hr', hb', ho'⟩
      rw [qC_filter h.ndP pid] at hr'
      exact ⟨v', rfl, hr'.base (by omega), (hoW.trans ho).trans' ho' (fun q hq hm => by
        have := hv q (by simpa using hm)
        omega)⟩))
  clear h hs hl
  go_enter Try.func18, Try.ntmps18
  go_wp2_with (first | (go_at_call 23; refine (HT.out _ (((Only.refl _ _).alloc _).alloc _)).mono ?_; rintro e w3 ⟨v, rfl, hr, ho⟩; have HXX := hide (HX.out _ w3 v rfl ho hr); clear hr ho) | (go_at_call 46; refine HXX.out.mono ?_; rintro e w4 ⟨v', rfl, hr, ho⟩; have HR := hide hr; have HO := hide ho; clear hr ho))
  go_ret
  exact ⟨_, rfl, HR.out, HO.out⟩
end

section
variable {w w' w1 : World} {t a b : Nat} {s : PS} {B : Nat} {v : Value} {xs : List Int}
/-- Does one of them run? -/
theorem contRu_is (h : IsPt w t a b s) (hr : KRow .i64 3 w B v xs) (hf : xs.length ≤ 100000) (hx : ∀ x ∈ xs, iW x) : Calls Try.prog 45 #[v, .func (.func 44) #[.pointer (some ⟨t, 0, none⟩)] #[]] w fun e w' => e = .returned (.bool (xs.any fun x => runsT s.T x)) ∧ Only [] w w' := by
  have HI := idxRu_is (t := t) hr hf (q := fun x => runsT s.T x) (fun W ho x hxm => runs_is (h.quiet ho) (hx x hxm))
  by_cases hany : (xs.any fun x => runsT s.T x) = true
  · have H := hide (HI.mono (R' := fun e w' => (∃ i : Nat, i < 200000 ∧ e = .returned (.int .i64 i)) ∧ Only [] w w') (fun e w' ⟨h1, h2⟩ => ⟨(by
      rcases h1 with ⟨i, k, e1, _, _, e2⟩ | ⟨e1, _⟩
      · exact ⟨i, by have := (List.getElem?_eq_some_iff.1 e1).1; omega, e2⟩
      · rw [List.any_eq_true] at hany
        obtain ⟨x, hxm, e⟩ := hany
        rw [e1 x hxm] at e; cases e), h2⟩))
    rw [hany]
    obtain ⟨A, c, rfl, -⟩ := hr.form
    clear HI h hr hf hx hany
    go_enter Try.func45, Try.ntmps45
    go_wp2_with (go_at_call 58; refine H.out.mono ?_; rintro e w2 ⟨⟨i, hi, rfl⟩, ho⟩; have HO := hide ho; clear ho; have hge : decide ((i : Int) ≥ 0) = true := by simp)
    go_ret
    exact ⟨by simp, HO.out⟩
  · have hall : ∀ x ∈ xs, runsT s.T x = false := fun x hxm => by
      cases e : runsT s.T x
      · rfl
      · exact absurd (List.any_eq_true.2 ⟨x, hxm, e⟩) hany
    have H := hide (HI.mono (R' := fun e w' => e = .returned (.int .i64 (-1)) ∧ Only [] w w') (fun e w' ⟨h1, h2⟩ => ⟨(by
      rcases h1 with ⟨i, k, e1, e3, _, e2⟩ | ⟨e1, e2⟩
      · rw [hall k (List.mem_of_getElem? e1)] at e3; cases e3
      · exact e2), h2⟩))
    rw [show (xs.any fun x => runsT s.T x) = false from by simpa using hany]
    obtain ⟨A, c, rfl, -⟩ := hr.form
    clear HI h hr hf hx hany hall
    go_enter Try.func45, Try.ntmps45
    go_wp2_with (go_at_call 58; refine H.out.mono ?_; rintro e w2 ⟨rfl, ho⟩; have HO := hide ho; clear ho)
    go_ret
    exact ⟨rfl, HO.out⟩
end
end Go.Proofs.Ytdnnilpifnigiaa
