/-
  The document's own gate: New, Enter, Take, Give.
-/
import Derived.Test.YtflgcnlncljefaaResvLets
namespace Go.Proofs.Ytflgcnlncljefaa
open Go.ChangeShapes Go.WideShapes Go.ChangeAt Go.RowKit
set_option linter.unusedVariables false

def Rf (w : World) (x : Nat) (H : Int) (s : GS) (F : List Nat) : Prop := ∃ v, IsR9 w x H s.L v s.ss ∧ s.ok H ∧ F = footG x v
def MadeR (w : World) (n : Int) (e : Ending) (w' : World) : Prop :=
  ∃ g F, e = .returned (.tuple #[.pointer (some ⟨g, 0, none⟩), .int .i64 0]) ∧ Rf w' g n ⟨0, []⟩ F ∧ (∀ q ∈ F, w.heap.size ≤ q) ∧ Only [] w w'
def DidE9 (H : Int) (r : Bool × Int × GS) (w : World) (g : Nat) (F : List Nat) (e : Ending) (w' : World) : Prop :=
  e = .returned (.tuple #[.bool r.1, .int .i64 r.2.1]) ∧ ∃ F', TurnedG w w' F F' ∧ Rf w' g H r.2.2 F'
def DidT9 (H : Int) (r : Int × GS) (w : World) (g : Nat) (F : List Nat) (e : Ending) (w' : World) : Prop :=
  e = .returned (.int .i64 r.1) ∧ ∃ F', TurnedG w w' F F' ∧ Rf w' g H r.2 F'
def DidL9 (H : Int) (r : List Int × Int × GS) (w : World) (g : Nat) (F : List Nat) (e : Ending) (w' : World) : Prop :=
  ∃ v', e = .returned (.tuple #[v', .int .i64 r.2.1]) ∧ KRow .i64 3 w' w.heap.size v' r.1 ∧ ∃ F', TurnedG w w' F F' ∧ Rf w' g H r.2.2 F'

section
variable {w w' : World} {g : Nat} {H L R : Int} {v : Value} {ss : List ST} {S F : List Nat} {s : GS}
theorem Rf.lt (h : Rf w g H s F) : ∀ q ∈ F, q < w.heap.size := by
  obtain ⟨v, h1, _, rfl⟩ := h
  intro q hq
  rcases List.mem_cons.1 hq with rfl | hq
  · exact h1.blk.lt
  · exact (h1.row.at_ (Option.mem_toList.1 hq)).1
theorem Rf.only (h : Rf w g H s F) (ho : Only S w w') (hs : ∀ q ∈ F, q ∉ S) : Rf w' g H s F := by
  obtain ⟨v, h1, h2, rfl⟩ := h
  exact ⟨v, h1.only ho (hs g (by simp [footG])) (fun k hk => hs k (by simp [footG, hk])), h2, rfl⟩
theorem Rf.did (h : Rf w g H s F) (ho : Only [] w w') : ∃ F', TurnedG w w' F F' ∧ Rf w' g H s F' :=
  ⟨F, .same (ho.mono (by simp)), h.only ho (by simp)⟩

theorem r9New_no (n : Int) (h : n < 1 ∨ 1073741824 < n) : Calls Try.prog 10 #[.int .i64 n] w fun e w' => e = .returned (.tuple #[.pointer none, .int .i64 1]) ∧ w = w' := by
  by_cases h1 : n < 1
  · go_enter Try.func10, Try.ntmps10
    go_wp2
    go_ret2
    exact ⟨rfl, rfl⟩
  · have h2 : 1073741824 < n := by omega
    go_enter Try.func10, Try.ntmps10
    go_wp2
    go_ret2
    exact ⟨rfl, rfl⟩
theorem r9New_ok (n : Int) (h : 1 ≤ n ∧ n ≤ 1073741824) : Calls Try.prog 10 #[.int .i64 n] w fun e w' => MadeR w n e w' := by
  have h1 : ¬ n < 1 := by omega
  have h2 : ¬ 1073741824 < n := by omega
  have HN := hide h
  clear h
  go_enter Try.func10, Try.ntmps10
  go_wp2
  go_ret2
  refine ⟨w.heap.size, [w.heap.size], rfl, ⟨.slice none 0 0, ⟨Blk.new w _ _, SRw.nil _⟩, ⟨HN.out, by simp, by simp [resvL], by have := HN.out; simp [resvL]; omega, by simp, by simp⟩, rfl⟩, by simp, (Only.refl [] w).alloc _⟩

theorem r9find_o (h : IsR9 w g H L v ss) (hf : ss.length ≤ 64) (id : Int) : Calls Try.prog 36 #[.pointer (some ⟨g, 0, none⟩), .int .i64 id] w fun e w' => e = .returned (.int .i64 (atI ss id)) ∧ w = w' :=
  (r9find_is h hf id).mono fun _ _ ⟨h1, h2⟩ => ⟨h1, h2.symm⟩
/-- Behind lets. -/
theorem letted {w2 w5 : World} {v' : Value} (h12 : Only (g :: v.ownBlock.toList) w w2) (hv : ∀ q, v'.ownBlock = some q → v.ownBlock = some q ∨ w.heap.size ≤ q)
    (hg : IsR9 w5 g H L v' (admS H L ss).1) (hok : GS.ok H ⟨L, ss⟩) (ho : Only (g :: v'.ownBlock.toList) w2 w5) :
    ∃ F', TurnedG w w5 (footG g v) F' ∧ Rf w5 g H ⟨L, (admS H L ss).1⟩ F' := by
  refine ⟨footG g v', ⟨h12.trans' ho (fun k hk hm => ?_), fun q hq => ?_⟩, v', hg, hok.adm, rfl⟩
  · rcases List.mem_cons.1 hm with rfl | hm
    · simp
    · rcases hv k (Option.mem_toList.1 hm) with h | h
      · simp [h]
      · omega
  · rcases List.mem_cons.1 hq with rfl | hq
    · exact .inl (by simp [footG])
    · rcases hv q (Option.mem_toList.1 hq) with h | h
      · exact .inl (by simp [footG, h])
      · exact .inr h

set_option maxHeartbeats 1500000 in
set_option maxRecDepth 100000 in
theorem r9Give_is (h : Rf w g H s F) (n : Int) : Calls Try.prog 26 #[.pointer (some ⟨g, 0, none⟩), .int .i64 n] w fun e w' => DidL9 H (giveF H s n) w g F e w' := by
  have HG := hide h
  obtain ⟨v, hi, hok, rfl⟩ := h
  have c1 : w.cell? ⟨g, 1, none⟩ = some (.int .i64 s.L) := hi.blk.cell 1
  by_cases h1 : n < 0
  · have HE := hide (show giveF H s n = ([], 1, s) by unfold giveF; rw [if_pos (.inl h1)])
    clear hi hok
    go_enter Try.func26, Try.ntmps26
    go_wp2
    go_ret2
    rw [HE.out]
    exact ⟨_, rfl, KRow.nil _ _ _ _, HG.out.did (Only.refl _ _)⟩
  · by_cases h2 : s.L < n
    · have HE := hide (show giveF H s n = ([], 1, s) by unfold giveF; rw [if_pos (.inr h2)])
      clear hi hok
      go_enter Try.func26, Try.ntmps26
      go_wp2
      go_ret2
      rw [HE.out]
      exact ⟨_, rfl, KRow.nil _ _ _ _, HG.out.did (Only.refl _ _)⟩
    · have HE := hide (show giveF H s n = ((admS H (s.L - n) s.ss).2, 0, ⟨s.L - n, (admS H (s.L - n) s.ss).1⟩) by unfold giveF; rw [if_neg (by omega)])
      have hf := hi.blk.frozen 1
      have hwr : IntKind.i64.wrap (s.L - n) = s.L - n := by rw [IntKind.wrap_i64]; have := hok.size; have := hok.sum; have := hok.r0; omega
      have HSM := hide (show GS.ok H ⟨s.L - n, s.ss⟩ from ⟨hok.size, by show 0 ≤ s.L - n; omega, hok.r0, by have := hok.sum; show s.L - n + resvL s.ss ≤ H; omega, hok.seat, hok.few⟩)
      have HAD := hide (r9lets_is (hi.setL (s.L - n)) HSM.out)
      have HW := hide (Only.setCell (Only.refl (g :: v.ownBlock.toList) w) (p := ⟨g, 1, none⟩) (.int .i64 (s.L - n)) (by simp))
      clear hi hok
      go_enter Try.func26, Try.ntmps26
      go_wp2_with (go_at_call 37; refine HAD.out.mono ?_; rintro e w5 ⟨v5, rfl, hk5, hg5, ho5⟩; obtain ⟨A5, c5, rfl, _⟩ := hk5.form; have HK5 := hide hk5; have HG5 := hide hg5; have HO5 := hide ho5; clear hk5 hg5 ho5)
      go_ret2
      rw [HE.out]
      exact ⟨_, rfl, HK5.out.lower (by have := HW.out.size; omega), letted HW.out (fun q hq => .inl hq) HG5.out HSM.out HO5.out⟩

set_option maxHeartbeats 1500000 in
set_option maxRecDepth 100000 in
theorem r9Enter_is (h : Rf w g H s F) (id bound : Int) : Calls Try.prog 24 #[.pointer (some ⟨g, 0, none⟩), .int .i64 id, .int .i64 bound] w fun e w' => DidE9 H (enterF H s id bound) w g F e w' := by
  have HG := hide h
  obtain ⟨v, hi, hok, rfl⟩ := h
  have HAT := hide (r9find_o hi hok.few id)
  have HOK := hide hok
  clear hok
  by_cases h1 : bound < 0
  · have HE := hide (show enterF H s id bound = (false, 1, s) by unfold enterF; rw [if_pos h1])
    clear hi
    go_enter Try.func24, Try.ntmps24
    go_wp2
    go_ret2
    rw [HE.out]
    exact ⟨rfl, HG.out.did (Only.refl _ _)⟩
  · by_cases h2 : 0 ≤ atI s.ss id
    · have HE := hide (show enterF H s id bound = (false, 5, s) by unfold enterF; rw [if_neg h1, if_pos h2])
      clear hi
      go_enter Try.func24, Try.ntmps24
      go_wp2_with (go_at_call 36; refine HAT.out.mono ?_; rintro e w' ⟨rfl, rfl⟩)
      go_ret2
      rw [HE.out]
      exact ⟨rfl, HG.out.did (Only.refl _ _)⟩
    · have k0 : w.cell? ⟨g, 0, none⟩ = some (.int .i64 H) := hi.blk.cell 0
      have k3 : w.cell? ⟨g, 2, none⟩ = some v := hi.blk.cell 2
      obtain ⟨A, cap, hv, _⟩ := hi.row.form
      subst hv
      by_cases h3 : H < bound
      · have HE := hide (show enterF H s id bound = (false, 3, s) by unfold enterF; rw [if_neg h1, if_neg h2, if_pos h3])
        clear hi
        go_enter Try.func24, Try.ntmps24
        go_wp2_with (go_at_call 36; refine HAT.out.mono ?_; rintro e w' ⟨rfl, rfl⟩)
        go_ret2
        rw [HE.out]
        exact ⟨rfl, HG.out.did (Only.refl _ _)⟩
      · by_cases h4 : s.ss.length = 64
        · have HE := hide (show enterF H s id bound = (false, 2, s) by unfold enterF; rw [if_neg h1, if_neg h2, if_neg h3, if_pos h4])
          have h4' : (64 : Int) ≤ ((s.ss.length : Nat) : Int) := by omega
          clear hi
          go_enter Try.func24, Try.ntmps24
          go_wp2_with (go_at_call 36; refine HAT.out.mono ?_; rintro e w' ⟨rfl, rfl⟩)
          go_ret2
          rw [HE.out]
          exact ⟨rfl, HG.out.did (Only.refl _ _)⟩
        · have HE := hide (show enterF H s id bound = (decide (0 < (admS H s.L (s.ss ++ [⟨id, bound, 0, true⟩])).2.length), 0, ⟨s.L, (admS H s.L (s.ss ++ [⟨id, bound, 0, true⟩])).1⟩) by unfold enterF; rw [if_neg h1, if_neg h2, if_neg h3, if_neg h4])
          have hl : s.ss.length < 64 := by have := HOK.out.few; omega
          have h4' : ¬ (64 : Int) ≤ ((s.ss.length : Nat) : Int) := by omega
          have HL := hide hl
          have HB := hide (show 0 ≤ bound ∧ bound ≤ H by omega)
          have hrv : resvL (s.ss ++ [⟨id, bound, 0, true⟩]) = resvL s.ss := by rw [resvL_append]; simp [resvL]
          have HSA := hide (show SRw (w.alloc (.cells #[.int .i64 id, .int .i64 bound, .int .i64 0, .bool true] 48)) (.slice A s.ss.length cap) s.ss ∧ SeatsAt (w.alloc (.cells #[.int .i64 id, .int .i64 bound, .int .i64 0, .bool true] 48)) (.slice (some ⟨w.heap.size, 0, none⟩) 1 1) [⟨id, bound, 0, true⟩] from by
            refine ⟨hi.row.only ((Only.refl [] w).alloc _) (by simp), .inr ⟨_, 0, 1, rfl, fun _ => by simp, fun j u hu => ?_⟩⟩
            rw [Nat.zero_add, (Blk.new w 48 _).cell, ← hu, List.getElem?_toArray]
            rfl)
          have HST := hide (fun (A' : Option Addr) (n' c' : Nat) (w2 : World) (hr : SRw w2 (.slice A' n' c') (s.ss ++ [⟨id, bound, 0, true⟩])) (ho2 : Only (Value.slice A s.ss.length cap).ownBlock.toList (w.alloc (.cells #[.int .i64 id, .int .i64 bound, .int .i64 0, .bool true] 48)) w2) =>
            (show w2.cell? ⟨g, 2, none⟩ = some (.slice A s.ss.length cap) ∧ w2.frozen? ⟨g, 2, none⟩ = false ∧ IsR9 (w2.setCell ⟨g, 2, none⟩ (.slice A' n' c')) g H s.L (.slice A' n' c') (s.ss ++ [⟨id, bound, 0, true⟩]) from by
              have h5 := hi.alloc (.cells #[.int .i64 id, .int .i64 bound, .int .i64 0, .bool true] 48)
              have hb : Blk w2 g 61 #[.int .i64 H, .int .i64 s.L, .slice A s.ss.length cap] := h5.blk.only ho2 (fun hm => h5.far g (by simpa using hm) rfl)
              exact ⟨hb.cell 2, hb.frozen 2, h5.setV hr hb⟩))
          have HSM := hide (show Small H s.L (resvL (s.ss ++ [⟨id, bound, 0, true⟩])) (s.ss ++ [⟨id, bound, 0, true⟩]) from by
            rw [hrv]
            have h5 := HOK.out
            refine ⟨h5.size, h5.l0, h5.r0, h5.sum, fun x hx => ?_, by simp; omega⟩
            rcases List.mem_append.1 hx with hx | hx
            · exact h5.seat x hx
            · simp at hx
              subst hx
              have := HB.out
              simp
              omega)
          clear hi hl hrv
          go_enter Try.func24, Try.ntmps24
          go_wp2_with (first | (go_at_call 36; refine HAT.out.mono ?_; rintro e w' ⟨rfl, rfl⟩) | (at_builtin; refine wpList_append_seats (v := .slice A s.ss.length cap) (zs := [⟨id, bound, 0, true⟩]) (x := .slice (some ⟨w.heap.size, 0, none⟩) 1 1) rfl _ _ rfl rfl HSA.out.1 rfl HSA.out.2 (by have := HL.out; simp; omega) ?_; rintro v' w2 hr ho hk ⟨A', c', ev⟩; simp only [List.length_append, List.length_singleton] at ev; subst ev; obtain ⟨j1, j2, hj⟩ := HST.out _ _ _ _ hr ho; have HO2 := hide ho; have HK := hide hk; have HAD := hide (r9lets_is hj HSM.out); clear hr ho hk hj) | (go_at_call 37; refine HAD.out.mono ?_; rintro e w5 ⟨v5, rfl, hk5, hg5, ho5⟩; obtain ⟨A5, c5, rfl, _⟩ := hk5.form; have HK5 := hide hk5; have HG5 := hide hg5; have HO5 := hide ho5; clear hk5 hg5 ho5))
          go_ret2
          rw [HE.out]
          refine ⟨rfl, letted ((((Only.refl _ w).alloc _).trans' (HO2.out.mono (S' := g :: (Value.slice A s.ss.length cap).ownBlock.toList) (fun k _ hk => by simp at hk ⊢; exact .inr hk)) (fun k _ hk => hk)).setCell _ (by simp)) (fun q hq => ?_) HG5.out HSM.out HO5.out⟩
          rcases HK.out q hq with h | h
          · exact .inl h
          · exact .inr (by simp at h; omega)
end
end Go.Proofs.Ytflgcnlncljefaa
