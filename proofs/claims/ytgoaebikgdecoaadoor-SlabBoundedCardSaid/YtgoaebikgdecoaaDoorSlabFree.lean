/-
  Slabs (parapet/slab): Free.
-/
import Derived.Test.YtgoaebikgdecoaaDoorSlabAlloc
namespace Go.Proofs.YtgoaebikgdecoaaDoor
open Go.ChangeShapes Go.WideShapes Go.ChangeAt Go.RowKit Go.Maps
set_option linter.unusedVariables false

theorem popN_full : ∀ (f k x : Nat), x < 2 ^ k → popN f x = k → ∀ p, p < k → x.testBit p = true
  | 0, k, x, _, h, p, hp => by simp [popN] at h; omega
  | f + 1, 0, x, _, _, p, hp => by omega
  | f + 1, k + 1, x, hx, h, p, hp => by
    have h1 : x / 2 < 2 ^ k := by rw [Nat.pow_succ] at hx; omega
    have h2 := popN_lt f k (x / 2) h1
    simp only [popN] at h
    cases p with
    | zero => rw [Nat.testBit_zero]; simp; omega
    | succ p =>
      rw [Nat.testBit_succ]
      exact popN_full f k (x / 2) h1 (by omega) p (by omega)
/-- A place is free again. -/
def setB (x p : Nat) : Nat := x ||| 2 ^ p
theorem setB_lt {x p k : Nat} (hx : x < 2 ^ k) (hp : p < k) : setB x p < 2 ^ k := Nat.or_lt_two_pow hx (Nat.pow_lt_pow_right (by decide) hp)
theorem or_set (x p : Nat) (hx : x < 18446744073709551616) (hp : p < 64) : bits .or .u64 (x : Int) (IntKind.u64.wrap (2 ^ p)) = ((setB x p : Nat) : Int) := by
  have hpp : 2 ^ p < 2 ^ 64 := Nat.pow_lt_pow_right (by decide) hp
  have e : IntKind.u64.wrap (2 ^ p) = ((2 ^ p : Nat) : Int) := by
    obtain ⟨z, hz⟩ : ∃ z : Nat, z = 2 ^ p := ⟨_, rfl⟩
    have h1 : ((2 : Int) ^ p) = (z : Int) := by rw [hz]; simp
    have h2 : z < 18446744073709551616 := by rw [hz]; exact hpp
    rw [h1, ← hz, IntKind.wrap_u64]
    omega
  rw [e, u64_or_nat x (2 ^ p) hx (by omega)]
  rfl
def putS1 (s : SL) (p : Nat) : SL := { s with free := setB s.free p }
/-- A slab without an object is none. -/
def giveS (s : SL) (p : Nat) : SL := if plF s.kind - (pop (setB s.free p) : Nat) = 0 then ⟨0, 0⟩ else putS1 s p
theorem mem_outV {O : List (Int × Int)} {id x : Int} : x ∈ (outV O id).map (·.1) ↔ x ∈ O.map (·.1) ∧ x ≠ id := by
  simp only [outV, List.mem_map, List.mem_filter, decide_eq_true_eq]
  constructor
  · rintro ⟨p, ⟨h1, h2⟩, rfl⟩
    exact ⟨⟨p, h1, rfl⟩, h2⟩
  · rintro ⟨⟨p, h1, rfl⟩, h2⟩
    exact ⟨p, ⟨h1, h2⟩, rfl⟩
theorem cntK_le_set {ss : List SL} (n : Nat) (k : Nat) (f : Nat) (s : SL) (hs : ss[n]? = some s) (s' : SL) (h : s'.kind = 0 ∨ s'.kind = s.kind) : cntK (ss.set n s') ≤ cntK ss := by
  induction ss generalizing n with
  | nil => simp [cntK]
  | cons x r ih =>
    cases n with
    | zero =>
      simp only [List.getElem?_cons_zero, Option.some.injEq] at hs
      subst hs
      by_cases hx : x.kind = 0
      · have : s'.kind = 0 := by rcases h with h | h <;> simp [h, hx]
        simp [cntK, hx, this]
      · by_cases h2 : s'.kind = 0 <;> simp [cntK, hx, h2]
    | succ n =>
      have := ih n (by simpa using hs)
      by_cases hx : x.kind = 0 <;> simp [cntK, hx] at this ⊢ <;> omega
section
variable {L : Int} {ss : List SL} {O : List (Int × Int)}
theorem OkH.give (h : OkH L ss O) {n : Nat} {s : SL} (hs : ss[n]? = some s) {p : Nat} (hp : p < 64) (hpl : p < (plF s.kind).toNat) : OkH L (ss.set n (giveS s p)) (outV O ((n : Int) * 64 + p)) := by
  have hok := h.good s (List.mem_of_getElem? hs)
  have hi := (List.getElem?_eq_some_iff.1 hs).1
  have hpb := plF_le s.kind
  have hlt := setB_lt hok.2 hpl
  have hkk : (giveS s p).kind = 0 ∨ (giveS s p).kind = s.kind := by unfold giveS; split <;> simp [putS1]
  have hlive : ∀ p', p' < 64 → ((p' < (plF (giveS s p).kind).toNat ∧ (giveS s p).free.testBit p' = false) ↔ (p' < (plF s.kind).toNat ∧ s.free.testBit p' = false) ∧ p' ≠ p) := by
    intro p' hp'
    have hbit : (setB s.free p).testBit p' = (s.free.testBit p' || decide (p = p')) := by
      unfold setB
      rw [Nat.testBit_or, Nat.testBit_two_pow]
    unfold giveS
    split
    · rename_i he
      have hfull := popN_full 64 (plF s.kind).toNat (setB s.free p) hlt (by unfold pop at he; omega)
      simp only [plF_zero]
      constructor
      · rintro ⟨h1, _⟩; simp at h1
      · rintro ⟨⟨h1, h2⟩, h3⟩
        have := hfull p' h1
        rw [hbit, h2] at this
        simp at this
        omega
    · simp only [putS1]
      rw [hbit]
      constructor
      · rintro ⟨h1, h2⟩
        simp at h2
        exact ⟨⟨h1, h2.1⟩, fun e => h2.2 e.symm⟩
      · rintro ⟨⟨h1, h2⟩, h3⟩
        exact ⟨h1, by simp [h2]; omega⟩
  refine ⟨h.lim, by simpa using h.few, fun x hx => ?_, ?_, fun id => ?_⟩
  · rcases List.mem_or_eq_of_mem_set hx with hx | rfl
    · exact h.good x hx
    · unfold giveS
      split
      · exact ⟨.inl rfl, by decide⟩
      · exact ⟨hok.1, hlt⟩
  · have h1 := cntK_le_set n 0 0 s hs (giveS s p) hkk
    have h2 := h.fit
    omega
  · rw [mem_outV, h.keys]
    constructor
    · rintro ⟨hl, hne⟩
      obtain ⟨n', s', p', g1, g2, g3, g4, g5⟩ := liveAt_low hl
      by_cases e : n' = n
      · subst e
        rw [hs] at g1
        injection g1 with g1
        subst g1
        have h5 := (hlive p' g2).2 ⟨⟨g3, g4⟩, fun e => hne (by rw [g5, e])⟩
        exact ⟨n', _, p', by simp [hi], h5.1, h5.2, g5⟩
      · exact ⟨n', s', p', by rw [List.getElem?_set_ne (by omega)]; exact g1, g3, g4, g5⟩
    · intro hl
      obtain ⟨n', s', p', g1, g2, g3, g4, g5⟩ := liveAt_low hl
      by_cases e : n' = n
      · subst e
        rw [List.getElem?_set_self hi] at g1
        injection g1 with g1
        subst g1
        obtain ⟨⟨h1, h2⟩, h3⟩ := (hlive p' g2).1 ⟨g3, g4⟩
        exact ⟨⟨n', s, p', hs, h1, h2, g5⟩, by omega⟩
      · rw [List.getElem?_set_ne (by omega)] at g1
        exact ⟨⟨n', s', p', g1, g3, g4, g5⟩, by omega⟩
end
section
variable {w w' : World} {g m : Nat} {L : Int} {v : Value} {ss : List SL} {O : List (Int × Int)} {S : List Nat}
theorem hFree_no (h : IsHp w g L v ss m O) {id : Int} (hk : iW id) (hn : id ∉ O.map (·.1)) :
    Calls Tryd.prog 14 #[.pointer (some ⟨g, 0, none⟩), .int .i64 id] w fun e w' => e = .returned (.int .i64 4) ∧ w = w' := by
  have HC := hide (hclosed_is h)
  have HH := hide (hhas_no h hk hn)
  clear h hn
  go_enter Tryd.func14, Tryd.ntmps14
  go_wp2_with (first | (go_at_call 26; refine HC.out.mono ?_; rintro e w' ⟨rfl, rfl⟩) | (go_at_call 42; refine HH.out.mono ?_; rintro e w' ⟨rfl, rfl⟩))
  go_ret
  exact ⟨rfl, rfl⟩
def FreeH (w : World) (g : Nat) (L : Int) (v : Value) (m : Nat) (O : List (Int × Int)) (ss1 : List SL) (id : Int) (e : Ending) (w' : World) : Prop :=
  e = .returned (.int .i64 0) ∧ IsHp w' g L v ss1 m (outV O id) ∧ Only (m :: v.ownBlock.toList) w w'
set_option maxRecDepth 100000 in
set_option maxHeartbeats 1500000 in
theorem hFree_ok (h : IsHp w g L v ss m O) (hO : OkH L ss O) (hT : TabS w) (hlow : ∀ q ∈ m :: v.ownBlock.toList, 2 ≤ q) {id : Int} {n p : Nat} {s : SL} (hs : ss[n]? = some s) (hp : p < 64) (hpl : p < (plF s.kind).toNat) (hid : id = (n : Int) * 64 + p) {f : Int} (hf : (id, f) ∈ O) :
    Calls Tryd.prog 14 #[.pointer (some ⟨g, 0, none⟩), .int .i64 id] w fun e w' => FreeH w g L v m O (ss.set n (giveS s p)) id e w' := by
  have hok := hO.good s (List.mem_of_getElem? hs)
  have hi := (List.getElem?_eq_some_iff.1 hs).1
  have hn512 : n < 512 := by have := hO.few; omega
  have HC := hide (hclosed_is h)
  have HH := hide (hhas_yes h hf)
  have c2 : w.cell? ⟨g, 2, none⟩ = some (.map (some m)) := h.blk.cell 2
  obtain ⟨D, hD1, hD2⟩ := h.own
  obtain ⟨w1, hrun, hown, honly⟩ := dropI hD2 hD1 hf 0
  have H1 : IsHp w1 g L v ss m (outV O id) := ⟨h.blk.only honly (by simpa using h.gm), h.row.only honly (fun q hq => by simpa using h.farM q hq), _, hown, hD2.del hf⟩
  obtain ⟨A, cap, rfl, hA⟩ := h.row.form
  obtain ⟨b, rfl, hbl⟩ := hA (by omega)
  obtain ⟨q0, q1, z0, z1⟩ := H1.row.seat rfl rfl hs
  have c1 : w1.cell? ⟨g, 1, none⟩ = some (.slice (some ⟨b, 0, none⟩) ss.length cap) := H1.blk.cell 1
  have hor := or_set s.free p hok.lt hp
  have e1 : IntKind.i64.wrap (id.tdiv 64) = n := by
    rw [Int.tdiv_eq_ediv_of_nonneg (by omega), IntKind.wrap_i64]; omega
  have e2 : id.tmod 64 = p := by
    rw [Int.tmod_eq_emod_of_nonneg (by omega)]; omega
  have HO1 := hide (show Only (m :: (Value.slice (some ⟨b, 0, none⟩) ss.length cap).ownBlock.toList) w w1 from honly.mono (fun q _ hq => by simp at hq; simp [hq]))
  have HH1 := hide H1
  have HS := hide hs
  have HT := hide (fun (wA : World) (kA : Only (m :: (Value.slice (some ⟨b, 0, none⟩) ss.length cap).ownBlock.toList) w wA) => hlive_is (hT.only kA hlow) (putS1 s p) ⟨hok.1, setB_lt hok.2 hpl⟩)
  have hnI : (n : Int) < ss.length := by omega
  have hn0 : ¬ ((n : Int) < 0) := by omega
  clear h hO hT hs hok hD1 hD2 hown honly H1 hA hid hf
  go_enter Tryd.func14, Tryd.ntmps14
  go_wp2_with (first | (go_at_call 26; refine HC.out.mono ?_; rintro e w' ⟨rfl, rfl⟩) | (go_at_call 42; refine HH.out.mono ?_; rintro e w' ⟨rfl, rfl⟩))
  go_region
  obtain ⟨h3, hob⟩ := HH1.out.putF rfl rfl HS.out (setB s.free p)
  have H3 : IsHp ((w1.setCell ⟨b, n * 2 + 1, none⟩ (.int .u64 (setB s.free p : Nat))).drew) g L (.slice (some ⟨b, 0, none⟩) ss.length cap) (ss.set n (putS1 s p)) m (outV O id) := ⟨h3.blk, h3.row, h3.own⟩
  have O3 : Only (m :: (Value.slice (some ⟨b, 0, none⟩) ss.length cap).ownBlock.toList) w ((w1.setCell ⟨b, n * 2 + 1, none⟩ (.int .u64 (setB s.free p : Nat))).drew) := (HO1.out.setCell (p := ⟨b, n * 2 + 1, none⟩) _ (by simp [Value.ownBlock])).drew
  clear h3 q0 q1 z0 z1 c1 c2
  revert H3 O3
  generalize ((w1.setCell ⟨b, n * 2 + 1, none⟩ (.int .u64 (setB s.free p : Nat))).drew) = w3
  intro H3 O3
  have hs3 : (ss.set n (putS1 s p))[n]? = some (putS1 s p) := by simp [hi]
  obtain ⟨q0, q1, z0, z1⟩ := H3.row.seat rfl rfl hs3
  have HL := hide (HT.out _ O3)
  have HH3 := hide H3
  have HO3 := hide O3
  have HS3 := hide hs3
  clear H3 O3 hs3
  by_cases he : plF s.kind - (pop (setB s.free p) : Nat) = 0
  · have HG := hide (show giveS s p = ⟨0, 0⟩ by unfold giveS; rw [if_pos he])
    have heb : (plF (putS1 s p).kind - (pop (putS1 s p).free : Nat) == 0) = true := by simpa [putS1] using he
    clear he
    go_wp2_with (go_at_call 43; refine HL.out.mono ?_; rintro e w4 ⟨rfl, ho⟩; have H4 := HH3.out.only ho (by simp) (by simp) (by simp); obtain ⟨y0, y1, x0, x1⟩ := H4.row.seat rfl rfl HS3.out; have HH4 := hide H4; have HO4 := hide ho; clear ho H4)
    go_ret
    have h5 := HH4.out.putS rfl rfl (s' := ⟨0, 0⟩) HS3.out
    rw [List.set_set] at h5
    refine ⟨rfl, ?_, ((HO3.out.trans (HO4.out.mono (by simp))).setCell (p := ⟨b, n * 2, none⟩) _ (by simp [Value.ownBlock])).setCell (p := ⟨b, n * 2 + 1, none⟩) _ (by simp [Value.ownBlock])⟩
    rw [HG.out]
    exact h5
  · have HG := hide (show giveS s p = putS1 s p by unfold giveS; rw [if_neg he])
    have heb : (plF (putS1 s p).kind - (pop (putS1 s p).free : Nat) == 0) = false := by simpa [putS1] using he
    clear he
    go_wp2_with (go_at_call 43; refine HL.out.mono ?_; rintro e w4 ⟨rfl, ho⟩; have HO4 := hide ho; clear ho)
    go_ret
    refine ⟨rfl, ?_, HO3.out.trans (HO4.out.mono (by simp))⟩
    rw [HG.out]
    exact HH3.out.only HO4.out (by simp) (by simp) (by simp)
end
end Go.Proofs.YtgoaebikgdecoaaDoor
