/-
  Buffers: what blocks read stays through Back and Forget; sameBytes; refusals.
-/
import Derived.Test.YtenpifamklnkmaaBuHolds
namespace Go.Proofs.Ytenpifamklnkmaa
open Go.ChangeShapes Go.WideShapes Go.ChangeAt Go.RowKit Go.Maps
set_option linter.unusedVariables false
section
variable {plat : List Int} {l : List (Nat × List Int)} {L : List VB} {N room : Nat} {n : Int} {x y : VB}
theorem find_clean (L : List VB) (k m : Int) : getV (cleanV L k) m = (getV L m).map fun x => if x.n = k then ⟨x.n, x.d, false⟩ else x := by
  unfold getV cleanV
  rw [List.find?_map]
  congr 1
  congr 1
  funext x
  show decide ((if x.n = k then _ else _ : VB).n = m) = _
  split <;> rfl
theorem keys_clean (L : List VB) (k : Int) : keysV (cleanV L k) = keysV L := by
  unfold keysV cleanV
  rw [List.map_map]
  refine List.map_congr_left fun x _ => ?_
  show (if x.n = k then _ else _ : VB).n = x.n
  split <;> rfl
theorem sect_other {a b : Nat} {zs : List Int} (h : a ≠ b) : sect plat (l ++ [(a, zs)]) b = sect plat l b := by rw [sect_write, if_neg h]
theorem clean_ok (hn : (keysV L).Nodup) (h : OkV plat l L) (hx : x ∈ L) (hp : ∀ z ∈ L, 0 ≤ z.n) : OkV plat (l ++ [(x.n.toNat, x.d)]) (cleanV L x.n) := by
  intro y hy hyc
  obtain ⟨z, hz, rfl⟩ := List.mem_map.1 hy
  by_cases e : z.n = x.n
  · have := vb_uniq hn hz hx e
    subst this
    rw [if_pos rfl]
    show z.d = sect _ _ z.n.toNat
    rw [sect_write, if_pos rfl]
  · rw [if_neg e] at hyc ⊢
    rw [sect_other (by have := hp z hz; have := hp x hx; omega)]
    exact h z hz hyc
theorem clean_val (hn : (keysV L).Nodup) (h : OkV plat l L) (hx : x ∈ L) (hp : ∀ z ∈ L, 0 ≤ z.n) {m : Int} (hm : 0 ≤ m) : valV plat (l ++ [(x.n.toNat, x.d)]) (cleanV L x.n) m = valV plat l L m := by
  unfold valV
  rw [find_clean]
  cases hg : getV L m with
  | some z =>
    show (if z.n = x.n then _ else _ : VB).d = z.d
    split <;> rfl
  | none =>
    show sect _ _ _ = sect _ _ _
    refine sect_other (fun e => getV_none hg (List.mem_map.2 ⟨x, hx, ?_⟩))
    have := hp x hx
    omega
theorem dirt_ok (h : OkV plat l L) : OkV plat l (dirtV L) := fun x hx hy => h x (List.mem_filter.1 hx).1 hy
theorem dirt_val (hn : (keysV L).Nodup) (h : OkV plat l L) (m : Int) : valV plat l (dirtV L) m = valV plat l L m := by
  have hn2 : (keysV (dirtV L)).Nodup := List.Sublist.nodup (List.Sublist.map _ List.filter_sublist) hn
  unfold valV
  cases hg : getV L m with
  | some z =>
    obtain ⟨hz, rfl⟩ := getV_some hg
    cases hy : z.y
    · have : getV (dirtV L) z.n = none := by
        cases hg2 : getV (dirtV L) z.n with
        | none => rfl
        | some z2 =>
          obtain ⟨h1, h2⟩ := getV_some hg2
          obtain ⟨h3, h4⟩ := List.mem_filter.1 h1
          rw [vb_uniq hn h3 hz h2] at h4
          rw [hy] at h4; cases h4
      rw [this]
      exact (h z hz hy).symm
    · rw [getV_mem hn2 (List.mem_filter.2 ⟨hz, hy⟩)]
  | none =>
    have : getV (dirtV L) m = none := by
      cases hg2 : getV (dirtV L) m with
      | none => rfl
      | some z2 =>
        obtain ⟨h1, h2⟩ := getV_some hg2
        exact absurd (List.mem_map.2 ⟨z2, (List.mem_filter.1 h1).1, h2⟩) (getV_none hg)
    rw [this]
/-- Refused for what. -/
theorem ref_out (h : n < 0 ∨ (N : Int) ≤ n) : refV N room L n = 20 := if_pos h
theorem ref_in (h : ¬ (n < 0 ∨ (N : Int) ≤ n)) : refV N room L n = 0 ∨ refV N room L n = 150 := by
  unfold refV
  rw [if_neg h]
  split
  · exact .inl rfl
  · exact .inr rfl
theorem ref_zero (h : refV N room L n = 0) : 0 ≤ n ∧ n < N := by
  by_cases h0 : n < 0 ∨ (N : Int) ≤ n
  · rw [ref_out h0] at h; cases h
  · omega
end
/-- What any Back leaves: what is read stays. -/
def BackA (w w' : World) (g gd N room : Nat) (plat : List Int) (l : List (Nat × List Int)) (L : List VB) (k : Nat) (F : List Nat) : Prop :=
  ∃ l' L' F', Turned w w' F F' ∧ Bu w' g gd N room plat l' L' (k + 1) F' ∧ OkV plat l' L' ∧ ∀ m, 0 ≤ m → valV plat l' L' m = valV plat l L m
section
variable {w w' : World} {g gd N room : Nat} {plat : List Int} {l : List (Nat × List Int)} {k : Nat} {F : List Nat} {L : List VB}
theorem bu_back_any (h : Bu w g gd N room plat l L k F) (hk : k < 4398046511000) (ho : OkV plat l L) {n : Int} (hn : iW n) : Calls Try.prog 14 #[.pointer (some ⟨g, 0, none⟩), .int .i64 n] w fun e w' => (∃ b, e = .returned (.tuple #[.bool b, .int .i64 0])) ∧ BackA w w' g gd N room plat l L k F := by
  obtain ⟨f1, f2, f3, f4, f5⟩ := h.facts
  by_cases hd : ∃ x ∈ L, x.n = n ∧ x.y = true
  · obtain ⟨x, hx, rfl, hy⟩ := hd
    refine (bu_back_yes h hk hx hy).mono ?_
    rintro e w' ⟨he, F', hT, hB⟩
    exact ⟨⟨_, he⟩, _, _, F', hT, hB, clean_ok f1 ho hx (fun z hz => (f5 z hz).1.1), fun m hm => clean_val f1 ho hx (fun z hz => (f5 z hz).1.1) hm⟩
  · refine (bu_back_no h hn (fun x hx e => ?_)).mono ?_
    · cases hy : x.y
      · rfl
      · exact absurd ⟨x, hx, e, hy⟩ hd
    · rintro e w' ⟨he, hO⟩
      exact ⟨⟨_, he⟩, l, L, F, Turned.same (hO.mono (by simp)), (h.quiet hO).more (Nat.le_succ k), ho, fun _ _ => rfl⟩
end
set_option maxHeartbeats 1500000 in
theorem sameB_yes (w : World) (A A' : Option Addr) (n c c' : Nat) (xs : List Int) (h : Sees w A n xs) (h' : Sees w A' n xs) (hn : n ≤ 1024) : Calls Try.prog 11 #[.slice A n c, .slice A' n c'] w fun e w' => e = .returned (.bool true) ∧ Only [] w w' := by
  have HS := hide h
  have HS' := hide h'
  have hnI : (n : Int) ≤ 1024 := by omega
  clear h h'
  go_enter Try.func11, Try.ntmps11
  go_wp2
  go_loopw [5] (fun iv wr => ∃ i : Nat, i ≤ n ∧ iv = .int .i64 i ∧ Only [] w wr) (fun iv _ => n - (intOf iv).toNat)
  case atStart => exact ⟨0, Nat.zero_le _, rfl, Only.refl _ _⟩
  case round =>
    obtain ⟨i, hi, rfl, ho⟩ := hrel
    have HO := hide ho
    by_cases hlt : i < n
    · have hltI : (i : Int) < n := by omega
      obtain ⟨b, o, rfl, hb, hc⟩ := HS.out.2 (by omega)
      obtain ⟨b', o', rfl, hb', hc'⟩ := HS'.out.2 (by omega)
      have z1 := (ho.cell hb (by simp)).trans (hc i hlt)
      have z2 := (ho.cell hb' (by simp)).trans (hc' i hlt)
      generalize gb xs i = x at *
      have hne : (x != x) = false := by simp
      clear hc hc' ho
      go_wp2
      go_quiet (fail)
      go_wp2
      go_roundw
      case rel => exact ⟨i + 1, hlt, by go_num, HO.out.drewN _⟩
      case measure => simp [intOf]; omega
    · obtain rfl : i = n := by omega
      clear ho
      go_wp2
      go_ret
      exact ⟨rfl, HO.out⟩
theorem sees_fresh {w : World} {d : Nat} {xs : List Int} (h : ∀ i, i < 512 → w.cell? ⟨d, 0 + i, none⟩ = some (.int .u8 (gb xs i))) (hd : d < w.heap.size) (hl : xs.length = 512) : Sees w (some ⟨d, 0, none⟩) 512 xs :=
  ⟨hl, fun _ => ⟨d, 0, rfl, hd, h⟩⟩
end Go.Proofs.Ytenpifamklnkmaa
