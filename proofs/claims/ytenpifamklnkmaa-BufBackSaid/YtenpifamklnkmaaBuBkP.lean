/-
  Buffers: what the walk of 'BufBack' needs: a flush beside the cache; the dirty ones, one behind the other.
-/
import Derived.Test.YtenpifamklnkmaaBuSame
namespace Go.Proofs.Ytenpifamklnkmaa
open Go.ChangeShapes Go.WideShapes Go.ChangeAt Go.RowKit Go.Maps
set_option linter.unusedVariables false

theorem nodup_below : ∀ (n : Nat) (l : List Int), l.Nodup → (∀ x ∈ l, 0 ≤ x ∧ x < n) → l.length ≤ n
  | 0, l, _, h => by
    cases l with
    | nil => simp
    | cons a r => have := h a (by simp); omega
  | n + 1, l, hn, h => by
    have h1 : (l.erase (n : Int)).length ≤ n := nodup_below n _ (hn.erase _) (fun x hx => by
      have h2 := h x (List.mem_of_mem_erase hx)
      have h3 : x ≠ n := fun e => by
        subst e
        exact (List.Nodup.not_mem_erase hn) hx
      omega)
    have h2 := List.length_erase (a := (n : Int)) (l := l)
    split at h2 <;> omega
section
variable {H : Type} {enc : TypeId × Value → H} {w : World} {A : Option Addr} {n c : Nat} {d : DataW H}
set_option maxRecDepth 100000 in
theorem Rd.few15 (h : Rd enc Try.prog w 22 [.slice A n c] d) : n ≤ 4398046510976 := by
  obtain ⟨A', n', c', hv, hl, hm, hre, _, hf⟩ := h.structs Try.underlying22 Try.underlying33
  injection hv with hv _
  injection hv with e1 e2 e3
  subst e1 e2 e3
  rw [bytes_op15] at hre
  unfold reachBytes at hre
  omega
end
section
variable {w w' : World} {g gd N room : Nat} {plat : List Int} {l : List (Nat × List Int)} {k : Nat} {F : List Nat} {L : List VB}
theorem bu_flush (h : Bu w g gd N room plat l L k F) (hk : k < 4611686018427387000) : Calls Try.prog 17 #[.pointer (some ⟨gd, 0, none⟩)] w fun e w' => e = .returned (.int .i64 l.length) ∧ Turned w w' F F ∧ Bu w' g gd N room (layAll plat l) [] L (k + 1) F := by
  obtain ⟨m, v, LL, hi, mi, ev, wr, rd, wt, fl, FD, h1, h2, h3, h4⟩ := h
  refine (dk_flush h1.dk (by decide) (by decide) (by omega)).mono ?_
  rintro e w' ⟨he, hT, hd⟩
  have hcn := h1.cnt
  have hFD : ∀ q ∈ FD, q ∈ F := fun q hq => h3 q (.inr (.inl hq))
  exact ⟨he, Turned.same (hT.1.mono (fun q _ hq => hFD q hq)), m, v, LL, hi, mi, ev, wr, rd, wt, fl + 1, FD, ⟨h1.is.only hT.1 h1.dis, hd, fun x hx => (h1.ok x hx).only hT.1 (h1.ok x hx).far, h1.len, h1.rm, by omega, h1.dis⟩, h2, h3, fun q hq => Nat.lt_of_lt_of_le (h4 q hq) hT.1.size⟩
theorem Bu.disk (h : Bu w g gd N room plat l L k F) : ∃ rd wt fl FD, Dk w gd N plat l (-1) rd wt fl k FD ∧ ∀ q ∈ FD, q ∈ F := by
  obtain ⟨m, v, LL, hi, mi, ev, wr, rd, wt, fl, FD, h1, h2, h3, h4⟩ := h
  exact ⟨rd, wt, fl, FD, h1.dk, fun q hq => h3 q (.inr (.inl hq))⟩
end
/-- Just these are dirty. -/
def DirtyIs (L : List VB) (DL : List Int) : Prop := (∀ x ∈ L, x.y = true → x.n ∈ DL) ∧ ∀ t ∈ DL, ∃ x ∈ L, x.n = t ∧ x.y = true
theorem dirtyIs_start (L : List VB) : DirtyIs L (sortK (keysV (dirtV L))) :=
  ⟨fun x hx hy => sortK_mem.2 (List.mem_map.2 ⟨x, List.mem_filter.2 ⟨hx, hy⟩, rfl⟩), fun t ht => by
    obtain ⟨x, hx, hy, e⟩ := dirt_mem ht
    exact ⟨x, hx, e, hy⟩⟩
theorem dirtyIs_step {L : List VB} {t : Int} {r : List Int} (hn : (t :: r).Nodup) (h : DirtyIs L (t :: r)) : DirtyIs (cleanV L t) r := by
  refine ⟨fun y hy hyd => ?_, fun s hs => ?_⟩
  · obtain ⟨x, hx, rfl⟩ := List.mem_map.1 hy
    by_cases e : x.n = t
    · rw [if_pos e] at hyd; cases hyd
    · rw [if_neg e] at hyd ⊢
      rcases List.mem_cons.1 (h.1 x hx hyd) with h1 | h1
      · exact absurd h1 e
      · exact h1
  · obtain ⟨x, hx, rfl, hy⟩ := h.2 s (by simp [hs])
    have hne : x.n ≠ t := fun e => (List.nodup_cons.1 hn).1 (e ▸ hs)
    exact ⟨x, List.mem_map.2 ⟨x, hx, if_neg hne⟩, rfl, hy⟩
theorem dirtyIs_end {L : List VB} (h : DirtyIs L []) : dirtV L = [] := by
  unfold dirtV
  rw [List.filter_eq_nil_iff]
  intro x hx hy
  have := h.1 x hx hy
  simp at this
theorem all_clean {plat : List Int} {l : List (Nat × List Int)} {L : List VB} (hd : dirtV L = []) (h : OkV plat l L) (m : Nat) : sect plat l m = valV plat l L m := by
  unfold valV
  cases hg : getV L m with
  | none => rfl
  | some x =>
    obtain ⟨hx, e⟩ := getV_some hg
    have hy : x.y = false := by
      cases hy : x.y
      · rfl
      · have : x ∈ dirtV L := List.mem_filter.2 ⟨hx, hy⟩
        rw [hd] at this; cases this
    show sect plat l m = x.d
    rw [h x hx hy, e]
    rfl
theorem sortK_nodup {ns : List Int} (h : ns.Nodup) : (sortK ns).Nodup := (sortK_perm ns).nodup_iff.2 h
end Go.Proofs.Ytenpifamklnkmaa
