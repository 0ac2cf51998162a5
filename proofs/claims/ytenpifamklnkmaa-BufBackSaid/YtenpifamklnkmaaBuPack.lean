/-
  Buffers (parapet/buf): a cache and its disk as one fact; keep over it.
-/
import Derived.Test.YtenpifamklnkmaaBuPure
namespace Go.Proofs.Ytenpifamklnkmaa
open Go.ChangeShapes Go.WideShapes Go.ChangeAt Go.RowKit Go.Maps
set_option linter.unusedVariables false

/-- The bytes of a block that is kept, or is to be. -/
structure BK.ok (w : World) (N : Nat) (FD : List Nat) (x : BK) : Prop where
  row : Blk w x.b 5 (u8l x.d ++ x.r).toArray
  len : x.d.length = 512
  u8 : U8 x.d
  far : x.b ∉ FD
  rng : 0 ≤ x.n ∧ x.n < N
theorem BK.ok.only {w w' : World} {N : Nat} {FD S : List Nat} {x : BK} (h : x.ok w N FD) (ho : Only S w w') (hs : x.b ∉ S) : x.ok w' N FD := ⟨h.row.only ho hs, h.len, h.u8, h.far, h.rng⟩

structure BuI (w : World) (g m gd N room : Nat) (v : Value) (L : List BK) (hi mi ev wr : Int) (plat : List Int) (l : List (Nat × List Int)) (rd wt fl : Int) (k : Nat) (FD : List Nat) : Prop where
  is : IsBu w g m gd room v (nsK L) (prK L) hi mi ev wr
  dk : Dk w gd N plat l (-1) rd wt fl k FD
  ok : ∀ x ∈ L, x.ok w N FD
  len : L.length ≤ room
  rm : 1 ≤ room ∧ room ≤ 1024
  cnt : (0 ≤ hi ∧ hi ≤ k) ∧ (0 ≤ mi ∧ mi ≤ k) ∧ (0 ≤ ev ∧ ev ≤ k) ∧ (0 ≤ wr ∧ wr ≤ k)
  dis : ∀ q ∈ footB g m v, q ∉ FD

section
variable {w w' w1 : World} {g m gd N room : Nat} {v : Value} {L : List BK} {hi mi ev wr : Int} {plat : List Int} {l : List (Nat × List Int)} {rd wt fl : Int} {k : Nat} {FD S : List Nat}
theorem BuI.nd (h : BuI w g m gd N room v L hi mi ev wr plat l rd wt fl k FD) : (nsK L).Nodup := by
  have := h.is.nd
  rwa [keys_pr] at this
theorem BuI.small (h : BuI w g m gd N room v L hi mi ev wr plat l rd wt fl k FD) : (nsK L).length ≤ 1024 ∧ (prK L).length < maxLen := by
  have h1 := h.len
  have h2 := h.rm
  simp only [nsK, prK, List.length_map]
  unfold maxLen
  omega
theorem BuI.big (h : BuI w g m gd N room v L hi mi ev wr plat l rd wt fl k FD) : 1 ≤ N ∧ N ≤ 4096 := h.dk.platOk.2.2
theorem BuI.iw (h : BuI w g m gd N room v L hi mi ev wr plat l rd wt fl k FD) {n : Int} (hn : 0 ≤ n ∧ n < N) : iW n := WalkArith.wf_i64 (by have := h.big; omega)
theorem BuI.mem (h : BuI w g m gd N room v L hi mi ev wr plat l rd wt fl k FD) (t : Int) : t ∈ nsK L ↔ t ∈ (prK L).map (·.1) := by rw [keys_pr]
/-- A block of bytes is none of the cache's own. -/
theorem BuI.u8_far (h : BuI w g m gd N room v L hi mi ev wr plat l rd wt fl k FD) {b : Nat} {cs : Array Value} (hb : Blk w b 5 cs) : b ∉ footB g m v := by
  intro hm
  rcases mem_footB.1 hm with rfl | rfl | e
  · exact hb.ne_ h.is.blk (by decide) rfl
  · obtain ⟨D, ⟨es, clock, hm, _⟩, _⟩ := h.is.own
    unfold Blk at hb
    rw [hm] at hb
    cases hb
  · exact h.is.row.apart hb (by decide) _ e rfl
theorem BuI.quiet (h : BuI w g m gd N room v L hi mi ev wr plat l rd wt fl k FD) (ho : Only [] w w') : BuI w' g m gd N room v L hi mi ev wr plat l rd wt fl k FD :=
  ⟨h.is.quiet ho, h.dk.quiet ho, fun x hx => (h.ok x hx).only ho (by simp), h.len, h.rm, h.cnt, h.dis⟩
theorem BuI.other (h : BuI w g m gd N room v L hi mi ev wr plat l rd wt fl k FD) (ho : Only S w w') (h1 : ∀ q ∈ footB g m v, q ∉ S) (h2 : ∀ q ∈ FD, q ∉ S) (h3 : ∀ x ∈ L, x.b ∉ S) : BuI w' g m gd N room v L hi mi ev wr plat l rd wt fl k FD :=
  ⟨h.is.only ho h1, h.dk.only ho h2, fun x hx => (h.ok x hx).only ho (h3 x hx), h.len, h.rm, h.cnt, h.dis⟩
theorem BuI.more (h : BuI w g m gd N room v L hi mi ev wr plat l rd wt fl k FD) {k' : Nat} (hk : k ≤ k') : BuI w g m gd N room v L hi mi ev wr plat l rd wt fl k' FD :=
  ⟨h.is, h.dk.more hk, h.ok, h.len, h.rm, by have := h.cnt; omega, h.dis⟩
/-- The cache turned, the disk did not. -/
theorem BuI.turn (h : BuI w g m gd N room v L hi mi ev wr plat l rd wt fl k FD) {v' : Value} {L' : List BK} {hi' mi' ev' wr' : Int} {k' : Nat} (hk : k ≤ k') (hI : IsBu w' g m gd room v' (nsK L') (prK L') hi' mi' ev' wr') (hD : DidV w w' g m v v') (hok : ∀ x ∈ L', x.ok w' N FD) (hlen : L'.length ≤ room)
    (hc : (0 ≤ hi' ∧ hi' ≤ k') ∧ (0 ≤ mi' ∧ mi' ≤ k') ∧ (0 ≤ ev' ∧ ev' ≤ k') ∧ (0 ≤ wr' ∧ wr' ≤ k')) : BuI w' g m gd N room v' L' hi' mi' ev' wr' plat l rd wt fl k' FD := by
  refine ⟨hI, (h.dk.only hD.1 (fun q hq hm => h.dis q hm hq)).more hk, hok, hlen, h.rm, hc, fun q hq hm => ?_⟩
  rcases mem_footB.1 hq with rfl | rfl | e
  · exact h.dis _ (mem_footB.2 (.inl rfl)) hm
  · exact h.dis _ (mem_footB.2 (.inr (.inl rfl))) hm
  · rcases hD.2 q e with e | e
    · exact h.dis _ (mem_footB.2 (.inr (.inr e))) hm
    · have := h.dk.lt q hm; omega
/-- What keep leaves of a cache: y stands last. -/
def KeepF (w w' : World) (g m gd N room : Nat) (v : Value) (L : List BK) (hi mi ev wr : Int) (plat : List Int) (l : List (Nat × List Int)) (rd wt fl : Int) (k : Nat) (FD : List Nat) (y : BK) : Prop :=
  ∃ v' L' ev', BuI w' g m gd N room v' L' hi mi ev' wr plat l rd wt fl k FD ∧ L'.map BK.v = putV room (L.map BK.v) y.v ∧ y ∈ L' ∧ (∀ x ∈ L', x ∈ L ∨ x = y) ∧ DidV w w' g m v v'
theorem pkeep (h : BuI w g m gd N room v L hi mi ev wr plat l rd wt fl k FD) (y : BK) (hy : y.ok w N FD) (hr : refV N room (L.map BK.v) y.n = 0) (hev : ev + 1 ≤ k) (hk : k < 4611686018427387904) :
    Calls Try.prog 27 #[.pointer (some ⟨g, 0, none⟩), .int .i64 y.n, bvV y.bv] w fun e w' => e = .returned (.tuple #[]) ∧ KeepF w w' g m gd N room v L hi mi ev wr plat l rd wt fl k FD y := by
  have hnd := h.nd
  obtain ⟨hs1, hs2⟩ := h.small
  have hcn := h.cnt
  have hyw := h.iw hy.rng
  have hlen := h.len
  have hokk : ∀ {w' : World} {v' : Value}, DidV w w' g m v v' → ∀ x : BK, x.ok w N FD → x.ok w' N FD := fun hD x hx => hx.only hD.1 (h.u8_far hx.row)
  by_cases hm : y.n ∈ nsK L
  · obtain ⟨i, hi0, hin⟩ := List.getElem_of_mem hm
    have hil : i < L.length := by simpa [nsK] using hi0
    have hx : L[i]? = some L[i] := List.getElem?_eq_getElem hil
    have hxn : L[i].n = y.n := by simpa [nsK] using hin
    refine (keep_old h.is hs1 hyw (i := i) (by rw [List.getElem?_eq_getElem hi0, hin]) (fun j s' hj hs e => ?_) hs2 y.bv).mono ?_
    · subst e
      have hjl : j < (nsK L).length := (List.getElem?_eq_some_iff.1 hs).1
      have := (List.getElem_inj (h₀ := hjl) (h₁ := hi0) hnd).1 (by rw [hin]; exact (List.getElem?_eq_some_iff.1 hs).2)
      omega
    · rintro e w' ⟨he, v', hI, hD⟩
      refine ⟨he, v', L.eraseIdx i ++ [y], ev, ?_, ?_, by simp, fun x hx' => ?_, hD⟩
      · have hI2 : IsBu w' g m gd room v' (nsK (L.eraseIdx i ++ [y])) (prK (L.eraseIdx i ++ [y])) hi mi ev wr := by
          have e1 : nsK (L.eraseIdx i ++ [y]) = (nsK L).eraseIdx i ++ [y.n] := by
            rw [← nsK_erase]; simp [nsK]
          rw [e1]
          exact hI.perm (put_old hnd hx y hxn.symm)
        refine h.turn (Nat.le_refl k) hI2 hD (fun x hx' => ?_) ?_ (by omega)
        · rcases List.mem_append.1 hx' with h1 | h1
          · exact hokk hD x (h.ok x (List.mem_of_mem_eraseIdx h1))
          · rw [List.mem_singleton.1 h1]; exact hokk hD y hy
        · rw [List.length_append, List.length_eraseIdx_of_lt hil]
          simp
          omega
      · have hmv : y.v.n ∈ keysV (L.map BK.v) := by rw [keys_v]; exact hm
        unfold putV
        rw [if_pos hmv, List.map_append, drop_v hnd hx, hxn]
        rfl
      · rcases List.mem_append.1 hx' with h1 | h1
        · exact .inl (List.mem_of_mem_eraseIdx h1)
        · exact .inr (List.mem_singleton.1 h1)
  · have hmv : y.v.n ∉ keysV (L.map BK.v) := by rw [keys_v]; exact hm
    by_cases hl : L.length = room
    · have ha : (L.map BK.v).any (fun x => !x.y) = true := by
        unfold refV at hr
        rw [if_neg (by have := hy.rng; omega)] at hr
        have h3 : y.n ∈ keysV (L.map BK.v) ∨ (L.map BK.v).length < room ∨ (L.map BK.v).any (fun x => !x.y) = true := by
          by_cases h4 : y.n ∈ keysV (L.map BK.v) ∨ (L.map BK.v).length < room ∨ (L.map BK.v).any (fun x => !x.y) = true
          · exact h4
          · rw [if_neg h4] at hr; cases hr
        rcases h3 with h3 | h3 | h3
        · exact absurd h3 hmv
        · rw [List.length_map] at h3; omega
        · exact h3
      obtain ⟨i, x, hx, hxy, hfi, hff⟩ := first_clean hnd ha
      have hil := (List.getElem?_eq_some_iff.1 hx).1
      refine (keep_full (cl := clK L) h.is hs1 (by simp [nsK, hl]) hyw hm hs2 (clOn hnd) (nsK_get hx) (by rw [clK_at hnd (List.mem_of_getElem? hx), hxy]; rfl) hfi hcn.2.2.1.1 (by omega) y.bv).mono ?_
      rintro e w' ⟨he, v', hI, hD⟩
      have hnot : y.n ∉ nsK (L.eraseIdx i) := by
        rw [nsK_erase]
        exact fun h' => hm (List.mem_of_mem_eraseIdx h')
      refine ⟨he, v', L.eraseIdx i ++ [y], ev + 1, ?_, ?_, by simp, fun z hz => ?_, hD⟩
      · have hI2 : IsBu w' g m gd room v' (nsK (L.eraseIdx i ++ [y])) (prK (L.eraseIdx i ++ [y])) hi mi (ev + 1) wr := by
          have e1 : nsK (L.eraseIdx i ++ [y]) = (nsK L).eraseIdx i ++ [y.n] := by
            rw [← nsK_erase]; simp [nsK]
          rw [e1]
          rw [out_pr hnd hx, put_new y hnot] at hI
          exact hI
        refine h.turn (Nat.le_refl k) hI2 hD (fun z hz => ?_) ?_ (by omega)
        · rcases List.mem_append.1 hz with h1 | h1
          · exact hokk hD z (h.ok z (List.mem_of_mem_eraseIdx h1))
          · rw [List.mem_singleton.1 h1]; exact hokk hD y hy
        · rw [List.length_append, List.length_eraseIdx_of_lt hil]
          simp
          omega
      · unfold putV evV
        rw [if_neg hmv, if_pos (by simp [hl]), hff, List.map_append, drop_v hnd hx]
        rfl
      · rcases List.mem_append.1 hz with h1 | h1
        · exact .inl (List.mem_of_mem_eraseIdx h1)
        · exact .inr (List.mem_singleton.1 h1)
    · refine (keep_more h.is (by have := h.rm; simp [nsK]; omega) (by simp [nsK]; omega) hyw hm hs2 y.bv).mono ?_
      rintro e w' ⟨he, v', hI, hD⟩
      refine ⟨he, v', L ++ [y], ev, ?_, ?_, by simp, fun z hz => ?_, hD⟩
      · have hI2 : IsBu w' g m gd room v' (nsK (L ++ [y])) (prK (L ++ [y])) hi mi ev wr := by
          have e1 : nsK (L ++ [y]) = nsK L ++ [y.n] := by simp [nsK]
          rw [e1, ← put_new y hm]
          exact hI
        refine h.turn (Nat.le_refl k) hI2 hD (fun z hz => ?_) ?_ (by omega)
        · rcases List.mem_append.1 hz with h1 | h1
          · exact hokk hD z (h.ok z h1)
          · rw [List.mem_singleton.1 h1]; exact hokk hD y hy
        · simp
          omega
      · unfold putV evV
        rw [if_neg hmv, if_neg (by simpa using hl), List.map_append]
        rfl
      · rcases List.mem_append.1 hz with h1 | h1
        · exact .inl h1
        · exact .inr (List.mem_singleton.1 h1)
end
end Go.Proofs.Ytenpifamklnkmaa
