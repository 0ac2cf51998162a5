/-
  Buffers: Read and Write of any block; what each of them leaves, as plain facts; the calls of the laws, read.
-/
import Derived.Test.YtenpifamklnkmaaBuLives
namespace Go.Proofs.Ytenpifamklnkmaa
open Go.ChangeShapes Go.WideShapes Go.ChangeAt Go.RowKit Go.Maps
set_option linter.unusedVariables false

/-- What a block reads: what is kept, or what the disk has. -/
def getV (L : List VB) (n : Int) : Option VB := L.find? fun x => decide (x.n = n)
def valV (plat : List Int) (l : List (Nat × List Int)) (L : List VB) (n : Int) : List Int := match getV L n with | some x => x.d | none => sect plat l n.toNat
/-- The block as it is kept behind a read. -/
def curV (plat : List Int) (l : List (Nat × List Int)) (L : List VB) (n : Int) : VB := (getV L n).getD ⟨n, sect plat l n.toNat, false⟩
def readV (N room : Nat) (plat : List Int) (l : List (Nat × List Int)) (L : List VB) (n : Int) : List VB := if refV N room L n = 0 then putV room L (curV plat l L n) else L
def writeV (N room : Nat) (L : List VB) (n : Int) (zs : List Int) : List VB := if refV N room L n = 0 then putV room L ⟨n, zs, true⟩ else L
/-- What is clean is as the disk has it. -/
def OkV (plat : List Int) (l : List (Nat × List Int)) (L : List VB) : Prop := ∀ x ∈ L, x.y = false → x.d = sect plat l x.n.toNat

section
variable {plat : List Int} {l : List (Nat × List Int)} {L : List VB} {N room : Nat} {n : Int} {x y : VB}
theorem getV_some (h : getV L n = some x) : x ∈ L ∧ x.n = n := ⟨List.mem_of_find?_eq_some h, by have := List.find?_some h; simpa using this⟩
theorem getV_none (h : getV L n = none) : n ∉ keysV L := fun hm => by
  obtain ⟨x, hx, e⟩ := List.mem_map.1 hm
  have := List.find?_eq_none.1 h x hx
  simp [e] at this
theorem vb_uniq (hn : (keysV L).Nodup) (hx : x ∈ L) (hy : y ∈ L) (e : x.n = y.n) : x = y := by
  obtain ⟨i, hi, rfl⟩ := List.getElem_of_mem hx
  obtain ⟨j, hj, rfl⟩ := List.getElem_of_mem hy
  have : i = j := (List.getElem_inj (xs := keysV L) (h₀ := by simpa [keysV] using hi) (h₁ := by simpa [keysV] using hj) hn).1 (by simpa [keysV] using e)
  subst this
  rfl
theorem getV_mem (hn : (keysV L).Nodup) (hx : x ∈ L) : getV L x.n = some x := by
  cases h : getV L x.n with
  | none => exact absurd (List.mem_map.2 ⟨x, hx, rfl⟩) (getV_none h)
  | some z =>
    obtain ⟨h1, h2⟩ := getV_some h
    rw [vb_uniq hn h1 hx h2]
theorem curV_n : (curV plat l L n).n = n := by
  unfold curV
  cases h : getV L n with
  | none => rfl
  | some x => exact (getV_some h).2
theorem curV_d : (curV plat l L n).d = valV plat l L n := by
  unfold curV valV
  cases getV L n <;> rfl
theorem curV_ok (h : OkV plat l L) (hy : (curV plat l L n).y = false) : (curV plat l L n).d = sect plat l (curV plat l L n).n.toNat := by
  unfold curV at hy ⊢
  cases hg : getV L n with
  | none => rfl
  | some x => rw [hg] at hy; exact h x (getV_some hg).1 hy
/-- What stands there behind a put: y, and some of what stood. -/
theorem put_mem (h : x ∈ putV room L y) : x = y ∨ (x ∈ L ∧ x.n ≠ y.n) := by
  have hd : ∀ n, x ∈ dropV L n → x ∈ L ∧ x.n ≠ n := fun n h => by simpa [dropV] using h
  unfold putV at h
  by_cases hm : y.n ∈ keysV L
  · rw [if_pos hm] at h
    rcases List.mem_append.1 h with h | h
    · exact .inr (hd _ h)
    · exact .inl (List.mem_singleton.1 h)
  · rw [if_neg hm] at h
    have hne : ∀ z ∈ L, z.n ≠ y.n := fun z hz e => hm (List.mem_map.2 ⟨z, hz, e⟩)
    rcases List.mem_append.1 h with h | h
    · unfold evV at h
      by_cases hl : L.length = room
      · rw [if_pos hl] at h
        cases hf : L.find? (fun x => !x.y) with
        | none => rw [hf] at h; exact .inr ⟨h, hne _ h⟩
        | some z => rw [hf] at h; exact .inr ⟨(hd _ h).1, hne _ (hd _ h).1⟩
      · rw [if_neg hl] at h
        exact .inr ⟨h, hne _ h⟩
    · exact .inl (List.mem_singleton.1 h)
theorem put_self : y ∈ putV room L y := by
  unfold putV
  split <;> simp
/-- What is not there any more was clean. -/
theorem put_gone (hn : (keysV L).Nodup) (h : x ∈ L) (hxy : x.n ≠ y.n) (hg : x ∉ putV room L y) : x.y = false := by
  unfold putV at hg
  by_cases hm : y.n ∈ keysV L
  · rw [if_pos hm] at hg
    exact absurd (List.mem_append.2 (.inl (by simpa [dropV] using ⟨h, hxy⟩))) hg
  · rw [if_neg hm] at hg
    have hg' : x ∉ evV room L := fun e => hg (List.mem_append.2 (.inl e))
    unfold evV at hg'
    by_cases hl : L.length = room
    · rw [if_pos hl] at hg'
      cases hf : L.find? (fun x => !x.y) with
      | none => rw [hf] at hg'; exact absurd h hg'
      | some z =>
        rw [hf] at hg'
        have h1 : ¬ x.n ≠ z.n := fun e => hg' (by simpa [dropV] using ⟨h, e⟩)
        have h2 := List.mem_of_find?_eq_some hf
        have h3 := List.find?_some hf
        rw [vb_uniq hn h h2 (by simpa using h1)]
        simpa using h3
    · rw [if_neg hl] at hg'
      exact absurd h hg'
theorem put_ok (h : OkV plat l L) (hy : y.y = false → y.d = sect plat l y.n.toNat) : OkV plat l (putV room L y) := by
  intro x hx hxy
  rcases put_mem hx with rfl | ⟨h1, _⟩
  · exact hy hxy
  · exact h x h1 hxy
theorem put_val (hn : (keysV L).Nodup) (h : OkV plat l L) (m : Int) : valV plat l (putV room L y) m = if m = y.n then y.d else valV plat l L m := by
  have hn2 : (keysV (putV room L y)).Nodup := keys_put hn
  by_cases e : m = y.n
  · subst e
    rw [if_pos rfl]
    unfold valV
    rw [getV_mem hn2 put_self]
  · rw [if_neg e]
    unfold valV
    cases hg : getV (putV room L y) m with
    | some x =>
      obtain ⟨h1, rfl⟩ := getV_some hg
      rcases put_mem h1 with rfl | ⟨h2, _⟩
      · exact absurd rfl e
      · rw [getV_mem hn h2]
    | none =>
      cases hg2 : getV L m with
      | none => rfl
      | some x =>
        obtain ⟨h1, rfl⟩ := getV_some hg2
        have h3 : x ∉ putV room L y := fun h4 => getV_none hg (List.mem_map.2 ⟨x, h4, rfl⟩)
        exact (h x h1 (put_gone hn h1 e h3)).symm
theorem put_dirty (hn : (keysV L).Nodup) (h : x ∈ L) (hy : x.y = true) : x.n ∈ keysV (putV room L y) := by
  by_cases e : x.n = y.n
  · rw [e]
    exact List.mem_map.2 ⟨y, put_self, rfl⟩
  · by_cases hg : x ∈ putV room L y
    · exact List.mem_map.2 ⟨x, hg, rfl⟩
    · rw [put_gone hn h e hg] at hy; cases hy
theorem read_ok (h : OkV plat l L) : OkV plat l (readV N room plat l L n) := by
  unfold readV
  split
  · exact put_ok h (curV_ok h)
  · exact h
theorem read_nd (hn : (keysV L).Nodup) : (keysV (readV N room plat l L n)).Nodup := by
  unfold readV
  split
  · exact keys_put hn
  · exact hn
theorem read_val (hn : (keysV L).Nodup) (h : OkV plat l L) (m : Int) : valV plat l (readV N room plat l L n) m = valV plat l L m := by
  unfold readV
  split
  · rw [put_val hn h, curV_n]
    split
    · rename_i e; rw [curV_d, e]
    · rfl
  · rfl
theorem write_ok' {zs : List Int} (h : OkV plat l L) : OkV plat l (writeV N room L n zs) := by
  unfold writeV
  split
  · exact put_ok h (fun e => by cases e)
  · exact h
theorem write_val {zs : List Int} (hn : (keysV L).Nodup) (h : OkV plat l L) (hr : refV N room L n = 0) (m : Int) : valV plat l (writeV N room L n zs) m = if m = n then zs else valV plat l L m := by
  unfold writeV
  rw [if_pos hr, put_val hn h]
theorem read_dirty (hn : (keysV L).Nodup) (h : x ∈ L) (hy : x.y = true) : x.n ∈ keysV (readV N room plat l L n) := by
  unfold readV
  split
  · exact put_dirty hn h hy
  · exact List.mem_map.2 ⟨x, h, rfl⟩
theorem write_dirty {zs : List Int} (hn : (keysV L).Nodup) (h : x ∈ L) (hy : x.y = true) : x.n ∈ keysV (writeV N room L n zs) := by
  unfold writeV
  split
  · exact put_dirty hn h hy
  · exact List.mem_map.2 ⟨x, h, rfl⟩
end

section
variable {w w' : World} {g gd N room : Nat} {plat : List Int} {l : List (Nat × List Int)} {k : Nat} {F : List Nat} {L : List VB}
theorem Bu.facts (h : Bu w g gd N room plat l L k F) : (keysV L).Nodup ∧ L.length ≤ room ∧ (1 ≤ room ∧ room ≤ 1024) ∧ (1 ≤ N ∧ N ≤ 4096) ∧ ∀ x ∈ L, (0 ≤ x.n ∧ x.n < N) ∧ x.d.length = 512 ∧ U8 x.d := by
  obtain ⟨m, v, LL, hi, mi, ev, wr, rd, wt, fl, FD, h1, rfl, h3, h4⟩ := h
  refine ⟨by rw [keys_v]; exact h1.nd, by rw [List.length_map]; exact h1.len, h1.rm, h1.big, fun x hx => ?_⟩
  obtain ⟨y, hy, rfl⟩ := List.mem_map.1 hx
  have := h1.ok y hy
  exact ⟨this.rng, this.len, this.u8⟩
theorem Bu.sec (h : Bu w g gd N room plat l L k F) {n : Nat} (hn : n < N) : (sect plat l n).length = 512 ∧ U8 (sect plat l n) := by
  obtain ⟨m, v, LL, hi, mi, ev, wr, rd, wt, fl, FD, h1, rfl, h3, h4⟩ := h
  exact h1.dk.secOk hn
theorem Bu.valOk (h : Bu w g gd N room plat l L k F) {n : Int} (h0 : 0 ≤ n) (h1 : n < N) : (valV plat l L n).length = 512 ∧ U8 (valV plat l L n) := by
  unfold valV
  cases hg : getV L n with
  | some x => exact (h.facts.2.2.2.2 x (getV_some hg).1).2
  | none => exact h.sec (by omega)
theorem ref_kept {n : Int} (h : n ∈ keysV L) (h0 : 0 ≤ n ∧ n < N) : refV N room L n = 0 := by
  unfold refV
  rw [if_neg (by omega), if_pos (.inl h)]
/-- What any Read leaves. -/
def ReadA (w w' : World) (e : Ending) (g gd N room : Nat) (plat : List Int) (l : List (Nat × List Int)) (L : List VB) (k : Nat) (F : List Nat) (n : Int) : Prop :=
  ∃ vd B F', e = .returned (.tuple #[vd, .int .i64 (refV N room L n)]) ∧ (refV N room L n = 0 → Fresh w' B vd (valV plat l L n)) ∧ (refV N room L n ≠ 0 → vd = .slice none 0 0) ∧ w.heap.size ≤ B ∧ (∀ q ∈ F', q < B) ∧ Turned w w' F F' ∧ Bu w' g gd N room plat l (readV N room plat l L n) (k + 1) F'
theorem bu_read (h : Bu w g gd N room plat l L k F) (hk : k < 4611686018427387000) {n : Int} (hn : iW n) : Calls Try.prog 10 #[.pointer (some ⟨g, 0, none⟩), .int .i64 n] w fun e w' => ReadA w w' e g gd N room plat l L k F n := by
  obtain ⟨f1, f2, f3, f4, f5⟩ := h.facts
  cases hg : getV L n with
  | some x =>
    obtain ⟨hx, rfl⟩ := getV_some hg
    have hr := ref_kept (room := room) (List.mem_map.2 ⟨x, hx, rfl⟩) (f5 x hx).1
    refine (bu_read_kept h hk hx).mono ?_
    rintro e w' ⟨vd, B, F', he, hf, h1, h2, h3, h4⟩
    have hv : valV plat l L x.n = x.d := by unfold valV; rw [hg]
    have hc : curV plat l L x.n = x := by unfold curV; rw [hg]; rfl
    refine ⟨vd, B, F', by rw [hr]; exact he, fun _ => by rw [hv]; exact hf, fun e => absurd hr e, h1, h2, h3, ?_⟩
    unfold readV
    rw [if_pos hr, hc]
    exact h4
  | none =>
    have hno := getV_none hg
    by_cases hr : refV N room L n = 0
    · have h0 : 0 ≤ n ∧ n < N := by
        unfold refV at hr
        by_cases h0 : n < 0 ∨ (N : Int) ≤ n
        · rw [if_pos h0] at hr; cases hr
        · omega
      obtain ⟨j, rfl⟩ : ∃ j : Nat, n = j := ⟨n.toNat, by omega⟩
      refine (bu_read_new h hk hno hr).mono ?_
      rintro e w' ⟨vd, B, F', he, hf, h1, h2, h3, h4⟩
      have hv : valV plat l L j = sect plat l j := by unfold valV; rw [hg]; rfl
      have hc : curV plat l L j = ⟨j, sect plat l j, false⟩ := by unfold curV; rw [hg]; rfl
      refine ⟨vd, B, F', by rw [hr]; exact he, fun _ => by rw [hv]; exact hf, fun e => absurd hr e, h1, h2, h3, ?_⟩
      unfold readV
      rw [if_pos hr, hc]
      exact h4
    · refine (bu_read_no h hn hno hr).mono ?_
      rintro e w' ⟨he, ho⟩
      refine ⟨_, w.heap.size, F, he, fun e => absurd e hr, fun _ => rfl, Nat.le_refl _, h.lt, Turned.same (ho.mono (by simp)), ?_⟩
      unfold readV
      rw [if_neg hr]
      exact (h.quiet ho).more (by omega)
/-- What any Write of 512 bytes leaves. -/
theorem bu_write (h : Bu w g gd N room plat l L k F) (hk : k < 4611686018427387000) {n : Int} (hn : iW n) (d o c : Nat) (zs : List Int) (hz : zs.length = 512) (hu : U8 zs) (hc : ∀ i, i < 512 → w.cell? ⟨d, o + i, none⟩ = some (.int .u8 (gb zs i))) :
    Calls Try.prog 13 #[.pointer (some ⟨g, 0, none⟩), .int .i64 n, .slice (some ⟨d, o, none⟩) 512 c] w fun e w' => e = .returned (.int .i64 (refV N room L n)) ∧ ∃ F', Turned w w' F F' ∧ Bu w' g gd N room plat l (writeV N room L n zs) (k + 1) F' := by
  by_cases hr : refV N room L n = 0
  · refine (bu_write_ok h hk hn d o c zs hz hu hc hr).mono ?_
    rintro e w' ⟨he, hF⟩
    unfold writeV
    rw [if_pos hr]
    exact ⟨by rw [hr]; exact he, hF⟩
  · refine (bu_write_no h hn _ c hr).mono ?_
    rintro e w' ⟨he, ho⟩
    unfold writeV
    rw [if_neg hr]
    exact ⟨he, F, Turned.same (ho.mono (by simp)), (h.quiet ho).more (by omega)⟩
end

/-! The calls of the laws. -/
theorem cells_op15 : Try.prog.cellsOf 33 = 4 := by kernel_rfl
theorem bytes_op15 : Try.prog.bytesOf 33 = 32 := by kernel_rfl
def OpAt15 (w : World) (A : Option Addr) (i : Nat) : Prop :=
  ∃ (q o : Nat) (kd n f s : Int), A = some ⟨q, o, none⟩ ∧ q < w.heap.size ∧ w.cell? ⟨q, o + i * 4, none⟩ = some (.int .i64 kd) ∧ w.cell? ⟨q, o + i * 4 + 1, none⟩ = some (.int .i64 n) ∧ w.cell? ⟨q, o + i * 4 + 2, none⟩ = some (.int .u8 f) ∧ w.cell? ⟨q, o + i * 4 + 3, none⟩ = some (.int .i64 s) ∧ (0 ≤ f ∧ f ≤ 255) ∧ iW n
theorem Rd.ops15 {H : Type} {enc : TypeId × Value → H} {w : World} {A : Option Addr} {n c : Nat} {d : DataW H} (h : Rd enc Try.prog w 22 [.slice A n c] d) : n < 4398046511000 ∧ ∀ i, i < n → OpAt15 w A i := by
  obtain ⟨A', n', c', hv, hl, hm, hre, _, hf⟩ := h.structs Try.underlying22 Try.underlying33
  injection hv with hv _
  injection hv with e1 e2 e3
  subst e1 e2 e3
  rw [bytes_op15] at hre
  refine ⟨by unfold reachBytes at hre; omega, fun i hi => ?_⟩
  rw [cells_op15] at hf
  obtain ⟨q, o, v0, y0, hA, hq, c0, r0⟩ := hf i hi 0 _ rfl (by kernel_rfl) (by decide)
  obtain ⟨q1, o1, v1, y1, hA1, _, c1, r1⟩ := hf i hi 1 _ rfl (by kernel_rfl) (by decide)
  obtain ⟨q2, o2, v2, y2, hA2, _, c2, r2⟩ := hf i hi 2 _ rfl (by kernel_rfl) (by decide)
  obtain ⟨q3, o3, v3, y3, hA3, _, c3, r3⟩ := hf i hi 3 _ rfl (by kernel_rfl) (by decide)
  have a1 : q1 = q ∧ o1 = o := by rw [hA] at hA1; injection hA1 with h; injection h with h1 h2; exact ⟨h1.symm, h2.symm⟩
  have a2 : q2 = q ∧ o2 = o := by rw [hA] at hA2; injection hA2 with h; injection h with h1 h2; exact ⟨h1.symm, h2.symm⟩
  have a3 : q3 = q ∧ o3 = o := by rw [hA] at hA3; injection hA3 with h; injection h with h1 h2; exact ⟨h1.symm, h2.symm⟩
  obtain ⟨rfl, rfl⟩ := a1
  obtain ⟨rfl, rfl⟩ := a2
  obtain ⟨rfl, rfl⟩ := a3
  obtain ⟨kd, e0, _⟩ := r0.int (k := .i64) Try.underlying3
  obtain ⟨m, e1, wm⟩ := r1.int (k := .i64) Try.underlying3
  obtain ⟨b, e2, wb⟩ := r2.int (k := .u8) Try.underlying5
  obtain ⟨x, e3, wx⟩ := r3.int (k := .i64) Try.underlying3
  injection e0 with e0 _; injection e1 with e1 _; injection e2 with e2 _; injection e3 with e3 _
  subst e0 e1 e2 e3
  have bb : 0 ≤ b ∧ b ≤ 255 := by simpa [Lit.wf, IntKind.min, IntKind.max, IntKind.signed, IntKind.bits] using wb
  exact ⟨_, _, kd, m, b, x, hA, hq, c0, c1, c2, c3, bb, wm⟩
end Go.Proofs.Ytenpifamklnkmaa
