/-
  Processes and threads (parapetlaw24): the law ProcOnce: what its maps say; its world.
-/
import Derived.Test.YtdnnilpifnigiaaPrCm
namespace Go.Proofs.Ytdnnilpifnigiaa
open Go.ChangeShapes Go.WideShapes Go.ChangeAt Go.RowKit Go.Maps Go.Deep
set_option linter.unusedVariables false
set_option linter.unusedSimpArgs false
/-- The codes kept are those of the zombies; who was told is gone. -/
structure OnceP (s : PS) (C : List (Int × Int)) (B : List (Int × Bool)) : Prop where
  z : ∀ k ∈ s.P, k.zom = true → (k.pid, k.code) ∈ C
  b : ∀ p ∈ B, p.2 = true ∧ p.1 ∉ s.P.map (·.pid) ∧ p.1 ≤ s.lp
def putC (C : List (Int × Int)) (k v : Int) : List (Int × Int) := if k ∈ C.map (·.1) then setV C k v else C ++ [(k, v)]
theorem putC_at (C : List (Int × Int)) (k v : Int) : (k, v) ∈ putC C k v := by
  unfold putC
  split
  · rename_i h
    obtain ⟨p, hp, e⟩ := List.mem_map.1 h
    exact List.mem_map.2 ⟨p, hp, by rw [if_pos e]⟩
  · simp
theorem putC_far {C : List (Int × Int)} {k v : Int} {p : Int × Int} (hp : p ∈ C) (hne : p.1 ≠ k) : p ∈ putC C k v := by
  unfold putC
  split
  · exact List.mem_map.2 ⟨p, hp, by rw [if_neg hne]⟩
  · exact List.mem_append_left _ hp
theorem putC_len (C : List (Int × Int)) (k v : Int) : (putC C k v).length ≤ C.length + 1 := by
  unfold putC
  split
  · unfold setV; simp
  · simp
section
variable {s : PS} {C : List (Int × Int)} {B : List (Int × Bool)}
theorem OnceP.same (h : OnceP s C B) {s' : PS} (e : s'.P = s.P) (hl : s.lp ≤ s'.lp) : OnceP s' C B := ⟨by rw [e]; exact h.z, fun p hp => ⟨(h.b p hp).1, by rw [e]; exact (h.b p hp).2.1, by have := (h.b p hp).2.2; omega⟩⟩
theorem OnceP.fork (h : OnceP s C B) (pid : Int) : OnceP (forkS s pid).2 C B := by
  unfold forkS
  split
  · split
    · exact h
    · refine ⟨fun k hk hz => ?_, fun p hp => ?_⟩
      · rcases List.mem_append.1 hk with hk | hk
        · exact h.z k hk hz
        · rw [List.mem_singleton.1 hk] at hz; cases hz
      · obtain ⟨h1, h2, h3⟩ := h.b p hp
        refine ⟨h1, fun hm => ?_, by simp only [beginS, addS]; omega⟩
        simp only [beginS, addS, List.map_append, List.mem_append, List.map_cons, List.map_nil, List.mem_singleton] at hm
        rcases hm with hm | hm
        · exact h2 hm
        · omega
  · exact h
theorem OnceP.spawn (h : OnceP s C B) (pid : Int) : OnceP (spawnS s pid).2 C B := by
  refine h.same ?_ ?_
  · unfold spawnS addS
    split
    · split <;> rfl
    · rfl
  · unfold spawnS addS
    split
    · split <;> simp
    · simp
theorem zom_endP (h : OkS s) {k0 : K5} (hk : k0 ∈ s.P) (code : Int) {x : K5} (hx : x ∈ endP s.P k0.pid code) (hz : x.zom = true) : (x.pid = k0.pid ∧ x.code = code) ∨ ∃ y ∈ s.P, y.pid = x.pid ∧ y.zom = true ∧ y.code = x.code ∧ y.pid ≠ k0.pid := by
  obtain ⟨y, hy, e⟩ := (mem_endP h hk code x).1 hx
  rcases (mem_endP1 h hk code y).1 hy with ⟨hy1, hy2⟩ | ⟨hy1, rfl⟩
  · rcases e with ⟨e1, rfl⟩ | ⟨e1, e2, rfl⟩
    · exact .inr ⟨x, hy1, rfl, hz, rfl, hy2⟩
    · exact .inr ⟨y, hy1, rfl, hz, rfl, hy2⟩
  · rcases e with ⟨e1, rfl⟩ | ⟨e1, e2, rfl⟩
    · exact .inl ⟨rfl, rfl⟩
    · exact .inl ⟨rfl, rfl⟩
theorem OnceP.end_ (h : OnceP s C B) (ok : OkS s) {k0 : K5} (hk : k0 ∈ s.P) (code : Int) : OnceP (endS s k0.pid code) (putC C k0.pid code) B := by
  refine ⟨fun x hx hz => ?_, fun p hp => ?_⟩
  · rcases zom_endP ok hk code hx hz with ⟨e1, e2⟩ | ⟨y, hy, e1, e2, e3, e4⟩
    · rw [e1, e2]; exact putC_at _ _ _
    · rw [← e1, ← e3]
      exact putC_far (h.z y hy e2) e4
  · obtain ⟨h1, h2, h3⟩ := h.b p hp
    exact ⟨h1, fun hm => h2 ((endP_sub ok hk code).subset hm), h3⟩
theorem tend_cases (ok : OkS s) (tid code : Int) : ((tendS s tid code).1.1 = false ∧ (tendS s tid code).2.P = s.P ∧ (tendS s tid code).2.lp = s.lp) ∨ (∃ y ∈ s.T, y.tid = tid ∧ ∃ k ∈ s.P, k.pid = y.pid ∧ k.zom = false ∧ tendS s tid code = ((true, 0), endS s k.pid code)) := by
  unfold tendS
  split
  · rename_i hr
    obtain ⟨y, hy, rfl, he⟩ := runsT_yes hr
    rw [getT_at (pw_nodup ok.st) hy]
    split
    · exact .inl ⟨rfl, rfl, rfl⟩
    · obtain ⟨q, hq, e1, e2⟩ := ok.thr y hy
      exact .inr ⟨y, hy, rfl, q, hq, e1, e2, by rw [e1]⟩
  · exact .inl ⟨rfl, rfl, rfl⟩
theorem exit_cases (ok : OkS s) (pid code : Int) : ((exitS s pid code).1.2 = 240 ∧ (exitS s pid code).2 = s) ∨ (∃ k ∈ s.P, k.pid = pid ∧ k.zom = false ∧ (exitS s pid code).1.2 = 0 ∧ (exitS s pid code).2 = endS s k.pid code) := by
  unfold exitS
  split
  · rename_i hl
    obtain ⟨q, hq, rfl, e⟩ := livesP_yes hl
    exact .inr ⟨q, hq, rfl, e, rfl, rfl⟩
  · exact .inl ⟨rfl, rfl⟩
theorem wait_cases (s : PS) (pid : Int) : (((waitS s pid).1.2.2 = 4 ∨ (waitS s pid).1.2.2 = 211 ∨ (waitS s pid).1.2.2 = 240) ∧ (waitS s pid).2 = s) ∨ (∃ k ∈ s.P, k.zom = true ∧ k.par = pid ∧ waitS s pid = ((k.pid, k.code, 0), { s with P := delK s.P k.pid })) := by
  unfold waitS
  split
  · split
    · exact .inl ⟨.inl rfl, rfl⟩
    · cases e : (zomsP s.P pid).head? with
      | none => exact .inl ⟨.inr (.inl rfl), rfl⟩
      | some k =>
        have hk2 := List.mem_of_head? e
        obtain ⟨hk1, hk3⟩ := List.mem_filter.1 hk2
        simp at hk3
        exact .inr ⟨k, hk1, hk3.2, hk3.1, rfl⟩
  · exact .inl ⟨.inr (.inr rfl), rfl⟩
theorem OnceP.wait (h : OnceP s C B) (ok : OkS s) {k : K5} (hk : k ∈ s.P) : OnceP { s with P := delK s.P k.pid } C (B ++ [(k.pid, true)]) := by
  refine ⟨fun x hx hz => h.z x (List.mem_filter.1 hx).1 hz, fun p hp => ?_⟩
  rcases List.mem_append.1 hp with hp | hp
  · obtain ⟨h1, h2, h3⟩ := h.b p hp
    exact ⟨h1, fun hm => h2 ((List.Sublist.map _ List.filter_sublist).subset hm), h3⟩
  · rw [List.mem_singleton.1 hp]
    refine ⟨rfl, fun hm => ?_, (ok.hp k hk).2⟩
    obtain ⟨x, hx, e⟩ := List.mem_map.1 hm
    have := (List.mem_filter.1 hx).2
    simp [e] at this
theorem OnceP.not_told (h : OnceP s C B) {k : K5} (hk : k ∈ s.P) : k.pid ∉ B.map (·.1) := fun hm => by
  obtain ⟨p, hp, e⟩ := List.mem_map.1 hm
  exact (h.b p hp).2.1 (by rw [e]; exact List.mem_map.2 ⟨k, hk, rfl⟩)
end
/-- The law's world: a table and two maps. -/
structure OnceW (w0 w : World) (t a b : Nat) (s : PS) (n : Int) (mc mb : Nat) (C : List (Int × Int)) (B : List (Int × Bool)) : Prop where
  pt : Pt w0 w t a b s n
  c : ∃ D, w.ownsMap Try.prog 3 elemI mc C.length D ∧ MHolds encI D C
  m : ∃ D, w.ownsMap Try.prog 3 elemB mb B.length D ∧ MHolds encB D B
  ne : mc ≠ mb ∧ mc ≠ a ∧ mc ≠ b ∧ mb ≠ a ∧ mb ≠ b
  lc : w0.heap.size ≤ mc
  lb : w0.heap.size ≤ mb
  cl : (C.length : Int) ≤ n
  bl : (B.length : Int) ≤ n
section
variable {w0 w w' w1 : World} {t a b mc mb : Nat} {s s' : PS} {n n' : Int} {C : List (Int × Int)} {B : List (Int × Bool)} {k v : Int}
theorem OnceW.nt (h : OnceW w0 w t a b s n mc mb C B) : mc ≠ t ∧ mb ≠ t := by
  obtain ⟨D, d1, d2⟩ := h.c
  obtain ⟨D', d3, d4⟩ := h.m
  exact ⟨ownsMap_ne d1 h.pt.is_.blk, ownsMap_ne d3 h.pt.is_.blk⟩
theorem OnceW.turn (h : OnceW w0 w t a b s n mc mb C B) (hp : Pt w0 w' t a b s' n') (ho : Only [t, a, b] w w') (hn : n ≤ n') : OnceW w0 w' t a b s' n' mc mb C B := by
  obtain ⟨D, d1, d2⟩ := h.c
  obtain ⟨D', d3, d4⟩ := h.m
  have h1 := h.ne
  have h2 := h.nt
  exact ⟨hp, ⟨D, ownsMap_only d1 ho (by simp; omega), d2⟩, ⟨D', ownsMap_only d3 ho (by simp; omega), d4⟩, h1, h.lc, h.lb, Int.le_trans h.cl hn, Int.le_trans h.bl hn⟩
theorem OnceW.quiet (h : OnceW w0 w t a b s n mc mb C B) (ho : Only [] w w') : OnceW w0 w' t a b s n mc mb C B := h.turn (h.pt.quiet ho) (ho.mono (by simp)) (Int.le_refl _)
theorem OnceW.later (h : OnceW w0 w t a b s n mc mb C B) (hn : n ≤ n') : OnceW w0 w t a b s n' mc mb C B := ⟨h.pt.later hn, h.c, h.m, h.ne, h.lc, h.lb, Int.le_trans h.cl hn, Int.le_trans h.bl hn⟩
theorem Pt.far {S : List Nat} (h : Pt w0 w t a b s n) (ho : Only S w w') (h1 : t ∉ S) (h2 : a ∉ S) (h3 : b ∉ S) (hs : ∀ q ∈ S, w0.heap.size ≤ q) : Pt w0 w' t a b s n :=
  ⟨h.is_.only ho h1 h2 h3, h.ok, h.on.trans' ho (fun q hq hm => by have := hs q hm; omega), h.lt, h.la, h.lb, h.bp, h.bt⟩
theorem OnceW.code (h : OnceW w0 w t a b s n mc mb C B) (hn : n < 100000000000000) (hk : iW k) (hv : iW v) (ho : Only [] w w1) :
    ∃ w4, (Instr.mapUpdate 38 (.map (some mc)) (.int .i64 k) (.int .i64 v)).run Try.prog w1 = .ok () w4 ∧ OnceW w0 w4 t a b s (n + 1) mc mb (putC C k v) B := by
  have h1 := h.quiet ho
  obtain ⟨D, d1, d2⟩ := h1.c
  obtain ⟨D', d3, d4⟩ := h1.m
  have hcl := h.cl
  have hbl := h.bl
  have hne := h1.ne
  have hnt := h1.nt
  have hmx : C.length < maxLen := by unfold maxLen; omega
  by_cases hm : k ∈ C.map (·.1)
  · obtain ⟨⟨k', v'⟩, hp, rfl⟩ := List.mem_map.1 hm
    obtain ⟨w4, k1, k2, k3⟩ := storeI_old d2 d1 hmx hp hv
    have e : putC C k' v = setV C k' v := if_pos hm
    dsimp only at *
    rw [← e] at k2
    refine ⟨w4, k1, h1.pt.far k3 (by simp; omega) (by simp; omega) (by simp; omega) (by simp; exact h.lc) |>.later (by omega), ⟨_, k2, by rw [e]; exact d2.old hp v⟩, ⟨D', ownsMap_only d3 k3 (by simp; omega), d4⟩, hne, h.lc, h.lb, by have := putC_len C k' v; omega, by omega⟩
  · obtain ⟨w4, k1, k2, k3⟩ := storeI_new (f := v) d2 d1 hmx hk hm hv
    have e : putC C k v = C ++ [(k, v)] := if_neg hm
    rw [← e] at k2
    refine ⟨w4, k1, h1.pt.far k3 (by simp; omega) (by simp; omega) (by simp; omega) (by simp; exact h.lc) |>.later (by omega), ⟨_, k2, by rw [e]; exact d2.new hk hm⟩, ⟨D', ownsMap_only d3 k3 (by simp; omega), d4⟩, hne, h.lc, h.lb, by have := putC_len C k v; omega, by omega⟩
theorem OnceW.tell (h : OnceW w0 w t a b s n mc mb C B) (hn : n < 100000000000000) (hk : iW k) (hm : k ∉ B.map (·.1)) (ho : Only [] w w1) :
    ∃ w4, (Instr.mapUpdate 39 (.map (some mb)) (.int .i64 k) (.bool true)).run Try.prog w1 = .ok () w4 ∧ OnceW w0 w4 t a b s (n + 1) mc mb C (B ++ [(k, true)]) := by
  have h1 := h.quiet ho
  obtain ⟨D, d1, d2⟩ := h1.c
  obtain ⟨D', d3, d4⟩ := h1.m
  have hcl := h.cl
  have hbl := h.bl
  have hne := h1.ne
  have hnt := h1.nt
  have hmx : B.length < maxLen := by unfold maxLen; omega
  obtain ⟨w4, k1, k2, k3⟩ := storeB_new (f := true) d4 d3 hmx hk hm
  exact ⟨w4, k1, h1.pt.far k3 (by simp; omega) (by simp; omega) (by simp; omega) (by simp; exact h.lb) |>.later (by omega), ⟨D, ownsMap_only d1 k3 (by simp; omega), d2⟩, ⟨_, k2, d4.new hk hm⟩, hne, h.lc, h.lb, by omega, by simp; omega⟩
theorem OnceW.seeC (h : OnceW w0 w t a b s n mc mb C B) (hp : (k, v) ∈ C) (ho : Only [] w w1) : (Instr.lookup 38 (.map (some mc)) (.int .i64 k) true).run Try.prog w1 = .ok (.tuple #[.int .i64 v, .bool true]) w1 := by
  obtain ⟨D, d1, d2⟩ := (h.quiet ho).c
  exact lookI d2 d1 hp true
theorem OnceW.seeB (h : OnceW w0 w t a b s n mc mb C B) (hk : iW k) (hm : k ∉ B.map (·.1)) (ho : Only [] w w1) : (Instr.lookup 39 (.map (some mb)) (.int .i64 k) false).run Try.prog w1 = .ok (.bool false) w1 := by
  obtain ⟨D, d1, d2⟩ := (h.quiet ho).m
  exact lookB_zero d2 d1 hk hm
end
end Go.Proofs.Ytdnnilpifnigiaa
