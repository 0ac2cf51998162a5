/-
  The log (parapet/wlog): 'Lg w g gd N a sz gen G S st nx plat l k F': a log at g on the disk at gd holds the group G (S as it was when the operation began); step st of a commit is next, for block nx; its blocks lie in F.
-/
import Derived.Test.YtpajdnjbeplneaaLgIs
import Derived.Deep.RegionHeld3
namespace Go.Proofs.Ytpajdnjbeplneaa
open Go.ChangeShapes Go.WideShapes Go.ChangeAt Go.RowKit Go.Maps
set_option linter.unusedVariables false

abbrev PG := List (Int × List Int)
def Lg (w : World) (g gd N a sz : Nat) (gen : Int) (G : PG) (S : Option PG) (st nx : Int) (plat : List Int) (l : List (Nat × List Int)) (k : Nat) (F : List Nat) : Prop :=
  ∃ v m L SS rd wt fl FD, LgI w g gd N a sz gen v m L SS st nx plat l rd wt fl k FD ∧ gvG L = G ∧ SS.map (fun s => gvG s.L) = S ∧ (∀ q, q ∈ footL g v m SS ∨ (∃ x ∈ bytesL L SS, x.b = q) ∨ q ∈ FD → q ∈ F) ∧ ∀ q ∈ F, q < w.heap.size
section
variable {w w' w1 : World} {g gd N a sz : Nat} {gen : Int} {v v' : Value} {m m' : Nat} {L L' : List GB} {SS SS' : Option SG} {st nx : Int} {plat : List Int} {l : List (Nat × List Int)} {rd wt fl : Int} {k k' : Nat} {FD F T : List Nat} {G : PG} {S : Option PG}
theorem Lg.mk2 (h : LgI w' g gd N a sz gen v' m' L' SS' st nx plat l rd wt fl k FD) (ho : Only F w w') (h1 : ∀ q ∈ footL g v' m' SS', q ∈ F ∨ w.heap.size ≤ q) (h2 : ∀ q ∈ FD, q ∈ F ∨ w.heap.size ≤ q) (h3 : ∀ x ∈ bytesL L' SS', x.b ∈ F ∨ w.heap.size ≤ x.b) :
    ∃ F', Turned w w' F F' ∧ Lg w' g gd N a sz gen (gvG L') (SS'.map (fun s => gvG s.L)) st nx plat l k F' := by
  refine ⟨footL g v' m' SS' ++ FD ++ (bytesL L' SS').map (·.b), ⟨ho, fun q hq => ?_⟩, v', m', L', SS', rd, wt, fl, FD, h, rfl, rfl, fun q hq => ?_, fun q hq => ?_⟩
  · simp only [List.mem_append, List.mem_map] at hq
    rcases hq with (hq | hq) | ⟨x, hx, rfl⟩
    · exact h1 q hq
    · exact h2 q hq
    · exact h3 x hx
  · simp only [List.mem_append, List.mem_map]
    rcases hq with hq | ⟨x, hx, rfl⟩ | hq
    · exact .inl (.inl hq)
    · exact .inr ⟨x, hx, rfl⟩
    · exact .inl (.inr hq)
  · simp only [List.mem_append, List.mem_map] at hq
    rcases hq with (hq | hq) | ⟨x, hx, rfl⟩
    · exact h.foot_lt hq
    · exact h.dk.lt q hq
    · exact (h.byte_ok hx).row.lt
theorem Lg.only (h : Lg w g gd N a sz gen G S st nx plat l k F) (ho : Only T w w') (hs : ∀ q ∈ F, q ∉ T) : Lg w' g gd N a sz gen G S st nx plat l k F := by
  obtain ⟨v, m, L, SS, rd, wt, fl, FD, h1, h2, h3, h4, h5⟩ := h
  exact ⟨v, m, L, SS, rd, wt, fl, FD, h1.only ho (fun q hq => hs q (h4 q (.inl hq))) (fun x hx => hs _ (h4 _ (.inr (.inl ⟨x, hx, rfl⟩)))) (fun q hq => hs q (h4 q (.inr (.inr hq)))), h2, h3, h4, fun q hq => Nat.lt_of_lt_of_le (h5 q hq) ho.size⟩
theorem Lg.quiet (h : Lg w g gd N a sz gen G S st nx plat l k F) (ho : Only [] w w') : Lg w' g gd N a sz gen G S st nx plat l k F := h.only ho (by simp)
theorem Lg.more (h : Lg w g gd N a sz gen G S st nx plat l k F) (hk : k ≤ k') : Lg w g gd N a sz gen G S st nx plat l k' F := by
  obtain ⟨v, m, L, SS, rd, wt, fl, FD, h1, h2, h3, h4, h5⟩ := h
  exact ⟨v, m, L, SS, rd, wt, fl, FD, h1.more hk, h2, h3, h4, h5⟩
theorem Lg.lt (h : Lg w g gd N a sz gen G S st nx plat l k F) : ∀ q ∈ F, q < w.heap.size := by
  obtain ⟨v, m, L, SS, rd, wt, fl, FD, h1, h2, h3, h4, h5⟩ := h
  exact h5
theorem Lg.rng (h : Lg w g gd N a sz gen G S st nx plat l k F) : 2 ≤ sz ∧ sz ≤ 248 ∧ a + sz ≤ N ∧ N ≤ 4096 := by
  obtain ⟨v, m, L, SS, rd, wt, fl, FD, h1, _⟩ := h
  have := h1.rng
  have := h1.big
  omega
theorem Lg.gF (h : Lg w g gd N a sz gen G S st nx plat l k F) : g ∈ F := by
  obtain ⟨v, m, L, SS, rd, wt, fl, FD, h1, _, _, h4, _⟩ := h
  exact h4 g (.inl (mem_footL.2 (.inl rfl)))
/-- What is so of each group. -/
def OkP (N a sz : Nat) (G : PG) : Prop := G.length + 1 ≤ sz ∧ (G.map (·.1)).Nodup ∧ ∀ p ∈ G, blkB N a sz p.1 = true ∧ p.2.length = 512 ∧ U8 p.2
theorem LgI.okp (h : LgI w g gd N a sz gen v m L SS st nx plat l rd wt fl k FD) : OkP N a sz (gvG L) := by
  refine ⟨by simpa [gvG] using h.ok.len, by rw [gvG_keys]; exact h.gr.nd, fun p hp => ?_⟩
  obtain ⟨x, hx, rfl⟩ := List.mem_map.1 hp
  exact ⟨h.ok.num x hx, (h.gr.ok x hx).len, (h.gr.ok x hx).u8⟩
theorem Lg.okp (h : Lg w g gd N a sz gen G S st nx plat l k F) : OkP N a sz G := by
  obtain ⟨v, m, L, SS, rd, wt, fl, FD, h1, rfl, _⟩ := h
  exact h1.okp
theorem Lg.oks {G' : PG} (h : Lg w g gd N a sz gen G (some G') st nx plat l k F) : OkP N a sz G' := by
  obtain ⟨v, m, L, SS, rd, wt, fl, FD, h1, rfl, h3, _⟩ := h
  cases SS with
  | none => simp at h3
  | some s =>
    simp at h3
    subst h3
    obtain ⟨_, k2, _⟩ := h1.sv s rfl
    refine ⟨by simpa [gvG] using (h1.oks s rfl).len, by rw [gvG_keys]; exact k2.nd, fun p hp => ?_⟩
    obtain ⟨x, hx, rfl⟩ := List.mem_map.1 hp
    exact ⟨(h1.oks s rfl).num x hx, (k2.ok x hx).len, (k2.ok x hx).u8⟩
theorem Lg.gen_ (h : Lg w g gd N a sz gen G S st nx plat l k F) : 0 ≤ gen ∧ gen < 18446744073709551616 := by
  obtain ⟨v, m, L, SS, rd, wt, fl, FD, h1, _⟩ := h
  exact h1.gen_
theorem Lg.disk (h : Lg w g gd N a sz gen G S st nx plat l k F) : ∃ rd wt fl FD, Dk w gd N plat l (-1) rd wt fl k FD := by
  obtain ⟨v, m, L, SS, rd, wt, fl, FD, h1, _⟩ := h
  exact ⟨rd, wt, fl, FD, h1.dk⟩
section
variable (h : Lg w g gd N a sz gen G S st nx plat l k F)
include h
theorem lg_closed : Calls Try.prog 43 #[.pointer (some ⟨g, 0, none⟩)] w fun e w' => e = .returned (.bool false) ∧ w = w' := by
  obtain ⟨v, m, L, SS, rd, wt, fl, FD, h1, _⟩ := h
  exact lgclosed_is h1
theorem lg_running : Calls Try.prog 24 #[.pointer (some ⟨g, 0, none⟩)] w fun e w' => e = .returned (.bool (!decide (st = 0))) ∧ w = w' := by
  obtain ⟨v, m, L, SS, rd, wt, fl, FD, h1, _⟩ := h
  exact lgrunning_is h1
theorem lg_gen : Calls Try.prog 25 #[.pointer (some ⟨g, 0, none⟩)] w fun e w' => e = .returned (.int .u64 gen) ∧ w = w' := by
  obtain ⟨v, m, L, SS, rd, wt, fl, FD, h1, _⟩ := h
  exact lggen_is h1
theorem lg_disk : Calls Try.prog 26 #[.pointer (some ⟨g, 0, none⟩)] w fun e w' => e = .returned (.pointer (some ⟨gd, 0, none⟩)) ∧ w = w' := by
  obtain ⟨v, m, L, SS, rd, wt, fl, FD, h1, _⟩ := h
  exact lgdisk_is h1
theorem lg_dirty : Calls Try.prog 12 #[.pointer (some ⟨g, 0, none⟩)] w fun e w' => ∃ v', e = .returned v' ∧ IRow w' v' (G.map (·.1)) ∧ (∀ q, v'.ownBlock = some q → w.heap.size ≤ q) ∧ Only [] w w' := by
  obtain ⟨v, m, L, SS, rd, wt, fl, FD, h1, rfl, _⟩ := h
  rw [gvG_keys]
  exact lgdirty_is h1
theorem lg_room : Calls Try.prog 23 #[.pointer (some ⟨g, 0, none⟩)] w fun e w' => e = .returned (.int .i64 ((sz : Int) - 1 - G.length)) ∧ Only [] w w' := by
  obtain ⟨v, m, L, SS, rd, wt, fl, FD, h1, rfl, _⟩ := h
  rw [show (gvG L).length = L.length from by simp [gvG]]
  exact lgroom_is h1
set_option maxRecDepth 100000 in
theorem lg_has (n : Int) : Calls Try.prog 44 #[.pointer (some ⟨g, 0, none⟩), .int .i64 n] w fun e w' => e = .returned (.bool (blkB N a sz n)) ∧ Only [] w w' := by
  obtain ⟨v, m, L, SS, rd, wt, fl, FD, h1, _⟩ := h
  have hr := h1.rng
  have hb := h1.big
  have c0 := h1.c0
  have c1 := h1.c1
  have c2 := h1.c2
  have HC := hide (fun W (ho : Only [] w W) => dk_count (h1.dk.quiet ho))
  have HY := hide (fun (he : blkB N a sz n = true) W => isBlock_yes N a sz n W hr.2.2 hb.2 he)
  have HN := hide (fun (he : blkB N a sz n = false) W => isBlock_no N a sz n W hr.2.2 hb.2 he)
  clear h1 hr hb
  cases he : blkB N a sz n with
  | true =>
    have HF := hide (HY.out he)
    clear he HY HN
    go_enter Try.func44, Try.ntmps44
    go_wp2
    go_quiet ((first | (go_at_call 67; exact Calls.quiet_of_same ((HC.out _ ((Only.refl [] w).drewN _)).mono fun e w' ⟨a, b⟩ => ⟨a, b.symm⟩)) | (go_at_call 67; exact Calls.quiet_of_same ((HC.out _ ((Only.refl [] w))).mono fun e w' ⟨a, b⟩ => ⟨a, b.symm⟩)) | (go_at_call 66; exact Calls.quiet_of_same ((HF.out _).mono fun e w' ⟨a, b⟩ => ⟨a, b.symm⟩))))
    go_wp2
    go_ret
    exact ⟨rfl, (Only.refl _ _).drewN _⟩
  | false =>
    have HF := hide (HN.out he)
    clear he HY HN
    go_enter Try.func44, Try.ntmps44
    go_wp2
    go_quiet ((first | (go_at_call 67; exact Calls.quiet_of_same ((HC.out _ ((Only.refl [] w).drewN _)).mono fun e w' ⟨a, b⟩ => ⟨a, b.symm⟩)) | (go_at_call 67; exact Calls.quiet_of_same ((HC.out _ ((Only.refl [] w))).mono fun e w' ⟨a, b⟩ => ⟨a, b.symm⟩)) | (go_at_call 66; exact Calls.quiet_of_same ((HF.out _).mono fun e w' ⟨a, b⟩ => ⟨a, b.symm⟩))))
    go_wp2
    go_ret
    exact ⟨rfl, (Only.refl _ _).drewN _⟩
end
end
end Go.Proofs.Ytpajdnjbeplneaa
