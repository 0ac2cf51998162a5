/-
  What it is for a world to hold a disk (parapet/disk): its struct, its platter, its pending writes, its map; and the small calls on it.
-/
import Derived.Test.YtokdpldmoflnkaaMg03
import Derived.Maps.OwnSet
import Derived.Laws.MakeOwn
import Derived.StillTailTactics
import Derived.Deep.RegionHeld3
import Derived.Deep.AppendLies
namespace Go.Proofs.Ytokdpldmoflnkaa
open Go.ChangeShapes Go.WideShapes Go.ChangeAt Go.RowKit Go.Maps
set_option linter.unusedVariables false

/-- A pending write: its sector, its bytes, where they lie. -/
structure WR where
  sec : Nat
  blk : Nat
  rest : List Value
  data : List Int
def WR.cells (x : WR) : List Value := [.int .i64 x.sec, .slice (some ⟨x.blk, 0, none⟩) 512 (512 + x.rest.length)]
structure WR.ok (w : World) (N : Nat) (x : WR) : Prop where
  row : Blk w x.blk 5 (u8l x.data ++ x.rest).toArray
  len : x.data.length = 512
  sec : x.sec < N
  u8 : U8 x.data
theorem WR.ok.only {w w' : World} {N : Nat} {x : WR} {S : List Nat} (h : x.ok w N) (ho : Only S w w') (hs : x.blk ∉ S) : x.ok w' N := ⟨h.row.only ho hs, h.len, h.sec, h.u8⟩

/-- Place i is the last write of sector n. -/
def IsLast (ws : List WR) (n i : Nat) : Prop := ∃ x : WR, ws[i]? = some x ∧ x.sec = n ∧ ∀ (j : Nat) (y : WR), i < j → ws[j]? = some y → y.sec ≠ n
/-- The map says of each sector the place of its last write. -/
def Lasts (D : DataW Unit) (ws : List WR) : Prop :=
  IsMap D ∧ (∀ n i, IsLast ws n i → has D (.int .i64 n) = true ∧ D.atKey (.int .i64 n) (.lit (.int .i64 0)) = .lit (.int .i64 i)) ∧
  ∀ n : Nat, (∀ (i : Nat) (x : WR), ws[i]? = some x → x.sec ≠ n) → has D (.int .i64 n) = false

/-- A disk: N sectors, the platter's bytes, the pending writes, what is left, the counts. g: the struct's block; pb: the platter's; mb: the map's; pv: the slice of writes. -/
structure IsDisk (w : World) (g pb pc mb : Nat) (pr : List Value) (pv : Value) (D : DataW Unit) (N : Nat) (plat : List Int) (ws : List WR) (left rd wt fl : Int) : Prop where
  str : Blk w g 106 #[.slice (some ⟨pb, 0, none⟩) (512 * N) pc, pv, .map (some mb), .int .i64 left, .int .i64 rd, .int .i64 wt, .int .i64 fl]
  row : Blk w pb 5 (u8l plat ++ pr).toArray
  len : plat.length = 512 * N
  cap : 512 * N + pr.length = pc
  pos : 1 ≤ N
  big : N ≤ 4096
  u8 : U8 plat
  own : w.ownsRow 0 108 2 pv ws.length (ws.flatMap WR.cells)
  wok : ∀ x ∈ ws, x.ok w N
  map : w.ownsMap Try.prog 3 (plainElem Try.prog 3) mb ws.length D
  last : Lasts D ws
  few : ws.length ≤ 4398046511000

/-- The blocks that a call on it may turn. -/
def foot (g pb mb : Nat) (pv : Value) : List Nat := g :: pb :: mb :: (match pv.ownBlock with | some k => [k] | none => [])

theorem ownsRow_only {w w' : World} {base e size n : Nat} {v : Value} {xs : List Value} {S : List Nat} (h : w.ownsRow base e size v n xs) (ho : Only S w w') (hs : ∀ k, v.ownBlock = some k → k ∉ S) : w'.ownsRow base e size v n xs := by
  obtain ⟨hl, h⟩ := h
  refine ⟨hl, ?_⟩
  rcases h with hn | ⟨k, cap, cur, rfl, hb, hg, rest⟩
  · exact .inl hn
  · exact .inr ⟨k, cap, cur, rfl, hb, Blk.only hg ho (hs k rfl), rest⟩
theorem ownsMap_only {w w' : World} {P : Program} {k : TypeId} {R : Value → Option (DataW Unit × List MemPlace)} {b n : Nat} {D : DataW Unit} {S : List Nat} (h : w.ownsMap P k R b n D) (ho : Only S w w') (hs : b ∉ S) : w'.ownsMap P k R b n D := by
  have hlt := h.lt
  obtain ⟨es, clock, hb, rest⟩ := h
  exact ⟨es, clock, (ho.block b hlt hs).trans hb, rest⟩

section
variable {w w' : World} {g pb pc mb : Nat} {pr : List Value} {pv : Value} {D : DataW Unit} {N : Nat} {plat : List Int} {ws : List WR} {left rd wt fl : Int} {S : List Nat}
theorem IsDisk.only (h : IsDisk w g pb pc mb pr pv D N plat ws left rd wt fl) (ho : Only S w w') (hf : ∀ k ∈ foot g pb mb pv, k ∉ S) (hr : ∀ x ∈ ws, x.blk ∉ S) : IsDisk w' g pb pc mb pr pv D N plat ws left rd wt fl :=
  ⟨h.str.only ho (hf g (by simp [foot])), h.row.only ho (hf pb (by simp [foot])), h.len, h.cap, h.pos, h.big, h.u8, ownsRow_only h.own ho (fun k hk => hf k (by simp [foot, hk])), fun x hx => (h.wok x hx).only ho (hr x hx),
    ownsMap_only h.map ho (hf mb (by simp [foot])), h.last, h.few⟩
theorem IsDisk.c0 (h : IsDisk w g pb pc mb pr pv D N plat ws left rd wt fl) : w.cell? ⟨g, 0, none⟩ = some (.slice (some ⟨pb, 0, none⟩) (512 * N) pc) := by rw [h.str.cell]; rfl
theorem IsDisk.c1 (h : IsDisk w g pb pc mb pr pv D N plat ws left rd wt fl) : w.cell? ⟨g, 1, none⟩ = some pv := by rw [h.str.cell]; rfl
theorem IsDisk.c2 (h : IsDisk w g pb pc mb pr pv D N plat ws left rd wt fl) : w.cell? ⟨g, 2, none⟩ = some (.map (some mb)) := by rw [h.str.cell]; rfl
theorem IsDisk.c3 (h : IsDisk w g pb pc mb pr pv D N plat ws left rd wt fl) : w.cell? ⟨g, 3, none⟩ = some (.int .i64 left) := by rw [h.str.cell]; rfl
theorem IsDisk.c4 (h : IsDisk w g pb pc mb pr pv D N plat ws left rd wt fl) : w.cell? ⟨g, 4, none⟩ = some (.int .i64 rd) := by rw [h.str.cell]; rfl
theorem IsDisk.c5 (h : IsDisk w g pb pc mb pr pv D N plat ws left rd wt fl) : w.cell? ⟨g, 5, none⟩ = some (.int .i64 wt) := by rw [h.str.cell]; rfl
theorem IsDisk.c6 (h : IsDisk w g pb pc mb pr pv D N plat ws left rd wt fl) : w.cell? ⟨g, 6, none⟩ = some (.int .i64 fl) := by rw [h.str.cell]; rfl
end

theorem dclosed_nil (w : World) : Calls Try.prog 62 #[.pointer none] w fun e w' => e = .returned (.bool true) ∧ w = w' := by
  go_enter Try.func62, Try.ntmps62
  go_wp2
  go_ret
  exact ⟨rfl, rfl⟩

section
variable {w : World} {g pb pc mb : Nat} {pr : List Value} {pv : Value} {D : DataW Unit} {N : Nat} {plat : List Int} {ws : List WR} {left rd wt fl : Int} (h : IsDisk w g pb pc mb pr pv D N plat ws left rd wt fl)
include h

theorem dclosed_is : Calls Try.prog 62 #[.pointer (some ⟨g, 0, none⟩)] w fun e w' => e = .returned (.bool false) ∧ w = w' := by
  have hc := h.c0
  have h0 : ((512 * (N : Int)) == 0) = false := beq_eq_false_iff_ne.2 (by have := h.pos; omega)
  have hb := h.big
  clear h
  go_enter Try.func62, Try.ntmps62
  go_wp2
  go_ret
  exact ⟨rfl, rfl⟩

theorem dcount_is : Calls Try.prog 65 #[.pointer (some ⟨g, 0, none⟩)] w fun e w' => e = .returned (.int .i64 N) ∧ w = w' := by
  have HC := hide (dclosed_is h)
  have hc := h.c0
  have HE := hide (show (512 * (N : Int)) / 512 = N by omega)
  have hb := h.big
  clear h
  go_enter Try.func65, Try.ntmps65
  go_wp2_with (go_at_call 62; refine HC.out.mono ?_; rintro e w' ⟨rfl, rfl⟩)
  go_ret
  exact ⟨by rw [← HE.out]; rfl, rfl⟩

theorem dhas_yes (n : Int) (h0 : 0 ≤ n) (h1 : n < N) : Calls Try.prog 63 #[.pointer (some ⟨g, 0, none⟩), .int .i64 n] w fun e w' => e = .returned (.bool true) ∧ w = w' := by
  have HC := hide (dcount_is h)
  clear h
  go_enter Try.func63, Try.ntmps63
  go_wp2_with (go_at_call 65; refine HC.out.mono ?_; rintro e w' ⟨rfl, rfl⟩)
  go_ret
  exact ⟨by simp, rfl⟩

theorem dhas_no (n : Int) (hn : n < 0 ∨ N ≤ n) : Calls Try.prog 63 #[.pointer (some ⟨g, 0, none⟩), .int .i64 n] w fun e w' => e = .returned (.bool false) ∧ w = w' := by
  have HC := hide (dcount_is h)
  clear h
  by_cases h0 : n < 0
  · clear hn
    go_enter Try.func63, Try.ntmps63
    go_wp2_with (go_at_call 65; refine HC.out.mono ?_; rintro e w' ⟨rfl, rfl⟩)
    go_ret
    exact ⟨by simp, rfl⟩
  · have h1 : (N : Int) ≤ n := by omega
    clear hn
    go_enter Try.func63, Try.ntmps63
    go_wp2_with (go_at_call 65; refine HC.out.mono ?_; rintro e w' ⟨rfl, rfl⟩)
    go_ret
    exact ⟨by simp; omega, rfl⟩

theorem dsector_is (n : Nat) (hn : n < N) : Calls Try.prog 64 #[.pointer (some ⟨g, 0, none⟩), .int .i64 n] w fun e w' => e = .returned (.slice (some ⟨pb, 512 * n, none⟩) 512 512) ∧ w = w' := by
  have hc := h.c0
  have hb := h.big
  have hcap := h.cap
  have HE := hide (show n * 512 = 512 * n ∧ n * 512 + 512 - n * 512 = 512 by omega)
  have hle : 512 * N ≤ pc := by omega
  clear h hcap
  go_enter Try.func64, Try.ntmps64
  go_wp2
  go_ret
  exact ⟨by rw [← HE.out.1]; simp, rfl⟩

theorem dimage_is : Calls Try.prog 39 #[.pointer (some ⟨g, 0, none⟩)] w fun e w' => ∃ v, e = .returned v ∧ Fresh w' w.heap.size v plat ∧ Only [] w w' := by
  have HC := hide (dclosed_is h)
  have hc := h.c0
  have hb := h.big
  have HL := hide (clone_ok ⟨pb, 0, none⟩ (512 * N) pc plat w h.len (by omega) (fun i hi => by rw [add_at, Nat.zero_add, h.row.cell]; exact u8l_get plat pr i (by rw [h.len]; exact hi)))
  clear h
  go_enter Try.func39, Try.ntmps39
  go_wp2_with (first | (go_at_call 62; refine HC.out.mono ?_; rintro e w' ⟨rfl, rfl⟩) | (go_at_call 52; refine HL.out.mono ?_; rintro e w1 ⟨v, rfl, hf, ho⟩))
  go_ret
  exact ⟨v, rfl, hf, ho⟩



end

/-- Only the struct has turned. -/
theorem IsDisk.restr {w w' : World} {g pb pc mb : Nat} {pr : List Value} {pv : Value} {D : DataW Unit} {N : Nat} {plat : List Int} {ws : List WR} {left rd wt fl left' rd' wt' fl' : Int} (h : IsDisk w g pb pc mb pr pv D N plat ws left rd wt fl) (ho : Only [g] w w')
    (hs : Blk w' g 106 #[.slice (some ⟨pb, 0, none⟩) (512 * N) pc, pv, .map (some mb), .int .i64 left', .int .i64 rd', .int .i64 wt', .int .i64 fl']) : IsDisk w' g pb pc mb pr pv D N plat ws left' rd' wt' fl' := by
  have h1 : pb ≠ g := (h.str.ne_ h.row (by decide)).symm
  have h2 : mb ≠ g := by
    rintro rfl
    obtain ⟨es, clock, hb, _⟩ := h.map
    have := h.str
    unfold Blk at this
    rw [this] at hb
    cases hb
  have h3 : ∀ k, pv.ownBlock = some k → k ≠ g := by
    intro k hk e
    subst e
    rcases h.own.2 with ⟨e, _⟩ | ⟨k', cap, cur, e, _, hg, _⟩
    · subst e; cases hk
    · subst e
      simp [Value.ownBlock] at hk
      subst hk
      exact Blk.ne_ (t := 108) (t' := 106) hg h.str (by decide) rfl
  have h4 : ∀ x ∈ ws, x.blk ≠ g := fun x hx => ((h.str.ne_ (h.wok x hx).row (by decide))).symm
  exact ⟨hs, h.row.only ho (by simpa using h1), h.len, h.cap, h.pos, h.big, h.u8, ownsRow_only h.own ho (fun k hk => by simpa using h3 k hk), fun x hx => (h.wok x hx).only ho (by simpa using h4 x hx),
    ownsMap_only h.map ho (by simpa using h2), h.last, h.few⟩

section
variable {w : World} {g pb pc mb : Nat} {pr : List Value} {pv : Value} {D : DataW Unit} {N : Nat} {plat : List Int} {ws : List WR} {left rd wt fl : Int} (h : IsDisk w g pb pc mb pr pv D N plat ws left rd wt fl)
include h

theorem dspend_no (h0 : left = 0) : Calls Try.prog 89 #[.pointer (some ⟨g, 0, none⟩)] w fun e w' => e = .returned (.bool false) ∧ w = w' := by
  subst h0
  have hc := h.c3
  clear h
  go_enter Try.func89, Try.ntmps89
  go_wp2
  go_ret
  exact ⟨rfl, rfl⟩

theorem dspend_free (h0 : left < 0) : Calls Try.prog 89 #[.pointer (some ⟨g, 0, none⟩)] w fun e w' => e = .returned (.bool true) ∧ w = w' := by
  have hc := h.c3
  have h1 : (left == 0) = false := beq_eq_false_iff_ne.2 (by omega)
  clear h
  go_enter Try.func89, Try.ntmps89
  go_wp2
  go_ret
  exact ⟨rfl, rfl⟩

theorem dspend_one (h0 : 0 < left) (hm : left ≤ 9223372036854775807) : Calls Try.prog 89 #[.pointer (some ⟨g, 0, none⟩)] w fun e w' => e = .returned (.bool true) ∧ Only [g] w w' ∧ IsDisk w' g pb pc mb pr pv D N plat ws (left - 1) rd wt fl := by
  have hc := h.c3
  have hf := h.str.frozen 3
  have h1 : (left == 0) = false := beq_eq_false_iff_ne.2 (by omega)
  have HD := hide h
  clear h
  go_enter Try.func89, Try.ntmps89
  go_wp2
  go_ret
  have ho : Only [g] w (w.setCell ⟨g, 3, none⟩ (.int .i64 (left - 1))) := (Only.refl _ _).setCell _ (by simp)
  exact ⟨rfl, ho, HD.out.restr ho (HD.out.str.set_ 3 _)⟩



omit h in
theorem run_clear_map {w : World} {mb : Nat} {es : Array MapEntry} {clock : Nat} (hb : w.heap[mb]? = some (.map es clock)) (ty : TypeId) :
    (Builtin.clear_ #[104] ty #[.map (some mb)]).run Try.prog w = .ok (.tuple #[]) (Go.ChangeMaps.setBlock w mb (.map #[] clock)) := by
  simp [Builtin.clear_, run_underlying Try.underlying104, MapKept.run_getObj_map hb, MapKept.run_setObj_map _ hb, Result.andThen]
  rfl

omit h in
theorem only_setBlock {w : World} {mb : Nat} (o : Obj) : Only [mb] w (Go.ChangeMaps.setBlock w mb o) :=
  ⟨rfl, rfl, rfl, by simp [Go.ChangeMaps.setBlock], fun k _ hk => by simp only [Go.ChangeMaps.setBlock]; rw [Array.getElem?_setIfInBounds_ne (by simp at hk; omega)]⟩

omit h in
theorem lasts_nil : Lasts (.map []) [] :=
  ⟨isMap_empty, fun n i ⟨x, hx, _⟩ => by simp at hx, fun n _ => rfl⟩

set_option maxRecDepth 100000 in
theorem dforget_is : Calls Try.prog 90 #[.pointer (some ⟨g, 0, none⟩)] w fun e w' => e = .returned (.tuple #[]) ∧ Only [g, mb] w w' ∧ IsDisk w' g pb pc mb pr (.slice none 0 0) (.map []) N plat [] left rd wt fl := by
  have hc1 := h.c1
  have hf := h.str.frozen 1
  have hc2 := h.c2
  obtain ⟨es, clock, hb, _⟩ := h.map
  have hmg : mb ≠ g := by
    rintro rfl
    have := h.str
    unfold Blk at this
    rw [this] at hb
    cases hb
  have hb1 : (w.setCell ⟨g, 1, none⟩ (.slice none 0 0)).heap[mb]? = some (.map es clock) := (Below.heap_setCell w ⟨g, 1, none⟩ _ mb hmg).trans hb
  have hc2' : (w.setCell ⟨g, 1, none⟩ (.slice none 0 0)).cell? ⟨g, 2, none⟩ = some (.map (some mb)) := by rw [(h.str.set_ 1 (.slice none 0 0)).cell]; rfl
  have HCL := hide (run_clear_map hb1)
  have HB := hide (show (Go.ChangeMaps.setBlock (w.setCell ⟨g, 1, none⟩ (.slice none 0 0)) mb (.map #[] clock)).heap[mb]? = some (.map #[] clock) from by
    simp only [Go.ChangeMaps.setBlock]; rw [Array.getElem?_setIfInBounds_self_of_lt]; exact (Array.getElem?_eq_some_iff.1 hb1).1)
  have HMG := hide hmg
  have HD := hide h
  clear h hb hb1 hmg
  go_enter Try.func90, Try.ntmps90
  go_wp2_with (simp only [HCL.out])
  go_end0
  have o1 : Only [g, mb] w (w.setCell ⟨g, 1, none⟩ (.slice none 0 0)) := (Only.refl _ _).setCell _ (by simp)
  have o2 := (only_setBlock (w := w.setCell ⟨g, 1, none⟩ (.slice none 0 0)) (mb := mb) (.map #[] clock)).mono (S' := [g, mb]) (by simp +contextual)
  have ho := o1.trans o2
  have hd := HD.out
  have hpg : pb ≠ g := (hd.str.ne_ hd.row (by decide)).symm
  have hpm : pb ≠ mb := by
    rintro rfl
    obtain ⟨es, clock, hb, _⟩ := hd.map
    have := hd.row
    unfold Blk at this
    rw [this] at hb
    cases hb
  refine ⟨rfl, ho, (hd.str.set_ 1 (.slice none 0 0)).only (only_setBlock _) (by simpa using HMG.out.symm), hd.row.only ho (by simp; exact ⟨hpg, hpm⟩), hd.len, hd.cap, hd.pos, hd.big, hd.u8, World.ownsRow_nil _ _ _ _, by simp, ?_, lasts_nil, Nat.zero_le _⟩
  exact ⟨#[], clock, HB.out, ⟨by simp, MapKept.stamped_empty clock, by simp⟩, Nat.le_refl _, rfl⟩
end
end Go.Proofs.Ytokdpldmoflnkaa
/-
  New, Load of parapet/disk; and the calls that don't write.
-/
namespace Go.Proofs.Ytokdpldmoflnkaa
open Go.ChangeShapes Go.WideShapes Go.ChangeAt Go.RowKit Go.Maps
set_option linter.unusedVariables false

theorem with_ok (w : World) (pb N pc : Nat) (pr : List Value) (plat : List Int) (hr : Blk w pb 5 (u8l plat ++ pr).toArray) (hl : plat.length = 512 * N) (hc : 512 * N + pr.length = pc) (h1 : 1 ≤ N) (h2 : N ≤ 4096) (hu : U8 plat) :
    Calls Try.prog 40 #[.slice (some ⟨pb, 0, none⟩) (512 * N) pc] w fun e w' => ∃ g mb, e = .returned (.pointer (some ⟨g, 0, none⟩)) ∧ w.heap.size ≤ g ∧ w.heap.size ≤ mb ∧ Only [] w w' ∧ IsDisk w' g pb pc mb pr (.slice none 0 0) (.map []) N plat [] (-1) 0 0 0 := by
  have hmm := @run_makeMap Try.prog
  go_enter Try.func40, Try.ntmps40
  go_wp2
  go_ret
  have o1 : Only [] w (w.alloc (.map #[] 0)) := (Only.refl _ _).alloc _
  have hown : (w.alloc (.map #[] 0)).ownsMap Try.prog 3 (plainElem Try.prog 3) w.heap.size 0 (.map [] : DataW Unit) := World.ownsMap_made _ _ _ _
  have hb := Blk.new (w.alloc (.map #[] 0)) 106 #[.slice (some ⟨pb, 0, none⟩) (512 * N) pc, .slice none 0 0, .map (some w.heap.size), .int .i64 (-1), .int .i64 0, .int .i64 0, .int .i64 0]
  rw [show (w.alloc (.map #[] 0)).heap.size = w.heap.size + 1 by simp] at hb
  refine ⟨w.heap.size + 1, w.heap.size, rfl, Nat.le_succ _, Nat.le_refl _, o1.alloc _, ?_⟩
  exact ⟨hb, (hr.only o1 (by simp)).alloc _, hl, hc, h1, h2, hu, World.ownsRow_nil _ _ _ _, by simp, ownsMap_only hown ((Only.refl [] _).alloc _) (by simp), lasts_nil, Nat.zero_le _⟩

theorem dnew_bad (n : Int) (w : World) (h : n < 1 ∨ 4096 < n) : Calls Try.prog 7 #[.int .i64 n] w fun e w' => e = .returned (.tuple #[.pointer none, .int .i64 1]) ∧ w = w' := by
  by_cases h1 : n < 1
  · clear h
    go_enter Try.func7, Try.ntmps7
    go_wp2
    go_ret2
    exact ⟨rfl, rfl⟩
  · have h2 : 4096 < n := by omega
    clear h
    go_enter Try.func7, Try.ntmps7
    go_wp2
    go_ret2
    exact ⟨rfl, rfl⟩

theorem made_u8l (n : Nat) : madeCells #[.int .u8 0] n = (u8l (List.replicate n 0) ++ ([] : List Value)).toArray := by
  apply Array.ext'
  rw [toList_madeCells_one]
  simp [u8l]

/-- What a call that makes a disk gives. -/
def Made (w w' : World) (e : Ending) (N : Nat) (plat : List Int) : Prop :=
  ∃ g pb pc mb pr, e = .returned (.tuple #[.pointer (some ⟨g, 0, none⟩), .int .i64 0]) ∧ w.heap.size ≤ g ∧ w.heap.size ≤ pb ∧ w.heap.size ≤ mb ∧ Only [] w w' ∧ IsDisk w' g pb pc mb pr (.slice none 0 0) (.map []) N plat [] (-1) 0 0 0

set_option maxRecDepth 100000 in
theorem dnew_ok (n : Int) (w : World) (h1 : 1 ≤ n) (h2 : n ≤ 4096) : Calls Try.prog 7 #[.int .i64 n] w fun e w' => Made w w' e n.toNat (List.replicate (512 * n.toNat) 0) := by
  obtain ⟨i0, hi, hz0, hz1, hz2⟩ := info_parts info_u8
  have hmk : ∀ u : World, (Instr.makeSlice 46 (.int .i64 (n * 512)) (.int .i64 (n * 512))).run Try.prog u =
      .ok (.slice (some ⟨u.heap.size, 0, none⟩) (512 * n.toNat) (512 * n.toNat)) (u.alloc (.cells (madeCells #[.int .u8 0] (512 * n.toNat)) 5)) := fun u => by
    have h := run_make (P := Try.prog) u 46 5 i0 (.int .u8 0) Try.underlying46 hi hz0 .i64 .i64 (n * 512) (n * 512) (by omega) (Int.le_refl _) (by rw [hz2]; omega) (by omega)
    have e : (n * 512).toNat = 512 * n.toNat := by omega
    rw [e] at h
    simpa [hz1, Value.cells] using h
  have HW := hide (with_ok (w.alloc (.cells (madeCells #[.int .u8 0] (512 * n.toNat)) 5)) w.heap.size n.toNat (512 * n.toNat) [] (List.replicate (512 * n.toNat) 0) (by rw [← made_u8l]; exact Blk.new _ _ _) (by simp) (by simp) (by omega) (by omega) (U8.replicate _))
  go_enter Try.func7, Try.ntmps7
  go_wp2_with (go_at_call 40; refine HW.out.mono ?_; rintro e w1 ⟨g, mb, rfl, hg, hmb, ho, hd⟩; have HH := hide (And.intro hg (And.intro hmb (And.intro ho hd))); clear hg hmb ho hd)
  go_ret2
  obtain ⟨hg, hmb, ho, hd⟩ := HH.out
  exact ⟨g, w.heap.size, _, mb, [], rfl, Nat.le_trans (by simp) hg, Nat.le_refl _, Nat.le_trans (by simp) hmb, ((Only.refl [] w).alloc _).trans ho, hd⟩

theorem flat_cell {ws : List WR} {i : Nat} {x : WR} (hx : ws[i]? = some x) : (ws.flatMap WR.cells)[i * 2]? = some (.int .i64 x.sec) ∧ (ws.flatMap WR.cells)[i * 2 + 1]? = some (.slice (some ⟨x.blk, 0, none⟩) 512 (512 + x.rest.length)) := by
  induction ws generalizing i with
  | nil => simp at hx
  | cons y r ih =>
    rw [List.flatMap_cons]
    cases i with
    | zero =>
      simp only [List.getElem?_cons_zero, Option.some.injEq] at hx
      subst hx
      exact ⟨rfl, rfl⟩
    | succ i =>
      rw [List.getElem?_cons_succ] at hx
      obtain ⟨h1, h2⟩ := ih hx
      have e1 : (i + 1) * 2 = i * 2 + 2 := by omega
      rw [e1]
      exact ⟨h1, h2⟩

section
variable {w : World} {g pb pc mb : Nat} {pr : List Value} {pv : Value} {D : DataW Unit} {N : Nat} {plat : List Int} {ws : List WR} {left rd wt fl : Int} (h : IsDisk w g pb pc mb pr pv D N plat ws left rd wt fl)
include h

theorem pend_form : ∃ A cap, pv = .slice A ws.length cap ∧ (0 < ws.length → ∃ b, A = some ⟨b, 0, none⟩ ∧ b < w.heap.size ∧ ∀ (i : Nat) (x : WR), ws[i]? = some x →
    w.cell? ⟨b, i * 2, none⟩ = some (.int .i64 x.sec) ∧ w.cell? ⟨b, i * 2 + 1, none⟩ = some (.slice (some ⟨x.blk, 0, none⟩) 512 (512 + x.rest.length))) := by
  rcases h.own.2 with ⟨e, h0⟩ | ⟨b, cap, cur, e, _, hg, hn, hm, hs, ht⟩
  · exact ⟨none, 0, by rw [e, h0], fun hp => absurd hp (by omega)⟩
  · refine ⟨some ⟨b, 0, none⟩, cap, e, fun _ => ⟨b, rfl, Blk.lt (t := 108) hg, fun i x hx => ?_⟩⟩
    obtain ⟨h1, h2⟩ := flat_cell hx
    have hil : i < ws.length := (List.getElem?_eq_some_iff.1 hx).1
    have hc : ∀ j, j < ws.length * 2 → w.cell? ⟨b, j, none⟩ = (ws.flatMap WR.cells)[j]? := fun j hj => by
      rw [Blk.cell (t := 108) hg, ← ht, List.getElem?_take]
      simp [hj]
    exact ⟨(hc _ (by omega)).trans h1, (hc _ (by omega)).trans h2⟩

omit h in
theorem gb_set_ (xs : List Int) (i j : Nat) (x : Int) (hi : i < xs.length) : gb (xs.set i x) j = if i = j then x else gb xs j := by
  unfold gb
  simp only [List.getD, List.getElem?_set]
  by_cases h : i = j
  · subst h; simp [hi]
  · simp [h]

/-- The loop that tells the pending writes' sectors. -/
def PendRel (d : Nat) (ws : List WR) (w : World) (i : Value) (wr : World) : Prop :=
  ∃ k : Nat, k ≤ ws.length ∧ i = .int .i64 k ∧ Only [] w wr ∧ ∃ ns : List Int, ns.length = ws.length ∧ Blk wr d 3 (ns.map (Value.int .i64)).toArray ∧ ∀ j, j < k → gb ns j = gb (ws.map fun x => (x.sec : Int)) j

/-- A slice of ints as a list. -/
def IntsAt (w : World) (d n : Nat) (ns : List Int) : Prop := ns.length = n ∧ ∀ i, i < n → w.cell? ⟨d, i, none⟩ = some (.int .i64 (gb ns i))

set_option maxRecDepth 100000 in
theorem dpending_is : Calls Try.prog 37 #[.pointer (some ⟨g, 0, none⟩)] w fun e w' => ∃ d, e = .returned (.slice (some ⟨d, 0, none⟩) ws.length ws.length) ∧ w.heap.size ≤ d ∧ IntsAt w' d ws.length (ws.map fun x => (x.sec : Int)) ∧ Only [] w w' := by
  have HC := hide (dclosed_is h)
  obtain ⟨A, cap, rfl, hp⟩ := pend_form h
  have hc1 := h.c1
  have hca := fun o => ((h.str.alloc o).cell 1).trans (show _ = some (Value.slice A ws.length cap) from rfl)
  have hfew := h.few
  have HP := hide hp
  have HD := hide h
  have i0 : (Try.prog.info? 3).map (fun i => (i.zero, i.size, i.bytes)) = some (some (.int .i64 0), 1, 8) := by kernel_rfl
  obtain ⟨i0, hi, hz0, hz1, hz2⟩ := info_parts i0
  have hmk : ∀ u : World, (Instr.makeSlice 66 (.int .i64 (ws.length : Int)) (.int .i64 (ws.length : Int))).run Try.prog u =
      .ok (.slice (some ⟨u.heap.size, 0, none⟩) ws.length ws.length) (u.alloc (.cells (madeCells #[.int .i64 0] ws.length) 3)) := fun u => by
    have h := run_make (P := Try.prog) u 66 3 i0 (.int .i64 0) Try.underlying66 hi hz0 .i64 .i64 (ws.length : Int) (ws.length : Int) (by omega) (Int.le_refl _) (by rw [hz2]; omega) (by omega)
    simpa [hz1, Value.cells] using h
  clear h hp hi hz0 hz1 hz2
  go_enter Try.func37, Try.ntmps37
  go_wp2_with (go_at_call 62; refine HC.out.mono ?_; rintro e w' ⟨rfl, rfl⟩)
  have HM := hide (Blk.new w 3 (madeCells #[.int .i64 0] ws.length))
  have HO0 := hide ((Only.refl [] w).alloc (.cells (madeCells #[.int .i64 0] ws.length) 3))
  have HML := hide (show madeCells #[.int .i64 0] ws.length = ((List.replicate ws.length 0).map (Value.int .i64)).toArray from by
    apply Array.ext'
    rw [toList_madeCells_one]
    simp)
  rw [HML.out] at HM HO0
  clear hca hc1 hmk
  go_loopw [19] (fun i wr => PendRel w.heap.size ws w i wr) (fun i _ => ws.length - (intOf i).toNat)
  case atStart => exact ⟨0, Nat.zero_le _, rfl, by rw [HML.out]; exact HO0.out, List.replicate ws.length 0, by simp, by rw [HML.out]; exact HM.out, fun j hj => absurd hj (by omega)⟩
  case round =>
    clear HM HO0
    obtain ⟨k, hk, rfl, ho, ns, hnl, hbk, hns⟩ := hrel
    have HO := hide ho
    have HB := hide hbk
    have HNL := hide hnl
    have HNS := hide hns
    by_cases hlt : k < ws.length
    · obtain ⟨b, rfl, hbl, hcs⟩ := HP.out (by omega)
      obtain ⟨x, hx⟩ : ∃ x, ws[k]? = some x := ⟨_, List.getElem?_eq_getElem hlt⟩
      obtain ⟨s0, s1⟩ := hcs k x hx
      have e0 := (ho.cell hbl (by simp)).trans s0
      have e1 := (ho.cell hbl (by simp)).trans s1
      have HX := hide hx
      have HBA := hide fun o => hbk.alloc o
      have hck : ∀ o, (wr.alloc o).cell? ⟨w.heap.size, k, none⟩ = some (.int .i64 (gb ns k)) := fun o => by
        rw [(hbk.alloc o).cell]
        simp [gb, List.getD, List.getElem?_eq_getElem (show k < ns.length by omega)]
      have hfk : ∀ o, (wr.alloc o).frozen? ⟨w.heap.size, k, none⟩ = false := fun o => (hbk.alloc o).frozen k
      clear hcs s0 s1 hx hbk hns hnl
      have HSET := hide fun o => (hide (HBA.out o)).out.set_ k (.int .i64 x.sec)
      go_wp2
      go_roundw
      case rel =>
        refine ⟨k + 1, hlt, by go_num, (HO.out.alloc _).setCell _ (by simp), ns.set k x.sec, by rw [List.length_set]; exact HNL.out, ?_, fun j hj => ?_⟩
        · have := HSET.out (.cells #[.int .i64 x.sec, .slice (some ⟨x.blk, 0, none⟩) 512 (512 + x.rest.length)] 108)
          rw [List.setIfInBounds_toArray, ← List.map_set] at this
          exact this
        · rw [gb_set_ _ _ _ _ (by rw [HNL.out]; exact hlt)]
          by_cases hj2 : k = j
          · subst hj2
            rw [if_pos rfl]
            simp [gb, List.getD, HX.out]
          · rw [if_neg hj2]
            exact HNS.out j (by omega)
      case measure => simp [intOf]; omega
    · obtain rfl : k = ws.length := by omega
      have HI := hide (show IntsAt wr w.heap.size ws.length (ws.map fun x => (x.sec : Int)) from ⟨by simp, fun i hi => by
        rw [hbk.cell]
        have := hns i hi
        rw [← this]
        simp [gb, List.getD, List.getElem?_eq_getElem (show i < ns.length by omega)]⟩)
      clear hbk hns hnl ho
      go_wp2
      go_ret
      exact ⟨w.heap.size, rfl, Nat.le_refl _, HI.out, HO.out⟩
end
end Go.Proofs.Ytokdpldmoflnkaa
/-
  Write of parapet/disk.
-/
namespace Go.Proofs.Ytokdpldmoflnkaa
open Go.ChangeShapes Go.WideShapes Go.ChangeAt Go.RowKit Go.Maps
set_option linter.unusedVariables false

/-- What a write that is done leaves. -/
def Wrote (w w' : World) (g pb pc mb : Nat) (pr : List Value) (pv : Value) (N : Nat) (plat : List Int) (ws : List WR) (left rd wt fl : Int) (n : Nat) (zs : List Int) : Prop :=
  ∃ pv' D' x, Only (foot g pb mb pv) w w' ∧ (∀ k, pv'.ownBlock = some k → pv.ownBlock = some k ∨ w.heap.size ≤ k) ∧ w.heap.size ≤ x.blk ∧ x.sec = n ∧ x.data = zs ∧
    IsDisk w' g pb pc mb pr pv' D' N plat (ws ++ [x]) (if 0 < left then left - 1 else left) rd (wt + 1) fl

/-- What is left behind one operation. -/
def lessv (left : Int) : Int := if 0 < left then left - 1 else left

section
variable {w : World} {g pb pc mb : Nat} {pr : List Value} {pv : Value} {D : DataW Unit} {N : Nat} {plat : List Int} {ws : List WR} {left rd wt fl : Int} (h : IsDisk w g pb pc mb pr pv D N plat ws left rd wt fl)
include h

theorem dspend_yes (h0 : left ≠ 0) (hm : left ≤ 9223372036854775807) : Calls Try.prog 89 #[.pointer (some ⟨g, 0, none⟩)] w fun e w' => e = .returned (.bool true) ∧ Only [g] w w' ∧ IsDisk w' g pb pc mb pr pv D N plat ws (lessv left) rd wt fl := by
  unfold lessv
  by_cases hp : 0 < left
  · rw [if_pos hp]; exact dspend_one h hp hm
  · rw [if_neg hp]; exact (dspend_free h (by omega)).mono fun e w' ⟨he, hw⟩ => ⟨he, hw ▸ Only.refl _ _, hw ▸ h⟩

theorem dwrite_sector (n : Int) (A : Option Addr) (m c : Nat) (hn : n < 0 ∨ N ≤ n) : Calls Try.prog 88 #[.pointer (some ⟨g, 0, none⟩), .int .i64 n, .slice A m c] w fun e w' => e = .returned (.int .i64 20) ∧ w = w' := by
  have HC := hide (dclosed_is h)
  have HH := hide (dhas_no h n hn)
  clear h hn
  go_enter Try.func88, Try.ntmps88
  go_wp2_with (first | (go_at_call 62; refine HC.out.mono ?_; rintro e w' ⟨rfl, rfl⟩) | (go_at_call 63; refine HH.out.mono ?_; rintro e w' ⟨rfl, rfl⟩))
  go_ret
  exact ⟨rfl, rfl⟩

theorem dwrite_len (n : Int) (A : Option Addr) (m c : Nat) (h0 : 0 ≤ n) (h1 : n < N) (hm : m ≠ 512) : Calls Try.prog 88 #[.pointer (some ⟨g, 0, none⟩), .int .i64 n, .slice A m c] w fun e w' => e = .returned (.int .i64 1) ∧ w = w' := by
  have HC := hide (dclosed_is h)
  have HH := hide (dhas_yes h n h0 h1)
  have h5 : ((m : Int) != 512) = true := by simp only [bne_iff_ne]; omega
  clear h hm
  go_enter Try.func88, Try.ntmps88
  go_wp2_with (first | (go_at_call 62; refine HC.out.mono ?_; rintro e w' ⟨rfl, rfl⟩) | (go_at_call 63; refine HH.out.mono ?_; rintro e w' ⟨rfl, rfl⟩))
  go_ret
  exact ⟨rfl, rfl⟩

theorem dwrite_off (n : Int) (A : Option Addr) (c : Nat) (h0 : 0 ≤ n) (h1 : n < N) (hl : left = 0) : Calls Try.prog 88 #[.pointer (some ⟨g, 0, none⟩), .int .i64 n, .slice A 512 c] w fun e w' => e = .returned (.int .i64 0) ∧ w = w' := by
  have HC := hide (dclosed_is h)
  have HH := hide (dhas_yes h n h0 h1)
  have HS := hide (dspend_no h hl)
  clear h hl
  go_enter Try.func88, Try.ntmps88
  go_wp2_with (first | (go_at_call 62; refine HC.out.mono ?_; rintro e w' ⟨rfl, rfl⟩) | (go_at_call 63; refine HH.out.mono ?_; rintro e w' ⟨rfl, rfl⟩) | (go_at_call 89; refine HS.out.mono ?_; rintro e w' ⟨rfl, rfl⟩))
  go_ret
  exact ⟨rfl, rfl⟩

omit h in
theorem only_grown {w w' : World} {row : Option Nat} (h : w.grownBy w' row) : Only row.toList w w' := Only.of_grown h (fun k hk _ => by simp [hk])
omit h in
theorem info_write : (Try.prog.info? 108).map (fun i => (i.zero, i.size, i.bytes)) = some (some (.agg #[.int .i64 0, .slice none 0 0]), 2, 32) := by kernel_rfl

omit h in
theorem pv_ne {w : World} {g pb pc mb : Nat} {pr : List Value} {pv : Value} {D : DataW Unit} {N : Nat} {plat : List Int} {ws : List WR} {left rd wt fl : Int} (h : IsDisk w g pb pc mb pr pv D N plat ws left rd wt fl) {k : Nat} (hk : pv.ownBlock = some k) :
    k ≠ g ∧ k ≠ pb ∧ k ≠ mb ∧ k < w.heap.size ∧ ∀ x ∈ ws, x.blk ≠ k := by
  rcases h.own.2 with ⟨e, _⟩ | ⟨k', cap', cur, e, _, hg, _⟩
  · rw [e] at hk; cases hk
  · rw [e] at hk
    simp [Value.ownBlock] at hk
    subst hk
    have hb : Blk w k' 108 cur := hg
    refine ⟨hb.ne_ h.str (by decide), hb.ne_ h.row (by decide), ?_, hb.lt, fun x hx => ((h.wok x hx).row.ne_ hb (by decide))⟩
    rintro rfl
    obtain ⟨es, clock, hm, _⟩ := h.map
    rw [hg] at hm
    cases hm
omit h in
theorem mb_ne {w : World} {g pb pc mb : Nat} {pr : List Value} {pv : Value} {D : DataW Unit} {N : Nat} {plat : List Int} {ws : List WR} {left rd wt fl : Int} (h : IsDisk w g pb pc mb pr pv D N plat ws left rd wt fl) :
    mb ≠ g ∧ mb ≠ pb ∧ mb < w.heap.size ∧ ∀ x ∈ ws, x.blk ≠ mb := by
  obtain ⟨es, clock, hm, _⟩ := h.map
  have key : ∀ {t : TypeId} {c : Array Value} {k : Nat}, Blk w k t c → k ≠ mb := by
    intro t c k hb e
    subst e
    unfold Blk at hb
    rw [hb] at hm
    cases hm
  exact ⟨(key h.str).symm, (key h.row).symm, (Array.getElem?_eq_some_iff.1 hm).1, fun x hx => key (h.wok x hx).row⟩
omit h in
theorem lasts_put {D : DataW Unit} {ws : List WR} (h : Lasts D ws) (x : WR) (hs : x.sec ≤ 4096) : Lasts (D.put (.int .i64 x.sec) (.lit (.int .i64 ws.length))) (ws ++ [x]) := by
  obtain ⟨hm, h1, h2⟩ := h
  have hk : ∀ n : Nat, WideAt.IsKeyLit (.int .i64 (n : Int)) := fun n => trivial
  have hne : ∀ n : Nat, n ≠ x.sec → (Lit.int .i64 (n : Int)) ≠ (Lit.int .i64 (x.sec : Int)) := fun n hn e => hn (by injection e with _ e; omega)
  refine ⟨hm.put _ _, fun n i ⟨y, hy, hyn, hlast⟩ => ?_, fun n hn => ?_⟩
  · by_cases hn : n = x.sec
    · subst hn
      have hi : i = ws.length := by
        have hil : i < (ws ++ [x]).length := (List.getElem?_eq_some_iff.1 hy).1
        rw [List.length_append, List.length_singleton] at hil
        by_cases hlt : i < ws.length
        · exact absurd rfl (hlast ws.length x hlt (by rw [List.getElem?_append_right (Nat.le_refl _)]; simp))
        · omega
      subst hi
      exact ⟨has_put_same hm (hk _) _, atKey_put_same hm (hk _) _ _⟩
    · rw [has_put_other (hne n hn), atKey_put_other (hne n hn)]
      refine h1 n i ?_
      have hil : i < (ws ++ [x]).length := (List.getElem?_eq_some_iff.1 hy).1
      rw [List.length_append, List.length_singleton] at hil
      by_cases hlt : i < ws.length
      · rw [List.getElem?_append_left hlt] at hy
        exact ⟨y, hy, hyn, fun j z hj hz => hlast j z hj (by rw [List.getElem?_append_left (List.getElem?_eq_some_iff.1 hz).1]; exact hz)⟩
      · have : i = ws.length := by omega
        subst this
        rw [List.getElem?_append_right (Nat.le_refl _)] at hy
        simp at hy
        subst hy
        exact absurd hyn.symm hn
  · have hx := hn ws.length x (by rw [List.getElem?_append_right (Nat.le_refl _)]; simp)
    rw [has_put_other (hne n hx.symm)]
    exact h2 n (fun i y hy => hn i y (by rw [List.getElem?_append_left (List.getElem?_eq_some_iff.1 hy).1]; exact hy))

omit h in
theorem dwrite_end {w2 w3 w4 w5 : World} {g pb pc mb : Nat} {pr : List Value} {pv : Value} {D : DataW Unit} {N : Nat} {plat : List Int} {ws : List WR} {left rd wt fl : Int} (hd : IsDisk w2 g pb pc mb pr pv D N plat ws left rd wt fl) (ho3 : Only [mb] w2 w3) (x : WR)
    (hm3 : w3.ownsMap Try.prog 3 (plainElem Try.prog 3) mb (ws.length + 1) (D.put (.int .i64 x.sec) (.lit (.int .i64 ws.length)))) (k4 : Only [] w3 w4) (hx : x.ok w4 N) (hxB : w2.heap.size ≤ x.blk) (k5 : Only pv.ownBlock.toList w4 w5) (pg pcap : Nat)
    (hown5 : w5.ownsRow 0 108 2 (.slice (some ⟨pg, 0, none⟩) (ws.length + 1) pcap) (ws.length + 1) (ws.flatMap WR.cells ++ x.cells)) (hat : pv.ownBlock = some pg ∨ w2.heap.size ≤ pg) (hf : ws.length < 4398046511000) :
    Only (foot g pb mb pv) w2 (w5.setCell ⟨g, 1, none⟩ (.slice (some ⟨pg, 0, none⟩) (ws.length + 1) pcap)) ∧
      IsDisk (w5.setCell ⟨g, 1, none⟩ (.slice (some ⟨pg, 0, none⟩) (ws.length + 1) pcap)) g pb pc mb pr (.slice (some ⟨pg, 0, none⟩) (ws.length + 1) pcap) (D.put (.int .i64 x.sec) (.lit (.int .i64 ws.length))) N plat (ws ++ [x]) left rd wt fl := by
  obtain ⟨m1, m2, m3, m4⟩ := mb_ne hd
  have hl := hd.str.lt
  have hpl := hd.row.lt
  have hpg := (hd.str.ne_ hd.row (by decide))
  have kk : Only [mb] w2 w4 := ho3.trans (k4.mono (by simp))
  have nin : ∀ k, (∀ q, pv.ownBlock = some q → q ≠ k) → k ∉ pv.ownBlock.toList := by
    intro k hk hm
    cases hq : pv.ownBlock with
    | none => rw [hq] at hm; simp at hm
    | some q => rw [hq] at hm; simp at hm; exact hk q hq hm.symm
  have gin := nin g (fun q hq => (pv_ne hd hq).1)
  have pin := nin pb (fun q hq => (pv_ne hd hq).2.1)
  have min := nin mb (fun q hq => (pv_ne hd hq).2.2.1)
  have xin := nin x.blk (fun q hq => by have := (pv_ne hd hq).2.2.2.1; omega)
  have oset : Only [g] w5 (w5.setCell ⟨g, 1, none⟩ (.slice (some ⟨pg, 0, none⟩) (ws.length + 1) pcap)) := (Only.refl _ _).setCell _ (by simp)
  have fin : ∀ q, q ∈ pv.ownBlock.toList → q ∈ foot g pb mb pv := by
    intro q hq
    cases hp : pv.ownBlock with
    | none => rw [hp] at hq; simp at hq
    | some r => rw [hp] at hq; simp at hq; subst hq; simp [foot, hp]
  have hpg2 : pg ≠ g := by
    rcases hown5.2 with ⟨e, _⟩ | ⟨k', cap', cur, e, _, hg, _⟩
    · simp at e
    · have e' : pg = k' := by injection e with e; injection e with e; injection e
      subst e'
      have h5 : Blk w5 g 106 _ := (hd.str.only kk (by simpa using m1.symm)).only k5 gin
      exact Blk.ne_ (t := 108) (t' := 106) hg h5 (by decide)
  refine ⟨?_, ?_⟩
  · exact ((kk.mono (S' := foot g pb mb pv) (by simp +contextual [foot])).trans (k5.mono (fun k _ hk => fin k hk))).trans (oset.mono (by simp +contextual [foot]))
  · have s5 := ((hd.str.only kk (by simpa using m1.symm)).only k5 gin).set_ 1 (.slice (some ⟨pg, 0, none⟩) (ws.length + 1) pcap)
    have hlen : (ws ++ [x]).length = ws.length + 1 := by simp
    refine ⟨s5, ((hd.row.only kk (by simpa using m2.symm)).only k5 pin).only oset (by simpa using hpg.symm), hd.len, hd.cap, hd.pos, hd.big, hd.u8, ?_, ?_, ?_, lasts_put hd.last x (by have := hx.sec; have := hd.big; omega), by rw [hlen]; omega⟩
    · rw [hlen, List.flatMap_append]
      refine ownsRow_only (by simpa using hown5) oset (fun k hk => ?_)
      simp [Value.ownBlock] at hk
      subst hk
      simpa using hpg2
    · intro y hy
      rcases List.mem_append.1 hy with hy | hy
      · exact (((hd.wok y hy).only kk (by simpa using m4 y hy)).only k5 (nin y.blk (fun q hq => ((pv_ne hd hq).2.2.2.2 y hy).symm))).only oset (by simpa using ((hd.str.ne_ (hd.wok y hy).row (by decide))).symm)
      · simp at hy
        subst hy
        exact (hx.only k5 xin).only oset (by simp; omega)
    · rw [hlen]
      exact ownsMap_only (ownsMap_only (ownsMap_only hm3 k4 (by simp)) k5 min) oset (by simpa using m1)

set_option maxRecDepth 100000 in
set_option maxHeartbeats 1000000 in
theorem dwrite_do (n : Nat) (b o c : Nat) (zs : List Int) (h1 : n < N) (hl : left ≠ 0) (hm : left ≤ 9223372036854775807) (hz : zs.length = 512) (hu : U8 zs) (hc : ∀ i, i < 512 → w.cell? ⟨b, o + i, none⟩ = some (.int .u8 (gb zs i))) (hbl : b < w.heap.size) (hbg : b ≠ g) (hbm : b ≠ mb) (hw0 : 0 ≤ wt) (hw1 : wt < 9223372036854775807) (hf : ws.length < 4398046511000) :
    Calls Try.prog 88 #[.pointer (some ⟨g, 0, none⟩), .int .i64 n, .slice (some ⟨b, o, none⟩) 512 c] w fun e w' => e = .returned (.int .i64 0) ∧ Wrote w w' g pb pc mb pr pv N plat ws left rd wt fl n zs := by
  have HC := hide (dclosed_is h)
  have HH := hide (dhas_yes h n (by omega) (by omega))
  have HS := hide (dspend_yes h hl hm)
  have HCL := hide hc
  have HW := hide h
  have HF := hide hf
  clear h hc hf hm
  go_enter Try.func88, Try.ntmps88
  go_wp2_with (first | (go_at_call 62; refine HC.out.mono ?_; rintro e w' ⟨rfl, rfl⟩) | (go_at_call 63; refine HH.out.mono ?_; rintro e w' ⟨rfl, rfl⟩))
  refine HS.out.mono ?_
  rintro e w1 ⟨rfl, ho1, hd1⟩
  have hc5 := hd1.c5
  have hf5 := hd1.str.frozen 5
  have ho2 : Only [g] w1 (w1.setCell ⟨g, 5, none⟩ (.int .i64 (wt + 1))) := (Only.refl _ _).setCell _ (by simp)
  have HD2 := hide (hd1.restr (wt' := wt + 1) ho2 (hd1.str.set_ 5 _))
  have HO2 := hide (ho1.trans ho2)
  clear ho1 hd1 ho2 HS
  go_wp2_with fail
  clear hc5 hf5 hw1
  revert HD2 HO2
  generalize w1.setCell ⟨g, 5, none⟩ (.int .i64 (wt + 1)) = w2
  intro HD2 HO2
  have hc1 := HD2.out.c1
  have hc2 := HD2.out.c2
  obtain ⟨A, cap, rfl, hp⟩ := pend_form HD2.out
  clear hp
  have HWN := hide (show (Lit.int .i64 (n : Int)).wf = true from WalkArith.wf_i64 (by have := HW.out.big; omega))
  have HWL := hide (show (Lit.int .i64 (ws.length : Int)).wf = true from WalkArith.wf_i64 (by have := HF.out; omega))
  go_still_tail 10, (by kernel_rfl)
  refine wpList_mapUpdate_own _ rfl _ _ _ 104 rfl 3 3 (int_keyed Try.underlying3) Try.underlying104 _ mb ws.length D rfl (ownsMap_only HD2.out.map ((Only.refl [] _).drew) (by simp)) (by have := HF.out; unfold maxLen; omega) _ _ (.int .i64 n) rfl rfl (keyOf_int_mk Try.underlying3 HWN.out) (.lit (.int .i64 ws.length)) [] (plainElem_int Try.underlying3 HWL.out) ?_
  intro w3 hown3 hgrow3
  have HM3 := hide hown3
  have ho3 : Only [mb] w2 w3 := ((Only.refl [mb] w2).drew).trans (Only.of_grown hgrow3 (by intro k hk _; simp at hk; simp [hk]))
  have HO3 := hide ho3
  have hmg : g ≠ mb := by
    rintro rfl
    obtain ⟨es, clock, hb, _⟩ := HD2.out.map
    have := HD2.out.str
    unfold Blk at this
    rw [this] at hb
    cases hb
  have HS3 := hide (HD2.out.str.only ho3 (by simpa using hmg))
  have hc13 : w3.cell? ⟨g, 1, none⟩ = some (.slice A ws.length cap) := by rw [HS3.out.cell]; rfl
  have hnm : ∀ k, (Value.slice A ws.length cap).ownBlock = some k → k ≠ mb := by
    intro k hk e
    subst e
    rcases HD2.out.own.2 with ⟨e, _⟩ | ⟨k', cap', cur, e, _, hg, _⟩
    · rw [e] at hk; cases hk
    · rw [e] at hk
      simp [Value.ownBlock] at hk
      subst hk
      obtain ⟨es, clock, hb, _⟩ := HD2.out.map
      rw [hg] at hb
      cases hb
  have HOW := hide (ownsRow_only HD2.out.own ho3 (fun k hk => by simpa using hnm k hk))
  have HCN := hide (fun w' (k : Only [] w3 w') => clone_ok ⟨b, o, none⟩ 512 c zs w' hz (by omega) (fun i hi => by
    rw [add_at]
    exact (((HO2.out.mono (S' := [g, mb]) (by simp +contextual)).trans (ho3.mono (by simp +contextual))).trans (k.mono (by simp))).cell hbl (by simp; exact ⟨hbg, hbm⟩) |>.trans (HCL.out i hi)))
  clear hown3 hgrow3 ho3 hc1 hc2
  obtain ⟨i0, hi, hz0, hz1, hz2⟩ := info_parts info_write
  go_wp2
  have hgo : ∀ k, (Value.slice A ws.length cap).ownBlock = some k → g ≠ k := by
    intro k hk e
    subst e
    rcases HD2.out.own.2 with ⟨e, _⟩ | ⟨k', cap', cur, e, _, hg, _⟩
    · rw [e] at hk; cases hk
    · rw [e] at hk
      simp [Value.ownBlock] at hk
      subst hk
      exact Blk.ne_ (t := 108) (t' := 106) hg HD2.out.str (by decide) rfl
  have HGO := hide (show g ∉ (Value.slice A ws.length cap).ownBlock.toList from by
    intro hm
    cases hq : (Value.slice A ws.length cap).ownBlock with
    | none => rw [hq] at hm; simp at hm
    | some k => rw [hq] at hm; simp at hm; exact hgo k hq hm)
  clear hgo hnm
  go_region_law (first | (refine step_append_lies _ rfl _ _ 103 rfl 0 108 i0 _ 2 32 Try.underlying103 hi hz0 hz1 hz2 rfl (by decide) _ ws.length (ws.flatMap WR.cells) rfl (ownsRow_only HOW.out (k4.trans (by repeat (first | exact Only.refl _ _ | apply Only.drew | apply Only.alloc))) (by simp)) ⟨_, 0, none⟩ 1 1 [.int .i64 n, .slice (some ⟨xb, 0, none⟩) 512 xc] rfl rfl (World.news_of_block (cs := #[.int .i64 n, .slice (some ⟨xb, 0, none⟩) 512 xc]) (t := 108) (fr := (0, 0)) (heap_alloc_new w4 _)) (by simp [Value.oneCell']) (by decide) (by have := HF.out; unfold maxLen; omega) (by have := HF.out; omega) (Nat.zero_le _) _ rfl ?_; intro pg pcap w5 hown5 hgrow5 hat5 hlt5; have k5 : Only (Value.slice A ws.length cap).ownBlock.toList w4 w5 := Only.trans (by repeat (first | exact Only.refl _ _ | apply Only.drew | apply Only.alloc)) (only_grown hgrow5); have hc15 : w5.cell? ⟨g, 1, none⟩ = some (.slice A ws.length cap) := (((HS3.out.only k4 (by simp)).only k5 HGO.out).cell 1).trans rfl; have hf15 : w5.frozen? ⟨g, 1, none⟩ = false := ((HS3.out.only k4 (by simp)).only k5 HGO.out).frozen 1) | (go_simp; go_at_call 52; refine (HCN.out _ (by repeat (first | exact Only.refl _ _ | apply Only.drew))).mono ?_; rintro e w4 ⟨v4, rfl, ⟨xb, xc, xr, rfl, hxB, hxk, hxl⟩, ho4⟩; rw [hz] at hxl ⊢; have k4 : Only [] w3 w4 := Only.trans (by repeat (first | exact Only.refl _ _ | apply Only.drew)) ho4; have hc14 : w4.cell? ⟨g, 1, none⟩ = some (.slice A ws.length cap) := ((HS3.out.only k4 (by simp)).cell 1).trans rfl; have hc14a : ∀ o, (w4.alloc o).cell? ⟨g, 1, none⟩ = some (.slice A ws.length cap) := fun o => (((HS3.out.only k4 (by simp)).alloc o).cell 1).trans rfl))
  all_goals
    subst hxl
    have HE := hide (dwrite_end HD2.out HO3.out ⟨n, xb, xr, zs⟩ HM3.out k4 ⟨hxk, hz, h1, hu⟩ (Nat.le_trans HO3.out.size hxB) k5 pg pcap hown5 (hat5.imp id (fun e => by have := HO3.out.size; have := k4.size; simp at e; omega)) HF.out)
    have HXB := hide (show w.heap.size ≤ xb from Nat.le_trans HO2.out.size (Nat.le_trans HO3.out.size hxB))
    have HAT := hide (show (Value.slice A ws.length cap).ownBlock = some pg ∨ w2.heap.size ≤ pg from hat5.imp id (fun e => by have := HO3.out.size; have := k4.size; simp at e; omega))
    clear hown5 hgrow5 hat5 hlt5 k5 hc15 hf15 hxk hxB ho4 k4 hc14 hc14a hc13
    go_wp2
    go_ret
    refine ⟨rfl, _, _, ⟨n, xb, xr, zs⟩, (HO2.out.mono (by simp +contextual [foot])).trans HE.out.1, fun k hk => ?_, HXB.out, rfl, rfl, HE.out.2⟩
    simp [Value.ownBlock] at hk
    subst hk
    exact HAT.out.imp id (fun e => Nat.le_trans HO2.out.size e)
end
end Go.Proofs.Ytokdpldmoflnkaa
