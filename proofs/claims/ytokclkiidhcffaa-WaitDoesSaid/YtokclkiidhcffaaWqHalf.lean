/-
  Sleepers (parapet/waitq): a map whose elements are slices, each at the head of a block of its own: what it holds, and how that is turned.
-/
import Derived.Test.YtokclkiidhcffaaWqMap
namespace Go.Proofs.Ytokclkiidhcffaa
open Go.ChangeShapes Go.WideShapes Go.ChangeAt Go.RowKit Go.Maps
set_option linter.unusedVariables false

/-- An entry: the key, where its slice stands, what is in it. -/
structure EN (κ α : Type) where
  k : κ
  s : SV
  l : List α
variable {κ α : Type} [DecidableEq κ]
def refsE (R : List (EN κ α)) : List (κ × SO) := R.map fun e => (e.k, some e.s)
def setE (R : List (EN κ α)) (k : κ) (s : SV) (l : List α) : List (EN κ α) := R.map fun x => if x.k = k then ⟨k, s, l⟩ else x
def outE (R : List (EN κ α)) (k : κ) : List (EN κ α) := R.filter fun x => decide (x.k ≠ k)
omit [DecidableEq κ] in
theorem refsE_length (R : List (EN κ α)) : (refsE R).length = R.length := by simp [refsE]
omit [DecidableEq κ] in
theorem refsE_keys (R : List (EN κ α)) : (refsE R).map (·.1) = R.map (·.k) := by simp [refsE]
omit [DecidableEq κ] in
theorem mem_refsE {R : List (EN κ α)} {e : EN κ α} (h : e ∈ R) : (e.k, some e.s) ∈ refsE R := List.mem_map.2 ⟨e, h, rfl⟩
theorem refsE_set (R : List (EN κ α)) (k : κ) (s : SV) (l : List α) : refsE (setE R k s l) = setV (refsE R) k (some s) := by
  unfold refsE setE setV
  rw [List.map_map, List.map_map]
  refine List.map_congr_left fun x _ => ?_
  show ((if x.k = k then (⟨k, s, l⟩ : EN κ α) else x).k, some (if x.k = k then (⟨k, s, l⟩ : EN κ α) else x).s) = if x.k = k then (k, some s) else (x.k, some x.s)
  split <;> rfl
theorem refsE_out (R : List (EN κ α)) (k : κ) : refsE (outE R k) = outV (refsE R) k := by
  unfold refsE outE outV
  rw [List.filter_map]
  rfl
theorem mem_setE {R : List (EN κ α)} {k : κ} {s : SV} {l : List α} {y : EN κ α} (h : y ∈ setE R k s l) : y = ⟨k, s, l⟩ ∨ (y ∈ R ∧ y.k ≠ k) := by
  obtain ⟨x, hx, rfl⟩ := List.mem_map.1 h
  by_cases e : x.k = k
  · simp only [if_pos e]; exact .inl trivial
  · simp only [if_neg e]; exact .inr ⟨hx, e⟩
theorem mem_outE {R : List (EN κ α)} {k : κ} {y : EN κ α} (h : y ∈ outE R k) : y ∈ R ∧ y.k ≠ k := by
  have := List.mem_filter.1 h
  exact ⟨this.1, by simpa using this.2⟩
omit [DecidableEq κ] in
theorem keys_uniq : ∀ {R : List (EN κ α)}, (R.map (·.k)).Nodup → ∀ {x y : EN κ α}, x ∈ R → y ∈ R → x.k = y.k → x = y
  | [], _, _, _, h, _, _ => by cases h
  | z :: R, hn, x, y, hx, hy, e => by
    rw [List.map_cons, List.nodup_cons] at hn
    rcases List.mem_cons.1 hx with ex | hx
    · rcases List.mem_cons.1 hy with ey | hy
      · rw [ex, ey]
      · exact absurd (List.mem_map.2 ⟨y, hy, by rw [← e, ex]⟩) hn.1
    · rcases List.mem_cons.1 hy with ey | hy
      · exact absurd (List.mem_map.2 ⟨x, hx, by rw [e, ey]⟩) hn.1
      · exact keys_uniq hn.2 hx hy e

/-- A row stays where nothing of its block turned. -/
def RowFrame (row : World → Value → List α → Prop) : Prop := ∀ (w w' : World) (v : Value) (l : List α) (S : List Nat), row w v l → Only S w w' → (∀ q, v.ownBlock = some q → q ∉ S) → row w' v l

structure Half (E : Enc κ SO) (kt : TypeId) (row : World → Value → List α → Prop) (w : World) (m : Nat) (R : List (EN κ α)) : Prop where
  own : ∃ D, w.ownsMap Try.prog kt elemSl m (refsE R).length D ∧ MHolds E D (refsE R)
  row : ∀ e ∈ R, row w (svO (some e.s)) e.l
  ne : ∀ e ∈ R, e.l ≠ []
  lt : ∀ e ∈ R, e.s.b < w.heap.size
  rm : ∀ e ∈ R, e.s.b ≠ m
  inj : ∀ e ∈ R, ∀ e' ∈ R, e.s.b = e'.s.b → e.k = e'.k

theorem own_sv {s : SV} {q : Nat} (h : (svO (some s)).ownBlock = some q) : q = s.b := by
  simp [svO, Value.ownBlock] at h
  exact h.symm
theorem ownsMap_only12 {w w' : World} {P : Program} {k : TypeId} {R : Value → Option (DataW Unit × List MemPlace)} {b n : Nat} {D : DataW Unit} {S : List Nat} (h : w.ownsMap P k R b n D) (ho : Only S w w') (hs : b ∉ S) : w'.ownsMap P k R b n D := by
  have hlt := h.lt
  obtain ⟨es, clock, hb, rest⟩ := h
  exact ⟨es, clock, (ho.block b hlt hs).trans hb, rest⟩
theorem blk_map {w : World} {P : Program} {k : TypeId} {R : Value → Option (DataW Unit × List MemPlace)} {b n q : Nat} {D : DataW Unit} {t : TypeId} {cs : Array Value} (h : w.ownsMap P k R b n D) (hb : Blk w q t cs) : q ≠ b := by
  rintro rfl
  obtain ⟨es, clock, h1, _⟩ := h
  unfold Blk at hb
  rw [hb] at h1
  cases h1

section
variable {E : Enc κ SO} {kt : TypeId} {row : World → Value → List α → Prop} {w w' w1 w2 : World} {m : Nat} {R : List (EN κ α)} {S : List Nat}
omit [DecidableEq κ] in
theorem Half.ltm (h : Half E kt row w m R) : m < w.heap.size := by
  obtain ⟨D, h1, _⟩ := h.own
  exact h1.lt
omit [DecidableEq κ] in
theorem Half.keys (h : Half E kt row w m R) : (R.map (·.k)).Nodup := by
  obtain ⟨D, _, h2⟩ := h.own
  rw [← refsE_keys]
  exact h2.nd
omit [DecidableEq κ] in
theorem Half.wf (h : Half E kt row w m R) {e : EN κ α} (he : e ∈ R) : E.wf e.k := by
  obtain ⟨D, _, h2⟩ := h.own
  exact h2.wf _ (mem_refsE he)
omit [DecidableEq κ] in
theorem Half.only (fr : RowFrame row) (h : Half E kt row w m R) (ho : Only S w w') (hm : m ∉ S) (hs : ∀ e ∈ R, e.s.b ∉ S) : Half E kt row w' m R := by
  obtain ⟨D, h1, h2⟩ := h.own
  exact ⟨⟨D, ownsMap_only12 h1 ho hm, h2⟩, fun e he => fr _ _ _ _ _ (h.row e he) ho (fun q hq => by rw [own_sv hq]; exact hs e he), h.ne, fun e he => Nat.lt_of_lt_of_le (h.lt e he) ho.size, h.rm, h.inj⟩
/-- The slice of a key that is there is turned, and kept. -/
theorem Half.set (fr : RowFrame row) (h : Half E kt row w m R) {e : EN κ α} (he : e ∈ R) {s : SV} {l : List α} (ho : Only [e.s.b] w w1) (hr : row w1 (svO (some s)) l) (hl : l ≠ []) (hlt : s.b < w1.heap.size) (hb : s.b = e.s.b ∨ w.heap.size ≤ s.b)
    (ho2 : Only [m] w1 w2) (hown : ∃ D, w2.ownsMap Try.prog kt elemSl m (setV (refsE R) e.k (some s)).length D ∧ MHolds E D (setV (refsE R) e.k (some s))) : Half E kt row w2 m (setE R e.k s l) := by
  have hsm : s.b ≠ m := by
    rcases hb with hb | hb
    · rw [hb]; exact h.rm e he
    · have := h.ltm; omega
  have far : ∀ y ∈ R, y.k ≠ e.k → y.s.b ≠ s.b := fun y hy hk hq => by
    rcases hb with hb | hb
    · exact hk (h.inj y hy e he (hq.trans hb))
    · have := h.lt y hy; omega
  refine ⟨by rw [refsE_set]; exact hown, fun y hy => ?_, fun y hy => ?_, fun y hy => ?_, fun y hy => ?_, fun y hy z hz hq => ?_⟩
  · rcases mem_setE hy with rfl | ⟨hy, hk⟩
    · exact fr _ _ _ _ _ hr ho2 (fun q hq => by rw [own_sv hq]; simpa using hsm)
    · refine fr _ _ _ _ _ (fr _ _ _ _ _ (h.row y hy) ho (fun q hq => ?_)) ho2 (fun q hq => ?_)
      · rw [own_sv hq]; simp only [List.mem_singleton]; exact fun hq => hk (h.inj y hy e he hq)
      · rw [own_sv hq]; simpa using h.rm y hy
  · rcases mem_setE hy with rfl | ⟨hy, hk⟩
    · exact hl
    · exact h.ne y hy
  · rcases mem_setE hy with rfl | ⟨hy, hk⟩
    · exact Nat.lt_of_lt_of_le hlt ho2.size
    · exact Nat.lt_of_lt_of_le (h.lt y hy) (Nat.le_trans ho.size ho2.size)
  · rcases mem_setE hy with rfl | ⟨hy, hk⟩
    · exact hsm
    · exact h.rm y hy
  · rcases mem_setE hy with rfl | ⟨hy, hk⟩
    · rcases mem_setE hz with rfl | ⟨hz, hk'⟩
      · rfl
      · exact absurd hq.symm (far z hz hk')
    · rcases mem_setE hz with rfl | ⟨hz, hk'⟩
      · exact absurd hq (far y hy hk)
      · exact h.inj y hy z hz hq
/-- A key comes, with a slice of its own. -/
theorem Half.new (fr : RowFrame row) (h : Half E kt row w m R) {k : κ} {s : SV} {l : List α} (ho : Only [] w w1) (hr : row w1 (svO (some s)) l) (hl : l ≠ []) (hlt : s.b < w1.heap.size) (hb : w.heap.size ≤ s.b)
    (ho2 : Only [m] w1 w2) (hown : ∃ D, w2.ownsMap Try.prog kt elemSl m (refsE R ++ [(k, some s)]).length D ∧ MHolds E D (refsE R ++ [(k, some s)])) : Half E kt row w2 m (R ++ [⟨k, s, l⟩]) := by
  have hsm : s.b ≠ m := by have := h.ltm; omega
  have mem : ∀ {y : EN κ α}, y ∈ R ++ [⟨k, s, l⟩] → y = ⟨k, s, l⟩ ∨ y ∈ R := fun hy => by simpa [or_comm] using hy
  have e1 : refsE (R ++ [⟨k, s, l⟩]) = refsE R ++ [(k, some s)] := by simp [refsE]
  refine ⟨by rw [e1]; exact hown, fun y hy => ?_, fun y hy => ?_, fun y hy => ?_, fun y hy => ?_, fun y hy z hz hq => ?_⟩
  · rcases mem hy with rfl | hy
    · exact fr _ _ _ _ _ hr ho2 (fun q hq => by rw [own_sv hq]; simpa using hsm)
    · refine fr _ _ _ _ _ (fr _ _ _ _ _ (h.row y hy) ho (fun q hq => by simp)) ho2 (fun q hq => ?_)
      rw [own_sv hq]; simpa using h.rm y hy
  · rcases mem hy with rfl | hy
    · exact hl
    · exact h.ne y hy
  · rcases mem hy with rfl | hy
    · exact Nat.lt_of_lt_of_le hlt ho2.size
    · exact Nat.lt_of_lt_of_le (h.lt y hy) (Nat.le_trans ho.size ho2.size)
  · rcases mem hy with rfl | hy
    · exact hsm
    · exact h.rm y hy
  · rcases mem hy with rfl | hy
    · rcases mem hz with rfl | hz
      · rfl
      · have := h.lt z hz
        have hq : s.b = z.s.b := hq
        omega
    · rcases mem hz with rfl | hz
      · have := h.lt y hy
        have hq : y.s.b = s.b := hq
        omega
      · exact h.inj y hy z hz hq
/-- A key goes; its slice's block may have turned. -/
theorem Half.del (fr : RowFrame row) (h : Half E kt row w m R) {e : EN κ α} (he : e ∈ R) (ho : Only [e.s.b] w w1) (ho2 : Only [m] w1 w2)
    (hown : ∃ D, w2.ownsMap Try.prog kt elemSl m (outV (refsE R) e.k).length D ∧ MHolds E D (outV (refsE R) e.k)) : Half E kt row w2 m (outE R e.k) := by
  refine ⟨by rw [refsE_out]; exact hown, fun y hy => ?_, fun y hy => h.ne y (mem_outE hy).1, fun y hy => Nat.lt_of_lt_of_le (h.lt y (mem_outE hy).1) (Nat.le_trans ho.size ho2.size), fun y hy => h.rm y (mem_outE hy).1, fun y hy z hz => h.inj y (mem_outE hy).1 z (mem_outE hz).1⟩
  obtain ⟨hy, hk⟩ := mem_outE hy
  refine fr _ _ _ _ _ (fr _ _ _ _ _ (h.row y hy) ho (fun q hq => ?_)) ho2 (fun q hq => ?_)
  · rw [own_sv hq]; simp only [List.mem_singleton]; exact fun hq => hk (h.inj y hy e he hq)
  · rw [own_sv hq]; simpa using h.rm y hy
/-- What is in a slice is turned where it stands. -/
theorem Half.mod (fr : RowFrame row) (h : Half E kt row w m R) {e : EN κ α} (he : e ∈ R) {l : List α} (ho : Only [e.s.b] w w1) (hr : row w1 (svO (some e.s)) l) (hl : l ≠ []) : Half E kt row w1 m (setE R e.k e.s l) := by
  have hm : m ∉ [e.s.b] := by simpa using (h.rm e he).symm
  have ho2 : Only [m] w1 w1 := Only.refl _ _
  refine h.set fr he ho hr hl (Nat.lt_of_lt_of_le (h.lt e he) ho.size) (.inl rfl) ho2 ?_
  obtain ⟨D, h1, h2⟩ := h.own
  have e1 : setV (refsE R) e.k (some e.s) = refsE R := by
    unfold setV refsE
    rw [List.map_map]
    refine List.map_congr_left fun x hx => ?_
    show (if x.k = e.k then (e.k, some e.s) else (x.k, some x.s)) = (x.k, some x.s)
    split
    · rename_i hk
      rw [keys_uniq h.keys hx he hk]
    · rfl
  rw [e1]
  exact ⟨D, ownsMap_only12 h1 ho hm, h2⟩
end
end Go.Proofs.Ytokclkiidhcffaa
