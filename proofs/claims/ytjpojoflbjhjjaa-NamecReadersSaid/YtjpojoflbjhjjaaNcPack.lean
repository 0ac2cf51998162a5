/-
  The cache of names (parapet/namec): the cache and its domain as one; Look, Forget, Kept.
-/
import Derived.Test.YtjpojoflbjhjjaaNcForget
namespace Go.Proofs.Ytjpojoflbjhjjaa
open Go.ChangeShapes Go.WideShapes Go.ChangeAt Go.RowKit Go.Maps
set_option linter.unusedVariables false
set_option linter.unusedSimpArgs false
/-- What is kept: a name, its inode, its entry's number. -/
structure KE where
  key : NM
  inode : Int
  id : Int
def KE.ent (e : KE) : NM × (Int × Int) := (e.key, (e.inode, e.id))
/-- A cache and its domain, plain. -/
structure CS where
  room : Int
  L : List KE
  made : Int
  s : RS
structure OkC (p : CS) : Prop where
  r0 : 1 ≤ p.room
  r1 : p.room ≤ 4096
  len : (p.L.length : Int) ≤ p.room
  nd : (p.L.map KE.key).Nodup
  wf : ∀ e ∈ p.L, e.key.wf
  ids : ∀ e ∈ p.L, 1 ≤ e.id ∧ e.id ≤ p.made
  idn : (p.L.map KE.id).Nodup
  apart : ∀ e ∈ p.L, e.id ∉ p.s.L.map (·.1)
  gone : ∀ x ∈ p.s.L, x.1 ≤ p.made
  cnt : (p.s.L.length : Int) + p.L.length ≤ p.made
  top : p.made < 3900000000000
def CS.drop (p : CS) (i : Nat) : CS :=
  match p.L[i]? with
  | none => p
  | some e => { p with L := p.L.eraseIdx i, s := { p.s with L := p.s.L ++ [(e.id, p.s.ep)] } }
def CS.at (p : CS) (k : NM) : Option Nat := p.L.findIdx? (fun e => decide (e.key = k))
def CS.forget (p : CS) (k : NM) : CS := match p.at k with
  | none => p
  | some i => p.drop i
def CS.evict (p : CS) : CS := if (p.L.length : Int) = p.room then p.drop 0 else p
def CS.put (p : CS) (k : NM) (n : Int) : CS :=
  { (p.forget k).evict with L := (p.forget k).evict.L ++ [⟨k, n, (p.forget k).evict.made + 1⟩], made := (p.forget k).evict.made + 1 }
section
variable {p : CS} {k : NM} {e : KE} {i : Nat}
theorem CS.drop_some (h : p.L[i]? = some e) : p.drop i = { p with L := p.L.eraseIdx i, s := { p.s with L := p.s.L ++ [(e.id, p.s.ep)] } } := by
  unfold CS.drop; rw [h]
theorem CS.at_some (h : p.at k = some i) : ∃ e, p.L[i]? = some e ∧ e.key = k ∧ ∀ j, j < i → (p.L.map KE.key)[j]? ≠ some k := by
  unfold CS.at at h
  obtain ⟨hi, h1, h2⟩ := List.findIdx?_eq_some_iff_getElem.1 h
  refine ⟨p.L[i], List.getElem?_eq_getElem hi, by simpa using h1, fun j hj e => ?_⟩
  have h3 := h2 j hj
  rw [List.getElem?_map, List.getElem?_eq_getElem (by omega)] at e
  simp at e h3
  exact h3 e
theorem CS.at_none (h : p.at k = none) : k ∉ p.L.map KE.key := by
  unfold CS.at at h
  intro hm
  obtain ⟨e, he, rfl⟩ := List.mem_map.1 hm
  have := List.findIdx?_eq_none_iff.1 h e he
  simp at this
theorem nodup_erase {l : List KE} (hn : (l.map KE.key).Nodup) : ∀ {i : Nat} {e : KE}, l[i]? = some e → outV (l.map KE.ent) e.key = (l.eraseIdx i).map KE.ent := by
  induction l with
  | nil => intro i e h; simp at h
  | cons a l ih =>
    intro i e h
    simp only [List.map_cons, List.nodup_cons] at hn
    cases i with
    | zero =>
      simp at h
      subst h
      simp only [List.map_cons, List.eraseIdx_cons_zero, outV, KE.ent, List.filter_cons]
      simp only [ne_eq, not_true_eq_false, decide_false, Bool.false_eq_true, if_false]
      refine List.filter_eq_self.2 (fun x hx => ?_)
      obtain ⟨b, hb, rfl⟩ := List.mem_map.1 hx
      simp only [decide_eq_true_eq]
      intro e
      exact hn.1 (by rw [← e]; exact List.mem_map.2 ⟨b, hb, rfl⟩)
    | succ i =>
      simp at h
      have hm := List.mem_of_getElem? h
      have hne : a.key ≠ e.key := fun q => hn.1 (by rw [q]; exact List.mem_map.2 ⟨e, hm, rfl⟩)
      have h2 := ih hn.2 h
      simp only [outV, List.map_cons, List.eraseIdx_cons_succ, List.filter_cons] at h2 ⊢
      rw [h2]
      simp [KE.ent, hne]
theorem erase_len {l : List KE} (h : l[i]? = some e) : (l.eraseIdx i).length + 1 = l.length := by
  have := (List.getElem?_eq_some_iff.1 h).1
  rw [List.length_eraseIdx]
  split <;> omega
theorem erase_map (f : KE → NM) : ∀ (l : List KE) (i : Nat), (l.map f).eraseIdx i = (l.eraseIdx i).map f
  | [], _ => rfl
  | _ :: _, 0 => rfl
  | a :: l, i + 1 => by simp [erase_map f l i]
theorem erase_other {β : Type} {l : List KE} (f : KE → β) (hn : (l.map f).Nodup) (h : l[i]? = some e) : ∀ x ∈ l.eraseIdx i, f x ≠ f e := by
  induction l generalizing i with
  | nil => simp at h
  | cons a l ih =>
    simp only [List.map_cons, List.nodup_cons] at hn
    cases i with
    | zero =>
      simp at h
      subst h
      intro x hx q
      exact hn.1 (by rw [← q]; exact List.mem_map.2 ⟨x, by simpa using hx, rfl⟩)
    | succ i =>
      simp at h
      intro x hx q
      rcases List.mem_cons.1 (by simpa using hx) with r | r
      · subst r
        exact hn.1 (by rw [q]; exact List.mem_map.2 ⟨e, List.mem_of_getElem? h, rfl⟩)
      · exact ih hn.2 h x r q
theorem OkC.drop (h : OkC p) (hi : p.L[i]? = some e) : OkC (p.drop i) := by
  rw [CS.drop_some hi]
  have hsub := List.eraseIdx_sublist p.L i
  have hl := erase_len hi
  have he := List.mem_of_getElem? hi
  have h1 := h.len
  have h2 := h.cnt
  refine ⟨h.r0, h.r1, by simp only; omega, h.nd.sublist (hsub.map _), fun x hx => h.wf x (hsub.mem hx), fun x hx => h.ids x (hsub.mem hx), h.idn.sublist (hsub.map _), fun x hx hm => ?_, fun x hx => ?_, by simp only [List.length_append, List.length_singleton]; omega, h.top⟩
  · simp only [List.map_append, List.map_cons, List.map_nil, List.mem_append, List.mem_singleton] at hm
    rcases hm with q | q
    · exact h.apart x (hsub.mem hx) q
    · exact erase_other KE.id h.idn hi x hx q
  · rcases List.mem_append.1 hx with q | q
    · exact h.gone x q
    · simp at q; subst q; exact (h.ids e he).2
theorem OkC.forget (h : OkC p) (k : NM) : OkC (p.forget k) := by
  unfold CS.forget
  cases e : p.at k with
  | none => exact h
  | some i =>
    obtain ⟨x, h1, _⟩ := CS.at_some e
    exact h.drop h1
theorem CS.forget_not (h : OkC p) (k : NM) : k ∉ (p.forget k).L.map KE.key := by
  unfold CS.forget
  cases e : p.at k with
  | none => exact CS.at_none e
  | some i =>
    obtain ⟨x, h1, rfl, _⟩ := CS.at_some e
    simp only
    rw [CS.drop_some h1]
    intro hm
    obtain ⟨y, hy, q⟩ := List.mem_map.1 hm
    exact erase_other KE.key h.nd h1 y hy q
theorem CS.forget_made (p : CS) (k : NM) : (p.forget k).made = p.made ∧ (p.forget k).room = p.room ∧ (p.forget k).L.length ≤ p.L.length := by
  unfold CS.forget CS.drop
  cases p.at k with
  | none => exact ⟨rfl, rfl, Nat.le_refl _⟩
  | some i =>
    simp only
    cases p.L[i]? with
    | none => exact ⟨rfl, rfl, Nat.le_refl _⟩
    | some e => exact ⟨rfl, rfl, (List.eraseIdx_sublist _ _).length_le⟩
end
/-- The cache and its domain in memory. -/
def Ca (w : World) (c d : Nat) (p : CS) (G : List Nat) : Prop :=
  ∃ mm v FD, IsCa w c d mm p.room v (p.L.map KE.key) (p.L.map KE.ent) p.made ∧ Rc w d p.s FD ∧ (c ∉ FD ∧ mm ∉ FD ∧ ∀ q, v.ownBlock = some q → q ∉ FD) ∧ OkC p ∧ (∀ q ∈ c :: mm :: (v.ownBlock.toList ++ FD), q ∈ G) ∧ ∀ q ∈ G, q < w.heap.size
def DidC (w w' : World) (c d : Nat) (p : CS) (G : List Nat) : Prop := ∃ G', Tn w w' G G' ∧ Ca w' c d p G'
section
variable {w w' w1 : World} {c d mm : Nat} {room made : Int} {v : Value} {O : List NM} {M : List (NM × (Int × Int))} {S F FD T G : List Nat} {s : RS} {p : CS} {k : NM} {f : Int × Int}
theorem Ca.only (h : Ca w c d p G) (ho : Only S w w') (hs : ∀ q ∈ G, q ∉ S) : Ca w' c d p G := by
  obtain ⟨mm, v, FD, h1, h2, h3, h4, h5, h6⟩ := h
  exact ⟨mm, v, FD, h1.only ho (hs _ (h5 _ (by simp))) (hs _ (h5 _ (by simp))) (fun q hq => hs _ (h5 _ (by simp [hq]))), h2.only ho (fun q hq => hs _ (h5 _ (by simp [hq]))), h3, h4, h5, fun q hq => Nat.lt_of_lt_of_le (h6 q hq) ho.size⟩
theorem Ca.quiet (h : Ca w c d p G) (ho : Only [] w w') : Ca w' c d p G := h.only ho (by simp)
theorem Ca.ok (h : Ca w c d p G) : OkC p := by obtain ⟨mm, v, FD, h1, h2, h3, h4, h5, h6⟩ := h; exact h4
theorem Ca.lt (h : Ca w c d p G) : ∀ q ∈ G, q < w.heap.size := by obtain ⟨mm, v, FD, h1, h2, h3, h4, h5, h6⟩ := h; exact h6
theorem Ca.cG (h : Ca w c d p G) : c ∈ G := by obtain ⟨mm, v, FD, h1, h2, h3, h4, h5, h6⟩ := h; exact h5 _ (by simp)
theorem DidC.same (h : Ca w c d p G) (ho : Only [] w w') : DidC w w' c d p G := ⟨G, Tn.same (ho.mono (by simp)), h.quiet ho⟩
theorem ca_look_yes (h : Ca w c d p G) {i : Nat} (hi : p.at k = some i) : Calls Try.prog 12 #[.pointer (some ⟨c, 0, none⟩), kV k] w fun e w' => (∃ x, p.L[i]? = some x ∧ e = .returned (.tuple #[.int .i64 x.inode, .bool true])) ∧ Only [] w w' := by
  obtain ⟨mm, v, FD, h1, h2, h3, h4, h5, h6⟩ := h
  obtain ⟨x, hx, rfl, _⟩ := CS.at_some hi
  exact (ncLook_yes h1 (f := (x.inode, x.id)) (List.mem_map.2 ⟨x, List.mem_of_getElem? hx, rfl⟩)).mono (fun e w' ⟨a, b⟩ => ⟨⟨x, hx, a⟩, b⟩)
theorem ents_keys (l : List KE) : (l.map KE.ent).map (·.1) = l.map KE.key := by simp [KE.ent]
theorem ca_look_no (h : Ca w c d p G) (hk : k.wf) (hi : p.at k = none) : Calls Try.prog 12 #[.pointer (some ⟨c, 0, none⟩), kV k] w fun e w' => e = .returned (.tuple #[.int .i64 0, .bool false]) ∧ Only [] w w' := by
  obtain ⟨mm, v, FD, h1, h2, h3, h4, h5, h6⟩ := h
  exact ncLook_no h1 hk (by rw [ents_keys]; exact CS.at_none hi)
theorem ca_kept (h : Ca w c d p G) : Calls Try.prog 21 #[.pointer (some ⟨c, 0, none⟩)] w fun e w' => ∃ v', e = .returned v' ∧ NRw w' v' (p.L.map KE.key) ∧ (∀ q, v'.ownBlock = some q → w.heap.size ≤ q) ∧ Only [] w w' := by
  obtain ⟨mm, v, FD, h1, h2, h3, h4, h5, h6⟩ := h
  exact ncKept_is h1 (by have := h4.len; have := h4.r1; simp; omega)
/-- Forget. -/
theorem ca_forget (h : Ca w c d p G) (hk : k.wf) : Calls Try.prog 16 #[.pointer (some ⟨c, 0, none⟩), kV k] w fun e w' => e = .returned (.bool (p.at k).isSome) ∧ DidC w w' c d (p.forget k) G := by
  have h0 := h
  obtain ⟨mm, v, FD, h1, h2, h3, h4, h5, h6⟩ := h
  cases hi : p.at k with
  | none =>
    refine (ncForget_no h1 hk (by rw [ents_keys]; exact CS.at_none hi)).mono (fun e w' ⟨a, b⟩ => ⟨a, ?_⟩)
    have e1 : p.forget k = p := by unfold CS.forget; rw [hi]
    rw [e1]
    exact DidC.same h0 b
  | some i =>
    obtain ⟨x, hx, rfl, hj⟩ := CS.at_some hi
    have e1 : p.forget x.key = p.drop i := by unfold CS.forget; rw [hi]
    have hm := List.mem_of_getElem? hx
    have h7 := h4.len
    have h8 := h4.r1
    have h9 := h4.cnt
    have h10 := h4.top
    have h11 := h4.ids x hm
    have h12 := erase_len hx
    refine (ncForget_yes h1 h2 h3 (by simp; omega) i (by rw [List.getElem?_map, hx]; rfl) hj (f := (x.inode, x.id)) (List.mem_map.2 ⟨x, hm, rfl⟩) (iW_of (by simp only; omega) (by simp only; omega)) (h4.apart x hm) (by omega)).mono (fun e w' ⟨a, v', FD', i1, i2, i3, i4, i5, i6⟩ => ⟨a, c :: mm :: (v'.ownBlock.toList ++ FD'), ⟨i3.mono (fun q _ hq => h5 q hq), fun q hq => ?_⟩, ?_⟩)
    · rcases List.mem_cons.1 hq with r | r
      · subst r; exact .inl (h5 _ (by simp))
      rcases List.mem_cons.1 r with r | r
      · subst r; exact .inl (h5 _ (by simp))
      rcases List.mem_append.1 r with r | r
      · exact (i4 q (by simpa using r)).imp_left (fun t => h5 _ (by simp [t]))
      · exact (i5 q r).imp_left (fun t => h5 _ (by simp [t]))
    · have hok := h4.drop hx
      rw [e1]
      rw [CS.drop_some hx] at hok ⊢
      refine ⟨mm, v', FD', ?_, i2, i6, hok, fun q hq => hq, fun q hq => ?_⟩
      · rw [nodup_erase h4.nd hx, erase_map] at i1
        exact i1
      · rcases List.mem_cons.1 hq with r | r
        · subst r; exact i1.lt.1
        rcases List.mem_cons.1 r with r | r
        · subst r; exact i1.lt.2.1
        rcases List.mem_append.1 r with r | r
        · exact i1.lt.2.2 q (by simpa using r)
        · exact i2.lt q r
end
end Go.Proofs.Ytjpojoflbjhjjaa
