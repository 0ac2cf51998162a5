/-
  The document's cache of names (parapetref19), packed over the same plain state as the program's: Look, Put, Forget, ForgetDir.
-/
import Derived.Test.YtjpojoflbjhjjaaNcXDrop
import Derived.Test.YtjpojoflbjhjjaaNcForgetDir
namespace Go.Proofs.Ytjpojoflbjhjjaa
open Go.ChangeShapes Go.WideShapes Go.ChangeAt Go.RowKit Go.Maps
set_option linter.unusedVariables false
set_option linter.unusedSimpArgs false
def Xc (w : World) (x : Nat) (p : CS) (F : List Nat) : Prop :=
  ∃ v u, XIs w x v u p.room p.made p.L (p.s.L.map (·.1)) ∧ (∀ q ∈ x :: (v.ownBlock.toList ++ u.ownBlock.toList), q ∈ F) ∧ ∀ q ∈ F, q < w.heap.size
def DidX (w w' : World) (x : Nat) (p : CS) (F : List Nat) : Prop := ∃ F', Tn w w' F F' ∧ Xc w' x p F'
section
variable {w w' w1 : World} {x : Nat} {p : CS} {F S : List Nat} {k : NM} {i : Nat} {e : KE}
theorem XIs.lts {v u : Value} {room made : Int} {L : List KE} {Gn : List Int} (h : XIs w x v u room made L Gn) : ∀ q ∈ x :: (v.ownBlock.toList ++ u.ownBlock.toList), q < w.heap.size := by
  intro q hq
  rcases List.mem_cons.1 hq with rfl | hq
  · exact h.blk.lt
  · rcases List.mem_append.1 hq with hq | hq
    · exact (h.rl.at_ (by simpa using hq)).1
    · exact (KRow.at_ h.rg (by simpa using hq)).2.1
theorem Xc.only (h : Xc w x p F) (ho : Only S w w') (hs : ∀ q ∈ F, q ∉ S) : Xc w' x p F := by
  obtain ⟨v, u, h1, h2, h3⟩ := h
  exact ⟨v, u, h1.only ho (hs _ (h2 _ (by simp))) (fun q hq => hs _ (h2 _ (by simp [hq]))) (fun q hq => hs _ (h2 _ (by simp [hq]))), h2, fun q hq => Nat.lt_of_lt_of_le (h3 q hq) ho.size⟩
theorem Xc.quiet (h : Xc w x p F) (ho : Only [] w w') : Xc w' x p F := h.only ho (by simp)
theorem DidX.same (h : Xc w x p F) (ho : Only [] w w') : DidX w w' x p F := ⟨F, Tn.same (ho.mono (by simp)), h.quiet ho⟩
theorem xc_find (h : Xc w x p F) (ok : OkC p) (k : NM) : Calls Try.prog 34 #[.pointer (some ⟨x, 0, none⟩), kV k] w fun e w' => e = .returned (.int .i64 (atI p.L k)) ∧ Only [] w w' := by
  obtain ⟨v, u, h1, h2, h3⟩ := h
  exact xfind_is h1 (by have := ok.len; have := ok.r1; omega) k
theorem xc_drop (h : Xc w x p F) (ok : OkC p) (hi : p.L[i]? = some e) : Calls Try.prog 36 #[.pointer (some ⟨x, 0, none⟩), .int .i64 i] w fun e' w' => e' = .returned (.tuple #[]) ∧ DidX w w' x (p.drop i) F := by
  obtain ⟨v, u, h1, h2, h3⟩ := h
  refine (xdrop_is h1 (by have := ok.len; have := ok.r1; omega) (by have := ok.cnt; have := ok.top; simp; omega) hi).mono ?_
  rintro e' w' ⟨rfl, v', u', g1, g2, g3, g4⟩
  rw [CS.drop_some hi]
  refine ⟨rfl, x :: (v'.ownBlock.toList ++ u'.ownBlock.toList), ⟨g2.mono (fun q _ hq => h2 q ?_), fun q hq => ?_⟩, v', u', ?_, fun q hq => hq, g1.lts⟩
  · rcases List.mem_cons.1 hq with rfl | hq
    · simp
    · simp [hq]
  · rcases List.mem_cons.1 hq with rfl | hq
    · exact .inl (h2 _ (by simp))
    · rcases List.mem_append.1 hq with hq | hq
      · exact .inr (g3 q (by simpa using hq))
      · exact (g4 q (by simpa using hq)).imp_left (fun t => h2 q (by simp [t]))
  · show XIs w' x v' u' p.room p.made (p.L.eraseIdx i) ((p.s.L ++ [(e.id, p.s.ep)]).map (·.1))
    rw [List.map_append]
    exact g1
theorem atI_at (p : CS) (k : NM) : atI p.L k = match p.at k with | none => -1 | some i => (i : Nat) := rfl
set_option maxRecDepth 100000 in
theorem xc_look (h : Xc w x p F) (ok : OkC p) (k : NM) : Calls Try.prog 13 #[.pointer (some ⟨x, 0, none⟩), kV k] w fun e w' => ((p.at k = none ∧ e = .returned (.tuple #[.int .i64 0, .bool false])) ∨ ∃ i y, p.at k = some i ∧ p.L[i]? = some y ∧ e = .returned (.tuple #[.int .i64 y.inode, .bool true])) ∧ Only [] w w' := by
  have HF := hide (fun W (ho : Only [] w W) => xc_find (h.quiet ho) ok k)
  rw [atI_at] at HF
  cases e : p.at k with
  | none =>
    rw [e] at HF
    dsimp only [kV] at HF ⊢
    clear h ok
    go_enter Try.func13, Try.ntmps13
    go_wp2_with (go_at_call 34; refine (HF.out _ (by repeat (first | exact Only.refl _ _ | apply Only.drew | apply Only.alloc))).mono ?_; rintro e w1 ⟨rfl, ho⟩; have HO := hide (((Only.refl [] w).alloc (.cells #[.int .i64 k.dir, .string k.name] 42)).trans ho); clear ho)
    go_ret2
    exact ⟨.inl ⟨by first | trivial | rfl, rfl⟩, HO.out⟩
  | some i =>
    rw [e] at HF
    obtain ⟨y, hy, hyk, _⟩ := CS.at_some e
    obtain ⟨v, u, h1, h2, h3⟩ := h
    obtain ⟨A, cap, ev, hA⟩ := h1.rl.form
    subst ev
    have hil := (List.getElem?_eq_some_iff.1 hy).1
    obtain ⟨b, rfl, hb⟩ := hA (by omega)
    have hcc := (h1.rl.cell rfl rfl hy).2.2.1
    have hltI : (i : Int) < p.L.length := by omega
    have HC := hide (fun W (ho : Only [] w W) => And.intro (h1.quiet ho).c1 ((ho.cell hb (by simp)).trans hcc))
    have HY := hide hy
    dsimp only [kV] at HF ⊢
    clear h1 h2 h3 hA hcc ok hy
    go_enter Try.func13, Try.ntmps13
    go_wp2_with (go_at_call 34; refine (HF.out _ (by repeat (first | exact Only.refl _ _ | apply Only.drew | apply Only.alloc))).mono ?_; rintro e w1 ⟨rfl, ho⟩; have HO := hide (((Only.refl [] w).alloc (.cells #[.int .i64 k.dir, .string k.name] 42)).trans ho); obtain ⟨k1, k2⟩ := HC.out _ HO.out; clear ho)
    go_ret2
    exact ⟨.inr ⟨i, y, by first | trivial | rfl, HY.out, rfl⟩, HO.out⟩
set_option maxRecDepth 100000 in
theorem xc_forget (h : Xc w x p F) (ok : OkC p) (k : NM) : Calls Try.prog 17 #[.pointer (some ⟨x, 0, none⟩), kV k] w fun e w' => e = .returned (.bool (p.at k).isSome) ∧ DidX w w' x (p.forget k) F := by
  have HF := hide (fun W (ho : Only [] w W) => xc_find (h.quiet ho) ok k)
  have H := hide h
  have hfd : p.forget k = match p.at k with | none => p | some i => p.drop i := rfl
  rw [atI_at] at HF
  rw [hfd]
  cases e : p.at k with
  | none =>
    rw [e] at HF
    dsimp only [kV] at HF ⊢
    clear h ok hfd
    go_enter Try.func17, Try.ntmps17
    go_wp2_with (go_at_call 34; refine (HF.out _ (by repeat (first | exact Only.refl _ _ | apply Only.drew | apply Only.alloc))).mono ?_; rintro e w1 ⟨rfl, ho⟩; have HO := hide (((Only.refl [] w).alloc (.cells #[.int .i64 k.dir, .string k.name] 42)).trans ho); clear ho)
    go_ret
    exact ⟨rfl, DidX.same H.out HO.out⟩
  | some i =>
    rw [e] at HF
    obtain ⟨y, hy, hyk, _⟩ := CS.at_some e
    have hge : decide ((i : Int) ≥ 0) = true := by simp
    have HD := hide (fun W (ho : Only [] w W) => xc_drop (h.quiet ho) ok hy)
    dsimp only [kV] at HF ⊢
    clear h ok hy hfd
    go_enter Try.func17, Try.ntmps17
    go_wp2_with (first | (go_at_call 34; refine (HF.out _ (by repeat (first | exact Only.refl _ _ | apply Only.drew | apply Only.alloc))).mono ?_; rintro e w1 ⟨rfl, ho⟩; have HO := hide (((Only.refl [] w).alloc (.cells #[.int .i64 k.dir, .string k.name] 42)).trans ho); clear ho) | (go_at_call 36; refine (HD.out _ HO.out).mono ?_; rintro e w2 ⟨rfl, hd⟩; have HX := hide hd; clear hd))
    go_ret
    obtain ⟨F', t1, t2⟩ := HX.out
    exact ⟨by simp, F', ⟨(HO.out.mono (by simp)).trans t1.1, fun q hq => (t1.2 q hq).imp_right (fun g => Nat.le_trans HO.out.size g)⟩, t2⟩
end
end Go.Proofs.Ytjpojoflbjhjjaa
