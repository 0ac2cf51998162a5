/-
  Open files (parapet/fdtab): Dup, Close.
-/
import Derived.Test.YtfplfpfnlffnjaaFdFds
namespace Go.Proofs.Ytfplfpfnlffnjaa
open Go.ChangeShapes Go.WideShapes Go.ChangeAt Go.RowKit Go.Maps
set_option linter.unusedVariables false
set_option linter.unusedSimpArgs false
section
variable {w w' w1 : World} {t f m : Nat} {O : List (Int × F5)} {T : List Int} {S : List Nat} {k : Int} {x : F5}
/-- A descriptor that names nothing, or is none. -/
def badFd (T : List Int) (a : Int) : Prop := (a < 0 ∨ 16 ≤ a) ∨ ∃ i : Nat, i < 16 ∧ a = i ∧ gb T i = -1
theorem tget_no2 (h : IsTa w t f T) {a : Int} (ha : badFd T a) : Calls Try.prog 15 #[.pointer (some ⟨t, 0, none⟩), .int .i64 a] w fun e w' => e = .returned (.tuple #[.int .i64 0, .int .i64 220]) ∧ w = w' := by
  rcases ha with ha | ⟨i, hi, rfl, hg⟩
  · exact tget_bad h ha
  · exact tget_free h hi hg
theorem dup_bad (h : IsTa w t f T) {a : Int} (ha : badFd T a) : Calls Try.prog 12 #[.pointer (some ⟨t, 0, none⟩), .int .i64 a] w fun e w' => e = .returned (.tuple #[.int .i64 0, .int .i64 220]) ∧ w = w' := by
  have HC := hide (tget_no2 h ha)
  clear h ha
  go_enter Try.func12, Try.ntmps12
  go_wp2_with (go_at_call 15; refine HC.out.mono ?_; rintro e w' ⟨rfl, rfl⟩)
  go_ret2
  exact ⟨rfl, rfl⟩
theorem dup_ok (h : IsTa w t f T) (hf : IsFi w f m O) {i j : Nat} (hi : i < 16) (hg : gb T i = k) (hp : (k, x) ∈ O) (r0 : 0 ≤ x.refs) (r1 : x.refs < 4611686018427387904) (hj : j < 16) (hF : freeT T = j) : Calls Try.prog 12 #[.pointer (some ⟨t, 0, none⟩), .int .i64 i] w fun e w' => e = .returned (.tuple #[.int .i64 j, .int .i64 0]) ∧ IsTa w' t f (T.set j k) ∧ IsFi w' f m (setV O k { x with refs := x.refs + 1 }) ∧ Only [t, m] w w' := by
  obtain ⟨h0, h64⟩ := hf.ids _ hp
  dsimp only at h0 h64
  have HG := hide (tget_ok h hi (by omega))
  rw [hg] at HG
  have HI := hide (install_ok h hf (iW_small (x := k) (by omega) (by omega)) (List.mem_map.2 ⟨_, hp, rfl⟩) hj hF)
  obtain ⟨tf, tm⟩ := h.tf hf
  have HS := hide (fun (W : World) (ht : IsTa W t f (T.set j k)) (ho : Only [t] w W) => (share_is (hf.only ho (by simpa using tf.symm) (by simpa using tm.symm)) hp r0 r1).mono (R' := fun e w' => e = .returned (.tuple #[]) ∧ IsTa w' t f (T.set j k) ∧ IsFi w' f m (setV O k { x with refs := x.refs + 1 }) ∧ Only [t, m] w w') (fun e w' ⟨q1, q2, q3⟩ => ⟨q1, ht.only q3 (by simpa using tm), q2, (ho.mono (fun q _ hq => by simp at hq; simp [hq])).trans (q3.mono (fun q _ hq => by simp at hq; simp [hq]))⟩))
  clear h hf hp r0 r1 hF
  go_enter Try.func12, Try.ntmps12
  go_wp2_with (first | (go_at_call 15; refine HG.out.mono ?_; rintro e w' ⟨rfl, rfl⟩) | (go_at_call 11; refine HI.out.mono ?_; rintro e w1 ⟨rfl, ht, ho⟩; have c0 := ht.c0; have HT := hide ht; have HO := hide ho; clear ht ho) | (go_at_call 42; refine (HS.out _ HT.out HO.out).mono ?_; rintro e w2 ⟨rfl, q⟩; have HQ := hide q; clear q))
  go_ret2
  exact ⟨rfl, HQ.out⟩
theorem close_bad (h : IsTa w t f T) {a : Int} (ha : badFd T a) : Calls Try.prog 13 #[.pointer (some ⟨t, 0, none⟩), .int .i64 a] w fun e w' => e = .returned (.tuple #[fV f0, .bool false, .int .i64 220]) ∧ Only [] w w' := by
  have HC := hide (fun W (ho : Only [] w W) => tget_no2 (h.quiet ho) ha)
  clear h ha
  go_enter Try.func13, Try.ntmps13
  go_wp2_with (go_at_call 15; refine (HC.out _ (by repeat (first | exact Only.refl _ _ | apply Only.drew | apply Only.drewN | apply Only.alloc))).mono ?_; rintro e w' ⟨rfl, rfl⟩)
  exact bodyPost_ret (drop_results (p := 4) (q := 5) (s := 6) (f := f0) rfl rfl rfl rfl (heap_alloc_new w _)) rfl ⟨rfl, (by repeat (first | exact Only.refl _ _ | apply Only.drew | apply Only.drewN | apply Only.alloc))⟩
/-- Close, whatever Drop does of the file. -/
theorem close_any (h : IsTa w t f T) (hf : IsFi w f m O) {i : Nat} (hi : i < 16) (hg : gb T i = k) (hk : 0 ≤ k) {y : F5} {gone : Bool} {er : Int} {O' : List (Int × F5)}
    (hd : ∀ W, IsFi W f m O → Calls Try.prog 20 #[.pointer (some ⟨f, 0, none⟩), .int .i64 k] W fun e w' => e = .returned (.tuple #[fV y, .bool gone, .int .i64 er]) ∧ IsFi w' f m O' ∧ Only [m] W w') :
    Calls Try.prog 13 #[.pointer (some ⟨t, 0, none⟩), .int .i64 i] w fun e w' => e = .returned (.tuple #[fV y, .bool gone, .int .i64 er]) ∧ IsTa w' t f (T.set i (-1)) ∧ IsFi w' f m O' ∧ Only [t, m] w w' := by
  have HG := hide (fun W (ho : Only [] w W) => tget_ok (h.quiet ho) hi (by omega))
  rw [hg] at HG
  obtain ⟨tf, tm⟩ := h.tf hf
  have hoa : Only [] w (w.alloc (.cells (fC f0) 42)) := (Only.refl _ _).alloc _
  have ta := h.quiet hoa
  have ts := ta.set i (y := -1) (by omega)
  have c1 := ts.c0
  have ci := ta.ci hi
  have fi := ta.fr (1 + i)
  have h3 : (i : Int) < 16 := by omega
  have l1 := hf.lt
  have l2 := h.blk.lt
  have hos : Only [t] w ((w.alloc (.cells (fC f0) 42)).setCell ⟨t, 1 + i, none⟩ (.int .i64 (-1))) := (hoa.mono (by simp)).setCell _ (by simp)
  have HD := hide ((hd _ (hf.only hos (by simpa using tf.symm) (by simpa using tm.symm))).mono (R' := fun e w' => e = .returned (.tuple #[fV y, .bool gone, .int .i64 er]) ∧ Blk w' w.heap.size 42 (fC f0) ∧ IsTa (w'.setRow w.heap.size (fC y)) t f (T.set i (-1)) ∧ IsFi (w'.setRow w.heap.size (fC y)) f m O' ∧ Only [t, m] w (w'.setRow w.heap.size (fC y))) (fun e w' ⟨q1, q2, q3⟩ =>
    ⟨q1, ((Blk.new w 42 (fC f0)).far (p := ⟨t, 1 + i, none⟩) (by show w.heap.size ≠ t; omega) _).only q3 (by simp; omega), (ts.only q3 (by simpa using tm)).only (S := [w.heap.size]) ((Only.refl _ _).setRow _ (by simp)) (by simp; omega), q2.only (S := [w.heap.size]) ((Only.refl _ _).setRow _ (by simp)) (by simp; omega) (by simp; omega),
      ((hos.mono (fun q _ hq => by simp at hq; simp [hq])).trans (q3.mono (S' := [t, m]) (fun q _ hq => by simp at hq; simp [hq]))).setRow _ (fun hlt => absurd hlt (Nat.lt_irrefl _))⟩))
  clear h hf hd tf tm ta ts hos l1 l2 hoa hk
  obtain ⟨y1, y2, y3, y4, y5⟩ := y
  dsimp only [fV, fC] at HD ci fi c1 ⊢
  generalize hgi : gb T i = z at *
  subst hg
  go_enter Try.func13, Try.ntmps13
  go_wp2_with (first | (with_reducible refine wp_region_lit (id := 5) ?_) | (go_at_call 15; refine (HG.out _ (by repeat (first | exact Only.refl _ _ | apply Only.drew | apply Only.drewN | apply Only.alloc))).mono ?_; rintro e w' ⟨rfl, rfl⟩) | (go_at_call 20; refine HD.out.mono ?_; rintro e w2 ⟨rfl, q⟩; have HQ := hide q; clear q) | ((with_reducible refine file_store (.tmp 4) (.tmp 30) ⟨y1, y2, y3, y4, y5⟩ (fo := f0) HQ.out.1 ?_ ?_ ?_); (· rfl); (· rfl)))
  (try simp only [Exit.inBlock, Exit.then])
  exact bodyPost_ret (drop_results (p := 4) (q := 5) (s := 6) (f := ⟨y1, y2, y3, y4, y5⟩) rfl rfl rfl rfl (HQ.out.1.row _)) rfl ⟨rfl, HQ.out.2⟩
end
end Go.Proofs.Ytfplfpfnlffnjaa
