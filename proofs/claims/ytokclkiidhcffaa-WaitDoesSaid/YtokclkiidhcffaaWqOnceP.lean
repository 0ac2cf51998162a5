/-
  'WaitOnce': what becomes of the keys of the first list; the queue beside the law's map.
-/
import Derived.Test.YtokclkiidhcffaaWqLaw2
import Derived.Test.YtokclkiidhcffaaWqMapB
namespace Go.Proofs.Ytokclkiidhcffaa
open Go.ChangeShapes Go.WideShapes Go.ChangeAt Go.RowKit Go.Maps
set_option linter.unusedVariables false

def keysW (s : LW) : List Int := s.1.map (·.1)
def lessK (K : List Int) (t : Int) : List Int := K.filter fun x => decide (x ≠ t)
theorem outL_keys (L : List (Int × List CH)) (t : Int) : (outL L t).map (·.1) = lessK (L.map (·.1)) t := by
  unfold outL lessK
  rw [List.filter_map]
  rfl
theorem keys_off (s : LW) (t : Int) : keysW (offS s t) = lessK (keysW s) t := outL_keys _ _
theorem keys_move (c d : CH) (s : LW) (t : Int) : keysW (moveS c d s t) = keysW s := setL_keys _ _ _
theorem keys_moveF (c d : CH) (n : Int) : ∀ (l : List Int) (p : LW × Nat), keysW (l.foldl (stepMv c d n) p).1 = keysW p.1
  | [], p => rfl
  | t :: r, p => by
    rw [List.foldl_cons, keys_moveF c d n r]
    unfold stepMv
    split
    · rfl
    · split
      · rfl
      · exact keys_move c d p.1 t
theorem keys_moveQ (s : LW) (c d : CH) (n : Int) : keysW (moveQ s c d n).1 = keysW s := keys_moveF c d n _ _
theorem keys_offAll_snoc (s : LW) (l : List Int) (t : Int) : keysW (offAll s (l ++ [t])) = lessK (keysW (offAll s l)) t := by
  rw [offAll_snoc, keys_off]
theorem mem_offAll {t : Int} : ∀ (l : List Int) (s : LW), t ∉ l → t ∈ keysW s → t ∈ keysW (offAll s l)
  | [], s, _, h => h
  | x :: r, s, hn, h => by
    simp at hn
    refine mem_offAll r (offS s x) hn.2 ?_
    rw [keys_off]
    unfold lessK
    exact List.mem_filter.2 ⟨h, by simpa using hn.1⟩
theorem sleepE_keys {s : LW} {t : Int} {l : List CH} (h : sleepE s t l = 0) : t ∉ keysW s ∧ keysW (sleepS s t l) = keysW s ++ [t] := by
  have h2 := h
  unfold sleepE at h
  split at h
  · cases h
  · split at h
    · cases h
    · rename_i hn
      refine ⟨hn, ?_⟩
      unfold sleepS
      rw [if_pos h2]
      simp [keysW]
theorem sleepE_same {s : LW} {t : Int} {l : List CH} (h : sleepE s t l ≠ 0) : sleepS s t l = s := by
  unfold sleepS
  rw [if_neg h]
theorem wakeK_is (s : LW) (c : CH) (n : Int) : max 0 (min ((atL s.2 c).length : Int) n) = ((wakeK s c n : Nat) : Int) := by
  unfold wakeK
  omega
/-- The queue beside the law's map. -/
structure OnceR (w0 : World) (g mb m : Nat) (s : LW) (W : World) : Prop where
  q : LQ w0 W g s m [mb]
  b : BMap W mb (keysW s)
theorem keysW_few {w0 w : World} {g m : Nat} {s : LW} {bs : List Nat} (h : LQ w0 w g s m bs) : (keysW s).length ≤ 64 := by
  unfold keysW
  rw [List.length_map]
  exact h.ok.few
theorem Wq.keyI {w : World} {g : Nat} {L1 : List (Int × List CH)} {L2 : List (CH × List Int)} {F : List Nat} (h : Wq w g L1 L2 F) : ∀ t ∈ L1.map (·.1), iW t := fun t ht => h.wf1 ht
theorem LQ.keyI {w0 w : World} {g m : Nat} {s : LW} {bs : List Nat} (h : LQ w0 w g s m bs) : ∀ t ∈ keysW s, iW t := by
  obtain ⟨F, h⟩ := h
  exact h.q.keyI
end Go.Proofs.Ytokclkiidhcffaa
