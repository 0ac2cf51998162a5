/-
  The laws of the sleepers: rows of channels compared; what a slice within the law's raw slice may weigh.
-/
import Derived.Test.YtokclkiidhcffaaWqFork
import Derived.Test.YtokclkiidhcffaaWqLaw2
namespace Go.Proofs.Ytokclkiidhcffaa
open Go.ChangeShapes Go.WideShapes Go.ChangeAt Go.RowKit Go.Maps Go.Deep
set_option linter.unusedVariables false
theorem chan_neq_no (c : CH) (w : World) : (binOp .neq 32 (.agg (cC c)) (.agg (cC c))).run Try.prog w = .ok (.bool false) w := by
  rw [run_neq_struct, show (Op.equalIn 10000 32 (.agg (cC c)) (.agg (cC c))).run Try.prog w = .ok true w from chan_eq (by simp) w]
  rfl
set_option maxHeartbeats 2000000 in
set_option maxRecDepth 100000 in
theorem sameC_yes {w : World} {v x : Value} {l : List CH} (h : ChansAt w v l) (h' : ChansAt w x l) (hf : l.length ≤ 1000) : Calls Try.prog 30 #[v, x] w fun e w' => e = .returned (.bool true) ∧ Only [] w w' := by
  obtain ⟨A, cap, rfl, hA⟩ := h.parts
  obtain ⟨B, cap2, rfl, hB⟩ := h'.parts
  have HA := hide hA
  have HB := hide hB
  have HL := hide hf
  have HC := hide (fun (W : World) (hw : Only [] w W) (b o : Nat) (hb : A = some ⟨b, o, none⟩) (i : Nat) (s : CH) (hs : l[i]? = some s) => (hb ▸ h.quiet hw : ChansAt W (.slice (some ⟨b, o, none⟩) l.length cap) l).cells hs)
  have HC2 := hide (fun (W : World) (hw : Only [] w W) (b o : Nat) (hb : B = some ⟨b, o, none⟩) (i : Nat) (s : CH) (hs : l[i]? = some s) => (hb ▸ h'.quiet hw : ChansAt W (.slice (some ⟨b, o, none⟩) l.length cap2) l).cells hs)
  have e1 : (((l.length : Nat) : Int) != ((l.length : Nat) : Int)) = false := by simp
  clear h h' hA hB hf
  go_enter Try.func30, Try.ntmps30
  go_wp2
  go_loopw [13] (fun iv wr => ∃ i : Nat, i ≤ l.length ∧ iv = .int .i64 i ∧ Only [] w wr) (fun iv _ => l.length - (intOf iv).toNat)
  case atStart => exact ⟨0, Nat.zero_le _, rfl, Only.refl _ _⟩
  case round =>
    obtain ⟨i, hi, rfl, hw⟩ := hrel
    have HW := hide hw
    by_cases hlt : i < l.length
    · have hltI : (i : Int) < l.length := by omega
      obtain ⟨b, o, rfl⟩ := HA.out (by omega)
      obtain ⟨b2, o2, rfl⟩ := HB.out (by omega)
      obtain ⟨c0, c1, c2⟩ := HC.out wr hw b o rfl i l[i] (by simp [hlt])
      obtain ⟨k0, k1, k2⟩ := HC2.out wr hw b2 o2 rfl i l[i] (by simp [hlt])
      generalize l[i] = x at *
      clear hw
      have heq : ∀ w : World, (binOp .neq 32 (.agg #[.int .i64 x.kind, .int .i64 x.a, .int .i64 x.b]) (.agg #[.int .i64 x.kind, .int .i64 x.a, .int .i64 x.b])).run Try.prog w = .ok (.bool false) w := chan_neq_no x
      go_wp2
      go_region
      go_wp2
      rw [show wrap64 ((i : Int) + 1) = ((i + 1 : Nat) : Int) by have := HL.out; rw [wrap64]; omega]
      refine ⟨⟨i + 1, hlt, rfl, HW.out.drew⟩, ?_⟩
      simp [intOf]
      omega
    · go_wp2
      go_ret
      exact ⟨rfl, hw⟩
theorem weightsAll_mem {H : Type} {P : Program} {e : TypeId} {d : DataW H} {x : Nat} : ∀ {l : List (DataW H)}, d ∈ l → x ∈ d.weights P e → x ∈ DataW.weightsAll P e l
  | a :: r, hd, hx => by
    simp only [DataW.weightsAll, List.mem_append]
    rcases List.mem_cons.1 hd with rfl | hd
    · exact .inl hx
    · exact .inr (weightsAll_mem hd hx)
theorem weightsEach_mem {H : Type} {P : Program} {t : TypeId} {d : DataW H} {x : Nat} : ∀ {ts : List TypeId} {l : List (DataW H)} {j : Nat}, ts[j]? = some t → l[j]? = some d → x ∈ d.weights P t → x ∈ DataW.weightsEach P ts l
  | [], _, j, h, _, _ => by simp at h
  | _ :: _, [], j, _, h, _ => by simp at h
  | a :: r, b :: s, 0, h, h', hx => by
    simp only [List.getElem?_cons_zero, Option.some.injEq] at h h'
    subst h h'
    simp only [DataW.weightsEach, List.mem_append]
    exact .inl hx
  | a :: r, b :: s, j + 1, h, h', hx => by
    simp only [DataW.weightsEach, List.mem_append]
    exact .inr (weightsEach_mem (ts := r) (l := s) (j := j) (by simpa using h) (by simpa using h') hx)
/-- A call's own slice of channels weighs no more than the reach. -/
theorem Rd.on12 {H : Type} {enc : TypeId × Value → H} {w : World} {d : DataW H} {A : Option Addr} {n c : Nat} (h : Rd enc Try.prog w 22 [.slice A n c] d) {i : Nat} (hi : i < n) {q o : Nat} (hA : A = some ⟨q, o, none⟩) {V : Option Addr} {m k : Nat}
    (hc : w.cell? ⟨q, o + (i * 10 + 2), none⟩ = some (.slice V m k)) : m ≤ k ∧ k * 24 ≤ reachBytes := by
  subst hA
  obtain ⟨⟨fu, ps, hf⟩, hw⟩ := h
  rcases open_slice Try.underlying22 hf with ⟨hcs, hx⟩ | ⟨a, len, cap, m', n', D, Pl, hcs, _, hl, hm, hmm, hx, hi'⟩
  · injection hcs with hcs _
    injection hcs with e1 e2 e3
    omega
  · injection hcs with hcs _
    injection hcs with e1 e2 e3
    injection e1 with e1
    subst e1 e2 e3
    have hmc : m' = c := by simpa using hmm
    subst hmc
    simp only [Prod.mk.injEq] at hx
    obtain ⟨cs', hc', htr⟩ := hi' i (by omega)
    obtain ⟨ys, n2, _, hy, hlen, hyl, hfs⟩ := DataW.trod_struct Try.underlying34 htr
    obtain ⟨_, hcl, hat⟩ := World.cells?_some hc'
    rw [cells_op12] at hcl hat
    have h2 := hat 2 (by decide)
    rw [Addr.add_add, add_at, hc] at h2
    have hk : DataW.trod enc Try.prog w 0 (fun _ => true) true n2 30 (List.take (Try.prog.cellsOf 30) (List.drop 2 cs')) = ys[2]? := hfs 2 _ rfl
    have hy2 : 2 < ys.length := by rw [hyl]; decide
    rw [List.getElem?_eq_getElem hy2, show Try.prog.cellsOf 30 = 1 by kernel_rfl, take_one12 cs' 2 (by omega)] at hk
    have e2 : cs'[2]'(by omega) = .slice V m k := by
      rw [List.getElem?_eq_getElem (by omega : 2 < cs'.length)] at h2
      injection h2 with h2
      exact h2.symm
    rw [e2] at hk
    have hby : Try.prog.bytesOf 32 = 24 := by kernel_rfl
    have hR : Rd enc Try.prog w 30 [.slice V m k] (ys[2]).1 := by
      refine ⟨⟨n2, (ys[2]).2, hk⟩, fun x hx2 => hw x ?_⟩
      rw [hx.1]
      simp only [DataW.weights, Try.underlying22, List.mem_cons, List.mem_append]
      right; left
      refine weightsAll_mem (d := D i) (List.mem_map.2 ⟨i, by simpa using hi, rfl⟩) ?_
      simp only [Prod.mk.injEq] at hy
      rw [hy.1]
      simp only [DataW.weights, Try.underlying34]
      exact weightsEach_mem (j := 2) (t := 30) (d := (ys[2]).1) rfl (by simp [hy2]) hx2
    have h24 := Rd.bound Try.underlying30 hR
    rw [hby] at h24
    refine ⟨?_, h24⟩
    rcases open_slice Try.underlying30 hk with ⟨hcs, _⟩ | ⟨a2, len2, cap2, m2, n3, D2, Pl2, hcs, _, hl2, _⟩
    · injection hcs with hcs _
      injection hcs with _ e2 e3
      omega
    · injection hcs with hcs _
      injection hcs with _ e2 e3
      omega
end Go.Proofs.Ytokclkiidhcffaa
