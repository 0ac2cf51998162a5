/-
  The log (parapet/wlog): a header's bytes.
-/
import Derived.Test.YtokdpldmoflnkaaMg02
import Derived.Maps.Own
import Derived.Maps.OwnSet
import Derived.Maps.OwnOps
import Derived.Maps.RangeWalk
import Derived.Maps.Ext
import Derived.Laws.AppendOwnNone
namespace Go.Proofs.Ytokdpldmoflnkaa
open Go.ChangeShapes Go.WideShapes Go.ChangeAt Go.RowKit
set_option linter.unusedVariables false

/-- The numbers of blocks, two bytes each. -/
def numsF (ns : List Int) : List Int := ns.flatMap (beB 2)
theorem numsF_length (ns : List Int) : (numsF ns).length = 2 * ns.length := by
  induction ns with
  | nil => rfl
  | cons n ns ih => simp only [numsF, List.flatMap_cons, List.length_append, beB_length, List.length_cons] at ih ⊢; omega
theorem numsF_snoc (ns : List Int) (n : Int) : numsF (ns ++ [n]) = numsF ns ++ beB 2 n := by simp [numsF]
theorem u8_numsF (ns : List Int) : U8 (numsF ns) := by
  intro x hx
  obtain ⟨n, _, h⟩ := List.mem_flatMap.1 hx
  exact u8_beB 2 n x h
/-- A header's bytes. -/
def hdrF (gen : Int) (ns : List Int) : List Int := beB 8 gen ++ beB 2 ns.length ++ numsF ns ++ List.replicate (494 - 2 * ns.length) 0 ++ beB 8 gen
theorem hdrF_length (gen : Int) (ns : List Int) (h : ns.length ≤ 247) : (hdrF gen ns).length = 512 := by
  simp [hdrF, beB_length, numsF_length]
  omega
theorem u8_hdrF (gen : Int) (ns : List Int) : U8 (hdrF gen ns) :=
  ((((u8_beB 8 _).append (u8_beB 2 _)).append (u8_numsF _)).append (U8.replicate _)).append (u8_beB 8 _)
/-- A header as far as its first i blocks are laid. -/
def partF (gen : Int) (ns : List Int) (i : Nat) : List Int := beB 8 gen ++ beB 2 ns.length ++ numsF (ns.take i) ++ List.replicate (502 - 2 * i) 0
theorem splice_at {xs : List Int} (A B : List Int) {ys : List Int} {o : Nat} (h : xs = A ++ B) (ho : A.length = o) : Go.splice xs o ys = A ++ ys ++ B.drop ys.length := by
  subst h; subst ho; exact splice_app A B ys
theorem part_step (gen : Int) (ns : List Int) (i : Nat) (h : i < ns.length) (hn : ns.length ≤ 247) : Go.splice (partF gen ns i) (10 + 2 * i) (beB 2 (gb ns i)) = partF gen ns (i + 1) := by
  have h1 := splice_at (xs := partF gen ns i) (ys := beB 2 (gb ns i)) (o := 10 + 2 * i) (beB 8 gen ++ beB 2 ns.length ++ numsF (ns.take i)) (List.replicate (502 - 2 * i) 0) rfl (by simp [beB_length, numsF_length]; omega)
  rw [h1]
  unfold partF
  rw [List.take_succ_eq_append_getElem h, numsF_snoc, show ns[i] = gb ns i from by simp [gb, List.getD, h], List.drop_replicate, beB_length, show 502 - 2 * i - 2 = 502 - 2 * (i + 1) from by omega]
  simp only [List.append_assoc]
theorem part_end (gen : Int) (ns : List Int) (hn : ns.length ≤ 247) : Go.splice (partF gen ns ns.length) 504 (beB 8 gen) = hdrF gen ns := by
  have e : 502 - 2 * ns.length = 494 - 2 * ns.length + 8 := by omega
  rw [splice_at (beB 8 gen ++ beB 2 ns.length ++ numsF ns ++ List.replicate (494 - 2 * ns.length) 0) (List.replicate 8 0) (by unfold partF; rw [List.take_of_length_le (Nat.le_refl _), e, ← List.replicate_append_replicate]; simp only [List.append_assoc]) (by simp [beB_length, numsF_length]; omega)]
  rw [List.drop_of_length_le (by simp [beB_length]), List.append_nil]
  rfl
theorem part_start (gen : Int) (ns : List Int) : Go.splice (Go.splice (List.replicate 512 0) 0 (beB 8 gen)) 8 (beB 2 ns.length) = partF gen ns 0 := by
  have e : Go.splice (List.replicate 512 0) 0 (beB 8 gen) = beB 8 gen ++ List.replicate 504 0 := by
    have h1 := splice_at (xs := List.replicate 512 0) (ys := beB 8 gen) (o := 0) [] (List.replicate 512 0) rfl rfl
    rw [h1, beB_length, List.drop_replicate]
    rfl
  have h2 := splice_at (xs := beB 8 gen ++ List.replicate 504 0) (ys := beB 2 ns.length) (o := 8) (beB 8 gen) (List.replicate 504 0) rfl (beB_length 8 gen)
  rw [e, h2, beB_length, List.drop_replicate]
  unfold partF
  rw [List.take_zero, show numsF [] = [] from rfl, List.append_nil]
theorem partF_length (gen : Int) (ns : List Int) (i : Nat) (h : i ≤ ns.length) (hn : ns.length ≤ 247) : (partF gen ns i).length = 512 := by
  simp [partF, beB_length, numsF_length]
  omega
/-- A new row of bytes at the head of its block. -/
def NewB (w w' : World) (e : Ending) (xs : List Int) : Prop :=
  ∃ d, e = .returned (.slice (some ⟨d, 0, none⟩) xs.length xs.length) ∧ w.heap.size ≤ d ∧ Blk w' d 5 (u8l xs ++ ([] : List Value)).toArray ∧ Only [] w w'

set_option maxRecDepth 100000 in
set_option maxHeartbeats 1500000 in
theorem header_is {w : World} {v : Value} {ns : List Int} (h : IRow w v ns) (gen : Int) (g0 : 0 ≤ gen) (g1 : gen < 18446744073709551616) (hn : ns.length ≤ 247) (hr : ∀ x ∈ ns, 0 ≤ x ∧ x < 65536) :
    Calls Try.prog 83 #[.int .u64 gen, v] w fun e w' => NewB w w' e (hdrF gen ns) := by
  obtain ⟨A, c, rfl, hA, hlc, hcm, hcl⟩ := h.form2
  obtain ⟨i0, hi, hz0, hz1, hz2⟩ := info_parts info_u8
  have hmk : ∀ u : World, (Instr.makeSlice 46 (.int .i64 512) (.int .i64 512)).run Try.prog u =
      .ok (.slice (some ⟨u.heap.size, 0, none⟩) 512 512) (u.alloc (.cells (madeCells #[.int .u8 0] 512) 5)) := fun u => by
    have h := run_make (P := Try.prog) u 46 5 i0 (.int .u8 0) Try.underlying46 hi hz0 .i64 .i64 512 512 (by omega) (Int.le_refl _) (by rw [hz2]; omega) (by omega)
    simpa [hz1, Value.cells] using h
  have HB0 := hide (show Blk (w.alloc (.cells (madeCells #[.int .u8 0] 512) 5)) w.heap.size 5 (u8l (List.replicate 512 0) ++ ([] : List Value)).toArray from by
    have e : madeCells #[.int .u8 0] 512 = (u8l (List.replicate 512 0) ++ ([] : List Value)).toArray := by
      apply Array.ext'
      rw [toList_madeCells_one]
      simp [u8l]
    rw [← e]; exact Blk.new _ _ _)
  have HXS := hide (part_start gen ns)
  have HXL := hide (show (List.replicate 512 (0 : Int)).length = 512 from List.length_replicate)
  generalize List.replicate 512 (0 : Int) = xs0 at HB0 HXS HXL
  have HO0 := hide ((Only.refl [] w).alloc (.cells (madeCells #[.int .u8 0] 512) 5))
  have HCL := hide hcl
  have HAN := hide hA
  have HR := hide hr
  have hcm2 : c ≤ 9223372036854775807 := by unfold maxLen at hcm; omega
  have hlen0 : (0 : Int) ≤ ns.length := by omega
  have hlen1 : (ns.length : Int) < 18446744073709551616 := by omega
  clear h hcl hA hi hz0 hz1 hz2 hcm hr
  go_enter Try.func83, Try.ntmps83
  go_wp2_with fail
  refine (put_is w.heap.size 0 8 512 xs0 [] gen _ HB0.out (by rw [HXL.out]; decide) (by decide) (by decide) g0 g1).mono ?_
  rintro e w1 ⟨rfl, hb1, ho1⟩
  have HB1 := hide hb1
  have HL1 := hide (show (Go.splice xs0 0 (beB 8 gen)).length = 512 by rw [splice_length _ _ _ (by rw [beB_length, HXL.out]; decide), HXL.out])
  have HO1 := hide (HO0.out.trans' ho1 (fun q hq hm => by simp at hm; omega))
  clear hb1 ho1
  go_wp2_with fail
  refine (put_is w.heap.size 8 2 504 _ [] (ns.length : Int) _ HB1.out (by rw [HL1.out]; decide) (by decide) (by decide) hlen0 hlen1).mono ?_
  rintro e w2 ⟨rfl, hb2, ho2⟩
  rw [HXS.out] at hb2
  have HB2 := hide hb2
  have HO2 := hide (HO1.out.trans' ho2 (fun q hq hm => by simp at hm; omega))
  clear hb2 ho2 HB1 HL1 HO1 HB0 HO0 HXS HXL
  go_wp2
  clear hmk
  go_loopw [21, 6, 7] (fun iv _ _ wr => ∃ i : Nat, i ≤ ns.length ∧ iv = .int .i64 i ∧ Only [] w wr ∧ Blk wr w.heap.size 5 (u8l (partF gen ns i) ++ ([] : List Value)).toArray) (fun iv _ _ _ => ns.length - (intOf iv).toNat)
  case atStart => exact ⟨0, Nat.zero_le _, rfl, HO2.out, HB2.out⟩
  case round =>
    obtain ⟨i, hi, rfl, ho, hb⟩ := hrel
    have HO := hide ho
    have HB := hide hb
    clear ho hb HB2 HO2
    by_cases hlt : i < ns.length
    · have hltI : (i : Int) < ns.length := by omega
      obtain ⟨ad, rfl⟩ : ∃ ad, A = some ad := by
        rcases A with _ | ad
        · have := (HAN.out rfl).1; omega
        · exact ⟨ad, rfl⟩
      obtain ⟨b, rfl, hbl, hcell⟩ := HCL.out ad rfl
      have ci := hcell i (.int .i64 (gb ns i)) (by simp [i64l, gb, List.getD, hlt])
      have ci2 : wr.cell? ⟨b, i, none⟩ = some (.int .i64 (gb ns i)) := by rw [HO.out.cell hbl (by simp), ci]
      have hx := HR.out (gb ns i) (by simp only [gb, List.getD, List.getElem?_eq_getElem hlt, Option.getD_some]; exact List.getElem_mem hlt)
      have e1 : (10 + 2 * (i : Int)).toNat = 10 + 2 * i := by omega
      have HST := hide (part_step gen ns i hlt hn)
      have HPL := hide (partF_length gen ns i hi hn)
      clear hcell ci
      generalize gb ns i = x at *
      go_wp2_with fail
      refine (put_is w.heap.size (10 + 2 * i) 2 _ _ [] x _ HB.out (by rw [HPL.out]; omega) (by decide) (by omega) hx.1 (by omega)).mono ?_
      rintro e w3 ⟨rfl, hb3, ho3⟩
      rw [HST.out] at hb3
      have HB3 := hide hb3
      have HO3 := hide (HO.out.trans' ho3 (fun q hq hm => by simp at hm; omega))
      clear hb3 ho3
      go_wp2
      go_roundw
      case rel => exact ⟨i + 1, hlt, by go_num, HO3.out, HB3.out⟩
      case measure => simp [intOf]; omega
    · obtain rfl : i = ns.length := by omega
      have HPL := hide (partF_length gen ns ns.length hi hn)
      go_wp2_with fail
      refine (put_is w.heap.size 504 8 8 _ [] gen _ HB.out (by rw [HPL.out]; decide) (by decide) (by decide) g0 g1).mono ?_
      rintro e w3 ⟨rfl, hb3, ho3⟩
      rw [part_end gen ns hn] at hb3
      have HB3 := hide hb3
      have HO3 := hide (HO.out.trans' ho3 (fun q hq hm => by simp at hm; omega))
      clear hb3 ho3
      go_wp2
      go_ret
      exact ⟨w.heap.size, by rw [hdrF_length gen ns hn]; rfl, Nat.le_refl _, HB3.out, HO3.out⟩
end Go.Proofs.Ytokdpldmoflnkaa
/-
  Maps as lists of what they hold: keys of any kind, elements of any shape. Plain facts; no program is named.
-/
namespace Go.Proofs.Ytokdpldmoflnkaa
open Go.ChangeShapes Go.WideShapes Go.ChangeAt Go.RowKit Go.Maps
set_option linter.unusedVariables false

/-- What keys and elements read as. -/
structure Enc (κ β : Type) where
  wf : κ → Prop
  kl : κ → Lit
  fd : β → DataW Unit
  inj : ∀ {k k'}, wf k → wf k' → kl k = kl k' → k = k'
  key : ∀ k, WideAt.IsKeyLit (kl k)
  dinj : ∀ {f f'}, fd f = fd f' → f = f'
variable {κ β : Type} [DecidableEq κ] (E : Enc κ β)

/-- A map holds just these. -/
structure MHolds (D : DataW Unit) (l : List (κ × β)) : Prop where
  wf : ∀ p ∈ l, E.wf p.1
  has : ∀ k : Lit, Maps.has D k = true ↔ ∃ p ∈ l, E.kl p.1 = k
  at_ : ∀ p ∈ l, ∀ z, D.atKey (E.kl p.1) z = E.fd p.2
  nd : (l.map (·.1)).Nodup
  size : Maps.size D = l.length
  tidy : Maps.Tidy D
section
variable {E} {D : DataW Unit} {l : List (κ × β)} {k : κ} {f : β}
omit [DecidableEq κ] in
theorem MHolds.empty : MHolds E (.map []) [] := ⟨by simp, fun k => by simp [Maps.has], by simp, by simp, rfl, Maps.tidy_empty⟩
omit [DecidableEq κ] in
theorem MHolds.none (h : MHolds E D l) (hk : E.wf k) (hn : k ∉ l.map (·.1)) : Maps.has D (E.kl k) = false := by
  cases e : Maps.has D (E.kl k)
  · rfl
  · obtain ⟨p, hp, ep⟩ := (h.has _).1 e
    exact absurd (List.mem_map.2 ⟨p, hp, E.inj (h.wf p hp) hk ep⟩) hn
omit [DecidableEq κ] in
theorem MHolds.some_ (h : MHolds E D l) (hp : (k, f) ∈ l) : Maps.has D (E.kl k) = true := (h.has _).2 ⟨_, hp, rfl⟩
omit [DecidableEq κ] in
theorem MHolds.new (h : MHolds E D l) (hk : E.wf k) (hn : k ∉ l.map (·.1)) : MHolds E (D.put (E.kl k) (E.fd f)) (l ++ [(k, f)]) := by
  have hno := h.none hk hn
  have hm := h.tidy.isMap
  refine ⟨fun p hp => ?_, fun q => ?_, fun p hp z => ?_, ?_, ?_, h.tidy.put (E.key k) _⟩
  · rcases List.mem_append.1 hp with hp | hp
    · exact h.wf p hp
    · rw [List.mem_singleton.1 hp]; exact hk
  · by_cases e : q = E.kl k
    · subst e
      rw [Maps.has_put_same hm (E.key k)]
      exact ⟨fun _ => ⟨(k, f), by simp, rfl⟩, fun _ => rfl⟩
    · rw [Maps.has_put_other e, h.has]
      constructor
      · rintro ⟨p, hp, ep⟩; exact ⟨p, by simp [hp], ep⟩
      · rintro ⟨p, hp, ep⟩
        rcases List.mem_append.1 hp with hp | hp
        · exact ⟨p, hp, ep⟩
        · rw [List.mem_singleton.1 hp] at ep; exact absurd ep.symm e
  · rcases List.mem_append.1 hp with hp | hp
    · rw [Maps.atKey_put_other (fun e => hn (List.mem_map.2 ⟨p, hp, E.inj (h.wf p hp) hk e⟩)), h.at_ p hp]
    · rw [List.mem_singleton.1 hp, Maps.atKey_put_same hm (E.key k)]
  · rw [List.map_append]
    refine List.nodup_append.2 ⟨h.nd, by simp, ?_⟩
    intro a ha b hb e
    simp at hb
    subst hb; subst e
    exact hn ha
  · rw [Maps.size_put h.tidy, hno, h.size]; simp
/-- What is kept under a key that is there is turned. -/
def setV (l : List (κ × β)) (k : κ) (e : β) : List (κ × β) := l.map fun p => if p.1 = k then (k, e) else p
theorem setV_keys (l : List (κ × β)) (k : κ) (e : β) : (setV l k e).map (·.1) = l.map (·.1) := by
  unfold setV
  rw [List.map_map]
  refine List.map_congr_left fun p _ => ?_
  show (if p.1 = k then (k, e) else p).1 = p.1
  split <;> simp_all
omit [DecidableEq κ] in
theorem MHolds.uniq (h : MHolds E D l) {p q : κ × β} (hp : p ∈ l) (hq : q ∈ l) (e : p.1 = q.1) : p = q := by
  have h1 := h.at_ p hp .nil
  have h2 := h.at_ q hq .nil
  rw [e, h2] at h1
  exact Prod.ext e (E.dinj h1).symm
theorem MHolds.old (h : MHolds E D l) (hp : (k, f) ∈ l) (e : β) : MHolds E (D.put (E.kl k) (E.fd e)) (setV l k e) := by
  have hm := h.tidy.isMap
  have hk := h.wf _ hp
  refine ⟨fun p hp => ?_, fun q => ?_, fun p hp' z => ?_, by rw [setV_keys]; exact h.nd, ?_, h.tidy.put (E.key k) _⟩
  · obtain ⟨q, hq, rfl⟩ := List.mem_map.1 hp
    split
    · exact hk
    · exact h.wf q hq
  · by_cases eq : q = E.kl k
    · subst eq
      rw [Maps.has_put_same hm (E.key k)]
      exact ⟨fun _ => ⟨(k, e), List.mem_map.2 ⟨(k, f), hp, by simp⟩, rfl⟩, fun _ => rfl⟩
    · rw [Maps.has_put_other eq, h.has]
      constructor
      · rintro ⟨p, hp', ep⟩
        refine ⟨p, List.mem_map.2 ⟨p, hp', if_neg (fun e1 => eq ?_)⟩, ep⟩
        rw [← ep, e1]
      · rintro ⟨p, hp', ep⟩
        obtain ⟨r, hr, er⟩ := List.mem_map.1 hp'
        split at er
        · rw [← er] at ep; exact absurd ep.symm eq
        · rw [← er] at ep; exact ⟨r, hr, ep⟩
  · obtain ⟨r, hr, er⟩ := List.mem_map.1 hp'
    split at er
    · rename_i e1
      have : r = (k, f) := h.uniq hr hp e1
      subst this
      rw [← er, Maps.atKey_put_same hm (E.key k)]
    · rename_i e1
      rw [← er, Maps.atKey_put_other (fun e2 => e1 (E.inj (h.wf r hr) hk e2)), h.at_ r hr]
  · rw [Maps.size_put h.tidy, h.some_ hp, if_pos rfl, h.size, setV, List.length_map]
/-- What was let go is not there. -/
def outV (l : List (κ × β)) (k : κ) : List (κ × β) := l.filter fun p => decide (p.1 ≠ k)
theorem MHolds.del (h : MHolds E D l) (hp : (k, f) ∈ l) : MHolds E (D.del (E.kl k)) (outV l k) := by
  have hk := h.wf _ hp
  have hmem : ∀ p, p ∈ outV l k ↔ p ∈ l ∧ p.1 ≠ k := fun p => by simp [outV]
  have hnd : ((outV l k).map (·.1)).Nodup := List.Sublist.nodup (List.Sublist.map _ List.filter_sublist) h.nd
  have hlen : (outV l k).length + 1 = l.length := by
    have h1 := (l.length_eq_countP_add_countP (fun p => decide (p.1 ≠ k))).trans (by rw [List.countP_eq_length_filter, List.countP_eq_length_filter])
    have h2 : l.filter (fun a => decide ¬decide (a.1 ≠ k) = true) = [(k, f)] := by
      have hcount : ∀ (m : List (κ × β)), (m.map (·.1)).Nodup → (k, f) ∈ m → (∀ q ∈ m, q.1 = k → q = (k, f)) → m.filter (fun a => decide ¬decide (a.1 ≠ k) = true) = [(k, f)] := by
        intro m
        induction m with
        | nil => intro _ hm; simp at hm
        | cons x m ih =>
          intro hnd hm hu
          rw [List.map_cons, List.nodup_cons] at hnd
          by_cases e : x.1 = k
          · have hx := hu x (by simp) e
            subst hx
            rw [List.filter_cons, if_pos (by simp), List.filter_eq_nil_iff.2]
            intro q hq hqq
            simp at hqq
            exact hnd.1 (List.mem_map.2 ⟨q, hq, hqq⟩)
          · rw [List.filter_cons, if_neg (by simp [e])]
            refine ih hnd.2 ?_ (fun q hq => hu q (by simp [hq]))
            rcases List.mem_cons.1 hm with e1 | e1
            · rw [← e1] at e; exact absurd rfl e
            · exact e1
      exact hcount l h.nd hp (fun q hq e => h.uniq hq hp e)
    rw [h2] at h1
    unfold outV
    simp at h1 ⊢
    omega
  refine ⟨fun p hp => h.wf p ((hmem p).1 hp).1, fun q => ?_, fun p hp z => ?_, hnd, ?_, h.tidy.del _⟩
  · by_cases e : q = E.kl k
    · subst e
      rw [Maps.has_del_same]
      refine ⟨fun h => (by cases h), fun h3 => ?_⟩
      obtain ⟨p, hp, ep⟩ := h3
      obtain ⟨h1, h2⟩ := (hmem p).1 hp
      exact absurd (E.inj (h.wf p h1) hk ep) h2
    · rw [Maps.has_del_other e, h.has]
      constructor
      · rintro ⟨p, hp, ep⟩
        refine ⟨p, (hmem p).2 ⟨hp, fun e1 => e ?_⟩, ep⟩
        rw [← ep, e1]
      · rintro ⟨p, hp, ep⟩
        exact ⟨p, ((hmem p).1 hp).1, ep⟩
  · obtain ⟨h1, h2⟩ := (hmem p).1 hp
    rw [Maps.atKey_del_other (fun e => h2 (E.inj (h.wf p h1) hk e)), h.at_ p h1]
  · have := Maps.size_del (k := E.kl k) h.tidy
    rw [h.some_ hp, if_pos rfl, h.size] at this
    omega
end
end Go.Proofs.Ytokdpldmoflnkaa
/-
  'append([]byte{}, xs...)': a new slice of the same bytes, xs nil, empty or not: as a law for the walk.
-/
namespace Go.Proofs.Ytokdpldmoflnkaa
open Go.ChangeShapes Go.WideShapes Go.ChangeAt Go.RowKit
set_option linter.unusedVariables false

/-- A slice of bytes reads as a list; nil let in. -/
def Sees (w : World) (A : Option Addr) (n : Nat) (xs : List Int) : Prop :=
  xs.length = n ∧ (0 < n → ∃ b o, A = some ⟨b, o, none⟩ ∧ b < w.heap.size ∧ ∀ i, i < n → w.cell? ⟨b, o + i, none⟩ = some (.int .u8 (gb xs i)))
theorem Sees.only {w w' : World} {A : Option Addr} {n : Nat} {xs : List Int} {S : List Nat} (h : Sees w A n xs) (ho : Only S w w') (hs : 0 < n → ∀ b, A = some b → b.block < w.heap.size → b.block ∉ S) : Sees w' A n xs := by
  refine ⟨h.1, fun hn => ?_⟩
  obtain ⟨b, o, rfl, hb, hc⟩ := h.2 hn
  exact ⟨b, o, rfl, Nat.lt_of_lt_of_le hb ho.size, fun i hi => (ho.cell hb (hs hn _ rfl hb)).trans (hc i hi)⟩
theorem Fresh.sees {w : World} {B : Nat} {v : Value} {xs : List Int} (h : Fresh w B v xs) : ∃ d c, v = .slice (some ⟨d, 0, none⟩) xs.length c ∧ B ≤ d ∧ Sees w (some ⟨d, 0, none⟩) xs.length xs := by
  obtain ⟨d, c, r, rfl, hB, hb, hl⟩ := h
  exact ⟨d, c, rfl, hB, rfl, fun _ => ⟨d, 0, rfl, hb.lt, fun i hi => by rw [Nat.zero_add, hb.cell]; exact u8l_get xs r i hi⟩⟩

theorem wpList_append_new {ops : Array Oper} {rest : List Oper} {o : Oper} {a : Act} {Q : Exit → Act → World → Prop} (hgd : o.guard = none) (s x : Operand)
    (ho : o.op = .call { callee := .builtin .append, args := #[s, x], argTypes := #[46, 46] }) (w : World) (B k : Nat) (hs : a.eval s = .slice (some ⟨k, 0, none⟩) 0 0) (hB : B ≤ k) (hk : Blk w k 5 #[])
    (A : Option Addr) (n c : Nat) (hx : a.eval x = .slice A n c) (hA : A = none → n = 0 ∧ c = 0) (xs : List Int) (hy : Sees w A n xs) (hbig : n ≤ 140737488355328)
    (h : ∀ v' w1, Fresh w1 B v' xs → Only [k] w w1 → wpList Try.prog ops Q rest (a.put o.dst v') w1) : wpList Try.prog ops Q (o :: rest) a w := by
  obtain ⟨i0, hi, hz0, hz1, hz2⟩ := info_parts info_u8
  have hown : w.ownsRow B 5 1 (.slice (some ⟨k, 0, none⟩) 0 0) 0 [] := ⟨by simp, .inr ⟨k, 0, #[], rfl, hB, hk, Nat.le_refl _, Nat.zero_le _, rfl, by simp⟩⟩
  rcases A with _ | ad
  · obtain ⟨rfl, rfl⟩ := hA rfl
    have hnil : xs = [] := List.eq_nil_of_length_eq_zero hy.1
    subst hnil
    refine wpList_append_own_none hgd s x 46 ho B 5 i0 1 Try.underlying46 hi _ 0 [] hs hown hx ?_
    exact h _ w ⟨k, 0, [], rfl, hB, by simpa [u8l] using hk, rfl⟩ (Only.refl _ _)
  · refine wpList_append_own w hgd s x 46 ho B 5 i0 (.int .u8 0) 1 1 Try.underlying46 hi hz0 hz1 hz2 rfl (by decide) _ 0 [] hs hown ad n c (u8l xs) hx (by rw [u8l_length]; have := hy.1; omega) ?_ (u8l_one xs) (by unfold maxLen; omega) (by omega) (Nat.le_trans hB (Nat.le_of_lt hk.lt)) ?_
    · intro j u hj
      have hjn : j < xs.length := by
        have := (List.getElem?_eq_some_iff.1 hj).1
        rw [u8l_length] at this
        exact this
      obtain ⟨b, q, hb, _, hc⟩ := hy.2 (by have := hy.1; omega)
      have hb' : ad = ⟨b, q, none⟩ := by injection hb
      rw [hb', add_at, hc j (by have := hy.1; omega)]
      have e : (u8l xs)[j]? = some (Value.int .u8 (gb xs j)) := by simp [u8l, gb, List.getD, List.getElem?_eq_getElem hjn]
      rw [e] at hj
      exact hj
    · intro v' w1 hown1 hgrow hnil
      refine h v' w1 (Fresh.of_own (n := n) (by simpa using hown1) ?_) (Only.of_grown hgrow ?_)
      · intro e
        exact absurd (hnil.1 e).1 (by simp)
      · intro k' hk' _
        simp [Value.ownBlock] at hk'
        simp [hk']
end Go.Proofs.Ytokdpldmoflnkaa
