/-
  What is seen of slices of bytes and ints, as lists; strings of bytes; small calls of a disk in one form.
-/
import Derived.Test.YtokdpldmoflnkaaMg07
import Derived.Laws.IdiomStrings
import Derived.Lib.BufferRead
import Derived.Deep.Slices
import Derived.SizedLaws
namespace Go.Proofs.Ytokdpldmoflnkaa
open Go.ChangeShapes Go.WideShapes Go.ChangeAt Go.RowKit
set_option linter.unusedVariables false

/-- The string of bytes. -/
def strB (xs : List Int) : ByteArray := ⟨(xs.map fun x => UInt8.ofNat x.toNat).toArray⟩

theorem conv_bytes (w : World) (A : Option Addr) (n c : Nat) (xs : List Int) (h : Sees w A n xs) (hA : A = none → n = 0) (hu : U8 xs) : (convert 46 9 (.slice A n c)).run Try.prog w = .ok (.string (strB xs)) w := by
  rcases A with _ | a
  · obtain rfl := hA rfl
    have : xs = [] := List.eq_nil_of_length_eq_zero h.1
    subst this
    exact Lib.run_convert_nil_bytes w 46 9 5 c Try.underlying46 Try.underlying5 Try.underlying9
  · have h8 : ∀ x ∈ xs, ((UInt8.ofNat x.toNat).toNat : Int) = x := fun x hx => by
      have := hu x hx
      rw [UInt8.toNat_ofNat']
      omega
    have := run_convert_bytes_back (P := Try.prog) w 46 9 5 a c (xs.map fun x => UInt8.ofNat x.toNat) Try.underlying46 Try.underlying5 Try.underlying9 (fun j hj => by
      have hjx : j < xs.length := by simpa using hj
      obtain ⟨b, o, hab, _, hcs⟩ := h.2 (by have := h.1; omega)
      injection hab with hab
      subst hab
      rw [add_at, hcs j (by have := h.1; omega)]
      simp only [List.getElem_map, h8 _ (List.getElem_mem hjx)]
      simp [gb, List.getD, List.getElem?_eq_getElem hjx])
    rw [List.length_map, h.1] at this
    exact this

/-- A row of ints that grows. -/
def PendRow (w : World) (B : Nat) (v : Value) (ns : List Int) : Prop := w.ownsRow B 3 1 v ns.length (ns.map (Value.int .i64))
theorem info_intD : (Try.prog.info? 3).map (fun i => (i.zero, i.size, i.bytes)) = some (some (.int .i64 0), 1, 8) := by kernel_rfl

/-- A slice of ints reads as a list; nil let in. -/
def IntsS (w : World) (A : Option Addr) (n : Nat) (ns : List Int) : Prop :=
  ns.length = n ∧ (0 < n → ∃ b o, A = some ⟨b, o, none⟩ ∧ b < w.heap.size ∧ ∀ i, i < n → w.cell? ⟨b, o + i, none⟩ = some (.int .i64 (gb ns i)))
theorem IntsS.only {w w' : World} {A : Option Addr} {n : Nat} {ns : List Int} (h : IntsS w A n ns) (ho : Only [] w w') : IntsS w' A n ns := by
  refine ⟨h.1, fun hn => ?_⟩
  obtain ⟨b, o, rfl, hb, hc⟩ := h.2 hn
  exact ⟨b, o, rfl, Nat.lt_of_lt_of_le hb ho.size, fun i hi => (ho.cell hb (by simp)).trans (hc i hi)⟩
theorem IntsAt.s {w : World} {d n : Nat} {ns : List Int} (h : IntsAt w d n ns) : IntsS w (some ⟨d, 0, none⟩) n ns := by
  refine ⟨h.1, fun hn => ⟨d, 0, rfl, Nat.lt_of_not_le fun hle => ?_, fun i hi => by rw [Nat.zero_add]; exact h.2 i hi⟩⟩
  have := h.2 0 hn
  simp [World.cell?, Array.getElem?_eq_none hle] at this
theorem PendRow.s {w : World} {B : Nat} {v : Value} {ns : List Int} (h : PendRow w B v ns) : ∃ A c, v = .slice A ns.length c ∧ IntsS w A ns.length ns := by
  rcases h.2 with ⟨e, h0⟩ | ⟨k, cap, cur, e, hB, hg, hn, hm, hs, ht⟩
  · exact ⟨none, 0, by rw [e, h0], rfl, fun hp => absurd hp (by omega)⟩
  · have hb : Blk w k 3 cur := hg
    refine ⟨_, _, e, rfl, fun _ => ⟨k, 0, rfl, hb.lt, fun i hi => ?_⟩⟩
    rw [Nat.zero_add, hb.cell]
    have h2 : (ns.map (Value.int .i64))[i]? = some (.int .i64 (gb ns i)) := by simp [gb, List.getD, List.getElem?_eq_getElem hi]
    rw [← ht, List.getElem?_take] at h2
    simp only [Nat.mul_one] at h2
    rw [if_pos hi] at h2
    simpa using h2

theorem PendRow.at {w : World} {B : Nat} {v : Value} {ns : List Int} (h : PendRow w B v ns) {n : Nat} (hn : ns.length = n) : ∃ A c, v = .slice A n c ∧ IntsS w A n ns := hn ▸ h.s



theorem Blk.setu_ {w : World} {D : Nat} {zs : List Int} {r : List Value} (h : Blk w D 5 (u8l zs ++ r).toArray) {k : Nat} (hk : k < zs.length) (v : Int) : Blk (w.setCell ⟨D, k, none⟩ (.int .u8 v)) D 5 (u8l (zs.set k v) ++ r).toArray := by
  have := h.set_ k (.int .u8 v)
  rw [List.setIfInBounds_toArray, List.set_append_left _ _ (by rw [u8l_length]; exact hk)] at this
  simpa [u8l, List.map_set] using this
theorem only_drew_iff {S : List Nat} {w w' : World} : Only S w w'.drew ↔ Only S w w' := ⟨fun h => ⟨h.os, h.tape, h.output, h.size, h.block⟩, fun h => h.drew⟩
theorem only_self {S : List Nat} {w : World} : Only S w w ↔ True := ⟨fun _ => trivial, fun _ => Only.refl _ _⟩

section
variable {w : World} {g pb pc mb : Nat} {pr : List Value} {pv : Value} {D : DataW Unit} {N : Nat} {plat : List Int} {ws : List WR} {left rd wt fl : Int} (h : IsDisk w g pb pc mb pr pv D N plat ws left rd wt fl)
include h



theorem dcount_o : Calls Try.prog 65 #[.pointer (some ⟨g, 0, none⟩)] w fun e w' => e = .returned (.int .i64 N) ∧ Only [] w w' := (dcount_is h).mono fun e w' ⟨a, b⟩ => ⟨a, b ▸ Only.refl [] w⟩

end
end Go.Proofs.Ytokdpldmoflnkaa
/-
  What an argument's reading says of memory: 'Rd': the cells cs of type t read as the datum d, and each string, slice and map in it is within the form's own reach. Over any program.
-/
namespace Go.Proofs.Ytokdpldmoflnkaa
open Go.ChangeShapes Go.WideShapes Go.ChangeAt Go.RowKit Go.Deep
set_option linter.unusedVariables false

def Rd {H : Type} (enc : TypeId × Value → H) (P : Program) (w : World) (t : TypeId) (cs : List Value) (d : DataW H) : Prop :=
  (∃ n ps, DataW.trod enc P w 0 (fun _ => true) true n t cs = some (d, ps)) ∧ ∀ x ∈ d.weights P t, x ≤ reachBytes

section
variable {H : Type} {enc : TypeId × Value → H} {P : Program} {w : World} {t e : TypeId} {k : IntKind} {cs : List Value} {d : DataW H} {v : Value}

theorem Rd.of {ps : List MemPlace} (h : DataW.Trod enc P w 0 (fun _ => true) true t v d ps) (hw : ∀ x ∈ d.weights P t, x ≤ reachBytes) : Rd enc P w t v.cells.toList d := by
  obtain ⟨n, hn⟩ := h
  exact ⟨⟨n, ps, hn⟩, hw⟩

theorem Rd.int (ht : P.underlying t = some (.int k)) (h : Rd enc P w t cs d) : ∃ x, cs = [.int k x] ∧ (Lit.int k x).wf = true := by
  obtain ⟨⟨n, ps, hn⟩, _⟩ := h
  obtain ⟨x, hx, _, hw⟩ := DataW.trod_int ht hn
  exact ⟨x, hx, hw⟩

theorem Rd.ints (ht : P.underlying t = some (.slice e)) (he : P.underlying e = some (.int k)) (hc : P.cellsOf e = 1) (h : Rd enc P w t cs d) :
    ∃ A n c zs, cs = [.slice A n c] ∧ IsRow k w A n c zs ∧ c * P.bytesOf e ≤ reachBytes := by
  obtain ⟨⟨f, ps, hf⟩, hw⟩ := h
  rcases open_ints ht he hc hf with ⟨hcs, hx⟩ | ⟨a, len, cap, zs, hcs, _, hl, hm, hz, hx, hcell, hwf⟩
  · exact ⟨none, 0, 0, [], hcs, .inl ⟨rfl, rfl, rfl, rfl⟩, by simp⟩
  · simp only [Prod.mk.injEq] at hx
    have hz' : zs.length = cap := by simpa using hz
    refine ⟨some a, len, cap, zs, hcs, .inr ⟨a, rfl, hl, hm, hz', hcell, hwf⟩, ?_⟩
    refine hw _ ?_
    rw [hx.1]
    simp only [DataW.weights, ht, List.mem_cons]
    left
    simp only [lits, List.length_map, List.length_take, List.length_drop]
    congr 1
    omega

theorem weightsAll_of {l : List (DataW H)} {x : DataW H} (hx : x ∈ l) {n : Nat} (hn : n ∈ x.weights P e) : n ∈ DataW.weightsAll P e l := by
  induction l with
  | nil => cases hx
  | cons y r ih =>
    simp only [DataW.weightsAll, List.mem_append]
    rcases List.mem_cons.1 hx with rfl | h
    · exact .inl hn
    · exact .inr (ih h)

/-- A slice of structs: each field of one cell is read at its place. -/
theorem Rd.structs {fs : Array Field} (ht : P.underlying t = some (.slice e)) (he : P.underlying e = some (.struct fs)) (h : Rd enc P w t cs d) :
    ∃ A n c, cs = [.slice A n c] ∧ n ≤ c ∧ c ≤ maxLen ∧ c * P.bytesOf e ≤ reachBytes ∧ (A = none → n = 0 ∧ c = 0) ∧
      ∀ i, i < n → ∀ (j : Nat) (f : Field), fs[j]? = some f → P.cellsOf f.type = 1 → f.offset < P.cellsOf e →
        ∃ (b o : Nat) (v : Value) (y : DataW H), A = some ⟨b, o, none⟩ ∧ b < w.heap.size ∧ w.cell? ⟨b, o + (i * P.cellsOf e + f.offset), none⟩ = some v ∧ Rd enc P w f.type [v] y := by
  obtain ⟨⟨fu, ps, hf⟩, hw⟩ := h
  rcases open_slice ht hf with ⟨hcs, hx⟩ | ⟨a, len, cap, m, n, D, Pl, hcs, _, hl, hm, hmm, hx, hi⟩
  · exact ⟨none, 0, 0, hcs, Nat.le_refl _, Nat.zero_le _, by simp, fun _ => ⟨rfl, rfl⟩, fun i hi => absurd hi (by omega)⟩
  · have hmc : m = cap := by simpa using hmm
    subst hmc
    simp only [Prod.mk.injEq] at hx
    refine ⟨some a, len, m, hcs, hl, hm, ?_, (fun h => by cases h), fun i hil j f hj h1 ho => ?_⟩
    · refine hw _ ?_
      rw [hx.1]
      simp only [DataW.weights, ht, List.mem_cons]
      left
      simp only [List.length_map, List.length_range]
      congr 1
      omega
    · obtain ⟨cs', hc', htr⟩ := hi i (by omega)
      obtain ⟨ys, n', _, hy, hlen, hyl, hfs⟩ := DataW.trod_struct he htr
      obtain ⟨_, hcl, hat⟩ := World.cells?_some hc'
      have hcell := hat f.offset ho
      have hget : cs'[f.offset]? = some (cs'[f.offset]'(by omega)) := List.getElem?_eq_getElem (by omega)
      have hfj := hfs j f hj
      have hone : (cs'.drop f.offset).take (P.cellsOf f.type) = [cs'[f.offset]'(by omega)] := by
        rw [h1, List.drop_eq_getElem_cons (by omega)]
        rfl
      rw [hone] at hfj
      have hjl : j < ys.length := by rw [hyl]; exact (Array.getElem?_eq_some_iff.1 hj).1
      rw [List.getElem?_eq_getElem hjl] at hfj
      rw [Addr.add_add, hget] at hcell
      have hspot : a.spot = none := by
        obtain ⟨cs0, hc0, _⟩ := hi 0 (by omega)
        obtain ⟨_, hcl0, hat0⟩ := World.cells?_some hc0
        have h0 := hat0 0 (by omega)
        rw [Addr.add_add, List.getElem?_eq_getElem (by omega : 0 < cs0.length)] at h0
        have ha0 : a.add (0 * P.cellsOf e + 0) = a := by unfold Addr.add; simp
        rw [ha0] at h0
        unfold World.cell? at h0
        split at h0
        · split at h0
          · cases h0
          · rename_i h; simpa using h
        · cases h0
      have hadd : a.add (i * P.cellsOf e + f.offset) = ⟨a.block, a.off + (i * P.cellsOf e + f.offset), none⟩ := by
        obtain ⟨b, o, sp⟩ := a
        simp only at hspot
        subst hspot
        unfold Addr.add
        by_cases hz : i * P.cellsOf e + f.offset = 0
        · rw [if_pos hz, hz]; rfl
        · rw [if_neg hz]
      rw [hadd] at hcell
      have hlt := World.block_lt_of_cell? w _ hcell
      have hA : (some a : Option Addr) = some ⟨a.block, a.off, none⟩ := by
        obtain ⟨b, o, sp⟩ := a
        simp only at hspot
        subst hspot
        rfl
      refine ⟨a.block, a.off, _, (ys[j]).1, hA, hlt, hcell, ⟨n', (ys[j]).2, hfj⟩, fun x hx' => hw x ?_⟩
      rw [hx.1]
      simp only [DataW.weights, ht, List.mem_cons, List.mem_append]
      right; left
      refine weightsAll_of (x := D i) (List.mem_map.2 ⟨i, List.mem_range.2 hil, rfl⟩) ?_
      have hD : D i = .agg (ys.map (·.1)) := by
        simp only [Prod.mk.injEq] at hy
        exact hy.1
      rw [hD]
      simp only [DataW.weights, he]
      exact DataW.weights_mem_each (j := j) (by simp [Array.getElem?_toList, hj]) (by simp [List.getElem?_map, List.getElem?_eq_getElem hjl]) x hx'
end
end Go.Proofs.Ytokdpldmoflnkaa
/-
  A disk as one packed fact: 'One w g N plat l left k F': the disk at g holds the platter plat and the pending writes l; its blocks lie in F; at most k writes and flushes were done.
-/
namespace Go.Proofs.Ytokdpldmoflnkaa
open Go.ChangeShapes Go.WideShapes Go.ChangeAt Go.RowKit
set_option linter.unusedVariables false

def One (w : World) (g N : Nat) (plat : List Int) (l : List (Nat × List Int)) (left : Int) (k : Nat) (F : List Nat) : Prop :=
  ∃ pb pc mb pr pv D ws rd wt fl, IsDisk w g pb pc mb pr pv D N plat ws left rd wt fl ∧ ofW ws = l ∧ (0 ≤ wt ∧ wt ≤ k) ∧ (0 ≤ fl ∧ fl ≤ k) ∧ ws.length ≤ k ∧ (∀ x ∈ ws, x.blk ≠ pb) ∧
    (∀ q ∈ foot g pb mb pv, q ∈ F) ∧ (∀ x ∈ ws, x.blk ∈ F) ∧ ∀ q ∈ F, q < w.heap.size

theorem One.only {w w' : World} {g N : Nat} {plat : List Int} {l : List (Nat × List Int)} {left : Int} {k : Nat} {F S : List Nat} (h : One w g N plat l left k F) (ho : Only S w w') (hs : ∀ q ∈ F, q ∉ S) : One w' g N plat l left k F := by
  obtain ⟨pb, pc, mb, pr, pv, D, ws, rd, wt, fl, hd, h1, h2, h3, h4, h5, h6, h7, h8⟩ := h
  exact ⟨pb, pc, mb, pr, pv, D, ws, rd, wt, fl, hd.only ho (fun q hq => hs q (h6 q hq)) (fun x hx => hs _ (h7 x hx)), h1, h2, h3, h4, h5, h6, h7, fun q hq => Nat.lt_of_lt_of_le (h8 q hq) ho.size⟩
theorem One.more {w : World} {g N : Nat} {plat : List Int} {l : List (Nat × List Int)} {left : Int} {k k' : Nat} {F : List Nat} (h : One w g N plat l left k F) (hk : k ≤ k') : One w g N plat l left k' F := by
  obtain ⟨pb, pc, mb, pr, pv, D, ws, rd, wt, fl, hd, h1, h2, h3, h4, h5, h6, h7, h8⟩ := h
  exact ⟨pb, pc, mb, pr, pv, D, ws, rd, wt, fl, hd, h1, ⟨h2.1, by omega⟩, ⟨h3.1, by omega⟩, by omega, h5, h6, h7, h8⟩

/-- A call on a disk has turned only its own blocks; those that it has now are its own or new. -/
def Turned (w w' : World) (F F' : List Nat) : Prop := Only F w w' ∧ ∀ q ∈ F', q ∈ F ∨ w.heap.size ≤ q
theorem Turned.same {w w' : World} {F : List Nat} (h : Only F w w') : Turned w w' F F := ⟨h, fun q hq => .inl hq⟩
theorem Turned.apart {w w' : World} {F F' G : List Nat} (h : Turned w w' F F') (hG : ∀ q ∈ G, q < w.heap.size) (hd : ∀ q ∈ G, q ∉ F) : ∀ q ∈ G, q ∉ F' := fun q hq hf => by
  rcases h.2 q hf with h' | h'
  · exact hd q hq h'
  · exact absurd (hG q hq) (by omega)

theorem One.lt {w : World} {g N : Nat} {plat : List Int} {l : List (Nat × List Int)} {left : Int} {k : Nat} {F : List Nat} (h : One w g N plat l left k F) : ∀ q ∈ F, q < w.heap.size := by
  obtain ⟨pb, pc, mb, pr, pv, D, ws, rd, wt, fl, hd, h1, h2, h3, h4, h5, h6, h7, h8⟩ := h
  exact h8

theorem ofW_length (ws : List WR) : (ofW ws).length = ws.length := by simp [ofW]
theorem ofW_snoc (ws : List WR) (x : WR) : ofW (ws ++ [x]) = ofW ws ++ [(x.sec, x.data)] := by simp [ofW]

section
variable {w : World} {g N : Nat} {plat : List Int} {l : List (Nat × List Int)} {left : Int} {k : Nat} {F : List Nat} (h : One w g N plat l left k F)
include h

theorem one_write_sector (n : Int) (A : Option Addr) (m c : Nat) (hn : n < 0 ∨ N ≤ n) : Calls Try.prog 88 #[.pointer (some ⟨g, 0, none⟩), .int .i64 n, .slice A m c] w fun e w' => e = .returned (.int .i64 20) ∧ w = w' := by
  obtain ⟨pb, pc, mb, pr, pv, D, ws, rd, wt, fl, hd, h1, h2, h3, h4, h5, h6, h7, h8⟩ := h
  exact dwrite_sector hd n A m c hn

theorem one_write_off (n : Int) (A : Option Addr) (c : Nat) (h0 : 0 ≤ n) (h1 : n < N) (hl : left = 0) : Calls Try.prog 88 #[.pointer (some ⟨g, 0, none⟩), .int .i64 n, .slice A 512 c] w fun e w' => e = .returned (.int .i64 0) ∧ w = w' := by
  obtain ⟨pb, pc, mb, pr, pv, D, ws, rd, wt, fl, hd, _⟩ := h
  exact dwrite_off hd n A c h0 h1 hl

theorem one_write_do (n : Nat) (d c : Nat) (zs : List Int) (h1 : n < N) (hl : left ≠ 0) (hm : left ≤ 9223372036854775807) (hz : zs.length = 512) (hu : U8 zs) (hb : Blk w d 5 (u8l zs).toArray) (hdF : d ∉ F) (hk : k < 4398046511000) :
    Calls Try.prog 88 #[.pointer (some ⟨g, 0, none⟩), .int .i64 n, .slice (some ⟨d, 0, none⟩) 512 c] w fun e w' => e = .returned (.int .i64 0) ∧ ∃ F', Turned w w' F F' ∧ One w' g N plat (l ++ [(n, zs)]) (lessv left) (k + 1) F' := by
  obtain ⟨pb, pc, mb, pr, pv, D, ws, rd, wt, fl, hd, e1, e2, e3, e4, e5, e6, e7, e8⟩ := h
  refine (dwrite_do hd n d 0 c zs h1 hl hm hz hu (fun i hi => blk_gb hb i (by omega)) hb.lt (fun e => hdF (e ▸ e6 g (by simp [foot]))) (fun e => hdF (e ▸ e6 mb (by simp [foot]))) e2.1 (by omega) (by omega)).mono ?_
  rintro e w' ⟨he, pv', D', x, ho, hpv, hxb, hxs, hxd, hd'⟩
  have hxl : x.blk < w'.heap.size := (hd'.wok x (by simp)).row.lt
  have hpl := hd'.str.lt
  refine ⟨he, x.blk :: (pv'.ownBlock.toList ++ F), ⟨ho.mono (fun q _ hq => e6 q hq), fun q hq => ?_⟩, pb, pc, mb, pr, pv', D', ws ++ [x], rd, wt + 1, fl, hd', ?_, ?_, ?_, ?_, ?_, ?_, ?_, ?_⟩
  · simp only [List.mem_cons, List.mem_append, Option.mem_toList] at hq
    rcases hq with rfl | hq | hq
    · exact .inr hxb
    · rcases hpv q hq with h | h
      · exact .inl (e6 q (by simp [foot, h]))
      · exact .inr h
    · exact .inl hq
  · rw [ofW_snoc, e1, hxs, hxd]
  · omega
  · omega
  · simp; omega
  · intro y hy
    rcases List.mem_append.1 hy with h | h
    · exact e5 y h
    · rw [List.mem_singleton.1 h]
      have := hd.row.lt
      omega
  · intro q hq
    simp only [foot, List.mem_cons] at hq
    simp only [List.mem_cons, List.mem_append, Option.mem_toList]
    rcases hq with rfl | rfl | rfl | hq
    · exact .inr (.inr (e6 _ (by simp [foot])))
    · exact .inr (.inr (e6 _ (by simp [foot])))
    · exact .inr (.inr (e6 _ (by simp [foot])))
    · revert hq
      cases pv'.ownBlock with
      | none => simp
      | some z => intro hq; simp at hq; exact .inr (.inl (by simp [hq]))
  · intro y hy
    rcases List.mem_append.1 hy with h | h
    · simp [e7 y h]
    · rw [List.mem_singleton.1 h]; simp
  · intro q hq
    simp only [List.mem_cons, List.mem_append, Option.mem_toList] at hq
    rcases hq with rfl | hq | hq
    · exact hxl
    · exact (pv_ne hd' hq).2.2.2.1
    · exact Nat.lt_of_lt_of_le (e8 q hq) ho.size

theorem one_flush_off (hl : left = 0) : Calls Try.prog 82 #[.pointer (some ⟨g, 0, none⟩)] w fun e w' => e = .returned (.int .i64 0) ∧ w = w' := by
  obtain ⟨pb, pc, mb, pr, pv, D, ws, rd, wt, fl, hd, _⟩ := h
  exact dflush_off hd hl

theorem one_flush_do (hl : left ≠ 0) (hm : left ≤ 9223372036854775807) (hk : k < 4398046511000) :
    Calls Try.prog 82 #[.pointer (some ⟨g, 0, none⟩)] w fun e w' => e = .returned (.int .i64 l.length) ∧ Turned w w' F F ∧ One w' g N (layAll plat l) [] (lessv left) (k + 1) F := by
  obtain ⟨pb, pc, mb, pr, pv, D, ws, rd, wt, fl, hd, e1, e2, e3, e4, e5, e6, e7, e8⟩ := h
  refine (dflush_do hd hl hm e3.1 (by omega) e5).mono ?_
  rintro e w' ⟨he, ho, hd'⟩
  have hF : ∀ q ∈ [g, pb, mb], q ∈ F := fun q hq => e6 q (by simp only [foot, List.mem_cons, List.not_mem_nil, or_false] at hq ⊢; rcases hq with h | h | h <;> simp [h])
  refine ⟨by rw [he, ← e1, ofW_length], Turned.same (ho.mono fun q _ hq => hF q hq), pb, pc, mb, pr, .slice none 0 0, .map [], [], rd, wt, fl + 1, e1 ▸ hd', rfl, by omega, by omega, by simp, by simp, fun q hq => hF q (by simpa [foot, Value.ownBlock] using hq), by simp, fun q hq => Nat.lt_of_lt_of_le (e8 q hq) ho.size⟩





theorem one_pending : Calls Try.prog 37 #[.pointer (some ⟨g, 0, none⟩)] w fun e w' => ∃ d, e = .returned (.slice (some ⟨d, 0, none⟩) l.length l.length) ∧ IntsS w' (some ⟨d, 0, none⟩) l.length (l.map fun x => (x.1 : Int)) ∧ Only [] w w' := by
  obtain ⟨pb, pc, mb, pr, pv, D, ws, rd, wt, fl, hd, e1, _⟩ := h
  refine (dpending_is hd).mono ?_
  rintro e w' ⟨d, he, _, hi, ho⟩
  subst e1
  refine ⟨d, by rw [he, ofW_length], ?_, ho⟩
  rw [ofW_length]
  have he : (ofW ws).map (fun x => (x.1 : Int)) = ws.map fun x => (x.sec : Int) := by simp [ofW, Function.comp_def]
  rw [he]
  exact hi.s

theorem one_image : Calls Try.prog 39 #[.pointer (some ⟨g, 0, none⟩)] w fun e w' => ∃ v, e = .returned v ∧ Fresh w' w.heap.size v plat ∧ Only [] w w' := by
  obtain ⟨pb, pc, mb, pr, pv, D, ws, rd, wt, fl, hd, _⟩ := h
  exact dimage_is hd

theorem one_u8 : U8 plat ∧ plat.length = 512 * N ∧ 1 ≤ N ∧ N ≤ 4096 := by
  obtain ⟨pb, pc, mb, pr, pv, D, ws, rd, wt, fl, hd, _⟩ := h
  exact ⟨hd.u8, hd.len, hd.pos, hd.big⟩

end

/-- A new disk, packed. -/
theorem one_new (n : Int) (w : World) (h1 : 1 ≤ n) (h2 : n ≤ 4096) : Calls Try.prog 7 #[.int .i64 n] w fun e w' => ∃ g F, e = .returned (.tuple #[.pointer (some ⟨g, 0, none⟩), .int .i64 0]) ∧ Only [] w w' ∧ (∀ q ∈ F, w.heap.size ≤ q) ∧ One w' g n.toNat (List.replicate (512 * n.toNat) 0) [] (-1) 0 F := by
  refine (dnew_ok n w h1 h2).mono ?_
  rintro e w' ⟨g, pb, pc, mb, pr, he, hg, hpb, hmb, ho, hd⟩
  refine ⟨g, [g, pb, mb], he, ho, ?_, pb, pc, mb, pr, _, _, [], 0, 0, 0, hd, rfl, by omega, by omega, by simp, by simp, by simp [foot, Value.ownBlock], by simp, ?_⟩
  · intro q hq
    simp only [List.mem_cons, List.not_mem_nil, or_false] at hq
    omega
  · intro q hq
    have h1 := hd.str.lt
    have h2 := hd.row.lt
    have h3 := (mb_ne hd).2.2.1
    simp only [List.mem_cons, List.not_mem_nil, or_false] at hq
    omega
end Go.Proofs.Ytokdpldmoflnkaa
