/-
  Calls (parapet/call): a call's entry: 'with' (some objects of one kind, and others), 'takes' (a name, how many arguments, the kinds sorted).
-/
import Derived.Test.YtccobbfinmlgdaaDoorCaRep
import Derived.Test.YtccobbfinmlgdaaDoorSortRow
namespace Go.Proofs.YtccobbfinmlgdaaDoor
open Go.ChangeShapes Go.WideShapes Go.ChangeAt Go.RowKit
set_option linter.unusedVariables false

/-- A slice of these ints whose block lies at B or behind. -/
def KR (w : World) (B : Nat) (v : Value) (ks : List Int) : Prop := KRow .i64 3 w B v ks
theorem KR.low {w : World} {B B' : Nat} {v : Value} {ks : List Int} (h : KR w B v ks) (hB : B' ≤ B) : KR w B' v ks := by
  obtain ⟨h1, ⟨e, h0⟩ | ⟨g, cap, cur, rfl, hb, rest⟩⟩ := h
  · exact ⟨h1, .inl ⟨e, h0⟩⟩
  · exact ⟨h1, .inr ⟨g, cap, cur, rfl, Nat.le_trans hB hb, rest⟩⟩
theorem KR.of_blk {w : World} {b c : Nat} {ks : List Int} (h : Blk w b 3 (ks.map (Value.int .i64)).toArray) (hl : ks.length = c) (hc : c ≤ 1000) : KR w b (.slice (some ⟨b, 0, none⟩) c c) ks := by
  subst hl
  exact ⟨by simp, .inr ⟨b, _, _, rfl, Nat.le_refl _, h, Nat.le_of_eq (by simp), by unfold maxLen; omega, by simp, by simp [List.take_of_length_le]⟩⟩
theorem KR.only {w w' : World} {B : Nat} {v : Value} {ks : List Int} {S : List Nat} (h : KR w B v ks) (ho : Only S w w') (hs : ∀ q, v.ownBlock = some q → q ∉ S) : KR w' B v ks := KRow.only h ho hs
theorem KR.at_ {w : World} {B q : Nat} {v : Value} {ks : List Int} (h : KR w B v ks) (hq : v.ownBlock = some q) : B ≤ q ∧ q < w.heap.size := ⟨(KRow.at_ h hq).1, (KRow.at_ h hq).2.1⟩
theorem KR.grow {w w' : World} {B : Nat} {v : Value} {ks : List Int} (h : KR w B v ks) (ho : Only [] w w') : KR w' B v ks := h.only ho (fun _ _ => by simp)
theorem KR.nil (w : World) (B : Nat) : KR w B (.slice none 0 0) [] := KRow.nil _ _ _ _

/-- What is called behind old blocks touches no older ones. -/
theorem only_own {w w' : World} {B : Nat} {v : Value} {ks : List Int} (h : KR w B v ks) (ho : Only v.ownBlock.toList w w') {w0 : World} (h0 : Only [] w0 w) (hB : w0.heap.size ≤ B) : Only [] w0 w' :=
  h0.trans' ho (fun q hq hm => by
    have hm' : v.ownBlock = some q := by simpa using hm
    have := (h.at_ hm').1
    omega)

/-- An entry's cells. -/
def e3 (nm : ByteArray) (cnt : Int) (v : Value) : Array Value := #[.string nm, .int .i64 cnt, v]
/-- A type of three cells: a text, an int, a slice. -/
def T3 (t : TypeId) : Prop := (∃ fs, Tryd.prog.underlying t = some (.struct fs)) ∧ (Tryd.prog.info? t).map (·.size) = some 3
theorem T3.entry : T3 54 := ⟨⟨_, Tryd.underlying54⟩, by kernel_rfl⟩
theorem T3.xcall : T3 25 := ⟨⟨_, Tryd.underlying25⟩, by kernel_rfl⟩
theorem e3_load {T : TypeId} (hT : T3 T) {ops : Array Oper} {rest : List Oper} {ds ty ps af} {a : Act} {w : World} {Q : Exit → Act → World → Prop} (x : Operand)
    {g : Nat} {nm : ByteArray} {cnt : Int} {v : Value} (hg : Blk w g T (e3 nm cnt v)) (hx : a.eval x = .pointer (some ⟨g, 0, none⟩))
    (h : wpList Tryd.prog ops Q rest (a.put ds (.agg #[.string nm, .int .i64 cnt, v])) w) : wpList Tryd.prog ops Q (⟨ds, .load T x, ty, ps, af, none⟩ :: rest) a w := by
  obtain ⟨⟨fs, hu⟩, hi⟩ := hT
  exact wpList_load_row rfl T x rfl _ hx T (e3 nm cnt v) (0, 0) _ hg hu rfl (by rw [hi]; rfl) h
theorem e3_store {T : TypeId} (hT : T3 T) {ops : Array Oper} {rest : List Oper} {ds ty ps af} {a : Act} {w : World} {Q : Exit → Act → World → Prop} (x y : Operand)
    {g : Nat} (nm : ByteArray) (cnt : Int) (v : Value) (hv : v.oneCell' = true) {cs0 : Array Value} (h0 : cs0.size = 3) (hg : Blk w g T cs0) (hx : a.eval x = .pointer (some ⟨g, 0, none⟩)) (hy : a.eval y = .agg #[.string nm, .int .i64 cnt, v])
    (h : wpList Tryd.prog ops Q rest (a.put ds undef) (w.setRow g (e3 nm cnt v))) : wpList Tryd.prog ops Q (⟨ds, .store T x y, ty, ps, af, none⟩ :: rest) a w := by
  obtain ⟨⟨fs, hu⟩, hi⟩ := hT
  exact wpList_store_row rfl T x y rfl _ (e3 nm cnt v) hx hy T cs0 hg (by rw [hi]; rfl) h0 (by have h1 : (Value.string nm).oneCell' = true := rfl; have h2 : (Value.int .i64 cnt).oneCell' = true := rfl; simp [e3, h1, h2, hv]) h
theorem e3_results {T : TypeId} (hT : T3 T) {fn : Func} {p : Tmp} (h : fn.results = #[.cell p T]) {tmps : Array Value} {w : World} {g : Nat} {nm : ByteArray} {cnt : Int} {v : Value}
    (hp : tmps.getD p undef = .pointer (some ⟨g, 0, none⟩)) (hg : Blk w g T (e3 nm cnt v)) : (results fn tmps).run Tryd.prog w = .ok (.agg #[.string nm, .int .i64 cnt, v]) w := by
  obtain ⟨⟨fs, hu⟩, hi⟩ := hT
  exact results_cell_row h tmps w g T (e3 nm cnt v) (0, 0) _ hp hg hu rfl (by rw [hi]; rfl)
set_option maxRecDepth 100000 in
theorem ctakes_is (nm : ByteArray) (cnt : Int) (v : Value) (ks : List Int) (B : Nat) (w : World) (h : KR w B v ks) (hl : ks.length ≤ 1000) : Calls Tryd.prog 41 #[.string nm, .int .i64 cnt, v] w fun e w' =>
    e = .returned (.agg #[.string nm, .int .i64 cnt, v]) ∧ KR w' B v (sortK ks) ∧ Only v.ownBlock.toList w w' := by
  obtain ⟨A, cap, rfl, -⟩ := KRow.form h
  have HS := hide (fun (o : Obj) => sort_k (h.grow ((Only.refl [] w).alloc o)) (by omega))
  have HV := hide (fun q (hq : (Value.slice A ks.length cap).ownBlock = some q) => (KRow.at_ h hq).2.1)
  clear h hl
  go_enter Tryd.func41, Tryd.ntmps41
  go_wp2_with (first | (go_at_call 43; refine (HS.out _).mono ?_; rintro e w2 ⟨rfl, h1, h2⟩; have X := hide (Blk.only (Blk.new _ _ _) h2 (by intro hm; have hh := HV.out _ (by simpa using hm); omega)); have HR := hide h1; have HO := hide h2; clear h1 h2) | (refine e3_store T3.entry (.tmp 6) (.tmp 12) nm cnt _ rfl (by rfl) X.out rfl rfl ?_))
  refine bodyPost_ret (e3_results T3.entry rfl rfl (X.out.row _)) rfl ⟨rfl, ?_, ?_⟩
  · exact HR.out.only ((Only.refl [w.heap.size] _).setRow _ (by simp)) (fun q hq hm => by have hh := HV.out q hq; simp at hm; omega)
  · exact (((Only.refl _ w).alloc _).trans HO.out).setRow _ (fun hm => by omega)
theorem cwith_is (many : Nat) (hm1 : 2 ≤ many) (hm2 : many ≤ 100) (kind : Int) (v : Value) (ks : List Int) (B : Nat) (w : World) (h : KR w B v ks) (hl : ks.length ≤ 100) : Calls Tryd.prog 42 #[.int .i64 (many : Int), .int .i64 kind, v] w fun e w' =>
    ∃ v', e = .returned v' ∧ KR w' w.heap.size v' (List.replicate many kind ++ ks) ∧ Only [] w w' := by
  obtain ⟨A, cap, rfl, hc⟩ := KRow.form h
  have HA := hide (show A = none → ks.length = 0 ∧ cap = 0 by
    rintro rfl
    rcases h.2 with ⟨e, h0⟩ | ⟨b, c, cur, e, -⟩
    · simp at e; omega
    · simp at e)
  have HC := hide (fun (W : World) (ho : Only [] w W) => show ∀ ad, A = some ad → ∀ j u, (i64l ks)[j]? = some u → W.cell? (ad.add j) = some u by
    rintro ad rfl j u hj
    have hjn : j < ks.length := by
      have := (List.getElem?_eq_some_iff.1 hj).1
      simpa [i64l] using this
    obtain ⟨b, e, hB, hb, hcell⟩ := hc (by omega)
    injection e with e
    subst e
    rw [add_at, Nat.zero_add, ho.cell hb (by simp), hcell j hjn]
    rw [← hj]
    simp [i64l, gb, List.getD, List.getElem?_eq_getElem hjn])
  have HM := hide (fun (o : Obj) (q : Nat) (hc) => repeat_is kind q many hm1 (by omega) (w.alloc o) hc)
  clear h hc
  go_enter Tryd.func42, Tryd.ntmps42
  have HBG := hide (show (List.replicate many kind).length + ks.length < 4000000000000 by simp; omega)
  go_wp2_with (first | (go_at_call 44; refine (HM.out _ _ (by go_simp)).mono ?_; rintro e w2 ⟨b, rfl, h1, h2, h3⟩; have HB := hide (Nat.le_trans ((Only.refl [] w).alloc _).size h1); have HK := hide (show IRow w2 (.slice (some ⟨b, 0, none⟩) many many) (List.replicate many kind) from (KR.of_blk (by simpa using h2) (by simp) (by omega)).low (Nat.zero_le _)); have HO := hide (((Only.refl [] w).alloc _).trans h3); clear h1 h2 h3) | (refine wpList_append_any rfl (.tmp 10) (.tmp 11) rfl _ (List.replicate many kind) rfl HK.out A ks.length cap rfl HA.out ks rfl (HC.out _ HO.out) HBG.out ?_; intro v' w3 h1 h2 h3; have HR := hide h1; have HP := hide h2; have HQ := hide h3; clear h1 h2 h3))
  go_ret
  refine ⟨_, rfl, ?_, ?_⟩
  · exact irow_base HR.out (fun q hq => by
      rcases HQ.out q hq with h | h
      · have h' : some b = some q := h
        injection h' with h'
        have := HB.out
        omega
      · have := HO.out.size; omega)
  · exact HO.out.trans' HP.out (fun k hk hm => by
      have h' : k ∈ [b] := hm
      have h2 := List.mem_singleton.1 h'
      have := HB.out
      omega)
end Go.Proofs.YtccobbfinmlgdaaDoor
