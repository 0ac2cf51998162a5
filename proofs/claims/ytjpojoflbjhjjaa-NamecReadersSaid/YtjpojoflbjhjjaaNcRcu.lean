/-
  Domains (parapet/rcu): the struct, its rows, its map; New, Defer, Waiting.
-/
import Derived.Test.YtjpojoflbjhjjaaMapII
import Derived.Test.YtjpojoflbjhjjaaRqRow
import Derived.Deep.RegionHeld3
import Derived.Deep.QuietTactic
import Derived.BigQuiet
namespace Go.Proofs.Ytjpojoflbjhjjaa
open Go.ChangeShapes Go.WideShapes Go.ChangeAt Go.RowKit Go.Maps
set_option linter.unusedVariables false
set_option linter.unusedSimpArgs false
/-- A new row of the same numbers, of whatever length. -/
theorem cloneI_big {w : World} {v : Value} {ns : List Int} (h : IRow w v ns) (hf : ns.length < 3900000000001) : Calls Try.prog 43 #[v] w fun e w' => ∃ v', e = .returned v' ∧ IRow w' v' ns ∧ (∀ q, v'.ownBlock = some q → w.heap.size ≤ q) ∧ Only [] w w' := by
  have q22 : ∀ (w : World) (a : Option Addr) (n c n' c' : Nat), (binOp .eql 38 (.slice a n c) (.slice none n' c')).run Try.prog w = .ok (.bool a.isNone) w := fun w a n c n' c' => Lib.run_eql_slice_nil w _ _ a n c n' c' Try.underlying38
  obtain ⟨A, cap, rfl, hA, _, _, hc⟩ := h.form2
  rcases A with _ | ad
  · obtain ⟨h0, rfl⟩ := hA rfl
    obtain rfl : ns = [] := List.eq_nil_of_length_eq_zero h0
    clear hA hc
    go_enter Try.func43, Try.ntmps43
    go_wp2
    go_ret
    exact ⟨_, rfl, KRow.nil _ _ _ _, by simp [Value.ownBlock], Only.refl _ _⟩
  · obtain ⟨b, rfl, hbl, hcell⟩ := hc ad rfl
    have HS := hide (fun (o : Obj) (j : Nat) (u : Value) (hu : (i64l ns)[j]? = some u) => (((Only.refl [] w).alloc o).cell hbl (by simp)).trans (hcell j u hu))
    have HE := hide (irow_empty (Blk.new w 3 #[]))
    have HF := hide hf
    clear hA h hc hcell
    go_enter Try.func43, Try.ntmps43
    go_wp2_with (at_builtin; refine wpList_append_any rfl _ _ rfl (.slice (some ⟨w.heap.size, 0, none⟩) 0 0) [] rfl HE.out (some ⟨b, 0, none⟩) ns.length cap rfl (fun e => by cases e) ns rfl (fun ad e j u hu => by injection e with e; rw [← e, add_at, Nat.zero_add]; exact HS.out _ j u hu) (by have := HF.out; simp; omega) ?_; rintro v' w2 hr ho hk; obtain ⟨A', c', rfl, _⟩ := hr.form; have HR := hide hr; have HO := hide ho; have HK := hide hk; clear hr ho hk)
    go_ret
    refine ⟨_, rfl, by simpa using HR.out, fun q hq => ?_, (((Only.refl [] w).alloc _).trans' HO.out (fun k hk hm => ?_))⟩
    · rcases HK.out q hq with h | h
      · simp [Value.ownBlock] at h; omega
      · simp at h; omega
    · simp [Value.ownBlock] at hm; omega
theorem one_newsR {w : World} {k : Nat} {x : Int} (hb : Blk w k 3 #[.int .i64 x]) : ∀ ad, some (⟨k, 0, none⟩ : Addr) = some ad → ∀ j u, (i64l [x])[j]? = some u → w.cell? (ad.add j) = some u := by
  rintro ad e j u hu
  injection e with e
  subst e
  have h0 : j = 0 := by
    have := (List.getElem?_eq_some_iff.1 hu).1
    simp [i64l] at this
    exact this
  subst h0
  rw [add_at, hb.cell]
  exact hu
def boolL (l : List Bool) : List Value := l.map Value.bool
/-- What a domain is: of each hart in how many sections it is, has it passed; the epoch; what waits, and since when. -/
structure RS where
  ns : List Int
  ps : List Bool
  ep : Int
  L : List (Int × Int)
/-- What is always so. -/
structure OkR (s : RS) : Prop where
  one : 1 ≤ s.ns.length
  few : s.ns.length ≤ 8
  same : s.ps.length = s.ns.length
  ep0 : 0 ≤ s.ep
  ep1 : s.ep < 4611686018427387904
  len : s.L.length < 3900000000000
structure IsRc (w : World) (d nb pb m : Nat) (v : Value) (s : RS) : Prop where
  blk : Blk w d 67 #[.slice (some ⟨nb, 0, none⟩) s.ns.length s.ns.length, .slice (some ⟨pb, 0, none⟩) s.ps.length s.ps.length, .int .i64 s.ep, v, .map (some m)]
  nests : Blk w nb 3 (i64l s.ns).toArray
  pass : Blk w pb 4 (boolL s.ps).toArray
  row : IRow w v (s.L.map (·.1))
  own : ∃ D, w.ownsMap Try.prog 3 elemI m s.L.length D ∧ MHolds encI D s.L
  vn : v.ownBlock ≠ some nb
  ok : OkR s
def footR (d nb pb m : Nat) (v : Value) : List Nat := d :: nb :: pb :: m :: v.ownBlock.toList
theorem mem_footR {d nb pb m q : Nat} {v : Value} : q ∈ footR d nb pb m v ↔ q = d ∨ q = nb ∨ q = pb ∨ q = m ∨ v.ownBlock = some q := by
  unfold footR
  cases v.ownBlock with
  | none => simp
  | some k => simp [eq_comm]
/-- What a call did: only blocks of F turned; those of F' are F's, or new. -/
def Tn (w w' : World) (F F' : List Nat) : Prop := Only F w w' ∧ ∀ q ∈ F', q ∈ F ∨ w.heap.size ≤ q
theorem Tn.same {w w' : World} {F : List Nat} (h : Only F w w') : Tn w w' F F := ⟨h, fun q hq => .inl hq⟩
theorem Tn.trans {w w1 w2 : World} {F F1 F2 : List Nat} (h : Tn w w1 F F1) (h2 : Tn w1 w2 F1 F2) : Tn w w2 F F2 :=
  ⟨h.1.trans' h2.1 (fun q hq hm => (h.2 q hm).resolve_right (by omega)), fun q hq => by
    rcases h2.2 q hq with e | e
    · exact h.2 q e
    · exact .inr (Nat.le_trans h.1.size e)⟩
theorem Tn.quiet {w w1 w2 : World} {F F1 : List Nat} (h : Tn w w1 F F1) (h2 : Only [] w1 w2) : Tn w w2 F F1 := ⟨h.1.trans (h2.mono (by simp)), h.2⟩
theorem ownsMap_only {w w' : World} {kt : TypeId} {el : Value → Option (DataW Unit × List MemPlace)} {b n : Nat} {D : DataW Unit} {S : List Nat} (h : w.ownsMap Try.prog kt el b n D) (ho : Only S w w') (hs : b ∉ S) : w'.ownsMap Try.prog kt el b n D := by
  obtain ⟨es, clock, hb, F, hsz, rfl⟩ := h
  have hlt : b < w.heap.size := by
    rcases Nat.lt_or_ge b w.heap.size with h | h
    · exact h
    · rw [Array.getElem?_eq_none h] at hb; cases hb
  exact ⟨es, clock, (ho.block b hlt hs).trans hb, F, hsz, rfl⟩
theorem ownsMap_lt {w : World} {kt : TypeId} {el : Value → Option (DataW Unit × List MemPlace)} {b n : Nat} {D : DataW Unit} (h : w.ownsMap Try.prog kt el b n D) : b < w.heap.size := by
  obtain ⟨es, clock, hb, F, hsz, rfl⟩ := h
  rcases Nat.lt_or_ge b w.heap.size with h | h
  · exact h
  · rw [Array.getElem?_eq_none h] at hb; cases hb
theorem ownsMap_ne {w : World} {kt : TypeId} {el : Value → Option (DataW Unit × List MemPlace)} {b n q : Nat} {D : DataW Unit} {t : TypeId} {cs : Array Value} (h : w.ownsMap Try.prog kt el b n D) (hq : Blk w q t cs) : b ≠ q := by
  rintro rfl
  obtain ⟨es, clock, hb, F, hsz, rfl⟩ := h
  unfold Blk at hq
  rw [hb] at hq
  cases hq
section
variable {w w' w1 : World} {d nb pb m : Nat} {v : Value} {s : RS} {S F F' : List Nat}
theorem IsRc.only (h : IsRc w d nb pb m v s) (ho : Only S w w') (hs : ∀ q ∈ footR d nb pb m v, q ∉ S) : IsRc w' d nb pb m v s := by
  obtain ⟨D, d1, d2⟩ := h.own
  exact ⟨h.blk.only ho (hs _ (mem_footR.2 (.inl rfl))), h.nests.only ho (hs _ (mem_footR.2 (.inr (.inl rfl)))), h.pass.only ho (hs _ (mem_footR.2 (.inr (.inr (.inl rfl))))), h.row.only ho (fun q hq => hs _ (mem_footR.2 (.inr (.inr (.inr (.inr hq)))))), ⟨D, ownsMap_only d1 ho (hs _ (mem_footR.2 (.inr (.inr (.inr (.inl rfl)))))), d2⟩, h.vn, h.ok⟩
theorem IsRc.lt (h : IsRc w d nb pb m v s) : ∀ q ∈ footR d nb pb m v, q < w.heap.size := fun q hq => by
  obtain ⟨D, d1, d2⟩ := h.own
  rcases mem_footR.1 hq with rfl | rfl | rfl | rfl | e
  · exact h.blk.lt
  · exact h.nests.lt
  · exact h.pass.lt
  · exact ownsMap_lt d1
  · exact (h.row.at_ e).2.1
theorem IsRc.c0 (h : IsRc w d nb pb m v s) : w.cell? ⟨d, 0, none⟩ = some (.slice (some ⟨nb, 0, none⟩) s.ns.length s.ns.length) := h.blk.cell 0
theorem IsRc.c1 (h : IsRc w d nb pb m v s) : w.cell? ⟨d, 1, none⟩ = some (.slice (some ⟨pb, 0, none⟩) s.ps.length s.ps.length) := h.blk.cell 1
theorem IsRc.c2 (h : IsRc w d nb pb m v s) : w.cell? ⟨d, 2, none⟩ = some (.int .i64 s.ep) := h.blk.cell 2
theorem IsRc.c3 (h : IsRc w d nb pb m v s) : w.cell? ⟨d, 3, none⟩ = some v := h.blk.cell 3
theorem IsRc.c4 (h : IsRc w d nb pb m v s) : w.cell? ⟨d, 4, none⟩ = some (.map (some m)) := h.blk.cell 4
theorem IsRc.fr (h : IsRc w d nb pb m v s) (o : Nat) : w.frozen? ⟨d, o, none⟩ = false := h.blk.frozen o
/-- The domain, packed. -/
def Rc (w : World) (d : Nat) (s : RS) (F : List Nat) : Prop := ∃ nb pb m v, IsRc w d nb pb m v s ∧ (∀ q ∈ footR d nb pb m v, q ∈ F) ∧ ∀ q ∈ F, q < w.heap.size
def DidR (w w' : World) (d : Nat) (s : RS) (F : List Nat) : Prop := ∃ F', Tn w w' F F' ∧ Rc w' d s F'
theorem Rc.only (h : Rc w d s F) (ho : Only S w w') (hs : ∀ q ∈ F, q ∉ S) : Rc w' d s F := by
  obtain ⟨nb, pb, m, v, h1, h2, h3⟩ := h
  exact ⟨nb, pb, m, v, h1.only ho (fun q hq => hs q (h2 q hq)), h2, fun q hq => Nat.lt_of_lt_of_le (h3 q hq) ho.size⟩
theorem Rc.quiet (h : Rc w d s F) (ho : Only [] w w') : Rc w' d s F := h.only ho (by simp)
theorem Rc.lt (h : Rc w d s F) : ∀ q ∈ F, q < w.heap.size := by obtain ⟨nb, pb, m, v, h1, h2, h3⟩ := h; exact h3
theorem Rc.ok (h : Rc w d s F) : OkR s := by obtain ⟨nb, pb, m, v, h1, h2, h3⟩ := h; exact h1.ok
theorem Rc.dF (h : Rc w d s F) : d ∈ F := by obtain ⟨nb, pb, m, v, h1, h2, h3⟩ := h; exact h2 d (mem_footR.2 (.inl rfl))
theorem IsRc.pack (h : IsRc w' d nb pb m v s) (ho : Only F w w') (hf : ∀ q ∈ footR d nb pb m v, q ∈ F ∨ w.heap.size ≤ q) : DidR w w' d s F :=
  ⟨footR d nb pb m v, ⟨ho, hf⟩, nb, pb, m, v, h, fun q hq => hq, h.lt⟩

theorem rclosed_is (h : Rc w d s F) : Calls Try.prog 42 #[.pointer (some ⟨d, 0, none⟩)] w fun e w' => e = .returned (.bool false) ∧ w = w' := by
  obtain ⟨nb, pb, m, v, h1, h2, h3⟩ := h
  have c0 := h1.c0
  have hn := h1.ok.one
  have hz : ((s.ns.length : Int) == 0) = false := by simp only [beq_eq_false_iff_ne]; omega
  clear h1 h2 h3
  go_enter Try.func42, Try.ntmps42
  go_wp2
  go_ret
  exact ⟨rfl, rfl⟩

set_option maxRecDepth 100000 in
theorem rWaiting_is (h : Rc w d s F) : Calls Try.prog 20 #[.pointer (some ⟨d, 0, none⟩)] w fun e w' => ∃ v', e = .returned v' ∧ IRow w' v' (s.L.map (·.1)) ∧ (∀ q, v'.ownBlock = some q → w.heap.size ≤ q) ∧ Only [] w w' := by
  have HC := hide (rclosed_is h)
  obtain ⟨nb, pb, m, v, h1, h2, h3⟩ := h
  have c3 := h1.c3
  obtain ⟨A, c, rfl, -⟩ := IRow.form2 h1.row
  have HCL := hide (cloneI_big h1.row (by rw [List.length_map]; have := h1.ok.len; omega))
  clear h1 h2 h3
  generalize s.L.map (·.1) = ns at *
  go_enter Try.func20, Try.ntmps20
  go_wp2_with (first | (go_at_call 42; refine HC.out.mono ?_; rintro e w' ⟨rfl, rfl⟩) | (go_at_call 43; refine HCL.out.mono ?_; rintro e w1 ⟨v', rfl, hr, hn, ho⟩; obtain ⟨A', c', rfl, -⟩ := hr.form2; have HR := hide hr; have HN := hide hn; have HO := hide ho; clear hr hn ho))
  go_ret
  exact ⟨_, rfl, HR.out, HN.out, HO.out⟩
theorem OkR.defer (h : OkR s) (id : Int) (hl : s.L.length + 1 < 3900000000000) : OkR { s with L := s.L ++ [(id, s.ep)] } := ⟨h.one, h.few, h.same, h.ep0, h.ep1, by simpa using hl⟩
set_option maxRecDepth 100000 in
set_option maxHeartbeats 1000000 in
/-- Something new waits. -/
theorem rDefer_new (h : Rc w d s F) (id : Int) (hid : iW id) (hn : id ∉ s.L.map (·.1)) (hl : s.L.length + 1 < 3900000000000) : Calls Try.prog 52 #[.pointer (some ⟨d, 0, none⟩), .int .i64 id] w fun e w' => e = .returned (.int .i64 0) ∧ DidR w w' d { s with L := s.L ++ [(id, s.ep)] } F := by
  have HC := hide (rclosed_is h)
  obtain ⟨nb, pb, m, v, h1, h2, h3⟩ := h
  obtain ⟨D, d1, d2⟩ := h1.own
  have hrun0 := lookI_no d2 d1 hid hn
  have hep : iW s.ep := by
    have e1 : IntKind.i64.min = -9223372036854775808 := by decide
    have e2 : IntKind.i64.max = 9223372036854775807 := by decide
    have := h1.ok.ep0
    have := h1.ok.ep1
    simp only [iW, Lit.wf, e1, e2, Bool.and_eq_true, decide_eq_true_eq]
    omega
  obtain ⟨w1, hrun, hown, ho⟩ := storeI_new d2 d1 (by unfold maxLen; omega) hid hn hep
  obtain ⟨w1', hrun', hown', ho'⟩ := storeI_new d2 (ownsMap_only (w' := w.drew) d1 ((Only.refl [] w).drew) (by simp)) (by unfold maxLen; omega) hid hn hep
  have c2 := h1.c2
  have c3 := h1.c3
  have c4 := h1.c4
  clear hrun ho hown w1
  have hmd : m ≠ d := ownsMap_ne d1 h1.blk
  have hmn : m ≠ nb := ownsMap_ne d1 h1.nests
  have hmp : m ≠ pb := ownsMap_ne d1 h1.pass
  have hvm : ∀ q, v.ownBlock = some q → q ≠ m := fun q hq e => by
    subst e
    rcases h1.row.2 with ⟨e, _⟩ | ⟨b, cap, cur, e, _, hg, _⟩
    · rw [e] at hq; simp [Value.ownBlock] at hq
    · rw [e] at hq
      simp only [Value.ownBlock, Option.some.injEq] at hq
      subst hq
      exact ownsMap_ne d1 hg rfl
  obtain ⟨A, c, rfl, -⟩ := IRow.form2 h1.row
  have hoW : Only [m] w w1' := ((Only.refl [] w).drew.mono (by simp)).trans ho'
  have hb1 := h1.blk.only hoW (by simp; exact fun e => hmd e.symm)
  have k3 : w1'.cell? ⟨d, 3, none⟩ = some (.slice A (s.L.map (·.1)).length c) := hb1.cell 3
  have hd' := d2.new (f := s.ep) hid hn
  have hrow1 : IRow w1' (.slice A (s.L.map (·.1)).length c) (s.L.map (·.1)) := h1.row.only hoW (fun q hq hm => hvm q hq (by simpa using hm))
  have HRW := hide (fun o => show IRow (w1'.alloc o) (.slice A (s.L.map (·.1)).length c) (s.L.map (·.1)) from hrow1.only ((Only.refl [] w1').alloc o) (by simp))
  have HNW := hide (one_newsR (Blk.new w1' 3 #[.int .i64 id]))
  have HBIG := hide (show (s.L.map (·.1)).length + 1 < 4000000000000 by rw [List.length_map]; omega)
  have HP := hide (fun (v5 : Value) (w5 : World) (g1 : IRow w5 v5 (s.L.map (·.1) ++ [id])) (g2 : Only (Value.slice A (s.L.map (·.1)).length c).ownBlock.toList (w1'.alloc (.cells #[.int .i64 id] 3)) w5)
      (g3 : ∀ k, v5.ownBlock = some k → (Value.slice A (s.L.map (·.1)).length c).ownBlock = some k ∨ (w1'.alloc (.cells #[.int .i64 id] 3)).heap.size ≤ k) =>
    (show w5.cell? ⟨d, 3, none⟩ = some (.slice A (s.L.map (·.1)).length c) ∧ w5.frozen? ⟨d, 3, none⟩ = false ∧ (∃ A5 c5, v5 = .slice A5 (s.L.map (·.1) ++ [id]).length c5) ∧ DidR w (w5.setCell ⟨d, 3, none⟩ v5) d { s with L := s.L ++ [(id, s.ep)] } F from by
      have hvd : ∀ q, (Value.slice A (s.L.map (·.1)).length c).ownBlock = some q → q ≠ d := h1.row.apart h1.blk (by decide)
      have hvp : ∀ q, (Value.slice A (s.L.map (·.1)).length c).ownBlock = some q → q ≠ pb := h1.row.apart h1.pass (by decide)
      have hvn : ∀ q, (Value.slice A (s.L.map (·.1)).length c).ownBlock = some q → q ≠ nb := fun q hq e => h1.vn (by rw [hq, e])
      have ho5 : Only (Value.slice A (s.L.map (·.1)).length c).ownBlock.toList w1' w5 := (((Only.refl [] w1').alloc _).mono (by simp)).trans g2
      have hns : ∀ (q : Nat), (∀ j, (Value.slice A (s.L.map (·.1)).length c).ownBlock = some j → j ≠ q) → q ∉ (Value.slice A (s.L.map (·.1)).length c).ownBlock.toList := fun q h hm => by
        cases e : (Value.slice A (s.L.map (·.1)).length c).ownBlock with
        | none => rw [e] at hm; simp at hm
        | some j => rw [e] at hm; simp at hm; exact h j e hm.symm
      have hb5 := hb1.only ho5 (hns d hvd)
      obtain ⟨A5, c5, e5, -⟩ := IRow.form2 g1
      have hnew : ∀ q, v5.ownBlock = some q → (Value.slice A (s.L.map (·.1)).length c).ownBlock = some q ∨ w.heap.size ≤ q := fun q hq => (g3 q hq).imp_right (fun e => by have := hoW.size; simp at e; omega)
      have hnl := h1.nests.lt
      have hpl := h1.pass.lt
      have hdl := h1.blk.lt
      have hml := ownsMap_lt d1
      have hnb5 : ∀ q, v5.ownBlock = some q → q ≠ d ∧ q ≠ nb ∧ q ≠ pb ∧ q ≠ m := fun q hq => by
        rcases hnew q hq with e | e
        · exact ⟨hvd q e, hvn q e, hvp q e, hvm q e⟩
        · exact ⟨by omega, by omega, by omega, by omega⟩
      have ho6 : Only [d] w5 (w5.setCell ⟨d, 3, none⟩ v5) := (Only.refl [d] w5).setCell (p := ⟨d, 3, none⟩) _ (by simp)
      have hne_nd : nb ≠ d := h1.nests.ne_ h1.blk (by decide)
      have hne_pd : pb ≠ d := h1.pass.ne_ h1.blk (by decide)
      have hI : IsRc (w5.setCell ⟨d, 3, none⟩ v5) d nb pb m v5 { s with L := s.L ++ [(id, s.ep)] } := by
        refine ⟨hb5.set_ 3 v5, ?_, ?_, ?_, ⟨_, ?_, hd'⟩, fun e => (hnb5 nb e).2.1 rfl, h1.ok.defer id hl⟩
        · exact ((h1.nests.only hoW (by simp; exact fun e => hmn e.symm)).only ho5 (hns nb hvn)).only ho6 (by simpa using hne_nd)
        · exact ((h1.pass.only hoW (by simp; exact fun e => hmp e.symm)).only ho5 (hns pb hvp)).only ho6 (by simpa using hne_pd)
        · rw [List.map_append]
          exact KRow.only g1 ho6 (fun q hq hm => (hnb5 q hq).1 (by simpa using hm))
        · exact ownsMap_only (ownsMap_only hown' ho5 (hns m hvm)) ho6 (by simpa using hmd)
      refine ⟨hb5.cell 3, hb5.frozen 3, ⟨A5, c5, e5⟩, hI.pack ?_ (fun q hq => ?_)⟩
      · refine (((hoW.mono (fun q _ hq => h2 q (by simp at hq; subst hq; exact mem_footR.2 (.inr (.inr (.inr (.inl rfl))))))).trans (ho5.mono (fun q _ hq => h2 q ?_)))).trans (ho6.mono (fun q _ hq => h2 q (by simp at hq; subst hq; exact mem_footR.2 (.inl rfl))))
        cases e : (Value.slice A (s.L.map (·.1)).length c).ownBlock with
        | none => rw [e] at hq; simp at hq
        | some j => rw [e] at hq; simp at hq; subst hq; exact mem_footR.2 (.inr (.inr (.inr (.inr e))))
      · rcases mem_footR.1 hq with rfl | rfl | rfl | rfl | e
        · exact .inl (h2 _ (mem_footR.2 (.inl rfl)))
        · exact .inl (h2 _ (mem_footR.2 (.inr (.inl rfl))))
        · exact .inl (h2 _ (mem_footR.2 (.inr (.inr (.inl rfl)))))
        · exact .inl (h2 _ (mem_footR.2 (.inr (.inr (.inr (.inl rfl))))))
        · exact (hnew q e).imp_left (fun e => h2 _ (mem_footR.2 (.inr (.inr (.inr (.inr e))))))))
  clear h1 h2 h3 d1 d2 hown' ho' hoW hb1 hd' hrow1 hvm hep hid hn c3
  generalize s.L.map (·.1) = ns at *
  go_enter Try.func52, Try.ntmps52
  go_wp2_with (go_at_call 42; refine HC.out.mono ?_; rintro e w' ⟨rfl, rfl⟩)
  go_region
  go_wp2_with (at_builtin; refine wpList_append_any rfl _ _ rfl (.slice A ns.length c) ns rfl (HRW.out _) (some ⟨_, 0, none⟩) 1 1 rfl (fun e => by cases e) [id] rfl HNW.out HBIG.out ?_; intro v5 w5 g1 g2 g3; obtain ⟨k1, k2, ⟨A5, c5, rfl⟩, k4⟩ := HP.out v5 w5 g1 g2 g3; have HK := hide k4; clear g1 g2 g3 k4)
  go_ret
  have hk := HK.out
  rw [List.length_append] at hk
  exact ⟨rfl, hk⟩
end
end Go.Proofs.Ytjpojoflbjhjjaa
