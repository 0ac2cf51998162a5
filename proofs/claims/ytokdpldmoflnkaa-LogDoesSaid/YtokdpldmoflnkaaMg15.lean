/-
  The document's own disk: Sector, Read.
-/
import Derived.Test.YtokdpldmoflnkaaMg14
import Derived.Deep.AppendLies
import Derived.Laws.AppendOwnNone
import Derived.Deep.RegionLaw
namespace Go.Proofs.Ytokdpldmoflnkaa
open Go.ChangeShapes Go.WideShapes Go.ChangeAt Go.RowKit
set_option linter.unusedVariables false

theorem sect_snoc (plat : List Int) (l : List (Nat × List Int)) (p : Nat × List Int) (n : Nat) : sect plat (l ++ [p]) n = if p.1 = n then p.2 else sect plat l n := by
  unfold sect
  rw [List.foldl_append]
  rfl
theorem ofW_take {ws : List WR} {k : Nat} {x : WR} (hx : ws[k]? = some x) : ofW (ws.take (k + 1)) = ofW (ws.take k) ++ [(x.sec, x.data)] := by
  have hk : k < ws.length := (List.getElem?_eq_some_iff.1 hx).1
  unfold ofW
  rw [List.take_succ_eq_append_getElem hk, List.map_append]
  simp [(List.getElem?_eq_some_iff.1 hx).2]
theorem ofW_len {w : World} {N : Nat} {ws : List WR} (h : ∀ x ∈ ws, x.ok w N) : ∀ p ∈ ofW ws, p.2.length = 512 := by
  intro p hp
  obtain ⟨x, hx, rfl⟩ := List.mem_map.1 hp
  exact (h x hx).len

theorem Fresh.quiet {w w' : World} {B : Nat} {v : Value} {xs : List Int} (h : Fresh w B v xs) (ho : Only [] w w') : Fresh w' B v xs := by
  obtain ⟨d, c, r, e, h1, h2, h3⟩ := h
  exact ⟨d, c, r, e, h1, h2.only ho (by simp), h3⟩
/-- What Sector has read behind k writes. -/
def SecRel (w : World) (plat : List Int) (ws : List WR) (n : Nat) (out i : Value) (wr : World) : Prop :=
  ∃ k : Nat, k ≤ ws.length ∧ i = .int .i64 k ∧ Only [] w wr ∧ Fresh wr w.heap.size out (sect plat (ofW (ws.take k)) n)

section
variable {w : World} {g pb pc : Nat} {pr : List Value} {pv : Value} {N : Nat} {plat : List Int} {ws : List WR} {left : Int} {stops : Bool} {rd wt fl : Int} (h : IsR2 w g pb pc pr pv N plat ws left stops rd wt fl)
include h

set_option maxRecDepth 100000 in
theorem r2sector_is (n : Nat) (hn : n < N) : Calls Try.prog 69 #[.pointer (some ⟨g, 0, none⟩), .int .i64 n] w fun e w' => ∃ v, e = .returned v ∧ Fresh w' w.heap.size v (sect plat (ofW ws) n) ∧ Only [] w w' := by
  have hc1 := h.c1
  have hc2 := h.c2
  have hcap := h.cap
  have hb := h.big
  have hfew := h.few
  have hca : ∀ o, (w.alloc o).cell? ⟨g, 1, none⟩ = some (.slice (some ⟨pb, 0, none⟩) (512 * N) pc) := fun o => ((h.str.alloc o).cell 1).trans rfl
  have HE := hide (show n * 512 = 512 * n ∧ (n + 1) * 512 - 512 * n = 512 by omega)
  have hle : 512 * N ≤ pc := by omega
  have HD := hide h
  have HS := hide (show Sees (w.alloc (.cells #[] 5)) (some ⟨pb, n * 512, none⟩) ((n + 1) * 512 - n * 512) ((plat.drop (512 * n)).take 512) from by
    rw [HE.out.1, HE.out.2]
    exact ⟨by have := h.len; simp; omega, fun _ => ⟨pb, 512 * n, rfl, by have := h.row.lt; simp; omega, fun i hi => by
      rw [(h.row.alloc _).cell, gb_cut _ _ _ _ hi]
      exact u8l_get _ _ _ (by have := h.len; omega)⟩⟩)
  obtain ⟨A, cap, rfl, hA, hA2⟩ := sec_form h.own
  have HA2 := hide hA2
  clear h hcap hA hA2
  go_enter Try.func69, Try.ntmps69
  go_wp2_with (at_builtin; refine wpList_append_new rfl _ _ rfl _ w.heap.size w.heap.size rfl (Nat.le_refl _) (Blk.new w 5 #[]) (some ⟨pb, n * 512, none⟩) ((n + 1) * 512 - n * 512) (pc - n * 512) rfl (by simp) _ HS.out (by omega) ?_; intro v' w1 hf ho; have HF := hide hf; have HO := hide (((Only.refl [] w).alloc (.cells #[] 5)).trans' ho (fun k hk hm => by simp at hm; omega)); clear hf ho hca hc1; have hc2' := ((HD.out.quiet HO.out).c2))
  clear hc2 hc2'
  go_loopw [5, 25] (fun out i wr => SecRel w plat ws n out i wr) (fun _ i _ => ws.length - (intOf i).toNat)
  case atStart => exact ⟨0, Nat.zero_le _, rfl, HO.out, by simpa [ofW, sect] using HF.out⟩
  case round =>
    obtain ⟨k, hk, rfl, ho, hf⟩ := hrel
    have HO1 := hide ho
    have HF1 := hide hf
    by_cases hlt : k < ws.length
    · obtain ⟨x, hx⟩ : ∃ x, ws[k]? = some x := ⟨_, List.getElem?_eq_getElem hlt⟩
      have HA3 : ∃ q, A = some ⟨q, 0, none⟩ ∧ w.cell? ⟨q, k * 2, none⟩ = some (.int .i64 x.sec) ∧ w.cell? ⟨q, k * 2 + 1, none⟩ = some (.slice (some ⟨x.blk, 0, none⟩) 512 (512 + x.rest.length)) ∧ q < w.heap.size := by
        obtain ⟨A', cap', e, hA, hA2⟩ := sec_form HD.out.own
        cases e
        rcases A with _ | b
        · exact absurd (hA rfl).1 (by omega)
        · obtain ⟨q, rfl, hq, _, _, hc⟩ := HA2.out b rfl
          exact ⟨q, rfl, (hc k x hx).1, (hc k x hx).2, hq⟩
      obtain ⟨q, rfl, s0, s1, hq⟩ := HA3
      have e0 := (ho.cell hq (by simp)).trans s0
      have e1 := (ho.cell hq (by simp)).trans s1
      have HX := hide hx
      have hok := HD.out.wok x (List.mem_of_getElem? hx)
      have HSE := hide (show sect plat (ofW (ws.take (k + 1))) n = if x.sec = n then x.data else sect plat (ofW (ws.take k)) n by rw [ofW_take hx, sect_snoc])
      clear s0 s1 hx ho hf
      by_cases hs : x.sec = n
      · rw [if_pos hs] at HSE
        have HSS := hide (fun (o1 o2 : Obj) => show Sees ((wr.alloc o1).alloc o2) (some ⟨x.blk, 0, none⟩) 512 x.data from
          ⟨hok.len, fun _ => ⟨x.blk, 0, rfl, by have := hok.row.lt; have := HO1.out.size; simp; omega, fun i hi => by
            rw [Nat.zero_add, ((hok.row.only (HO1.out.alloc o1) (by simp)).alloc o2).cell]
            exact u8l_get _ _ _ (by rw [hok.len]; exact hi)⟩⟩)
        clear hok
        subst hs
        go_wp2_with (at_builtin; refine wpList_append_new rfl _ _ rfl _ w.heap.size (wr.heap.size + 1) rfl ?qb ?qk (some ⟨x.blk, 0, none⟩) 512 (512 + x.rest.length) rfl (by simp) _ (HSS.out _ _) (by omega) ?_)
        case qb => have := HO1.out.size; omega
        case qk =>
          have hb := Blk.new (wr.alloc (.cells #[.int .i64 x.sec, .slice (some ⟨x.blk, 0, none⟩) 512 (512 + x.rest.length)] 109)) 5 #[]
          rw [show (wr.alloc (.cells #[.int .i64 x.sec, .slice (some ⟨x.blk, 0, none⟩) 512 (512 + x.rest.length)] 109)).heap.size = wr.heap.size + 1 by simp] at hb
          exact hb
        intro v' w2 hf2 ho2
        have HF2 := hide hf2
        have HO2 := hide ((((HO1.out).alloc _).alloc _).trans' ho2 (fun q hq hm => by have := HO1.out.size; simp at hm; omega))
        clear hf2 ho2
        go_wp2
        go_roundw
        case rel => exact ⟨k + 1, hlt, by go_num, HO2.out, by rw [HSE.out]; exact HF2.out⟩
        case measure => simp [intOf]; omega
      · rw [if_neg hs] at HSE
        have hs2 : ¬ ((x.sec : Int) = n) := by omega
        clear hok
        go_wp2
        go_roundw
        case rel => exact ⟨k + 1, hlt, by go_num, HO1.out.alloc _, by rw [HSE.out]; exact Fresh.quiet HF1.out ((Only.refl [] wr).alloc _)⟩
        case measure => simp [intOf]; omega
    · obtain rfl : k = ws.length := by omega
      rw [List.take_length] at hf
      have HF3 := hide hf
      clear hf ho
      go_wp2
      go_ret
      exact ⟨_, rfl, HF3.out, HO1.out⟩

theorem rread_bad (n : Int) (hn : n < 0 ∨ N ≤ n) : Calls Try.prog 55 #[.pointer (some ⟨g, 0, none⟩), .int .i64 n] w fun e w' => e = .returned (.tuple #[.slice none 0 0, .int .i64 20]) ∧ w = w' := by
  have hc0 := h.c0
  clear h
  by_cases h0 : n < 0
  · clear hn
    go_enter Try.func55, Try.ntmps55
    go_wp2
    go_ret2
    exact ⟨rfl, rfl⟩
  · have h1 : N ≤ n := by omega
    clear hn
    go_enter Try.func55, Try.ntmps55
    go_wp2
    go_ret2
    exact ⟨rfl, rfl⟩

theorem rread_ok (n : Nat) (h1 : n < N) (hr0 : 0 ≤ rd) (hr1 : rd < 9223372036854775807) : Calls Try.prog 55 #[.pointer (some ⟨g, 0, none⟩), .int .i64 n] w fun e w' =>
    ∃ v, e = .returned (.tuple #[v, .int .i64 0]) ∧ Fresh w' w.heap.size v (sect plat (ofW ws) n) ∧ Only [g] w w' ∧ IsR2 w' g pb pc pr pv N plat ws left stops (rd + 1) wt fl := by
  have hc0 := h.c0
  have hc5 := h.c5
  have hf5 := h.fr 5
  have ho1 : Only [g] w (w.setCell ⟨g, 5, none⟩ (.int .i64 (rd + 1))) := (Only.refl _ _).setCell _ (by simp)
  have HD1 := hide (h.restr (rd' := rd + 1) ho1 (h.str.set_ 5 _))
  have HO1 := hide ho1
  have HC := hide (r2sector_is HD1.out n h1)
  have hsz : (w.setCell ⟨g, 5, none⟩ (.int .i64 (rd + 1))).heap.size = w.heap.size := by simp
  rw [hsz] at HC
  clear h ho1 hsz
  go_enter Try.func55, Try.ntmps55
  go_wp2_with (go_at_call 69; refine HC.out.mono ?_; rintro e w2 ⟨v, rfl, hfv, hov⟩; have HF := hide hfv; have HO := hide hov; clear hfv hov)
  go_ret2
  exact ⟨v, rfl, HF.out, HO1.out.trans (HO.out.mono (by simp)), HD1.out.quiet HO.out⟩
end
end Go.Proofs.Ytokdpldmoflnkaa
/-
  The document's own disk: Write. Also: append of sectors, as a law for the walk.
-/
namespace Go.Proofs.Ytokdpldmoflnkaa
open Go.ChangeShapes Go.WideShapes Go.ChangeAt Go.RowKit
set_option linter.unusedVariables false

theorem wp_append_secs {o : Oper} {a : Act} {w : World} {K : Act → World → Prop} {Q : Exit → Act → World → Prop} (s x : Operand)
    (ho : o.op = .call { callee := .builtin .append, args := #[s, x], argTypes := #[72, 72] }) (v : Value) (n : Nat) (xs : List Value) (hs : a.eval s = v) (hr : w.ownsRow 0 109 2 v n xs)
    (A : Option Addr) (m c : Nat) (hx : a.eval x = .slice A m c) (hA : A = none → m = 0 ∧ c = 0) (zs : List Value) (hz : zs.length = m * 2) (hone : ∀ u ∈ zs, u.oneCell' = true) (hnews : ∀ ad, A = some ad → ∀ j u, zs[j]? = some u → w.cell? (ad.add j) = some u) (hbig : n + m < 4398046511104)
    (hK : ∀ v' w2, w2.ownsRow 0 109 2 v' (n + m) (xs ++ zs) → Only v.ownBlock.toList w w2 → (∀ k, v'.ownBlock = some k → v.ownBlock = some k ∨ w.heap.size ≤ k) → K (a.put o.dst v') w2) : Oper.wp Try.prog o a w K Q := by
  obtain ⟨i0, hi0, hz0, hz1, hz2⟩ := info_parts info_sec
  rcases A with _ | ad
  · obtain ⟨rfl, rfl⟩ := hA rfl
    have hzs : zs = [] := List.eq_nil_of_length_eq_zero (by omega)
    subst hzs
    have hrun := run_append_owned_none (P := Try.prog) (w := w) 0 72 o.type 109 i0 2 Try.underlying72 hi0 v n xs hr
    unfold Oper.wp
    simp [execOp, ho, resolve, invoke, builtin, hs, hx, hrun, Result.andThen]
    exact hK v w (by simpa using hr) (Only.refl _ _) (fun k hk => .inl hk)
  · obtain ⟨v', w', hrun, h2, h3, _, h5⟩ := run_append_own_at (P := Try.prog) w 0 72 o.type 109 i0 _ 2 32 Try.underlying72 hi0 hz0 hz1 hz2 rfl (by decide) v n xs hr ad m c zs hz (hnews ad rfl) hone (by unfold maxLen; omega) (by omega) (Nat.zero_le _)
    unfold Oper.wp
    simp [execOp, ho, resolve, invoke, builtin, hs, hx, hrun, Result.andThen]
    refine hK v' w' h2 (only_grown h3) (fun k hk => ?_)
    rcases h5 with h5 | h5
    · exact .inl (h5 ▸ hk)
    · rw [h5] at hk
      injection hk with hk
      exact .inr (Nat.le_of_eq hk)
theorem wpList_append_secs {ops : Array Oper} {rest : List Oper} {o : Oper} {a : Act} {w : World} {Q : Exit → Act → World → Prop} (hgd : o.guard = none) (s x : Operand)
    (ho : o.op = .call { callee := .builtin .append, args := #[s, x], argTypes := #[72, 72] }) (v : Value) (n : Nat) (xs : List Value) (hs : a.eval s = v) (hr : w.ownsRow 0 109 2 v n xs)
    (A : Option Addr) (m c : Nat) (hx : a.eval x = .slice A m c) (hA : A = none → m = 0 ∧ c = 0) (zs : List Value) (hz : zs.length = m * 2) (hone : ∀ u ∈ zs, u.oneCell' = true) (hnews : ∀ ad, A = some ad → ∀ j u, zs[j]? = some u → w.cell? (ad.add j) = some u) (hbig : n + m < 4398046511104)
    (hK : ∀ v' w2, w2.ownsRow 0 109 2 v' (n + m) (xs ++ zs) → Only v.ownBlock.toList w w2 → (∀ k, v'.ownBlock = some k → v.ownBlock = some k ∨ w.heap.size ≤ k) → wpList Try.prog ops Q rest (a.put o.dst v') w2) : wpList Try.prog ops Q (o :: rest) a w :=
  wpList_plain hgd fun _ hK' => wp_append_secs s x ho v n xs hs hr A m c hx hA zs hz hone hnews hbig fun v' w2 h1 h2 h3 => hK' _ _ (hK v' w2 h1 h2 h3)
theorem secs_empty {w : World} {H : Nat} (hb : Blk w H 109 #[]) : w.ownsRow 0 109 2 (.slice (some ⟨H, 0, none⟩) 0 0) 0 [] :=
  ⟨by simp, .inr ⟨H, 0, #[], rfl, Nat.zero_le _, hb, Nat.le_refl _, Nat.zero_le _, rfl, by simp⟩⟩
/-- What a write that is done leaves. -/
def RWrote (w w' : World) (g pb pc : Nat) (pr : List Value) (N : Nat) (plat : List Int) (ws : List WR) (left : Int) (stops : Bool) (rd wt fl : Int) (n : Nat) (zs : List Int) : Prop :=
  ∃ pv' x, Only [g] w w' ∧ (∀ k, pv'.ownBlock = some k → w.heap.size ≤ k) ∧ w.heap.size ≤ x.blk ∧ x.sec = n ∧ x.data = zs ∧ IsR2 w' g pb pc pr pv' N plat (ws ++ [x]) left stops rd wt fl

section
variable {w : World} {g pb pc : Nat} {pr : List Value} {pv : Value} {N : Nat} {plat : List Int} {ws : List WR} {left : Int} {stops : Bool} {rd wt fl : Int} (h : IsR2 w g pb pc pr pv N plat ws left stops rd wt fl)
include h

theorem rwrite_sector (n : Int) (A : Option Addr) (m c : Nat) (hn : n < 0 ∨ N ≤ n) : Calls Try.prog 47 #[.pointer (some ⟨g, 0, none⟩), .int .i64 n, .slice A m c] w fun e w' => e = .returned (.int .i64 20) ∧ w = w' := by
  have hc0 := h.c0
  clear h
  by_cases h0 : n < 0
  · clear hn
    go_enter Try.func47, Try.ntmps47
    go_wp2
    go_ret
    exact ⟨rfl, rfl⟩
  · have h1 : N ≤ n := by omega
    clear hn
    go_enter Try.func47, Try.ntmps47
    go_wp2
    go_ret
    exact ⟨rfl, rfl⟩

theorem rwrite_len (n : Int) (A : Option Addr) (m c : Nat) (h0 : 0 ≤ n) (h1 : n < N) (hm : m ≠ 512) : Calls Try.prog 47 #[.pointer (some ⟨g, 0, none⟩), .int .i64 n, .slice A m c] w fun e w' => e = .returned (.int .i64 1) ∧ w = w' := by
  have hc0 := h.c0
  have h5 : ((m : Int) != 512) = true := by simp only [bne_iff_ne]; omega
  clear h hm
  go_enter Try.func47, Try.ntmps47
  go_wp2
  go_ret
  exact ⟨rfl, rfl⟩

theorem rwrite_off (n : Int) (A : Option Addr) (c : Nat) (h0 : 0 ≤ n) (h1 : n < N) (hs : stops = true) (hl : left = 0) : Calls Try.prog 47 #[.pointer (some ⟨g, 0, none⟩), .int .i64 n, .slice A 512 c] w fun e w' => e = .returned (.int .i64 0) ∧ Only [] w w' := by
  have hc0 := h.c0
  have HS := hide (rdoes_off h hs hl)
  clear h hl hs
  go_enter Try.func47, Try.ntmps47
  go_wp2_with (go_at_call 66; refine HS.out.mono ?_; rintro e w' ⟨rfl, ho⟩; have HO := hide ho; clear ho)
  go_ret
  exact ⟨rfl, HO.out⟩

/-- does where something is done. -/
theorem rdoes_yes (hl : stops = true → 0 < left) (hm : left ≤ 9223372036854775807) : Calls Try.prog 66 #[.pointer (some ⟨g, 0, none⟩)] w fun e w' => e = .returned (.bool true) ∧ Only [g] w w' ∧ IsR2 w' g pb pc pr pv N plat ws (if stops then left - 1 else left) stops rd wt fl := by
  cases stops
  · exact (rdoes_free h rfl).mono fun e w' ⟨he, hw⟩ => ⟨he, hw.mono (by simp), h.quiet hw⟩
  · exact rdoes_one h rfl (hl rfl) hm

omit h in
theorem rwrite_end {w1 w7 : World} {g pb pc : Nat} {pr : List Value} {pv : Value} {N : Nat} {plat : List Int} {ws : List WR} {left : Int} {stops : Bool} {rd wt fl : Int} (hd : IsR2 w1 g pb pc pr pv N plat ws left stops rd wt fl) (x : WR) (hxB : w1.heap.size ≤ x.blk) (o7 : Only [] w1 w7) (x7 : x.ok w7 N) (pv' : Value)
    (hown : w7.ownsRow 0 109 2 pv' (ws.length + 1) (ws.flatMap WR.cells ++ x.cells)) (hat : ∀ k, pv'.ownBlock = some k → w1.heap.size ≤ k) (hf : ws.length < 4398046511000) :
    Only [g] w1 (w7.setCell ⟨g, 2, none⟩ pv') ∧ IsR2 (w7.setCell ⟨g, 2, none⟩ pv') g pb pc pr pv' N plat (ws ++ [x]) left stops rd wt fl := by
  have hl := hd.str.lt
  have hpl := hd.row.lt
  have oset : Only [g] w7 (w7.setCell ⟨g, 2, none⟩ pv') := (Only.refl _ _).setCell _ (by simp)
  have hlen : (ws ++ [x]).length = ws.length + 1 := by simp
  refine ⟨(o7.mono (by simp)).trans oset, ?_⟩
  have s7 := ((hd.str.only o7 (by simp)).set_ 2 pv')
  refine ⟨s7, (hd.row.only o7 (by simp)).only oset (by simpa using hd.gp.symm), hd.len, hd.cap, hd.pos, hd.big, hd.u8, ?_, ?_, ?_, by rw [hlen]; omega⟩
  · rw [hlen, List.flatMap_append]
    refine ownsRow_only (by simpa using hown) oset (fun k hk => ?_)
    have := hat k hk
    simp
    omega
  · intro y hy
    rcases List.mem_append.1 hy with hy | hy
    · exact ((hd.wok y hy).only o7 (by simp)).only oset (by simpa using ((hd.str.ne_ (hd.wok y hy).row (by decide))).symm)
    · simp at hy
      subst hy
      exact x7.only oset (by simp; omega)
  · intro y hy
    rcases List.mem_append.1 hy with hy | hy
    · exact hd.far y hy
    · simp at hy
      subst hy
      omega

set_option maxRecDepth 100000 in
set_option maxHeartbeats 1000000 in
theorem rwrite_do (n : Nat) (A : Option Addr) (c : Nat) (zs : List Int) (h1 : n < N) (hl : stops = true → 0 < left) (hm : left ≤ 9223372036854775807) (hs : Sees w A 512 zs) (hu : U8 zs) (hA : ∀ b, A = some b → b.block ≠ g) (hw0 : 0 ≤ wt) (hw1 : wt < 9223372036854775807) (hf : ws.length < 4398046511000) :
    Calls Try.prog 47 #[.pointer (some ⟨g, 0, none⟩), .int .i64 n, .slice A 512 c] w fun e w' => e = .returned (.int .i64 0) ∧ RWrote w w' g pb pc pr N plat ws (if stops then left - 1 else left) stops rd (wt + 1) fl n zs := by
  have hc0 := h.c0
  have HS := rdoes_yes h hl hm
  generalize (if stops then left - 1 else left) = lf at HS ⊢
  have HS := hide HS
  have HN := hide (show A = none → 512 = 0 ∧ c = 0 from fun e => by obtain ⟨b, o, e2, _⟩ := hs.2 (by omega); rw [e] at e2; cases e2)
  have HSE := hide (fun w2 (ho : Only [g] w w2) => hs.only ho (fun _ b hb _ => by simpa using hA b hb))
  have HF := hide hf
  have HL := hide hs.1
  clear h hf hm hs hl hA
  go_enter Try.func47, Try.ntmps47
  go_wp2_with fail
  refine HS.out.mono ?_
  rintro e w1 ⟨rfl, ho1, hd1⟩
  have hc6 := hd1.c6
  have hf6 := hd1.fr 6
  have ho2 : Only [g] w1 (w1.setCell ⟨g, 6, none⟩ (.int .i64 (wt + 1))) := (Only.refl _ _).setCell _ (by simp)
  have HD2 := hide (hd1.restr (wt' := wt + 1) ho2 (hd1.str.set_ 6 _))
  have HO2 := hide (ho1.trans ho2)
  have HZ := hide (show (w1.setCell ⟨g, 6, none⟩ (.int .i64 (wt + 1))).heap.size = w1.heap.size by simp)
  have HG := hide (show g < w1.heap.size from hd1.str.lt)
  obtain ⟨A2, cap2, rfl, hA2, hA3⟩ := sec_form HD2.out.own
  have hca : ∀ o, ((w1.setCell ⟨g, 6, none⟩ (.int .i64 (wt + 1))).alloc o).cell? ⟨g, 2, none⟩ = some (.slice A2 ws.length cap2) := fun o => ((HD2.out.str.alloc o).cell 2).trans rfl
  have HA2 := hide hA2
  have HA3 := hide (fun (o : Obj) (ad : Addr) (e : A2 = some ad) (j : Nat) (u : Value) (hj : (ws.flatMap WR.cells)[j]? = some u) => show ((w1.setCell ⟨g, 6, none⟩ (.int .i64 (wt + 1))).alloc o).cell? (ad.add j) = some u from by
    obtain ⟨q, rfl, _, _, hc, _⟩ := hA3 ad e
    rw [add_at, Nat.zero_add]
    exact Lib.cell?_alloc_some _ (hc j u hj))
  have HB2 := hide (show Blk ((w1.setCell ⟨g, 6, none⟩ (.int .i64 (wt + 1))).alloc (.cells #[] 109)) w1.heap.size 109 #[] from by
    have hb := Blk.new (w1.setCell ⟨g, 6, none⟩ (.int .i64 (wt + 1))) 109 #[]
    rwa [show (w1.setCell ⟨g, 6, none⟩ (.int .i64 (wt + 1))).heap.size = w1.heap.size by simp] at hb)
  clear ho1 hd1 ho2 HS hA2 hA3
  go_wp2_with (at_builtin; refine wpList_append_secs rfl _ _ rfl _ 0 [] rfl (secs_empty HB2.out) A2 ws.length cap2 rfl HA2.out (ws.flatMap WR.cells) ?qa (cells_one ws) (HA3.out _) ?qb ?_)
  case qa => have := HD2.out.own.1; omega
  case qb => have := HF.out; omega
  intro v3 w3 hown3 ho3 hat3
  have HOW3 := hide hown3
  have HO3 := hide (show Only [] (w1.setCell ⟨g, 6, none⟩ (.int .i64 (wt + 1))) w3 from ((Only.refl [] _).alloc (.cells #[] 109)).trans' ho3 (fun q hq hm => by have := HZ.out; simp [Value.ownBlock] at hm; omega))
  have HV3 := hide (show ∀ k, v3.ownBlock = some k → w1.heap.size ≤ k from fun k hk => by
    rcases hat3 k hk with e | e
    · simp [Value.ownBlock] at e; omega
    · omega)
  clear hown3 ho3 hat3 hc6 hf6 hca
  go_wp2_with (first | (at_builtin; refine wpList_append_new rfl _ _ rfl _ w3.heap.size w3.heap.size rfl (Nat.le_refl _) (Blk.new w3 5 #[]) A 512 c rfl HN.out zs (HSE.out _ ((HO2.out.trans (HO3.out.mono (by simp))).alloc _)) (by omega) ?_; intro v5 w5 hf5 ho5; obtain ⟨xb, xc, xr, rfl, hxB, hxk, hxl⟩ := hf5; rw [HL.out] at hxl ⊢; have HXB := hide hxB; have HXK := hide hxk; have HXL := hide hxl; have HO5 := hide (show Only [] w3 w5 from ((Only.refl [] w3).alloc (.cells #[] 5)).trans' ho5 (fun q hq hm => by simp at hm; omega)); clear hxB hxk hxl ho5) | (at_builtin; refine wpList_append_secs rfl _ _ rfl v3 ws.length (ws.flatMap WR.cells) rfl (ownsRow_only HOW3.out (HO5.out.alloc _) (by simp)) (some ⟨w5.heap.size, 0, none⟩) 1 1 rfl (by simp) [.int .i64 n, .slice (some ⟨xb, 0, none⟩) 512 xc] rfl ?qd ?qe ?qf ?_))
  case qd =>
    intro u hu
    simp at hu
    rcases hu with rfl | rfl <;> rfl
  case qe =>
    rintro ad ⟨⟩ j u hj
    rw [add_at, Nat.zero_add]
    have hb := Blk.new w5 109 #[.int .i64 n, .slice (some ⟨xb, 0, none⟩) 512 xc]
    rw [hb.cell]
    simpa using hj
  case qf => have := HF.out; omega
  intro v7 w7 hown7 ho7 hat7
  obtain ⟨A7, n7, c7, rfl⟩ : ∃ A n c, v7 = .slice A n c := by
    rcases hown7.2 with ⟨e, _⟩ | ⟨b, cp, cur, e, _⟩
    · exact ⟨_, _, _, e⟩
    · exact ⟨_, _, _, e⟩
  have HOW7 := hide hown7
  have HO7 := hide (show Only [] (w1.setCell ⟨g, 6, none⟩ (.int .i64 (wt + 1))) w7 from ((HO3.out.trans HO5.out).alloc _).trans' ho7 (fun q hq hm => by
    have hm' : v3.ownBlock = some q := by simpa using hm
    have := HV3.out q hm'
    have := HZ.out
    omega))
  have HB7 := hide (show Blk w7 xb 5 (u8l zs ++ xr).toArray from (HXK.out.alloc _).only ho7 (fun hm => by
    have hm' : v3.ownBlock = some xb := by simpa using hm
    rcases HOW3.out.2 with ⟨e, _⟩ | ⟨b, cp, cur, e, _, hg, _⟩
    · rw [e] at hm'; cases hm'
    · rw [e] at hm'
      simp only [Value.ownBlock, Option.some.injEq] at hm'
      subst hm'
      have := Blk.lt (t := 109) hg
      have := HXB.out
      omega))
  have HV7 := hide (show ∀ k, (Value.slice A7 n7 c7).ownBlock = some k → w1.heap.size ≤ k from fun k hk => by
    rcases hat7 k hk with e | e
    · exact HV3.out k e
    · have := HO3.out.size; have := HO5.out.size; have := HZ.out; omega)
  have hc7 : w7.cell? ⟨g, 2, none⟩ = some (.slice A2 ws.length cap2) := ((HD2.out.str.only HO7.out (by simp)).cell 2).trans rfl
  have hf7 : w7.frozen? ⟨g, 2, none⟩ = false := (HD2.out.str.only HO7.out (by simp)).frozen 2
  clear hown7 ho7 hat7
  go_wp2
  go_ret
  have hxb : w1.heap.size ≤ xb := by have := HO3.out.size; have := HXB.out; have := HZ.out; omega
  have HE := rwrite_end HD2.out ⟨n, xb, xr, zs⟩ (by rw [HZ.out]; exact hxb) HO7.out ⟨HB7.out, HL.out, h1, hu⟩ (.slice A7 n7 c7) (by have := HXL.out; subst this; exact HOW7.out) (fun k hk => by rw [HZ.out]; exact HV7.out k hk) HF.out
  have hw1 : w.heap.size ≤ w1.heap.size := by have := HO2.out.size; rwa [HZ.out] at this
  exact ⟨rfl, _, ⟨n, xb, xr, zs⟩, HO2.out.trans HE.1, fun k hk => Nat.le_trans hw1 (HV7.out k hk), Nat.le_trans hw1 hxb, rfl, rfl, HE.2⟩
end
end Go.Proofs.Ytokdpldmoflnkaa
/-
  The document's own disk: lay.
-/
namespace Go.Proofs.Ytokdpldmoflnkaa
open Go.ChangeShapes Go.WideShapes Go.ChangeAt Go.RowKit
set_option linter.unusedVariables false

theorem splice_setR (plat zs : List Int) (o k : Nat) (hk : k < zs.length) (ho : o + zs.length ≤ plat.length) : (Go.splice plat o (zs.take k)).set (o + k) (gb zs k) = Go.splice plat o (zs.take (k + 1)) := by
  have h1 : (plat.take o).length = o := by simp; omega
  have h2 : (zs.take k).length = k := by simp; omega
  have h3 : (zs.take (k + 1)).length = k + 1 := by simp; omega
  unfold Go.splice
  rw [h2, h3, List.take_succ_eq_append_getElem hk]
  simp only [List.append_assoc]
  rw [List.set_append_right _ _ (by rw [h1]; omega), h1]
  congr 1
  rw [List.set_append_right _ _ (by rw [h2]; omega), h2]
  congr 1
  rw [show o + k - o - k = 0 by omega, List.drop_eq_getElem_cons (show o + k < plat.length by omega)]
  simp only [gb, List.getD, List.getElem?_eq_getElem hk, Option.getD_some, List.set_cons_zero, List.singleton_append]
  rw [show o + (k + 1) = o + k + 1 by omega]

theorem u8l_setI (xs : List Int) (r : List Value) (i : Nat) (b : Int) (hi : i < xs.length) : (u8l xs ++ r).toArray.setIfInBounds i (.int .u8 b) = (u8l (xs.set i b) ++ r).toArray := by
  simp only [List.setIfInBounds_toArray]
  rw [List.set_append_left _ _ (by rw [u8l_length]; exact hi)]
  simp [u8l, List.map_set]

/-- What lay has done behind k bytes. -/
def LayR (w0 : World) (g pb pc : Nat) (pr : List Value) (pv : Value) (N : Nat) (plat : List Int) (ws : List WR) (left : Int) (stops : Bool) (rd wt fl : Int) (x : WR) (m : Nat) (i : Value) (wr : World) : Prop :=
  ∃ k : Nat, k ≤ m ∧ i = .int .i64 k ∧ Only [pb] w0 wr ∧ IsR2 wr g pb pc pr pv N (Go.splice plat (512 * x.sec) (x.data.take k)) ws left stops rd wt fl

section
variable {w : World} {g pb pc : Nat} {pr : List Value} {pv : Value} {N : Nat} {plat : List Int} {ws : List WR} {left : Int} {stops : Bool} {rd wt fl : Int} (h : IsR2 w g pb pc pr pv N plat ws left stops rd wt fl)
include h

set_option maxRecDepth 100000 in
theorem r2lay_is (x : WR) (hx : x ∈ ws) (m : Nat) (hm : m ≤ 512) : Calls Try.prog 67 #[.pointer (some ⟨g, 0, none⟩), .agg #[.int .i64 x.sec, .slice (some ⟨x.blk, 0, none⟩) 512 (512 + x.rest.length)], .int .i64 m] w fun e w' =>
    e = .returned (.tuple #[]) ∧ Only [pb] w w' ∧ IsR2 w' g pb pc pr pv N (Go.splice plat (512 * x.sec) (x.data.take m)) ws left stops rd wt fl := by
  have HX := hide (And.intro (h.wok x hx) (h.far x hx))
  have HB := hide (show Blk (w.alloc (.cells #[.int .i64 x.sec, .slice (some ⟨x.blk, 0, none⟩) 512 (512 + x.rest.length)] 109)) w.heap.size 109 #[.int .i64 x.sec, .slice (some ⟨x.blk, 0, none⟩) 512 (512 + x.rest.length)] from Blk.new w _ _)
  have HD0 := hide (h.quiet ((Only.refl [] w).alloc (.cells #[.int .i64 x.sec, .slice (some ⟨x.blk, 0, none⟩) 512 (512 + x.rest.length)] 109)))
  have HP := hide h.row.lt
  have HL := hide (And.intro h.len h.cap)
  have hbig := h.big
  have hsec := (h.wok x hx).sec
  clear h hx
  go_enter Try.func67, Try.ntmps67
  go_wp2
  generalize hw2 : w.alloc (.cells #[.int .i64 x.sec, .slice (some ⟨x.blk, 0, none⟩) 512 (512 + x.rest.length)] 109) = w2 at *
  have HWW := hide (show Only [] w w2 from hw2 ▸ (Only.refl [] w).alloc _)
  clear hw2
  go_loopw [6] (fun i wr => LayR w2 g pb pc pr pv N plat ws left stops rd wt fl x m i wr) (fun i _ => m - (intOf i).toNat)
  case atStart => exact ⟨0, Nat.zero_le _, rfl, Only.refl _ _, by simpa [Go.splice] using HD0.out⟩
  case round =>
    obtain ⟨k, hk, rfl, ho, hd⟩ := hrel
    have HO := hide ho
    have HD := hide hd
    by_cases hlt : k < m
    · have hb := HB.out.only ho (by have := HP.out; simp; omega)
      have hxo := HX.out.1
      have e0 : wr.cell? ⟨w.heap.size, 0, none⟩ = some (.int .i64 x.sec) := (hb.cell 0).trans rfl
      have e1 : wr.cell? ⟨w.heap.size, 1, none⟩ = some (.slice (some ⟨x.blk, 0, none⟩) 512 (512 + x.rest.length)) := (hb.cell 1).trans rfl
      have e2 := hd.c1
      have hxw := ((hxo.only HWW.out (by simp)).only ho (by simpa using HX.out.2))
      have e3 : wr.cell? ⟨x.blk, k, none⟩ = some (.int .u8 (gb x.data k)) := by
        rw [hxw.row.cell]
        exact u8l_get _ _ k (by rw [hxw.len]; omega)
      have hsl : (Go.splice plat (512 * x.sec) (x.data.take k)).length = 512 * N := hd.len
      have e4 : wr.cell? ⟨pb, x.sec * 512 + k, none⟩ = some (.int .u8 (gb (Go.splice plat (512 * x.sec) (x.data.take k)) (x.sec * 512 + k))) := by
        rw [hd.row.cell]
        exact u8l_get _ _ _ (by rw [hsl]; omega)
      have e5 : wr.frozen? ⟨pb, x.sec * 512 + k, none⟩ = false := hd.row.frozen _
      have hn1 : x.sec * 512 + k < 512 * N := by omega
      have hk5 : k < 512 := by omega
      have hr2 : IntKind.i64.wrap ((x.sec : Int) * 512 + (k : Int)) = (x.sec : Int) * 512 + (k : Int) := by rw [IntKind.wrap_i64]; omega
      have hr3 : ((x.sec : Int) * 512 + (k : Int)).toNat = x.sec * 512 + k := by omega
      have hr1 : IntKind.i64.wrap ((x.sec : Int) * 512) = (x.sec : Int) * 512 := by rw [IntKind.wrap_i64]; omega
      have hn2 : (x.sec : Int) * 512 + (k : Int) < 512 * (N : Int) := by omega
      have hn3 : 0 ≤ (x.sec : Int) * 512 + (k : Int) := by omega
      have hk6 : (k : Int) < 512 := by omega
      clear hb hxo hxw ho hd hsl
      go_wp2
      go_region
      all_goals go_wp2
      have hd := HD.out
      have hxw := (((HX.out.1).only HWW.out (by simp)).only HO.out (by simpa using HX.out.2))
      have ho1 : Only [pb] wr (wr.setCell ⟨pb, x.sec * 512 + k, none⟩ (.int .u8 (gb x.data k))).drew := ((Only.refl _ _).setCell _ (by simp)).drew
      have hsl : (Go.splice plat (512 * x.sec) (x.data.take k)).length = 512 * N := hd.len
      have hb1 := hd.row.set_ (x.sec * 512 + k) (.int .u8 (gb x.data k))
      rw [u8l_setI _ _ _ _ (by rw [hsl]; omega), show x.sec * 512 + k = 512 * x.sec + k by omega, splice_setR plat x.data (512 * x.sec) k (by rw [hxw.len]; omega) (by rw [hxw.len, HL.out.1]; omega)] at hb1
      rw [show x.sec * 512 + k = 512 * x.sec + k by omega] at ho1 ⊢
      refine ⟨⟨k + 1, hlt, by go_num, HO.out.trans ho1, hd.replat ho1 (hb1.only ((Only.refl [] _).drew) (by simp)) ?_ ?_⟩, by simp [intOf]; omega⟩
      · rw [← splice_setR plat x.data (512 * x.sec) k (by rw [hxw.len]; omega) (by rw [hxw.len, HL.out.1]; omega)]
        simpa using hsl
      · rw [← splice_setR plat x.data (512 * x.sec) k (by rw [hxw.len]; omega) (by rw [hxw.len, HL.out.1]; omega)]
        intro y hy
        rcases List.mem_or_eq_of_mem_set hy with hy | rfl
        · exact hd.u8 y hy
        · have hkl : k < x.data.length := by rw [hxw.len]; omega
          have hg : gb x.data k = x.data[k] := by simp [gb, List.getD, List.getElem?_eq_getElem hkl]
          rw [hg]
          exact hxw.u8 _ (List.getElem_mem hkl)
    · obtain rfl : k = m := by omega
      clear ho hd
      go_wp2
      go_end0
      exact ⟨rfl, (HWW.out.mono (by simp)).trans HO.out, HD.out⟩
end
end Go.Proofs.Ytokdpldmoflnkaa
