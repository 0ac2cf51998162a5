/-
  The log (parapet/wlog): what a commit's steps do.
-/
import Derived.Test.YtpajdnjbeplneaaLgWrite
namespace Go.Proofs.Ytpajdnjbeplneaa
open Go.ChangeShapes Go.WideShapes Go.ChangeAt Go.RowKit Go.Maps
set_option linter.unusedVariables false
/-- The table of steps. -/
def stepsC : Array Value := #[.nilFunc, .bool false, .func (.func 71) #[] #[], .bool true, .func (.func 72) #[] #[], .bool false, .func (.func 73) #[] #[], .bool false, .func (.func 72) #[] #[], .bool false, .func (.func 74) #[] #[], .bool true, .func (.func 72) #[] #[], .bool false, .func (.func 75) #[] #[], .bool false, .func (.func 72) #[] #[], .bool false]
set_option maxRecDepth 100000 in
theorem steps_is (w : World) : Calls Try.prog 50 #[] w fun e w' => ∃ d, e = .returned (.slice (some ⟨d, 0, none⟩) 9 9) ∧ w.heap.size ≤ d ∧ Blk w' d 92 stepsC ∧ Only [] w w' := by
  have HO := hide ((Only.refl [] w).alloc (.cells stepsC 92))
  have HB := hide (Blk.new w 92 stepsC)
  unfold stepsC at HO HB
  go_enter Try.func50, Try.ntmps50
  go_wp2
  go_ret
  exact ⟨_, rfl, Nat.le_refl _, HB.out, HO.out⟩
section
variable {w w' w1 : World} {g gd N a sz : Nat} {gen : Int} {v v' : Value} {m m' : Nat} {L L' : List GB} {SS SS' : Option SG} {st nx : Int} {plat plat' : List Int} {l l' : List (Nat × List Int)} {rd wt fl rd' wt' fl' : Int} {k k' : Nat} {FD FD' F T : List Nat} {G : PG} {S : Option PG}
/-- The disk turned. -/
theorem LgI.dkT (h : LgI w g gd N a sz gen v m L SS st nx plat l rd wt fl k FD) (hT : Turned w w' FD FD') (hD : Dk w' gd N plat' l' (-1) rd' wt' fl' k' FD') : LgI w' g gd N a sz gen v m L SS st nx plat' l' rd' wt' fl' k' FD' := by
  have dn : ∀ q ∈ footL g v m SS, q ∉ FD := fun q hq => h.dis q (.inl hq)
  have db : ∀ x ∈ bytesL L SS, x.b ∉ FD := fun x hx => h.dis _ (.inr ⟨x, hx, rfl⟩)
  refine ⟨h.blk.only hT.1 (dn _ (mem_footL.2 (.inl rfl))), h.gr.only hT.1 (fun z hz => dn z (mem_footL.2 (.inr (.inr (.inl hz))))) (dn _ (mem_footL.2 (.inr (.inl rfl)))) (fun x hx => db x (mem_bytesL.2 (.inl hx))), fun s hs => ?_, hD, fun q hq hm => ?_, h.gen_, h.rng, h.ok, h.oks⟩
  · obtain ⟨k1, k2, k3, k4⟩ := h.sv s hs
    exact ⟨k1.only hT.1 (dn _ (mem_footL.2 (.inr (.inr (.inr ⟨s, hs, .inl rfl⟩))))), k2.only hT.1 (fun z hz => dn z (mem_footL.2 (.inr (.inr (.inr ⟨s, hs, .inr (.inr hz)⟩))))) (dn _ (mem_footL.2 (.inr (.inr (.inr ⟨s, hs, .inr (.inl rfl)⟩))))) (fun x hx => db x (mem_bytesL.2 (.inr ⟨s, hs, hx⟩))), k3, k4⟩
  · rcases hT.2 q hm with e | e
    · exact h.dis q hq e
    · rcases hq with hq | ⟨x, hx, rfl⟩
      · have := h.foot_lt hq; omega
      · have := (h.byte_ok hx).row.lt; omega
theorem Lg.dk (h : LgI w g gd N a sz gen v m L SS st nx plat l rd wt fl k FD) (h4 : ∀ q, q ∈ footL g v m SS ∨ (∃ x ∈ bytesL L SS, x.b = q) ∨ q ∈ FD → q ∈ F) (hT : Turned w w' FD FD') (hD : Dk w' gd N plat' l' (-1) rd' wt' fl' k' FD') : DidLg w w' g gd N a sz gen (gvG L) (SS.map (fun s => gvG s.L)) st nx plat' l' k' F :=
  Lg.mk2 (h.dkT hT hD) (hT.1.mono (fun q _ hq => h4 q (.inr (.inr hq)))) (fun q hq => .inl (h4 q (.inl hq))) (fun q hq => (hT.2 q hq).imp_left (fun e => h4 q (.inr (.inr e)))) (fun x hx => .inl (h4 _ (.inr (.inl ⟨x, hx, rfl⟩))))
theorem DidLg.cells (h : DidLg w w' g gd N a sz gen G S st nx plat l k F) : w'.cell? ⟨g, 0, none⟩ = some (.pointer (some ⟨gd, 0, none⟩)) ∧ w'.cell? ⟨g, 1, none⟩ = some (.int .i64 a) ∧ w'.cell? ⟨g, 3, none⟩ = some (.int .u64 gen) ∧ w'.cell? ⟨g, 7, none⟩ = some (.int .i64 st) ∧ w'.cell? ⟨g, 8, none⟩ = some (.int .i64 nx) := by
  obtain ⟨F', _, v, m, L, SS, rd, wt, fl, FD, h1, _⟩ := h
  exact ⟨h1.c0, h1.c1, h1.c3, h1.c7, h1.c8⟩
theorem lay_is (h : LgI w g gd N a sz gen v m L SS st nx plat l rd wt fl k FD) (h4 : ∀ q, q ∈ footL g v m SS ∨ (∃ x ∈ bytesL L SS, x.b = q) ∨ q ∈ FD → q ∈ F) (n d c : Nat) (zs : List Int) (hn : n < N) (hz : zs.length = 512) (hu : U8 zs) (hc : ∀ i, i < 512 → w.cell? ⟨d, i, none⟩ = some (.int .u8 (gb zs i))) (hdl : d < w.heap.size) (hd : d ∉ FD) (hk : k < 4398046511000) :
    Calls Try.prog 83 #[.pointer (some ⟨g, 0, none⟩), .int .i64 n, .slice (some ⟨d, 0, none⟩) 512 c] w fun e w' => e = .returned (.tuple #[]) ∧ DidLg w w' g gd N a sz gen (gvG L) (SS.map (fun s => gvG s.L)) st nx plat (l ++ [(n, zs)]) (k + 1) F := by
  have HK := hide ((dk_write h.dk n d 0 c zs hn (by decide) (by decide) hz hu (fun i hi => by rw [Nat.zero_add]; exact hc i hi) hdl hd hk).mono (R' := fun e w' => e = .returned (.int .i64 0) ∧ DidLg w w' g gd N a sz gen (gvG L) (SS.map (fun s => gvG s.L)) st nx plat (l ++ [(n, zs)]) (k + 1) F) (fun e w' ⟨e1, F', hT, hD⟩ => ⟨e1, Lg.dk h h4 hT hD⟩))
  have c0 := h.c0
  clear h h4 hc
  go_enter Try.func83, Try.ntmps83
  go_wp2_with (go_at_call 91; refine HK.out.mono ?_; rintro e w1 ⟨rfl, hd⟩; have HD := hide hd; clear hd)
  go_end0
  exact ⟨rfl, HD.out⟩
theorem lay_i (h : LgI w g gd N a sz gen v m L SS st nx plat l rd wt fl k FD) (n d c : Nat) (zs : List Int) (hn : n < N) (hz : zs.length = 512) (hu : U8 zs) (hc : ∀ i, i < 512 → w.cell? ⟨d, i, none⟩ = some (.int .u8 (gb zs i))) (hdl : d < w.heap.size) (hd : d ∉ FD) (hk : k < 4398046511000) :
    Calls Try.prog 83 #[.pointer (some ⟨g, 0, none⟩), .int .i64 n, .slice (some ⟨d, 0, none⟩) 512 c] w fun e w' => e = .returned (.tuple #[]) ∧ ∃ FD', Turned w w' FD FD' ∧ LgI w' g gd N a sz gen v m L SS st nx plat (l ++ [(n, zs)]) rd (wt + 1) fl (k + 1) FD' := by
  have HK := hide ((dk_write h.dk n d 0 c zs hn (by decide) (by decide) hz hu (fun i hi => by rw [Nat.zero_add]; exact hc i hi) hdl hd hk).mono (R' := fun e w' => e = .returned (.int .i64 0) ∧ ∃ FD', Turned w w' FD FD' ∧ LgI w' g gd N a sz gen v m L SS st nx plat (l ++ [(n, zs)]) rd (wt + 1) fl (k + 1) FD') (fun e w' ⟨e1, F', hT, hD⟩ => ⟨e1, F', hT, h.dkT hT hD⟩))
  have c0 := h.c0
  clear h hc
  go_enter Try.func83, Try.ntmps83
  go_wp2_with (go_at_call 91; refine HK.out.mono ?_; rintro e w1 ⟨rfl, hd⟩; have HD := hide hd; clear hd)
  go_end0
  exact ⟨rfl, HD.out⟩
/-- The same log, its disk turned: packed. -/
theorem LgI.did (h4 : ∀ q, q ∈ footL g v m SS ∨ (∃ x ∈ bytesL L SS, x.b = q) ∨ q ∈ FD → q ∈ F) (hT : Turned w w' FD FD') (h : LgI w' g gd N a sz gen v m L SS st nx plat l rd wt fl k FD') : DidLg w w' g gd N a sz gen (gvG L) (SS.map (fun s => gvG s.L)) st nx plat l k F :=
  Lg.mk2 h (hT.1.mono (fun q _ hq => h4 q (.inr (.inr hq)))) (fun q hq => .inl (h4 q (.inl hq))) (fun q hq => (hT.2 q hq).imp_left (fun e => h4 q (.inr (.inr e)))) (fun x hx => .inl (h4 _ (.inr (.inl ⟨x, hx, rfl⟩))))
theorem flush_is (h : LgI w g gd N a sz gen v m L SS st nx plat l rd wt fl k FD) (h4 : ∀ q, q ∈ footL g v m SS ∨ (∃ x ∈ bytesL L SS, x.b = q) ∨ q ∈ FD → q ∈ F) (hk : k < 4398046511000) :
    Calls Try.prog 72 #[.pointer (some ⟨g, 0, none⟩)] w fun e w' => e = .returned (.tuple #[]) ∧ DidLg w w' g gd N a sz gen (gvG L) (SS.map (fun s => gvG s.L)) st nx (layAll plat l) [] (k + 1) F := by
  have HK := hide ((dk_flush h.dk (by decide) (by decide) (by omega)).mono (R' := fun e w' => e = .returned (.int .i64 l.length) ∧ DidLg w w' g gd N a sz gen (gvG L) (SS.map (fun s => gvG s.L)) st nx (layAll plat l) [] (k + 1) F) (fun e w' ⟨e1, hT, hD⟩ => ⟨e1, Lg.dk h h4 hT hD⟩))
  have c0 := h.c0
  clear h h4
  go_enter Try.func72, Try.ntmps72
  go_wp2_with (go_at_call 84; refine HK.out.mono ?_; rintro e w1 ⟨rfl, hd⟩; have HD := hide hd; clear hd)
  go_end0
  exact ⟨rfl, HD.out⟩
section
variable (h : Lg w g gd N a sz gen G S st nx plat l k F) (hk : k < 4398046511000)
include h hk
theorem lg_flush : Calls Try.prog 72 #[.pointer (some ⟨g, 0, none⟩)] w fun e w' => e = .returned (.tuple #[]) ∧ DidLg w w' g gd N a sz gen G S st nx (layAll plat l) [] (k + 1) F := by
  obtain ⟨v, m, L, SS, rd, wt, fl, FD, h1, rfl, rfl, h4, h5⟩ := h
  exact flush_is h1 h4 hk
set_option maxRecDepth 100000 in
set_option maxHeartbeats 1500000 in
theorem lg_emptyH : Calls Try.prog 75 #[.pointer (some ⟨g, 0, none⟩)] w fun e w' => e = .returned (.tuple #[]) ∧ DidLg w w' g gd N a sz gen G S st nx plat (l ++ [(a, hdrF gen [])]) (k + 1) F := by
  obtain ⟨v, m, L, SS, rd, wt, fl, FD, h1, rfl, rfl, h4, h5⟩ := h
  have hg := h1.gen_
  have hr := h1.rng
  have HX := hide (fun W (ho : Only [] w W) => (show W.cell? ⟨g, 1, none⟩ = some (.int .i64 a) ∧ W.cell? ⟨g, 3, none⟩ = some (.int .u64 gen) from ⟨(h1.quiet ho).c1, (h1.quiet ho).c3⟩))
  have HH := hide (fun W (ho : Only [] w W) => (header_is (w := W) (v := .slice none 0 0) (ns := []) (KRow.nil _ _ _ _) gen hg.1 hg.2 (by simp) (by simp)).mono (R' := fun e w' => ∃ d, e = .returned (.slice (some ⟨d, 0, none⟩) 512 512) ∧ (w.heap.size ≤ d ∧ Blk w' d 5 (u8l (hdrF gen []) ++ ([] : List Value)).toArray) ∧ Only [] w w') (fun e w' ⟨d, e1, e2, e3, e4⟩ => ⟨d, by rw [e1, hdrF_length _ _ (by simp)], ⟨Nat.le_trans ho.size e2, e3⟩, ho.trans e4⟩))
  have HL := hide (fun W (ho : Only [] w W) d (hd : w.heap.size ≤ d ∧ Blk W d 5 (u8l (hdrF gen []) ++ ([] : List Value)).toArray) => (lay_is (h1.quiet ho) h4 a d 512 (hdrF gen []) (by omega) (hdrF_length _ _ (by simp)) (u8_hdrF _ _) (fun i hi => by rw [hd.2.cell]; exact u8l_get _ _ i (by rw [hdrF_length _ _ (by simp)]; exact hi)) hd.2.lt (fun hm => by have := h1.dk.lt d hm; omega) hk).mono (R' := fun e w' => e = .returned (.tuple #[]) ∧ DidLg w w' g gd N a sz gen (gvG L) (SS.map (fun s => gvG s.L)) st nx plat (l ++ [(a, hdrF gen [])]) (k + 1) F) (fun e w' ⟨e1, F', hT, hD⟩ => ⟨e1, F', ⟨(ho.mono (by simp)).trans hT.1, fun q hq => (hT.2 q hq).imp_right (fun e => Nat.le_trans ho.size e)⟩, hD⟩))
  clear h1 h4 h5 hg hr
  go_enter Try.func75, Try.ntmps75
  go_wp2
  have kk : Only [] w w.drew := (Only.refl _ _).drew
  have zz := HX.out _ kk
  go_region_held3 (fun w' => w'.cell? ⟨g, 1, none⟩ = some (.int .i64 a) ∧ w'.cell? ⟨g, 3, none⟩ = some (.int .u64 gen)) (first | go_keep | exact HX.out _ kk | exact z3) (first | (go_at_call 85; refine (HH.out _ (by repeat (first | exact Only.refl _ _ | apply Only.drew | apply Only.drewN))).mono ?_; rintro e w2 ⟨d, rfl, hd, o2⟩; have HL2 := hide (fun W (ho : Only [] w2 W) => HL.out W (o2.trans ho) d ⟨hd.1, hd.2.only ho (by simp)⟩); clear hd kk; have kk := o2; clear o2) | (go_at_call 83; refine (HL2.out _ (by repeat (first | exact Only.refl _ _ | apply Only.drew | apply Only.drewN))).mono ?_; rintro e w3 ⟨rfl, hd⟩; have HD := hide hd; have z3 := And.intro hd.cells.2.1 hd.cells.2.2.1; clear hd))
  all_goals
    go_wp2
    go_end0
    exact ⟨rfl, HD.out⟩
set_option maxRecDepth 100000 in
set_option maxHeartbeats 2000000 in
theorem lg_writeH : Calls Try.prog 73 #[.pointer (some ⟨g, 0, none⟩)] w fun e w' => e = .returned (.tuple #[]) ∧ DidLg w w' g gd N a sz ((gen + 1) % 18446744073709551616) G S st nx plat (l ++ [(a, hdrF ((gen + 1) % 18446744073709551616) (G.map (·.1)))]) (k + 1) F := by
  obtain ⟨v, m, L, SS, rd, wt, fl, FD, h1, rfl, rfl, h4, h5⟩ := h
  rw [gvG_keys]
  have hr := h1.rng
  have c3 := h1.c3
  have f3 := h1.fr 3
  have hg : 0 ≤ (gen + 1) % 18446744073709551616 ∧ (gen + 1) % 18446744073709551616 < 18446744073709551616 := by omega
  have o1 : Only [g] w (w.setCell ⟨g, 3, none⟩ (.int .u64 ((gen + 1) % 18446744073709551616))) := (Only.refl _ _).setCell _ (by simp)
  have h2 := h1.restr (SS' := SS) (gen' := (gen + 1) % 18446744073709551616) (st' := st) (nx' := nx) o1 (fun s hs => hs) hg (h1.blk.set_ 3 _)
  obtain ⟨A, c, rfl, _⟩ := h1.gr.row.form2
  have hgF := h4 g (.inl (mem_footL.2 (.inl rfl)))
  clear h1 hg
  have hw : IntKind.u64.wrap (gen + 1) = (gen + 1) % 18446744073709551616 := by
    unfold IntKind.wrap
    simp [IntKind.bits, IntKind.signed]
  have HO1 := hide o1
  rw [← hw] at h2 HO1 ⊢
  clear hw o1
  go_enter Try.func73, Try.ntmps73
  go_wp2
  generalize hgn : IntKind.u64.wrap (gen + 1) = gn at *
  have HGN := hide hgn
  clear hgn
  generalize w.setCell ⟨g, 3, none⟩ (.int .u64 gn) = W1 at *
  have hg := h2.gen_
  have hlen := h2.len
  have HX := hide (fun W rd' wt' fl' k' l' FD' (q : LgI W g gd N a sz gn (.slice A (nsG L).length c) m L SS st nx plat l' rd' wt' fl' k' FD') => (show W.cell? ⟨g, 1, none⟩ = some (.int .i64 a) ∧ W.cell? ⟨g, 3, none⟩ = some (.int .u64 gn) ∧ W.cell? ⟨g, 4, none⟩ = some (.slice A (nsG L).length c) from ⟨q.c1, q.c3, q.c4⟩))
  have HXQ := hide (fun W (ho : Only [] W1 W) => HX.out W _ _ _ _ _ _ (h2.quiet ho))
  have HH := hide (fun W (ho : Only [] W1 W) => (header_is (h2.quiet ho).gr.row gn hg.1 hg.2 (by rw [nsG_length]; omega) (fun x hx => by have := h2.nums hx; have := h2.big; omega)).mono (R' := fun e w' => ∃ d, e = .returned (.slice (some ⟨d, 0, none⟩) 512 512) ∧ (W1.heap.size ≤ d ∧ Blk w' d 5 (u8l (hdrF gn (nsG L)) ++ ([] : List Value)).toArray) ∧ Only [] W1 w') (fun e w' ⟨d, e1, e2, e3, e4⟩ => ⟨d, by rw [e1, hdrF_length _ _ (by rw [nsG_length]; omega)], ⟨Nat.le_trans ho.size e2, e3⟩, ho.trans e4⟩))
  have HL := hide (fun W (ho : Only [] W1 W) d (hd : W1.heap.size ≤ d ∧ Blk W d 5 (u8l (hdrF gn (nsG L)) ++ ([] : List Value)).toArray) => (lay_i (h2.quiet ho) a d 512 (hdrF gn (nsG L)) (by omega) (hdrF_length _ _ (by rw [nsG_length]; omega)) (u8_hdrF _ _) (fun i hi => by rw [hd.2.cell]; exact u8l_get _ _ i (by rw [hdrF_length _ _ (by rw [nsG_length]; omega)]; exact hi)) hd.2.lt (fun hm => by have := h2.dk.lt d hm; omega) hk).mono (R' := fun e w' => e = .returned (.tuple #[]) ∧ (w'.cell? ⟨g, 1, none⟩ = some (.int .i64 a) ∧ w'.cell? ⟨g, 3, none⟩ = some (.int .u64 gn) ∧ w'.cell? ⟨g, 4, none⟩ = some (.slice A (nsG L).length c)) ∧ DidLg w w' g gd N a sz gn (gvG L) (SS.map (fun s => gvG s.L)) st nx plat (l ++ [(a, hdrF gn (nsG L))]) (k + 1) F) (fun e w' ⟨e1, F', hT, hD⟩ => ⟨e1, HX.out _ _ _ _ _ _ _ hD, by
    obtain ⟨F2, hT2, hL2⟩ := LgI.did h4 hT hD
    exact ⟨F2, ⟨(HO1.out.mono (fun q _ hq => by simp at hq; subst hq; exact hgF)).trans ((ho.mono (by simp)).trans hT2.1), fun q hq => (hT2.2 q hq).imp_right (fun e => Nat.le_trans HO1.out.size (Nat.le_trans ho.size e))⟩, hL2⟩⟩))
  clear h4 h5 hr hg h2 hlen c3 f3
  have kk : Only [] W1 W1.drew := (Only.refl _ _).drew
  have zz := HXQ.out _ kk
  go_region_held3 (fun w' => w'.cell? ⟨g, 1, none⟩ = some (.int .i64 a) ∧ w'.cell? ⟨g, 3, none⟩ = some (.int .u64 gn) ∧ w'.cell? ⟨g, 4, none⟩ = some (.slice A (nsG L).length c)) (first | go_keep | exact HXQ.out _ kk | exact z3) (first | (go_at_call 85; refine (HH.out _ (by repeat (first | exact Only.refl _ _ | apply Only.drew | apply Only.drewN))).mono ?_; rintro e w2 ⟨d, rfl, hd, o2⟩; have HL2 := hide (fun W (ho : Only [] w2 W) => HL.out W (o2.trans ho) d ⟨hd.1, hd.2.only ho (by simp)⟩); clear hd kk; have kk := o2; clear o2) | (go_at_call 83; refine (HL2.out _ (by repeat (first | exact Only.refl _ _ | apply Only.drew | apply Only.drewN))).mono ?_; rintro e w3 ⟨rfl, z3, hd⟩; have HD := hide hd; clear hd))
  all_goals
    go_wp2
    go_end0
    exact ⟨rfl, by rw [HGN.out]; exact HD.out⟩
end
end
end Go.Proofs.Ytpajdnjbeplneaa
