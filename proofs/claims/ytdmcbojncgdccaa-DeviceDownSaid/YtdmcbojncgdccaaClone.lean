/- A device's copy: its parts. -/
import Derived.Test.YtdmcbojncgdccaaOwn
import Derived.Shelf.SlMaps.Clone
namespace Go.Proofs.Ytdmcbojncgdccaa
open Go.RowKit

set_option maxHeartbeats 2000000 in
set_option maxRecDepth 8000 in
theorem mapsClone_any {w : World} {b : Nat} {es : Array MapEntry} {clock : Nat} (hb : w.heap[b]? = some (.map es clock)) :
    Calls Try.prog 37 #[.map (some b)] w fun e w' => e = .returned (.map (some w.heap.size)) ∧ w' = w.alloc (.map es clock) := by
  have hq := fun w => run_eql_map_nil_sl (P := Try.prog) w 49 _ _ (some b) Try.underlying49
  go_enter Try.func37, Try.ntmps37
  go_wp2
  rw [run_callFunc_extern Try.func48 (by kernel_rfl) (by kernel_rfl) (by kernel_rfl) (e := Extern.MapsClone.clone) (by kernel_rfl), run_maps_clone_sl w _ hb]
  simp only [Result.andThen]
  rw [Oper.upon_value]
  go_wp2
  rw [run_typeAssert_map_sl _ _ _ _ _ _ Try.underlying49]
  simp only [Result.andThen]
  rw [Oper.upon_value]
  go_wp2
  go_ret
  exact ⟨rfl, rfl⟩

theorem row1 (w : World) (cs : Array Value) (t : TypeId) : ∃ W, W = w.alloc (.cells cs t) ∧ W.heap.size = w.heap.size + 1 ∧ W.heap[w.heap.size]? = some (.cells cs t (0, 0)) ∧ Below w.heap.size w W :=
  ⟨_, rfl, by simp, heap_alloc_new w _, (Below.refl _ _).alloc (Nat.le_refl _) _⟩
theorem chgs_one (ws : List (Int × List UInt8)) : ∀ u ∈ chgs ws, u.oneCell' = true := by
  intro u hu
  obtain ⟨p, _, hp⟩ := List.mem_flatMap.1 hu
  exact chg_one p u hp
set_option maxHeartbeats 2000000 in
set_option maxRecDepth 8000 in
/-- What waits, copied. -/
theorem chgClone_any {w : World} {B : Nat} {v : Value} {ws : List (Int × List UInt8)} (h : w.ownsRow B 68 65 v ws.length (chgs ws)) (hn : ws.length ≤ 100000) :
    Calls Try.prog 38 #[v] w fun e w' => ∃ v', e = .returned v' ∧ w'.ownsRow w.heap.size 68 65 v' ws.length (chgs ws) ∧ Below w.heap.size w w' := by
  obtain ⟨A, c, rfl⟩ := ownsRow_form h
  have hrd := ownsRow_rd h
  have q := Lib.run_eql_slice_nil (P := Try.prog) w 50 _ A ws.length c 0 0 Try.underlying50
  cases A with
  | none =>
    have h0 : ws.length = 0 ∧ c = 0 ∧ chgs ws = [] := by
      obtain ⟨hl, h2⟩ := h
      rcases h2 with ⟨hv, hx⟩ | ⟨g, cap, cur, hv, _⟩
      · injection hv with _ h1 h2
        exact ⟨h1, h2, List.eq_nil_of_length_eq_zero (by rw [hl, h1])⟩
      · injection hv with h1
        cases h1
    obtain ⟨h1, rfl, h3⟩ := h0
    rw [h3]
    rw [h1] at q ⊢
    clear h hrd h1 h3 hn
    go_enter Try.func38, Try.ntmps38
    go_wp2
    go_ret
    exact ⟨_, rfl, World.ownsRow_nil _ _ _ _, Below.refl _ _⟩
  | some p =>
    generalize ws.length = n at *
    go_enter Try.func38, Try.ntmps38
    go_wp2_with (first
      | (at_builtin; refine wpL_app (o := ⟨some 7, _, _, _, _, _⟩) (v := .slice (some ⟨w.heap.size, 0, none⟩) 0 0) (y := .slice (some p) n c) rfl (.tmp 5) (.tmp 6) _ _ rfl E_chg rfl rfl (World.ownsRow_lit (base := w.heap.size) w #[] 0 (Nat.le_refl _) (Nat.zero_le _) rfl)
           ((hrd.below ((Below.refl _ _).alloc (Nat.le_refl _) _)).src Try.underlying50 (chgs_one _)) (by unfold maxLen; omega) (by omega) (by simp) ?_; intro v3 w3 hown3 hg3 hat3)
      | fail)
    go_ret
    refine ⟨v3, rfl, ?_, ?_⟩
    · simpa using hown3
    · exact ((Below.refl _ _).alloc (Nat.le_refl _) _).grown hg3 (by simp) (fun j e => by cases e; exact Nat.le_refl _)

set_option maxHeartbeats 4000000 in
set_option maxRecDepth 8000 in
theorem clone_any {w : World} {B g bs bl k : Nat} {v : Value} {d : Dv} (h : Dev w B g bs bl v k d) (hn : d.ws.length ≤ 100000) :
    Calls Try.prog 19 #[.pointer (some ⟨g, 0, none⟩)] w fun e w' => ∃ b1 b2 v', e = .returned (.pointer (some ⟨w.heap.size, 0, none⟩)) ∧ w'.heap[w.heap.size]? = some (.cells (devRow d b1 b2 v') 53 (0, 0)) ∧ w'.heap[b1]? = w.heap[bs]? ∧ w'.ownsRow w.heap.size 68 65 v' d.ws.length (chgs d.ws) ∧ Below w.heap.size w w' := by
  have c0 := h.c0
  have c1 := h.c1
  have c2 := h.c2
  have c3 := h.c3
  have c4 := h.c4
  have c5 := h.c5
  have c6 := h.c6
  have hgl := h.lt
  have hs : ∃ es clock, w.heap[bs]? = some (.map es clock) := by
    obtain ⟨D, ⟨es, clock, hb, _⟩, _⟩ := h.safe
    exact ⟨es, clock, hb⟩
  have hl : ∃ es clock, w.heap[bl]? = some (.map es clock) := by
    obtain ⟨D, ⟨es, clock, hb, _⟩, _⟩ := h.last
    exact ⟨es, clock, hb⟩
  obtain ⟨es, ck, hs⟩ := hs
  obtain ⟨el, cl, hl⟩ := hl
  have hbs : bs < w.heap.size := h.safe.lt
  have hbl : bl < w.heap.size := h.last.lt
  have hwt := h.waits
  obtain ⟨A, c, rfl⟩ := ownsRow_form hwt
  have hdo : (d.done : Int) = (d.done : Int) := rfl
  clear h
  obtain ⟨dn, S, ws, dw, fu, don⟩ := d
  dsimp only at *
  unfold devRow
  dsimp only
  obtain ⟨W, hW, hz, r0, hb⟩ := row1 w #[.int .i64 (dn : Int), .map (some bs), .slice A ws.length c, .map (some bl), .bool dw, .int .u64 (fu : Int), .int .i64 (don : Int)] 53
  have HB := Lib.hid hb
  have HZ := Lib.hid hz
  have d1 := (hb.cell (p := ⟨g, 1, none⟩) hgl).trans c1
  have d2 := (hb.cell (p := ⟨g, 2, none⟩) hgl).trans c2
  have d3 := (hb.cell (p := ⟨g, 3, none⟩) hgl).trans c3
  have hsW := (hb.block bs hbs).trans hs
  have hlW := (hb.block bl hbl).trans hl
  have hwW := hwt.kept (below_grown hb none) (by cases (Value.ownBlock (.slice A ws.length c)) <;> simp)
  clear hb hz
  go_enter Try.func19, Try.ntmps19
  go_wp2
  rw [← hW]
  clear hW
  have hgW : g < W.heap.size := by have := HZ.out; omega
  have hbsW : bs < W.heap.size := by have := HZ.out; omega
  have hblW : bl < W.heap.size := by have := HZ.out; omega
  have hgne : g ≠ w.heap.size := by omega
  refine wp_low w.heap.size [([0, 1, 2, 3, 5, 6, 7, 8, 10, 11, 12, 13], 4), ([], 9), ([], 14), ([15], 16), ([17], 18), ([19], 20)] [] (by kernel_rfl) (by kernel_rfl) (fun d _ _ _ _ h => by cases d <;> exact h) (by have := HZ.out; omega) fun wd hbd => ?_
  intro f hf
  have m1 := fun z => ((hf z).cell (p := ⟨g, 1, none⟩) hgl).trans d1
  have m2 := fun z => ((hf z).cell (p := ⟨g, 2, none⟩) hgl).trans d2
  have m3 := fun z => ((hf z).cell (p := ⟨g, 3, none⟩) hgl).trans d3
  simp only [pickI, Option.toList_some, List.cons_append, List.nil_append, List.getElem?_toArray, List.getElem?_cons_succ, List.getElem?_cons_zero]
  repeat (go_big_quiet_step (fail))
  refine wpQuiet_nil ?_
  clear m1 m2 m3 hf f
  refine seg_op (by simp only [List.getElem?_toArray, List.getElem?_cons_succ, List.getElem?_cons_zero]; rfl) fun K hK => ?_
  go_simp
  refine (mapsClone_any ((hbd.block bs hbsW).trans hsW)).mono ?_
  rintro e w1 ⟨rfl, hw1⟩
  have hb1 : Below wd.heap.size wd w1 := by rw [hw1]; exact (Below.refl _ _).alloc (Nat.le_refl _) _
  have hr1 : w1.heap[wd.heap.size]? = some (.map es ck) := by rw [hw1]; exact heap_alloc_new wd _
  have z1 := hbd.trans (hb1.mono hbd.size)
  refine hK.out _ _ (seg_keep (z1.mono (by have := HZ.out; omega)) ?_)
  clear hK K hw1
  intro f hf
  refine wpQuiet_nil ?_
  clear hf f
  refine seg_op (by simp only [List.getElem?_toArray, List.getElem?_cons_succ, List.getElem?_cons_zero]; rfl) fun K hK => ?_
  go_simp
  refine (chgClone_any (hwW.kept (below_grown z1 none) (by cases (Value.ownBlock (.slice A ws.length c)) <;> simp)) hn).mono ?_
  rintro e w2 ⟨v2, rfl, hown2, hb2⟩
  have z2 := z1.trans (hb2.mono z1.size)
  have hl1 : W.heap.size ≤ w1.heap.size := z1.size
  have hr2 := (hb2.block _ (Array.getElem?_eq_some_iff.1 hr1).1).trans hr1
  obtain ⟨A2, c2, rfl⟩ := ownsRow_form hown2
  refine hK.out _ _ (seg_keep (z2.mono (by have := HZ.out; omega)) ?_)
  clear hK K hr1 hb1
  intro f hf
  refine wpQuiet_nil ?_
  clear hf f
  refine seg_op (by simp only [List.getElem?_toArray, List.getElem?_cons_succ, List.getElem?_cons_zero]; rfl) fun K hK => ?_
  go_simp
  refine (mapsClone_any ((z2.block bl hblW).trans hlW)).mono ?_
  rintro e w3 ⟨rfl, hw3⟩
  have hb3 : Below w2.heap.size w2 w3 := by rw [hw3]; exact (Below.refl _ _).alloc (Nat.le_refl _) _
  have z3 := z2.trans (hb3.mono z2.size)
  have hr3 := (hb3.block _ (Array.getElem?_eq_some_iff.1 hr2).1).trans hr2
  have hown3 := hown2.kept (below_grown hb3 none) (by cases (Value.ownBlock (.slice A2 ws.length c2)) <;> simp)
  have hrow := (z3.block _ (show w.heap.size < W.heap.size by have := HZ.out; omega)).trans r0
  refine hK.out _ _ (seg_keep (z3.mono (by have := HZ.out; omega)) ?_)
  clear hK K hr2 hown2 hw3 z2 hb2 hb3 z1
  intro f hf
  simp only [pickI, Option.toList_some, List.cons_append, List.nil_append, List.getElem?_toArray, List.getElem?_cons_succ, List.getElem?_cons_zero]
  repeat (go_big_quiet_step (fail))
  refine wpQuiet_nil ?_
  clear hf f
  refine seg_op (by simp only [List.getElem?_toArray, List.getElem?_cons_succ, List.getElem?_cons_zero]; rfl) fun K hK => ?_
  have e1 := cellz (j := 1) (u := .map (some bs)) z3 r0 rfl (by have := HZ.out; omega)
  have e2 := cellz (j := 2) (u := .slice A ws.length c) z3 r0 rfl (by have := HZ.out; omega)
  have e3 := cellz (j := 3) (u := .map (some bl)) z3 r0 rfl (by have := HZ.out; omega)
  have y1 := frozenz z3 1 r0 (by have := HZ.out; omega)
  have y2 := frozenz z3 2 r0 (by have := HZ.out; omega)
  have y3 := frozenz z3 3 r0 (by have := HZ.out; omega)
  go_simp
  have q0 := ((show Below w.heap.size W w3 from z3.mono (by have := HZ.out; omega))).setCell (p := ⟨w.heap.size, 1, none⟩) (Nat.le_refl _) (.map (some wd.heap.size))
  refine hK.out _ _ (seg_keep q0 ?_)
  clear hK K
  intro f hf
  simp only [pickI, Option.toList_some, List.cons_append, List.nil_append, List.getElem?_toArray, List.getElem?_cons_succ, List.getElem?_cons_zero]
  repeat (go_big_quiet_step (fail))
  refine wpQuiet_nil ?_
  clear hf f
  refine seg_op (by simp only [List.getElem?_toArray, List.getElem?_cons_succ, List.getElem?_cons_zero]; rfl) fun K hK => ?_
  go_simp
  have q1 := (q0).setCell (p := ⟨w.heap.size, 2, none⟩) (Nat.le_refl _) (.slice A2 ws.length c2)
  refine hK.out _ _ (seg_keep q1 ?_)
  clear hK K
  intro f hf
  simp only [pickI, Option.toList_some, List.cons_append, List.nil_append, List.getElem?_toArray, List.getElem?_cons_succ, List.getElem?_cons_zero]
  repeat (go_big_quiet_step (fail))
  refine wpQuiet_nil ?_
  clear hf f
  refine seg_op (by simp only [List.getElem?_toArray, List.getElem?_cons_succ, List.getElem?_cons_zero]; rfl) fun K hK => ?_
  go_simp
  have q2 := (q1).setCell (p := ⟨w.heap.size, 3, none⟩) (Nat.le_refl _) (.map (some w2.heap.size))
  refine hK.out _ _ (seg_keep q2 ?_)
  clear hK K
  intro f hf
  refine wpQuiet_nil ?_
  clear hf f
  go_wp2
  go_ret
  have h1 := set_row hrow 1 (.map (some wd.heap.size))
  have h2 := set_row h1 2 (.slice A2 ws.length c2)
  have h3 := set_row h2 3 (.map (some w2.heap.size))
  have hlt := hown3.lt
  have hz1 : W.heap.size ≤ w1.heap.size := hl1
  have g1 := hown3.kept (setCell_grows w3 w.heap.size 1 (.map (some wd.heap.size))) (by cases hk : (Value.ownBlock (.slice A2 ws.length c2)) with | none => exact .inl rfl | some j => exact .inr (fun e => by have := (hlt j hk).1; have := Option.some.inj e; have := HZ.out; omega))
  have g2 := g1.kept (setCell_grows _ w.heap.size 2 (.slice A2 ws.length c2)) (by cases hk : (Value.ownBlock (.slice A2 ws.length c2)) with | none => exact .inl rfl | some j => exact .inr (fun e => by have := (hlt j hk).1; have := Option.some.inj e; have := HZ.out; omega))
  have g3 := g2.kept (setCell_grows _ w.heap.size 3 (.map (some w2.heap.size))) (by cases hk : (Value.ownBlock (.slice A2 ws.length c2)) with | none => exact .inl rfl | some j => exact .inr (fun e => by have := (hlt j hk).1; have := Option.some.inj e; have := HZ.out; omega))
  refine ⟨wd.heap.size, w2.heap.size, .slice A2 ws.length c2, rfl, ?_, ?_, ownsRow_low g3 (by have := HZ.out; omega), HB.out.trans q2⟩
  · exact h3
  · rw [hs]
    have hne : wd.heap.size ≠ w.heap.size := by have := HZ.out; have := hbd.size; omega
    have k1 := (setCell_grows w3 w.heap.size 1 (.map (some wd.heap.size))).block wd.heap.size (Array.getElem?_eq_some_iff.1 hr3).1 (fun e => hne (Option.some.inj e))
    have k2 := (setCell_grows _ w.heap.size 2 (.slice A2 ws.length c2)).block wd.heap.size (Array.getElem?_eq_some_iff.1 (k1.trans hr3)).1 (fun e => hne (Option.some.inj e))
    have k3 := (setCell_grows _ w.heap.size 3 (.map (some w2.heap.size))).block wd.heap.size (Array.getElem?_eq_some_iff.1 (k2.trans (k1.trans hr3))).1 (fun e => hne (Option.some.inj e))
    exact k3.trans (k2.trans (k1.trans hr3))

end Go.Proofs.Ytdmcbojncgdccaa
