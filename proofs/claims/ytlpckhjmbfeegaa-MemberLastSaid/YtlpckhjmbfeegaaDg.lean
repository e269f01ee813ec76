/- like of the law's. -/
import Derived.Test.YtlpckhjmbfeegaaDf
namespace Go.Proofs.Ytlpckhjmbfeegaa
open Go.RowKit
set_option maxRecDepth 20000
set_option maxHeartbeats 8000000 in
theorem like_any {w : World} {B g gr cr : Nat} {v : Value} {Ar : Option Addr} {t : Cv} (hc : Ck w B g v t) (hr : Rk w gr Ar cr t) (i term : Nat) (hi : i < 18446744073709551616) :
    Calls Try.prog 22 #[.pointer (some ⟨g, 0, none⟩), .pointer (some ⟨gr, 0, none⟩), .int .u64 (i : Int), .int .u64 (term : Int)] w fun e w' => e = .returned (.bool true) ∧ Below w.heap.size w w' := by
  have HT := Lib.hid (term_any hc i)
  have HRT := Lib.hid (fun W (hb : Below w.heap.size w W) => rterm_any (hr.below hb) i)
  have HG := Lib.hid (fun W (hb : Below w.heap.size w W) => get_any (hc.below hb) i)
  have HRG := Lib.hid (fun W (hb : Below w.heap.size w W) => rget_any (hr.below hb) i)
  have HC := Lib.hid hc
  have HR := Lib.hid hr
  have HI := Lib.hid hi
  unfold Termed at HT HRT
  unfold Got at HG HRG
  generalize (t.tm i).getD 0 = tv at *
  generalize (t.tm i).isSome = okv at *
  generalize (t.at_ i).isSome = okg at *
  generalize (t.at_ i).getD itNil = x at *
  have HEQ := Lib.hid (fun W => it_eql x W)
  have HGU := Lib.hid (fun W op a b => it_guard W op a b x.cells x.cells)
  obtain ⟨xt, xk, xx⟩ := x
  unfold It.cells at *
  dsimp only at *
  clear hc hr hi
  go_enter Try.func22, Try.ntmps22
  go_wp2_with (first
    | (go_at_call 23; refine HT.out.mono ?_; rintro e w1 ⟨rfl, hb1⟩; have HB1 := Lib.hid hb1; clear hb1)
    | (go_at_call 45; refine (HRT.out _ HB1.out).mono ?_; rintro e w2 ⟨rfl, hb2⟩; have HB2 := Lib.hid (HB1.out.trans (hb2.mono HB1.out.size)); clear hb2)
    | (go_at_call 25; refine (HG.out _ HB2.out).mono ?_; rintro e w3 ⟨rfl, hb3⟩; have HB3 := Lib.hid (HB2.out.trans (hb3.mono HB2.out.size)); clear hb3)
    | (go_at_call 46
       have hb3a : Below w.heap.size w (w3.alloc (.cells #[.int .u64 (xt : Int), .int .i64 xk, .string (str xx)] 47)) := HB3.out.alloc HB3.out.size _
       have hr13 := heap_alloc_new w3 (.cells #[.int .u64 (xt : Int), .int .i64 xk, .string (str xx)] 47)
       refine (HRG.out _ hb3a).mono ?_
       rintro e w4 ⟨rfl, hb4⟩
       have HB4 := Lib.hid (hb3a.trans (hb4.mono hb3a.size))
       have HR13 := Lib.hid (row_below hr13 hb4)
       clear hb4 hb3a hr13)
    | fail)
  obtain ⟨W, hW⟩ : ∃ W, W = w4.alloc (.cells #[.int .u64 (xt : Int), .int .i64 xk, .string (str xx)] 62) := ⟨_, rfl⟩
  have hb5 : Below w4.heap.size w4 W := by rw [hW]; exact (Below.refl _ _).alloc (Nat.le_refl _) _
  have hr15 : W.heap[w4.heap.size]? = some (.cells #[.int .u64 (xt : Int), .int .i64 xk, .string (str xx)] 62 (0, 0)) := by rw [hW]; exact heap_alloc_new w4 _
  have hr13 := row_below HR13.out hb5
  have l13 := (Array.getElem?_eq_some_iff.1 hr13).1
  have l15 := (Array.getElem?_eq_some_iff.1 hr15).1
  have HBW := Lib.hid (HB4.out.trans (hb5.mono HB4.out.size))
  rw [← hW]
  clear hW hb5 HB1 HB2 HB3 HB4 HR13
  have HCW := Lib.hid (fun W' (hb : Below W.heap.size W W') => HC.out.below (HBW.out.trans (hb.mono HBW.out.size)))
  have HRW := Lib.hid (fun W' (hb : Below W.heap.size W W') => HR.out.below (HBW.out.trans (hb.mono HBW.out.size)))
  have h0 := HRW.out W (Below.refl _ _)
  have c0 := h0.c0
  have c2 := h0.c2
  have lg := h0.lt
  obtain ⟨p13, hp13⟩ : ∃ p, p = w3.heap.size := ⟨_, rfl⟩
  obtain ⟨p15, hp15⟩ : ∃ p, p = w4.heap.size := ⟨_, rfl⟩
  rw [← hp13] at hr13 l13 ⊢
  rw [← hp15] at hr15 l15 ⊢
  have a0 : W.cell? ⟨p13, 0, none⟩ = some (.int .u64 (xt : Int)) := cell_of_row W _ 0 _ _ _ hr13
  have a1 : W.cell? ⟨p13, 1, none⟩ = some (.int .i64 xk) := cell_of_row W _ 1 _ _ _ hr13
  have a2 : W.cell? ⟨p13, 2, none⟩ = some (.string (str xx)) := cell_of_row W _ 2 _ _ _ hr13
  have b0 : W.cell? ⟨p15, 0, none⟩ = some (.int .u64 (xt : Int)) := cell_of_row W _ 0 _ _ _ hr15
  have b1 : W.cell? ⟨p15, 1, none⟩ = some (.int .i64 xk) := cell_of_row W _ 1 _ _ _ hr15
  have b2 : W.cell? ⟨p15, 2, none⟩ = some (.string (str xx)) := cell_of_row W _ 2 _ _ _ hr15
  clear h0 hr13 hr15 hp13 hp15
  have HF0 : Hid (∀ W', Below W.heap.size W W' → Calls Try.prog 24 #[.pointer (some ⟨g, 0, none⟩), .int .u64 0] W' (Rowed W' 47 t.l)) := Lib.hid (fun W' hb => by
    have := from_any (HCW.out W' hb) 0 (by omega)
    rw [show t.from_ 0 = t.l from by unfold Cv.from_; rw [show 0 - t.base - 1 = 0 by omega]; rfl] at this
    exact this)
  refine wp_grow [([0, 2, 3, 4, 5], 1), ([6, 7, 8, 10], 9), ([], 11), ([12, 13, 14, 15, 16, 17, 18, 19, 20, 21, 22, 23, 24, 25, 26, 27, 28, 29, 30, 31, 32, 33, 34, 35, 36, 38, 39], 37), ([], 40), ([], 41), ([42, 43, 44, 46, 47, 48, 49], 45), ([], 50), ([51, 52, 53, 54, 55, 57, 58, 59], 56), ([], 60)] [61, 62, 63] (by kernel_rfl) (by kernel_rfl) (fun d _ _ _ _ h => by cases d <;> exact h) fun wd zd => ?_
  intro q hq
  have F0 := fun z => ((hq z).cell (p := ⟨gr, 0, none⟩) lg).trans c0
  simp only [pickI, Option.toList_some, List.cons_append, List.nil_append, List.getElem?_toArray, List.getElem?_cons_succ, List.getElem?_cons_zero]
  try go_frame
  repeat (go_big_quiet_step (fail))
  refine wpQuiet_nil ?_
  clear hq q F0
  refine seg_op (by simp only [List.getElem?_toArray, List.getElem?_cons_succ, List.getElem?_cons_zero]; rfl) fun K hK => ?_
  go_simp
  refine (base_any (HCW.out wd zd)).mono ?_
  rintro e v1 ⟨rfl, ev1⟩
  have b1x : Below wd.heap.size wd v1 := by rw [ev1]; exact Below.refl _ _
  have z1 := zd.trans (b1x.mono zd.size)
  clear ev1 b1x
  refine hK.out _ _ (seg_keep z1 ?_)
  clear hK K
  try go_frame
  intro q hq
  simp only [pickI, Option.toList_some, List.cons_append, List.nil_append, List.getElem?_toArray, List.getElem?_cons_succ, List.getElem?_cons_zero]
  try go_frame
  repeat (go_big_quiet_step (fail))
  refine wpQuiet_nil ?_
  clear hq q
  refine seg_op (by simp only [List.getElem?_toArray, List.getElem?_cons_succ, List.getElem?_cons_zero]; rfl) fun K hK => ?_
  go_simp
  refine (last_any (HCW.out v1 z1)).mono ?_
  rintro e v2 ⟨rfl, ev2⟩
  have b2x : Below v1.heap.size v1 v2 := by rw [ev2]; exact Below.refl _ _
  have z2 := z1.trans (b2x.mono z1.size)
  clear ev2 b2x
  refine hK.out _ _ (seg_keep z2 ?_)
  clear hK K
  try go_frame
  intro q hq
  refine wpQuiet_nil ?_
  clear hq q
  refine seg_op (by simp only [List.getElem?_toArray, List.getElem?_cons_succ, List.getElem?_cons_zero]; rfl) fun K hK => ?_
  go_simp
  refine (rlast_any (HRW.out v2 z2)).mono ?_
  rintro e v3 ⟨rfl, bb3⟩
  have z3 := z2.trans (bb3.mono z2.size)
  refine hK.out _ _ (seg_keep z3 ?_)
  clear hK K
  try go_frame
  intro q hq
  have F0 := fun z => ((hq z).cell (p := ⟨p13, 0, none⟩) l13).trans a0
  have F1 := fun z => ((hq z).cell (p := ⟨p13, 1, none⟩) l13).trans a1
  have F2 := fun z => ((hq z).cell (p := ⟨p13, 2, none⟩) l13).trans a2
  have G0 := fun z => ((hq z).cell (p := ⟨p15, 0, none⟩) l15).trans b0
  have G1 := fun z => ((hq z).cell (p := ⟨p15, 1, none⟩) l15).trans b1
  have G2 := fun z => ((hq z).cell (p := ⟨p15, 2, none⟩) l15).trans b2
  have heq := HEQ.out
  have hgu := HGU.out
  simp only [pickI, Option.toList_some, List.cons_append, List.nil_append, List.getElem?_toArray, List.getElem?_cons_succ, List.getElem?_cons_zero]
  try go_frame
  repeat (go_big_quiet_step (fail))
  refine wpQuiet_nil ?_
  clear heq hgu hq q F0 F1 F2 G0 G1 G2
  refine seg_op (by simp only [List.getElem?_toArray, List.getElem?_cons_succ, List.getElem?_cons_zero]; rfl) fun K hK => ?_
  go_simp
  refine (from_any (HCW.out v3 z3) i HI.out).mono ?_
  rintro e v4 ⟨A4, c4, rfl, ho4, bb4⟩
  have z4 := z3.trans (bb4.mono z3.size)
  have HO4 := Lib.hid (ownsRow_rd ho4)
  clear ho4
  refine hK.out _ _ (seg_keep z4 ?_)
  clear hK K
  try go_frame
  intro q hq
  refine wpQuiet_nil ?_
  clear hq q
  refine seg_op (by simp only [List.getElem?_toArray, List.getElem?_cons_succ, List.getElem?_cons_zero]; rfl) fun K hK => ?_
  go_simp
  refine (rfrom_any (HRW.out v4 z4) i HI.out).mono ?_
  rintro e v5 ⟨A5, c5, rfl, ho5, bb5⟩
  have z5 := z4.trans (bb5.mono z4.size)
  have HO5 := Lib.hid (ownsRow_rd ho5)
  have HO4 := Lib.hid ((HO4.out.below bb5).more bb5.size)
  clear ho5
  refine hK.out _ _ (seg_keep z5 ?_)
  clear hK K
  try go_frame
  intro q hq
  refine wpQuiet_nil ?_
  clear hq q
  refine seg_op (by simp only [List.getElem?_toArray, List.getElem?_cons_succ, List.getElem?_cons_zero]; rfl) fun K hK => ?_
  go_simp
  refine (same29 HO4.out HO5.out rfl (by have := HC.out.room; unfold Cv.from_; rw [List.length_drop]; omega)).mono ?_
  rintro e v6 ⟨rfl, bb6⟩
  have z6 := z5.trans (bb6.mono z5.size)
  refine hK.out _ _ (seg_keep z6 ?_)
  clear hK K
  try go_frame
  intro q hq
  have F2 := fun z => ((hq z).cell (p := ⟨gr, 2, none⟩) lg).trans c2
  simp only [pickI, Option.toList_some, List.cons_append, List.nil_append, List.getElem?_toArray, List.getElem?_cons_succ, List.getElem?_cons_zero]
  try go_frame
  repeat (go_big_quiet_step (fail))
  refine wpQuiet_nil ?_
  clear hq q F2
  refine seg_op (by simp only [List.getElem?_toArray, List.getElem?_cons_succ, List.getElem?_cons_zero]; rfl) fun K hK => ?_
  go_simp
  refine ((HF0.out v6 z6)).mono ?_
  rintro e v7 ⟨A7, c7, rfl, ho7, bb7⟩
  have z7 := z6.trans (bb7.mono z6.size)
  have HO7 := Lib.hid (ownsRow_rd ho7)
  have HR7 := Lib.hid (HRW.out v7 z7).rd
  clear ho7
  refine hK.out _ _ (seg_keep z7 ?_)
  clear hK K
  try go_frame
  intro q hq
  refine wpQuiet_nil ?_
  clear hq q
  refine seg_op (by simp only [List.getElem?_toArray, List.getElem?_cons_succ, List.getElem?_cons_zero]; rfl) fun K hK => ?_
  go_simp
  refine (same29 HO7.out HR7.out rfl (by have := HC.out.room; omega)).mono ?_
  rintro e v8 ⟨rfl, bb8⟩
  have z8 := z7.trans (bb8.mono z7.size)
  refine hK.out _ _ (seg_keep z8 ?_)
  clear hK K
  try go_frame
  intro q hq
  simp only [pickI, Option.toList_some, List.cons_append, List.nil_append, List.getElem?_toArray, List.getElem?_cons_succ, List.getElem?_cons_zero]
  try go_frame
  repeat (go_big_quiet_step (fail))
  refine wpQuiet_nil ?_
  clear hq q
  refine seg_op (by simp only [List.getElem?_toArray, List.getElem?_cons_succ, List.getElem?_cons_zero]; rfl) fun K hK => ?_
  go_simp
  refine (newer_any (HCW.out v8 z8) i term).mono ?_
  rintro e v9 ⟨rfl, bb9⟩
  have z9 := z8.trans (bb9.mono z8.size)
  refine hK.out _ _ (seg_keep z9 ?_)
  clear hK K
  try go_frame
  intro q hq
  refine wpQuiet_nil ?_
  clear hq q
  refine seg_op (by simp only [List.getElem?_toArray, List.getElem?_cons_succ, List.getElem?_cons_zero]; rfl) fun K hK => ?_
  go_simp
  refine (rnewer_any (HRW.out v9 z9) i term).mono ?_
  rintro e v10 ⟨rfl, bb10⟩
  have z10 := z9.trans (bb10.mono z9.size)
  refine hK.out _ _ (seg_keep z10 ?_)
  clear hK K
  try go_frame
  intro q hq
  simp only [pickI, Option.toList_some, List.cons_append, List.nil_append, List.getElem?_toArray, List.getElem?_cons_succ, List.getElem?_cons_zero]
  try go_frame
  repeat (go_big_quiet_step (fail))
  refine wpQuiet_nil ?_
  clear hq q
  go_wp2_with (fail)
  go_ret
  exact ⟨rfl, HBW.out.trans (z10.mono HBW.out.size)⟩

end Go.Proofs.Ytlpckhjmbfeegaa
