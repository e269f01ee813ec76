/- Whether any entry is void by any others, which one is the best of an index, and what a new leader goes on with, is the document's: for all inputs. -/
import Derived.Test.YtoopeppcmoolgaaMkeep
import Derived.Test.YtoopeppcmoolgaaMrmerge
import Derived.Test.YtoopeppcmoolgaaMsames
namespace Go.Proofs.Ytoopeppcmoolgaa
open Go.RowKit
set_option maxRecDepth 20000

theorem goes_same {Ls : List Li} {base term H : Nat} {m : Int} {es1 es2 : List En} (hl : es1.length = H) (h1 : ∀ (j : Nat), j < H → ∃ A' c', es1[j]? = some ((goes base term m Ls H j).put A' c')) (h2 : ∀ (j : Nat), j < H → ∃ A' c', es2[j]? = some ((goes base term m Ls H j).put A' c')) :
    ∀ (j : Nat) (e x : En), es1[j]? = some e → es2[j]? = some x → SameE e x := by
  intro j e x he hx
  have hj : j < H := by have := (List.getElem?_eq_some_iff.1 he).1; omega
  obtain ⟨A', c', g1⟩ := h1 j hj
  obtain ⟨A'', c'', g2⟩ := h2 j hj
  rw [he] at g1
  rw [hx] at g2
  cases g1
  cases g2
  exact ⟨by unfold En.alike En.put En.look; simp, rfl, rfl, rfl, rfl⟩
set_option maxHeartbeats 8000000 in
theorem mergeTells_walk {w : World} (base0 : Int) (hb0 : (Lit.int .u64 base0).wf = true) (term0 : Int) (ht0 : (Lit.int .u64 term0).wf = true) (m : Int) (_ : (Lit.int .i64 m).wf = true) {A : Option Addr} {n c : Nat} {Ls : List Li} (h : Slc Li.lay w A n c Ls) (x : En) (hx : x.Reads w) :
    Calls Try.prog 3 #[.int .u64 base0, .int .u64 term0, .int .i64 m, .slice A n c, .agg x.cells] w fun r w' => r = .returned (.bool true) ∧ Below w.heap.size w w' := by
  obtain ⟨base, rfl, hb⟩ := wf_u64 hb0
  obtain ⟨term, rfl, ht⟩ := wf_u64 ht0
  clear hb0 ht0
  obtain ⟨W, hW, hz, r9, hbW⟩ := boxes1 w x.cells 29
  have HL := Lib.hid (light23 (h.below hbW) base hb)
  have HX := Lib.hid (hx.below hbW)
  have HBW := Lib.hid hbW
  have HR9 := Lib.hid r9
  have HV := Lib.hid (fun W' (hb' : Below W.heap.size W W') => void_any ((h.below hbW).below hb') x ((hx.below hbW).below hb'))
  have HRV := Lib.hid (fun W' (hb' : Below W.heap.size W W') (hf : Fit base Ls) => rvoid_any ((h.below hbW).below hb') (Nat.le_trans hf.all (by decide)) x ((hx.below hbW).below hb'))
  have HM := Lib.hid (fun W' (hb' : Below W.heap.size W W') (hf : Fit base Ls) => merge_any ((h.below hbW).below hb') hf.bn base term hf.base ht m)
  have HRM := Lib.hid (fun W' (hb' : Below W.heap.size W W') (hf : Fit base Ls) => rmerge_any ((h.below hbW).below hb') (Nat.le_trans hf.all (by decide)) base term hf.base ht m)
  have hBE := fun W' (hb' : Below W.heap.size W W') (hf : Fit base Ls) => best_any ((h.below hbW).below hb') hf.bn x.ix hx.ix
  have hRB := fun W' (hb' : Below W.heap.size W W') (hf : Fit base Ls) => rbest_any ((h.below hbW).below hb') (Nat.le_trans hf.all (by decide)) x.ix hx.ix
  have hRE : ∀ W', Below W.heap.size W W' → (curE (bst Ls x.ix)).Reads W' := fun W' hb' => curE_reads (fun e he => ((flat_reads (h.below hbW) e (bestOf_mem he)).below hb'))
  unfold TBest at hBE
  unfold TMerge at HM HRM
  clear h ht hb hbW r9 hz hx
  generalize (bst Ls x.ix).isSome = B at *
  generalize curE (bst Ls x.ix) = e5 at *
  generalize vd (flat Ls) x = T at *
  obtain ⟨ix, tm, st, kd, cl, rq, fr, ct, da, A1, bn, bc, ls⟩ := x
  obtain ⟨ix5, tm5, st5, kd5, cl5, rq5, fr5, ct5, da5, A5, bn5, bc5, ls5⟩ := e5
  unfold En.put at hBE
  unfold ERow En.cells at *
  dsimp only at *
  have HBE := Lib.hid hBE
  have HRB := Lib.hid hRB
  have HRE := Lib.hid hRE
  clear hBE hRB hRE
  obtain ⟨p9, hp9⟩ : ∃ p9, w.heap.size = p9 := ⟨_, rfl⟩
  rw [hp9] at HR9
  have HS10 := Lib.hid (fun W' (hb' : Below W.heap.size W W') => light10 (ents1 (x := ⟨ix, tm, st, kd, cl, rq, fr, ct, da, A1, bn, bc, ls⟩) (heap_alloc_new W' (.cells #[.int .u64 (ix : Int), .int .u64 (tm : Int), .int .u64 (st : Int), .int .i64 kd, .int .u64 (cl : Int), .int .u64 (rq : Int), .int .u32 (fr : Int), .int .u32 (ct : Int), .string (str da), .slice A1 bn bc] 29)) (HX.out.below (hb'.alloc hb'.size _))))
  have HFIN := Lib.hid (fun W' (hb' : Below W.heap.size W W') => HBW.out.trans (hb'.mono HBW.out.size))
  go_enter Try.func3, Try.ntmps3
  go_wp2_with (first
    | (go_at_call 7; rw [← hW]; (try rw [hp9]); refine HL.out.mono ?_; rintro e w1 ⟨b1, rfl, hf1, hb1⟩
       have HB1 := Lib.hid hb1
       have HF1 := Lib.hid hf1
       have H91 := Lib.hid (row_below HR9.out hb1)
       clear hf1 hb1 hW
       have x0 : w1.cell? ⟨p9, 0, none⟩ = some (.int .u64 (ix : Int)) := (cell_of_row w1 p9 0 _ _ _ H91.out).trans rfl
       have x1 : w1.cell? ⟨p9, 1, none⟩ = some (.int .u64 (tm : Int)) := (cell_of_row w1 p9 1 _ _ _ H91.out).trans rfl
       have x2 : w1.cell? ⟨p9, 2, none⟩ = some (.int .u64 (st : Int)) := (cell_of_row w1 p9 2 _ _ _ H91.out).trans rfl
       have x3 : w1.cell? ⟨p9, 3, none⟩ = some (.int .i64 kd) := (cell_of_row w1 p9 3 _ _ _ H91.out).trans rfl
       have x4 : w1.cell? ⟨p9, 4, none⟩ = some (.int .u64 (cl : Int)) := (cell_of_row w1 p9 4 _ _ _ H91.out).trans rfl
       have x5 : w1.cell? ⟨p9, 5, none⟩ = some (.int .u64 (rq : Int)) := (cell_of_row w1 p9 5 _ _ _ H91.out).trans rfl
       have x6 : w1.cell? ⟨p9, 6, none⟩ = some (.int .u32 (fr : Int)) := (cell_of_row w1 p9 6 _ _ _ H91.out).trans rfl
       have x7 : w1.cell? ⟨p9, 7, none⟩ = some (.int .u32 (ct : Int)) := (cell_of_row w1 p9 7 _ _ _ H91.out).trans rfl
       have x8 : w1.cell? ⟨p9, 8, none⟩ = some (.string (str da)) := (cell_of_row w1 p9 8 _ _ _ H91.out).trans rfl
       have x9 : w1.cell? ⟨p9, 9, none⟩ = some (.slice A1 bn bc) := (cell_of_row w1 p9 9 _ _ _ H91.out).trans rfl
       cases b1)
    | (go_at_call 8; refine (HS10.out _ HB1.out).mono ?_; rintro e w2 ⟨b2, rfl, hf2, hb2⟩
       have hw12 := ((Below.refl w1.heap.size w1).alloc (Nat.le_refl _) (.cells #[.int .u64 (ix : Int), .int .u64 (tm : Int), .int .u64 (st : Int), .int .i64 kd, .int .u64 (cl : Int), .int .u64 (rq : Int), .int .u32 (fr : Int), .int .u32 (ct : Int), .string (str da), .slice A1 bn bc] 29)).trans (hb2.mono (by simp))
       have HB2 := Lib.hid (HB1.out.trans (hw12.mono HB1.out.size))
       have H92 := Lib.hid (row_below H91.out hw12)
       clear hf2 hb2 hw12 x0 x1 x2 x3 x4 x5 x6 x7 x8 x9
       have x0 : w2.cell? ⟨p9, 0, none⟩ = some (.int .u64 (ix : Int)) := (cell_of_row w2 p9 0 _ _ _ H92.out).trans rfl
       have x1 : w2.cell? ⟨p9, 1, none⟩ = some (.int .u64 (tm : Int)) := (cell_of_row w2 p9 1 _ _ _ H92.out).trans rfl
       have x2 : w2.cell? ⟨p9, 2, none⟩ = some (.int .u64 (st : Int)) := (cell_of_row w2 p9 2 _ _ _ H92.out).trans rfl
       have x3 : w2.cell? ⟨p9, 3, none⟩ = some (.int .i64 kd) := (cell_of_row w2 p9 3 _ _ _ H92.out).trans rfl
       have x4 : w2.cell? ⟨p9, 4, none⟩ = some (.int .u64 (cl : Int)) := (cell_of_row w2 p9 4 _ _ _ H92.out).trans rfl
       have x5 : w2.cell? ⟨p9, 5, none⟩ = some (.int .u64 (rq : Int)) := (cell_of_row w2 p9 5 _ _ _ H92.out).trans rfl
       have x6 : w2.cell? ⟨p9, 6, none⟩ = some (.int .u32 (fr : Int)) := (cell_of_row w2 p9 6 _ _ _ H92.out).trans rfl
       have x7 : w2.cell? ⟨p9, 7, none⟩ = some (.int .u32 (ct : Int)) := (cell_of_row w2 p9 7 _ _ _ H92.out).trans rfl
       have x8 : w2.cell? ⟨p9, 8, none⟩ = some (.string (str da)) := (cell_of_row w2 p9 8 _ _ _ H92.out).trans rfl
       have x9 : w2.cell? ⟨p9, 9, none⟩ = some (.slice A1 bn bc) := (cell_of_row w2 p9 9 _ _ _ H92.out).trans rfl
       cases b2)
    | (go_at_call 9; refine (lives23 _).mono ?_; rintro e w9 ⟨rfl, hb9⟩)
    | (go_at_call 10; refine (HBE.out _ HB2.out (HF1.out trivial)).mono ?_; rintro e w3 ⟨A6, c6, rfl, hr6, hA6, hb3⟩
       have HB3 := Lib.hid (HB2.out.trans (hb3.mono HB2.out.size))
       have H93 := Lib.hid (row_below H92.out hb3)
       have HR6 := Lib.hid hr6
       clear hr6 hA6 hb3 x0 x1 x2 x3 x4 x5 x6 x7 x8 x9
       have x0 : ∀ o : Obj, (w3.alloc o).cell? ⟨p9, 0, none⟩ = some (.int .u64 (ix : Int)) := fun o => cell_old o ((cell_of_row w3 p9 0 _ _ _ H93.out).trans rfl))
    | (go_at_call 11; refine (HRB.out _ (HB3.out.alloc HB3.out.size _) (HF1.out trivial)).mono ?_; rintro e w4 ⟨rfl, hb4⟩
       have hw34 := ((Below.refl w3.heap.size w3).alloc (Nat.le_refl _) (.cells #[.int .u64 (ix5 : Int), .int .u64 (tm5 : Int), .int .u64 (st5 : Int), .int .i64 kd5, .int .u64 (cl5 : Int), .int .u64 (rq5 : Int), .int .u32 (fr5 : Int), .int .u32 (ct5 : Int), .string (str da5), .slice A6 bn5 c6] 29)).trans (hb4.mono (by simp))
       have HB4 := Lib.hid (HB3.out.trans (hw34.mono HB3.out.size))
       have H94 := Lib.hid (row_below H93.out hw34)
       have HR64 := Lib.hid (HR6.out.below hw34)
       have H11 := Lib.hid (show ERow w4 w3.heap.size ⟨ix5, tm5, st5, kd5, cl5, rq5, fr5, ct5, da5, A6, bn5, c6, ls5⟩ from row_below (row_here w3 _ rfl) hb4)
       clear hb4 hw34 x0)
    | fail)
  · go_ret
    exact ⟨rfl, HFIN.out _ (HB1.out.trans (hb9.mono HB1.out.size))⟩
  · go_ret
    exact ⟨rfl, HFIN.out _ (HB2.out.trans (hb9.mono HB2.out.size))⟩
  · have hfit := HF1.out trivial
    obtain ⟨W5, hW5, hz5, r13, hb5⟩ := row1 w4 #[.int .u64 (ix5 : Int), .int .u64 (tm5 : Int), .int .u64 (st5 : Int), .int .i64 kd5, .int .u64 (cl5 : Int), .int .u64 (rq5 : Int), .int .u32 (fr5 : Int), .int .u32 (ct5 : Int), .string (str da5), .slice A5 bn5 bc5] 29
    rw [← hW5]
    have H115 := Lib.hid (row_below H11.out hb5)
    have H95 := Lib.hid (row_below H94.out hb5)
    have HB5 := Lib.hid (HB4.out.trans (hb5.mono HB4.out.size))
    have HR65 := Lib.hid (HR64.out.below hb5)
    have H135 := Lib.hid (show ERow W5 w4.heap.size ⟨ix5, tm5, st5, kd5, cl5, rq5, fr5, ct5, da5, A5, bn5, bc5, ls5⟩ from r13)
    obtain ⟨p11, hp11⟩ : ∃ p11, w3.heap.size = p11 := ⟨_, rfl⟩
    obtain ⟨p13, hp13⟩ : ∃ p13, w4.heap.size = p13 := ⟨_, rfl⟩
    rw [hp11] at H115 ⊢
    rw [hp13] at H135 ⊢
    clear hW5 hz5 r13 hb5 hp11 hp13 HBE HRB HL HS10 HR9 H91 H92 H93 H94 H11 HR6 HR64 HB1 HB2 HB3 HB4
    have s0 : W5.cell? ⟨p11, 0, none⟩ = some (.int .u64 (ix5 : Int)) := (cell_of_row W5 p11 0 _ _ _ H115.out).trans rfl
    have s1 : W5.cell? ⟨p11, 1, none⟩ = some (.int .u64 (tm5 : Int)) := (cell_of_row W5 p11 1 _ _ _ H115.out).trans rfl
    have s2 : W5.cell? ⟨p11, 2, none⟩ = some (.int .u64 (st5 : Int)) := (cell_of_row W5 p11 2 _ _ _ H115.out).trans rfl
    have s3 : W5.cell? ⟨p11, 3, none⟩ = some (.int .i64 kd5) := (cell_of_row W5 p11 3 _ _ _ H115.out).trans rfl
    have s4 : W5.cell? ⟨p11, 4, none⟩ = some (.int .u64 (cl5 : Int)) := (cell_of_row W5 p11 4 _ _ _ H115.out).trans rfl
    have s5 : W5.cell? ⟨p11, 5, none⟩ = some (.int .u64 (rq5 : Int)) := (cell_of_row W5 p11 5 _ _ _ H115.out).trans rfl
    have s6 : W5.cell? ⟨p11, 6, none⟩ = some (.int .u32 (fr5 : Int)) := (cell_of_row W5 p11 6 _ _ _ H115.out).trans rfl
    have s7 : W5.cell? ⟨p11, 7, none⟩ = some (.int .u32 (ct5 : Int)) := (cell_of_row W5 p11 7 _ _ _ H115.out).trans rfl
    have s8 : W5.cell? ⟨p11, 8, none⟩ = some (.string (str da5)) := (cell_of_row W5 p11 8 _ _ _ H115.out).trans rfl
    have s9 : W5.cell? ⟨p11, 9, none⟩ = some (.slice A6 bn5 c6) := (cell_of_row W5 p11 9 _ _ _ H115.out).trans rfl
    have t0 : W5.cell? ⟨p13, 0, none⟩ = some (.int .u64 (ix5 : Int)) := (cell_of_row W5 p13 0 _ _ _ H135.out).trans rfl
    have t1 : W5.cell? ⟨p13, 1, none⟩ = some (.int .u64 (tm5 : Int)) := (cell_of_row W5 p13 1 _ _ _ H135.out).trans rfl
    have t2 : W5.cell? ⟨p13, 2, none⟩ = some (.int .u64 (st5 : Int)) := (cell_of_row W5 p13 2 _ _ _ H135.out).trans rfl
    have t3 : W5.cell? ⟨p13, 3, none⟩ = some (.int .i64 kd5) := (cell_of_row W5 p13 3 _ _ _ H135.out).trans rfl
    have t4 : W5.cell? ⟨p13, 4, none⟩ = some (.int .u64 (cl5 : Int)) := (cell_of_row W5 p13 4 _ _ _ H135.out).trans rfl
    have t5 : W5.cell? ⟨p13, 5, none⟩ = some (.int .u64 (rq5 : Int)) := (cell_of_row W5 p13 5 _ _ _ H135.out).trans rfl
    have t6 : W5.cell? ⟨p13, 6, none⟩ = some (.int .u32 (fr5 : Int)) := (cell_of_row W5 p13 6 _ _ _ H135.out).trans rfl
    have t7 : W5.cell? ⟨p13, 7, none⟩ = some (.int .u32 (ct5 : Int)) := (cell_of_row W5 p13 7 _ _ _ H135.out).trans rfl
    have t8 : W5.cell? ⟨p13, 8, none⟩ = some (.string (str da5)) := (cell_of_row W5 p13 8 _ _ _ H135.out).trans rfl
    have t9 : W5.cell? ⟨p13, 9, none⟩ = some (.slice A5 bn5 bc5) := (cell_of_row W5 p13 9 _ _ _ H135.out).trans rfl
    have h11w : p11 < W5.heap.size := (Array.getElem?_eq_some_iff.1 H115.out).1
    have h13w : p13 < W5.heap.size := (Array.getElem?_eq_some_iff.1 H135.out).1
    have HLX := Lib.hid (fun W' (hb' : Below W5.heap.size W5 W') => e_loads (e := ⟨ix, tm, st, kd, cl, rq, fr, ct, da, A1, bn, bc, ls⟩) (row_below H95.out hb'))
    have HC2 := Lib.hid (fun W' (hb' : Below W5.heap.size W5 W') => HV.out W' (HB5.out.trans (hb'.mono HB5.out.size)))
    have HC5 := Lib.hid (fun W' (hb' : Below W5.heap.size W5 W') => HRV.out W' (HB5.out.trans (hb'.mono HB5.out.size)) hfit)
    have HC15 := Lib.hid (fun W' (hb' : Below W5.heap.size W5 W') => same_any ⟨ix5, tm5, st5, kd5, cl5, rq5, fr5, ct5, da5, A6, bn5, c6, ls5⟩ ⟨ix5, tm5, st5, kd5, cl5, rq5, fr5, ct5, da5, A5, bn5, bc5, ls5⟩ W' (HR65.out.below hb') (HRE.out W' (HB5.out.trans (hb'.mono HB5.out.size))) (by unfold En.alike En.look; simp) rfl rfl rfl rfl)
    have HC22 := Lib.hid (fun W' (hb' : Below W5.heap.size W5 W') => HM.out W' (HB5.out.trans (hb'.mono HB5.out.size)) hfit)
    have HC27 := Lib.hid (fun W' (hb' : Below W5.heap.size W5 W') => HRM.out W' (HB5.out.trans (hb'.mono HB5.out.size)) hfit)
    unfold En.cells at HC15
    dsimp only at HC15
    generalize hadN (hasE Ls base) 192 = H at *
    clear hfit HF1 HV HRV HM HRM HR65 HRE H95 H115 H135
    refine wp_low W5.heap.size [([0, 1, 3, 4], 2), ([], 5), ([6, 7, 8, 9, 10, 11, 12, 13, 14], 15), ([16, 17, 18, 19, 20, 21, 23, 24, 25, 26], 22), ([], 27), ([], 28), ([29, 30], 31)] [32, 33] (by kernel_rfl) (by kernel_rfl) (fun d _ _ _ _ h => by cases d <;> exact h) (Nat.le_refl _) fun wd hbd => ?_
    intro q hq
    have d0 := fun z => kept (hq z) s0 h11w
    have d1 := fun z => kept (hq z) s1 h11w
    have d2 := fun z => kept (hq z) s2 h11w
    have d3 := fun z => kept (hq z) s3 h11w
    have d4 := fun z => kept (hq z) s4 h11w
    have d5 := fun z => kept (hq z) s5 h11w
    have d6 := fun z => kept (hq z) s6 h11w
    have d7 := fun z => kept (hq z) s7 h11w
    have d8 := fun z => kept (hq z) s8 h11w
    have d9 := fun z => kept (hq z) s9 h11w
    have f0 := fun z => kept (hq z) t0 h13w
    have f1 := fun z => kept (hq z) t1 h13w
    have f2 := fun z => kept (hq z) t2 h13w
    have f3 := fun z => kept (hq z) t3 h13w
    have f4 := fun z => kept (hq z) t4 h13w
    have f5 := fun z => kept (hq z) t5 h13w
    have f6 := fun z => kept (hq z) t6 h13w
    have f7 := fun z => kept (hq z) t7 h13w
    have f8 := fun z => kept (hq z) t8 h13w
    have f9 := fun z => kept (hq z) t9 h13w
    simp only [pickI, Option.toList_some, List.cons_append, List.nil_append, List.getElem?_toArray, List.getElem?_cons_succ, List.getElem?_cons_zero]
    try go_frame
    refine wpQ_load rfl _ (.tmp 9) rfl rfl (fun w hw => by obtain ⟨z, rfl⟩ := hw; exact HLX.out _ (hq z)) ?_
    try go_frame
    go_big_quiet_step (fail)
    refine wpQ_load rfl _ (.tmp 9) rfl rfl (fun w hw => by obtain ⟨z, rfl⟩ := hw; exact HLX.out _ (hq z)) ?_
    try go_frame
    go_big_quiet_step (fail)
    refine wpQuiet_nil ?_
    clear hq q d0 d1 d2 d3 d4 d5 d6 d7 d8 d9 f0 f1 f2 f3 f4 f5 f6 f7 f8 f9
    refine seg_op (by simp only [List.getElem?_toArray, List.getElem?_cons_succ, List.getElem?_cons_zero]; rfl) fun K hK => ?_
    go_simp
    refine (HC2.out _ hbd).mono ?_
    rintro e v0 ⟨rfl, bv0⟩
    have zv0 := hbd.trans (bv0.mono hbd.size)
    refine hK.out _ _ (seg_keep zv0 ?_)
    clear hK K
    intro q hq
    refine wpQuiet_nil ?_
    clear hq q
    refine seg_op (by simp only [List.getElem?_toArray, List.getElem?_cons_succ, List.getElem?_cons_zero]; rfl) fun K hK => ?_
    go_simp
    refine (HC5.out _ zv0).mono ?_
    rintro e v1 ⟨rfl, bv1⟩
    have zv1 := zv0.trans (bv1.mono zv0.size)
    refine hK.out _ _ (seg_keep zv1 ?_)
    clear hK K
    intro q hq
    have d0 := fun z => kept (hq z) s0 h11w
    have d1 := fun z => kept (hq z) s1 h11w
    have d2 := fun z => kept (hq z) s2 h11w
    have d3 := fun z => kept (hq z) s3 h11w
    have d4 := fun z => kept (hq z) s4 h11w
    have d5 := fun z => kept (hq z) s5 h11w
    have d6 := fun z => kept (hq z) s6 h11w
    have d7 := fun z => kept (hq z) s7 h11w
    have d8 := fun z => kept (hq z) s8 h11w
    have d9 := fun z => kept (hq z) s9 h11w
    have f0 := fun z => kept (hq z) t0 h13w
    have f1 := fun z => kept (hq z) t1 h13w
    have f2 := fun z => kept (hq z) t2 h13w
    have f3 := fun z => kept (hq z) t3 h13w
    have f4 := fun z => kept (hq z) t4 h13w
    have f5 := fun z => kept (hq z) t5 h13w
    have f6 := fun z => kept (hq z) t6 h13w
    have f7 := fun z => kept (hq z) t7 h13w
    have f8 := fun z => kept (hq z) t8 h13w
    have f9 := fun z => kept (hq z) t9 h13w
    simp only [pickI, Option.toList_some, List.cons_append, List.nil_append, List.getElem?_toArray, List.getElem?_cons_succ, List.getElem?_cons_zero]
    try go_frame
    go_big_quiet_step (fail)
    go_big_quiet_step (fail)
    go_big_quiet_step (fail)
    go_big_quiet_step (fail)
    go_big_quiet_step (fail)
    go_big_quiet_step (fail)
    go_big_quiet_step (fail)
    go_big_quiet_step (fail)
    go_big_quiet_step (fail)
    refine wpQuiet_nil ?_
    clear hq q d0 d1 d2 d3 d4 d5 d6 d7 d8 d9 f0 f1 f2 f3 f4 f5 f6 f7 f8 f9
    refine seg_op (by simp only [List.getElem?_toArray, List.getElem?_cons_succ, List.getElem?_cons_zero]; rfl) fun K hK => ?_
    go_simp
    refine (HC15.out _ zv1).mono ?_
    rintro e v2 ⟨rfl, bv2⟩
    have zv2 := zv1.trans (bv2.mono zv1.size)
    refine hK.out _ _ (seg_keep zv2 ?_)
    clear hK K
    intro q hq
    have d0 := fun z => kept (hq z) s0 h11w
    have d1 := fun z => kept (hq z) s1 h11w
    have d2 := fun z => kept (hq z) s2 h11w
    have d3 := fun z => kept (hq z) s3 h11w
    have d4 := fun z => kept (hq z) s4 h11w
    have d5 := fun z => kept (hq z) s5 h11w
    have d6 := fun z => kept (hq z) s6 h11w
    have d7 := fun z => kept (hq z) s7 h11w
    have d8 := fun z => kept (hq z) s8 h11w
    have d9 := fun z => kept (hq z) s9 h11w
    have f0 := fun z => kept (hq z) t0 h13w
    have f1 := fun z => kept (hq z) t1 h13w
    have f2 := fun z => kept (hq z) t2 h13w
    have f3 := fun z => kept (hq z) t3 h13w
    have f4 := fun z => kept (hq z) t4 h13w
    have f5 := fun z => kept (hq z) t5 h13w
    have f6 := fun z => kept (hq z) t6 h13w
    have f7 := fun z => kept (hq z) t7 h13w
    have f8 := fun z => kept (hq z) t8 h13w
    have f9 := fun z => kept (hq z) t9 h13w
    simp only [pickI, Option.toList_some, List.cons_append, List.nil_append, List.getElem?_toArray, List.getElem?_cons_succ, List.getElem?_cons_zero]
    try go_frame
    go_big_quiet_step (fail)
    go_big_quiet_step (fail)
    go_big_quiet_step (fail)
    go_big_quiet_step (fail)
    go_big_quiet_step (fail)
    go_big_quiet_step (fail)
    go_big_quiet_step (fail)
    go_big_quiet_step (fail)
    go_big_quiet_step (fail)
    go_big_quiet_step (fail)
    refine wpQuiet_nil ?_
    clear hq q d0 d1 d2 d3 d4 d5 d6 d7 d8 d9 f0 f1 f2 f3 f4 f5 f6 f7 f8 f9
    refine seg_op (by simp only [List.getElem?_toArray, List.getElem?_cons_succ, List.getElem?_cons_zero]; rfl) fun K hK => ?_
    go_simp
    refine (HC22.out _ zv2).mono ?_
    rintro e v3 ⟨A7, c7, es1, rfl, hE1, hG1, bv3⟩
    have zv3 := zv2.trans (bv3.mono zv2.size)
    have HE1 := Lib.hid hE1
    have HG1 := Lib.hid hG1
    clear hE1 hG1
    refine hK.out _ _ (seg_keep zv3 ?_)
    clear hK K
    intro q hq
    refine wpQuiet_nil ?_
    clear hq q
    refine seg_op (by simp only [List.getElem?_toArray, List.getElem?_cons_succ, List.getElem?_cons_zero]; rfl) fun K hK => ?_
    go_simp
    refine (HC27.out _ zv3).mono ?_
    rintro e v4 ⟨A8, c8, es2, rfl, hE2, hG2, bv4⟩
    have zv4 := zv3.trans (bv4.mono zv3.size)
    have HE2 := Lib.hid hE2
    have HG2 := Lib.hid hG2
    have HE1b := Lib.hid (HE1.out.below bv4)
    clear hE2 hG2
    refine hK.out _ _ (seg_keep zv4 ?_)
    clear hK K
    intro q hq
    refine wpQuiet_nil ?_
    clear hq q
    refine seg_op (by simp only [List.getElem?_toArray, List.getElem?_cons_succ, List.getElem?_cons_zero]; rfl) fun K hK => ?_
    go_simp
    refine (sames_any HE1b.out HE2.out (goes_same HE1b.out.len HG1.out HG2.out)).mono ?_
    rintro e v5 ⟨rfl, bv5⟩
    have zv5 := zv4.trans (bv5.mono zv4.size)
    refine hK.out _ _ (seg_keep zv5 ?_)
    clear hK K
    intro q hq
    have d0 := fun z => kept (hq z) s0 h11w
    have d1 := fun z => kept (hq z) s1 h11w
    have d2 := fun z => kept (hq z) s2 h11w
    have d3 := fun z => kept (hq z) s3 h11w
    have d4 := fun z => kept (hq z) s4 h11w
    have d5 := fun z => kept (hq z) s5 h11w
    have d6 := fun z => kept (hq z) s6 h11w
    have d7 := fun z => kept (hq z) s7 h11w
    have d8 := fun z => kept (hq z) s8 h11w
    have d9 := fun z => kept (hq z) s9 h11w
    have f0 := fun z => kept (hq z) t0 h13w
    have f1 := fun z => kept (hq z) t1 h13w
    have f2 := fun z => kept (hq z) t2 h13w
    have f3 := fun z => kept (hq z) t3 h13w
    have f4 := fun z => kept (hq z) t4 h13w
    have f5 := fun z => kept (hq z) t5 h13w
    have f6 := fun z => kept (hq z) t6 h13w
    have f7 := fun z => kept (hq z) t7 h13w
    have f8 := fun z => kept (hq z) t8 h13w
    have f9 := fun z => kept (hq z) t9 h13w
    simp only [pickI, Option.toList_some, List.cons_append, List.nil_append, List.getElem?_toArray, List.getElem?_cons_succ, List.getElem?_cons_zero]
    try go_frame
    go_big_quiet_step (fail)
    go_big_quiet_step (fail)
    refine wpQuiet_nil ?_
    clear hq q d0 d1 d2 d3 d4 d5 d6 d7 d8 d9 f0 f1 f2 f3 f4 f5 f6 f7 f8 f9
    refine seg_op (by simp only [List.getElem?_toArray, List.getElem?_cons_succ, List.getElem?_cons_zero]; rfl) fun K hK => ?_
    go_simp
    refine (lives23 _).mono ?_
    rintro e v6 ⟨rfl, bv6⟩
    have zv6 := zv5.trans (bv6.mono zv5.size)
    refine hK.out _ _ (seg_keep zv6 ?_)
    clear hK K
    intro q hq
    have d0 := fun z => kept (hq z) s0 h11w
    have d1 := fun z => kept (hq z) s1 h11w
    have d2 := fun z => kept (hq z) s2 h11w
    have d3 := fun z => kept (hq z) s3 h11w
    have d4 := fun z => kept (hq z) s4 h11w
    have d5 := fun z => kept (hq z) s5 h11w
    have d6 := fun z => kept (hq z) s6 h11w
    have d7 := fun z => kept (hq z) s7 h11w
    have d8 := fun z => kept (hq z) s8 h11w
    have d9 := fun z => kept (hq z) s9 h11w
    have f0 := fun z => kept (hq z) t0 h13w
    have f1 := fun z => kept (hq z) t1 h13w
    have f2 := fun z => kept (hq z) t2 h13w
    have f3 := fun z => kept (hq z) t3 h13w
    have f4 := fun z => kept (hq z) t4 h13w
    have f5 := fun z => kept (hq z) t5 h13w
    have f6 := fun z => kept (hq z) t6 h13w
    have f7 := fun z => kept (hq z) t7 h13w
    have f8 := fun z => kept (hq z) t8 h13w
    have f9 := fun z => kept (hq z) t9 h13w
    simp only [pickI, Option.toList_some, List.cons_append, List.nil_append, List.getElem?_toArray, List.getElem?_cons_succ, List.getElem?_cons_zero]
    try go_frame
    go_big_quiet_step (fail)
    go_big_quiet_step (fail)
    refine wpQuiet_nil ?_
    clear hq q d0 d1 d2 d3 d4 d5 d6 d7 d8 d9 f0 f1 f2 f3 f4 f5 f6 f7 f8 f9
    go_wp2
    go_ret
    exact ⟨rfl, HFIN.out _ (HB5.out.trans (zv6.mono HB5.out.size))⟩
namespace mergeTells
open Go.ChangeShapes Go.WideShapes Go.ChangeAt
set_option maxRecDepth 100000 in
theorem lifted (os : Os) (started : os.Started) (H : Type) (enc : TypeId × Value → H) :
    ReturnsInHanded {} Try.checked os 3 .any (Rows.mergeTellsSpec.pre6 enc Try.prog Try.f3 Rows.mergeTellsRow.domain false) (Rows.mergeTellsSpec.post enc Try.prog Try.f3 false true false false) := by
  refine returnsInHanded_of_change (C := Try.checked) own started (by kernel_rfl) Try.func3
    (ChangeSpec.witness6 (enc := enc) (C := Try.checked) false ⟨#[], #[.int .u64 0, .int .u64 0, .int .i64 0, .slice none 0 0, .agg #[.int .u64 0, .int .u64 0, .int .u64 0, .int .i64 0, .int .u64 0, .int .u64 0, .int .u32 0, .int .u32 0, .string ⟨#[]⟩, .slice none 0 0]], []⟩ 8 (by kernel_rfl) (by kernel_rfl) (by kernel_rfl) (by kernel_rfl)) ?_
  intro W base args ds gs before hval0 hW _ _
  have hval : ∀ (j : Nat) t v, Try.f3.params[j]? = some t → args[j]? = some v → Value.okWide Try.prog W .any base t v := hval0
  have hW' := hW
  obtain ⟨p, q, hA0, hV, rfl, hfz, hnd⟩ := hW
  have hA : DataW.TrodAll enc Try.prog W 0 (fun _ => true) true Try.f3.params.toList args.toList ds p := hA0
  rw [Try.params3] at hA hval
  obtain ⟨v0, vs0, d0, ds0, p0, q0, hargs, rfl, rfl, h0, r0⟩ := trodAll_cons hA
  obtain ⟨v1, vs1, d1, ds1, p1, q1, rfl, rfl, rfl, h1, r1⟩ := trodAll_cons r0
  obtain ⟨v2, vs2, d2, ds2, p2, q2, rfl, rfl, rfl, h2, r2⟩ := trodAll_cons r1
  obtain ⟨v3, vs3, d3, ds3, p3, q3, rfl, rfl, rfl, h3, r3⟩ := trodAll_cons r2
  obtain ⟨v4, vs4, d4, ds4, p4, q4, rfl, rfl, rfl, h4, r4⟩ := trodAll_cons r3
  obtain ⟨rfl, rfl, rfl⟩ := trodAll_nil r4
  obtain rfl : args = #[v0, v1, v2, v3, v4] := by cases args; simp_all
  obtain ⟨rfl, rfl⟩ := trodVars_none hV
  have k0 := h0
  have lt0 : ∀ x ∈ p0, x.block < W.heap.size := by obtain ⟨m, hm⟩ := k0; exact DataW.trod_lt m _ _ _ hm
  obtain ⟨x0, rfl, w0⟩ := dec_int Try.underlying22 (hval 0 22 v0 rfl rfl) h0
  have k1 := h1
  have lt1 : ∀ x ∈ p1, x.block < W.heap.size := by obtain ⟨m, hm⟩ := k1; exact DataW.trod_lt m _ _ _ hm
  obtain ⟨x1, rfl, w1⟩ := dec_int Try.underlying22 (hval 1 22 v1 rfl rfl) h1
  have k2 := h2
  have lt2 : ∀ x ∈ p2, x.block < W.heap.size := by obtain ⟨m, hm⟩ := k2; exact DataW.trod_lt m _ _ _ hm
  obtain ⟨x2, rfl, w2⟩ := dec_int Try.underlying3 (hval 2 3 v2 rfl rfl) h2
  have k3 := h3
  have lt3 : ∀ x ∈ p3, x.block < W.heap.size := by obtain ⟨m, hm⟩ := k3; exact DataW.trod_lt m _ _ _ hm
  obtain ⟨a3, n3, c3, l3, rfl, w3⟩ := Li.dec (hval 3 23 v3 rfl rfl) h3
  have k4 := h4
  have lt4 : ∀ x ∈ p4, x.block < W.heap.size := by obtain ⟨m, hm⟩ := k4; exact DataW.trod_lt m _ _ _ hm
  obtain ⟨o4, rfl, w4⟩ := dec_entry entryT (hval 4 29 v4 rfl rfl) h4
  clear hA0 hval0
  refine (mergeTells_walk x0 w0 x1 w1 x2 w2 w3 o4 w4).mono fun e W' ⟨he, bel⟩ => ?_
  subst he
  exact ⟨_, rfl, _, _, _, [], _, [], hW', trodAll_mk1 (shut_bool Try.underlying4 _), (trodAll_cons_mk (Below.trod laidOut (by kernel_rfl) (of_decide_eq_true (by kernel_rfl)) k0 bel lt0) (trodAll_cons_mk (Below.trod laidOut (by kernel_rfl) (of_decide_eq_true (by kernel_rfl)) k1 bel lt1) (trodAll_cons_mk (Below.trod laidOut (by kernel_rfl) (of_decide_eq_true (by kernel_rfl)) k2 bel lt2) (trodAll_cons_mk (Below.trod laidOut (by kernel_rfl) (of_decide_eq_true (by kernel_rfl)) k3 bel lt3) (trodAll_cons_mk (Below.trod laidOut (by kernel_rfl) (of_decide_eq_true (by kernel_rfl)) k4 bel lt4) trodAll_mk0))))), rfl, bel.frame _, fun h => by cases h⟩

theorem over : Rows.mergeTellsRow.holds Try.pinned (OpenSpec.ofChange Rows.mergeTellsSpec) :=
  OpenClaim.holds_of_wide 3 Try.f3 rfl rfl rfl rfl rfl rfl rfl ⟨rfl, rfl, rfl, rfl, rfl⟩ rfl rfl rfl rfl rfl (by kernel_rfl) Try.func3 (by kernel_rfl)
    (of_decide_eq_true (by kernel_rfl)) (by unfold Func.isWrapper; first | (rw [if_pos (by decide +kernel)]; kernel_rfl) | (rw [if_neg (by decide +kernel)]; exact ⟨rfl, rfl⟩))
    (fun os started H enc _ => lifted os started H enc)
/-- The given statement. -/
theorem proved : Rows.MergeTellsSaid := over
end mergeTells

end Go.Proofs.Ytoopeppcmoolgaa
