/- An entry that all of a majority have, where nobody has one of its index of a later term, or one of its own that is unlike it, or one by which it is void, is gone on with: for all inputs. -/
import Derived.Test.YtoopeppcmoolgaaMkeep
namespace Go.Proofs.Ytoopeppcmoolgaa
open Go.RowKit
set_option maxRecDepth 20000

set_option maxHeartbeats 8000000 in
theorem mergeKeeps_walk {w : World} (base0 : Int) (hb0 : (Lit.int .u64 base0).wf = true) (term0 : Int) (ht0 : (Lit.int .u64 term0).wf = true) (m : Int) (_ : (Lit.int .i64 m).wf = true) {A : Option Addr} {n c : Nat} {Ls : List Li} (h : Slc Li.lay w A n c Ls) (x : En) (hx : x.Reads w) :
    Calls Try.prog 5 #[.int .u64 base0, .int .u64 term0, .int .i64 m, .slice A n c, .agg x.cells] w fun r w' => r = .returned (.bool true) ∧ Below w.heap.size w w' := by
  obtain ⟨base, rfl, hb⟩ := wf_u64 hb0
  obtain ⟨term, rfl, ht⟩ := wf_u64 ht0
  clear hb0 ht0
  obtain ⟨W, hW, hz, r9, hbW⟩ := boxes1 w x.cells 29
  have HL := Lib.hid (light23 (h.below hbW) base hb)
  have HH := Lib.hid (h.below hbW)
  have HX := Lib.hid (hx.below hbW)
  have HT := Lib.hid ht
  have HBW := Lib.hid hbW
  have HR9 := Lib.hid r9
  have hbi : (base : Int) ≤ 18446744073709551615 := by omega
  have hbi0 : (0 : Int) ≤ (base : Int) := by omega
  have hxi : (x.ix : Int) ≤ 18446744073709551615 := by have := hx.ix; omega
  clear h hb ht hbW r9 hz hx
  obtain ⟨ix, tm, st, kd, cl, rq, fr, ct, da, A1, bn, bc, ls⟩ := x
  unfold ERow En.cells at *
  dsimp only at *
  obtain ⟨p9, hp9⟩ : ∃ p9, w.heap.size = p9 := ⟨_, rfl⟩
  rw [hp9] at HR9
  have HP9 := Lib.hid hp9
  have HS10 := Lib.hid (fun W' (hb' : Below W.heap.size W W') => light10 (ents1 (x := ⟨ix, tm, st, kd, cl, rq, fr, ct, da, A1, bn, bc, ls⟩) (heap_alloc_new W' (.cells #[.int .u64 (ix : Int), .int .u64 (tm : Int), .int .u64 (st : Int), .int .i64 kd, .int .u64 (cl : Int), .int .u64 (rq : Int), .int .u32 (fr : Int), .int .u32 (ct : Int), .string (str da), .slice A1 bn bc] 29)) (HX.out.below (hb'.alloc hb'.size _))))
  have hfin : ∀ W', Below W.heap.size W W' → Below w.heap.size w W' := fun W' hb' => HBW.out.trans (hb'.mono HBW.out.size)
  have HFIN := Lib.hid hfin
  clear hfin
  by_cases h1 : ix ≤ base
  · have g1 : (ix : Int) ≤ (base : Int) := by omega
    go_enter Try.func5, Try.ntmps5
    go_wp2_with (first
      | (go_at_call 7; rw [← hW]; (try rw [hp9]); refine HL.out.mono ?_; rintro e w1 ⟨b1, rfl, hf1, hb1⟩
         have HB1 := Lib.hid hb1
         have HF1 := Lib.hid hf1
         have H91 := Lib.hid (row_below HR9.out hb1)
         clear hf1 hb1 hW
         have x0 : w1.cell? ⟨p9, 0, none⟩ = some (.int .u64 (ix : Int)) := (cell_of_row w1 p9 0 _ _ _ H91.out).trans rfl
         have x1 : w1.cell? ⟨p9, 1, none⟩ = some (.int .u64 (tm : Int)) := (cell_of_row w1 p9 1 _ _ _ H91.out).trans rfl
         have x2 : w1.cell? ⟨p9, 2, none⟩ = some (.int .u64 (st : Int)) := (cell_of_row w1 p9 2 _ _ _ H91.out).trans rfl
         have x3 : w1.cell? ⟨p9, 3, none⟩ = some (.int .i64 kd) := (cell_of_row w1 p9 3 _ _ _ H91.out).trans rfl
         have x4 : w1.cell? ⟨p9, 4, none⟩ = some (.int .u64 (cl : Int)) := (cell_of_row w1 p9 4 _ _ _ H91.out).trans rfl
         have x5 : w1.cell? ⟨p9, 5, none⟩ = some (.int .u64 (rq : Int)) := (cell_of_row w1 p9 5 _ _ _ H91.out).trans rfl
         have x6 : w1.cell? ⟨p9, 6, none⟩ = some (.int .u32 (fr : Int)) := (cell_of_row w1 p9 6 _ _ _ H91.out).trans rfl
         have x7 : w1.cell? ⟨p9, 7, none⟩ = some (.int .u32 (ct : Int)) := (cell_of_row w1 p9 7 _ _ _ H91.out).trans rfl
         have x8 : w1.cell? ⟨p9, 8, none⟩ = some (.string (str da)) := (cell_of_row w1 p9 8 _ _ _ H91.out).trans rfl
         have x9 : w1.cell? ⟨p9, 9, none⟩ = some (.slice A1 bn bc) := (cell_of_row w1 p9 9 _ _ _ H91.out).trans rfl
         cases b1)
      | (go_at_call 8; refine (HS10.out _ HB1.out).mono ?_; rintro e w2 ⟨b2, rfl, hf2, hb2⟩
         have hw12 := ((Below.refl w1.heap.size w1).alloc (Nat.le_refl _) (.cells #[.int .u64 (ix : Int), .int .u64 (tm : Int), .int .u64 (st : Int), .int .i64 kd, .int .u64 (cl : Int), .int .u64 (rq : Int), .int .u32 (fr : Int), .int .u32 (ct : Int), .string (str da), .slice A1 bn bc] 29)).trans (hb2.mono (by simp))
         have HB2 := Lib.hid (HB1.out.trans (hw12.mono HB1.out.size))
         have HF2 := Lib.hid hf2
         have H92 := Lib.hid (row_below H91.out hw12)
         clear hf2 hb2 hw12 x0 x1 x2 x3 x4 x5 x6 x7 x8 x9
         have x0 : w2.cell? ⟨p9, 0, none⟩ = some (.int .u64 (ix : Int)) := (cell_of_row w2 p9 0 _ _ _ H92.out).trans rfl
         have x1 : w2.cell? ⟨p9, 1, none⟩ = some (.int .u64 (tm : Int)) := (cell_of_row w2 p9 1 _ _ _ H92.out).trans rfl
         have x2 : w2.cell? ⟨p9, 2, none⟩ = some (.int .u64 (st : Int)) := (cell_of_row w2 p9 2 _ _ _ H92.out).trans rfl
         have x3 : w2.cell? ⟨p9, 3, none⟩ = some (.int .i64 kd) := (cell_of_row w2 p9 3 _ _ _ H92.out).trans rfl
         have x4 : w2.cell? ⟨p9, 4, none⟩ = some (.int .u64 (cl : Int)) := (cell_of_row w2 p9 4 _ _ _ H92.out).trans rfl
         have x5 : w2.cell? ⟨p9, 5, none⟩ = some (.int .u64 (rq : Int)) := (cell_of_row w2 p9 5 _ _ _ H92.out).trans rfl
         have x6 : w2.cell? ⟨p9, 6, none⟩ = some (.int .u32 (fr : Int)) := (cell_of_row w2 p9 6 _ _ _ H92.out).trans rfl
         have x7 : w2.cell? ⟨p9, 7, none⟩ = some (.int .u32 (ct : Int)) := (cell_of_row w2 p9 7 _ _ _ H92.out).trans rfl
         have x8 : w2.cell? ⟨p9, 8, none⟩ = some (.string (str da)) := (cell_of_row w2 p9 8 _ _ _ H92.out).trans rfl
         have x9 : w2.cell? ⟨p9, 9, none⟩ = some (.slice A1 bn bc) := (cell_of_row w2 p9 9 _ _ _ H92.out).trans rfl
         cases b2)
      | (go_at_call 9; refine (lives23 _).mono ?_; rintro e w9 ⟨rfl, hb9⟩)
      | fail)
    · go_ret
      exact ⟨rfl, HFIN.out _ (HB1.out.trans (hb9.mono HB1.out.size))⟩
    · go_ret
      exact ⟨rfl, HFIN.out _ (HB2.out.trans (hb9.mono HB2.out.size))⟩
    · go_ret
      exact ⟨rfl, HFIN.out _ (HB2.out.trans (hb9.mono HB2.out.size))⟩
  · have g1 : ¬ (ix : Int) ≤ (base : Int) := by omega
    have s1 : IntKind.u64.wrap ((ix : Int) - (base : Int)) = (ix : Int) - (base : Int) := u64w _ (by omega) (by omega)
    by_cases h2 : 192 < ix - base
    · have g2 : (192 : Int) < (ix : Int) - (base : Int) := by omega
      go_enter Try.func5, Try.ntmps5
      go_wp2_with (first
        | (go_at_call 7; rw [← hW]; (try rw [hp9]); refine HL.out.mono ?_; rintro e w1 ⟨b1, rfl, hf1, hb1⟩
           have HB1 := Lib.hid hb1
           have HF1 := Lib.hid hf1
           have H91 := Lib.hid (row_below HR9.out hb1)
           clear hf1 hb1 hW
           have x0 : w1.cell? ⟨p9, 0, none⟩ = some (.int .u64 (ix : Int)) := (cell_of_row w1 p9 0 _ _ _ H91.out).trans rfl
           have x1 : w1.cell? ⟨p9, 1, none⟩ = some (.int .u64 (tm : Int)) := (cell_of_row w1 p9 1 _ _ _ H91.out).trans rfl
           have x2 : w1.cell? ⟨p9, 2, none⟩ = some (.int .u64 (st : Int)) := (cell_of_row w1 p9 2 _ _ _ H91.out).trans rfl
           have x3 : w1.cell? ⟨p9, 3, none⟩ = some (.int .i64 kd) := (cell_of_row w1 p9 3 _ _ _ H91.out).trans rfl
           have x4 : w1.cell? ⟨p9, 4, none⟩ = some (.int .u64 (cl : Int)) := (cell_of_row w1 p9 4 _ _ _ H91.out).trans rfl
           have x5 : w1.cell? ⟨p9, 5, none⟩ = some (.int .u64 (rq : Int)) := (cell_of_row w1 p9 5 _ _ _ H91.out).trans rfl
           have x6 : w1.cell? ⟨p9, 6, none⟩ = some (.int .u32 (fr : Int)) := (cell_of_row w1 p9 6 _ _ _ H91.out).trans rfl
           have x7 : w1.cell? ⟨p9, 7, none⟩ = some (.int .u32 (ct : Int)) := (cell_of_row w1 p9 7 _ _ _ H91.out).trans rfl
           have x8 : w1.cell? ⟨p9, 8, none⟩ = some (.string (str da)) := (cell_of_row w1 p9 8 _ _ _ H91.out).trans rfl
           have x9 : w1.cell? ⟨p9, 9, none⟩ = some (.slice A1 bn bc) := (cell_of_row w1 p9 9 _ _ _ H91.out).trans rfl
           cases b1)
        | (go_at_call 8; refine (HS10.out _ HB1.out).mono ?_; rintro e w2 ⟨b2, rfl, hf2, hb2⟩
           have hw12 := ((Below.refl w1.heap.size w1).alloc (Nat.le_refl _) (.cells #[.int .u64 (ix : Int), .int .u64 (tm : Int), .int .u64 (st : Int), .int .i64 kd, .int .u64 (cl : Int), .int .u64 (rq : Int), .int .u32 (fr : Int), .int .u32 (ct : Int), .string (str da), .slice A1 bn bc] 29)).trans (hb2.mono (by simp))
           have HB2 := Lib.hid (HB1.out.trans (hw12.mono HB1.out.size))
           have HF2 := Lib.hid hf2
           have H92 := Lib.hid (row_below H91.out hw12)
           clear hf2 hb2 hw12 x0 x1 x2 x3 x4 x5 x6 x7 x8 x9
           have x0 : w2.cell? ⟨p9, 0, none⟩ = some (.int .u64 (ix : Int)) := (cell_of_row w2 p9 0 _ _ _ H92.out).trans rfl
           have x1 : w2.cell? ⟨p9, 1, none⟩ = some (.int .u64 (tm : Int)) := (cell_of_row w2 p9 1 _ _ _ H92.out).trans rfl
           have x2 : w2.cell? ⟨p9, 2, none⟩ = some (.int .u64 (st : Int)) := (cell_of_row w2 p9 2 _ _ _ H92.out).trans rfl
           have x3 : w2.cell? ⟨p9, 3, none⟩ = some (.int .i64 kd) := (cell_of_row w2 p9 3 _ _ _ H92.out).trans rfl
           have x4 : w2.cell? ⟨p9, 4, none⟩ = some (.int .u64 (cl : Int)) := (cell_of_row w2 p9 4 _ _ _ H92.out).trans rfl
           have x5 : w2.cell? ⟨p9, 5, none⟩ = some (.int .u64 (rq : Int)) := (cell_of_row w2 p9 5 _ _ _ H92.out).trans rfl
           have x6 : w2.cell? ⟨p9, 6, none⟩ = some (.int .u32 (fr : Int)) := (cell_of_row w2 p9 6 _ _ _ H92.out).trans rfl
           have x7 : w2.cell? ⟨p9, 7, none⟩ = some (.int .u32 (ct : Int)) := (cell_of_row w2 p9 7 _ _ _ H92.out).trans rfl
           have x8 : w2.cell? ⟨p9, 8, none⟩ = some (.string (str da)) := (cell_of_row w2 p9 8 _ _ _ H92.out).trans rfl
           have x9 : w2.cell? ⟨p9, 9, none⟩ = some (.slice A1 bn bc) := (cell_of_row w2 p9 9 _ _ _ H92.out).trans rfl
           cases b2)
        | (go_at_call 9; refine (lives23 _).mono ?_; rintro e w9 ⟨rfl, hb9⟩)
        | fail)
      · go_ret
        exact ⟨rfl, HFIN.out _ (HB1.out.trans (hb9.mono HB1.out.size))⟩
      · go_ret
        exact ⟨rfl, HFIN.out _ (HB2.out.trans (hb9.mono HB2.out.size))⟩
      · go_ret
        exact ⟨rfl, HFIN.out _ (HB2.out.trans (hb9.mono HB2.out.size))⟩
    · have g2 : ¬ (192 : Int) < (ix : Int) - (base : Int) := by omega
      by_cases h3 : n = 0
      · subst h3
        go_enter Try.func5, Try.ntmps5
        go_wp2_with (first
          | (go_at_call 7; rw [← hW]; (try rw [hp9]); refine HL.out.mono ?_; rintro e w1 ⟨b1, rfl, hf1, hb1⟩
             have HB1 := Lib.hid hb1
             have HF1 := Lib.hid hf1
             have H91 := Lib.hid (row_below HR9.out hb1)
             clear hf1 hb1 hW
             have x0 : w1.cell? ⟨p9, 0, none⟩ = some (.int .u64 (ix : Int)) := (cell_of_row w1 p9 0 _ _ _ H91.out).trans rfl
             have x1 : w1.cell? ⟨p9, 1, none⟩ = some (.int .u64 (tm : Int)) := (cell_of_row w1 p9 1 _ _ _ H91.out).trans rfl
             have x2 : w1.cell? ⟨p9, 2, none⟩ = some (.int .u64 (st : Int)) := (cell_of_row w1 p9 2 _ _ _ H91.out).trans rfl
             have x3 : w1.cell? ⟨p9, 3, none⟩ = some (.int .i64 kd) := (cell_of_row w1 p9 3 _ _ _ H91.out).trans rfl
             have x4 : w1.cell? ⟨p9, 4, none⟩ = some (.int .u64 (cl : Int)) := (cell_of_row w1 p9 4 _ _ _ H91.out).trans rfl
             have x5 : w1.cell? ⟨p9, 5, none⟩ = some (.int .u64 (rq : Int)) := (cell_of_row w1 p9 5 _ _ _ H91.out).trans rfl
             have x6 : w1.cell? ⟨p9, 6, none⟩ = some (.int .u32 (fr : Int)) := (cell_of_row w1 p9 6 _ _ _ H91.out).trans rfl
             have x7 : w1.cell? ⟨p9, 7, none⟩ = some (.int .u32 (ct : Int)) := (cell_of_row w1 p9 7 _ _ _ H91.out).trans rfl
             have x8 : w1.cell? ⟨p9, 8, none⟩ = some (.string (str da)) := (cell_of_row w1 p9 8 _ _ _ H91.out).trans rfl
             have x9 : w1.cell? ⟨p9, 9, none⟩ = some (.slice A1 bn bc) := (cell_of_row w1 p9 9 _ _ _ H91.out).trans rfl
             cases b1)
          | (go_at_call 8; refine (HS10.out _ HB1.out).mono ?_; rintro e w2 ⟨b2, rfl, hf2, hb2⟩
             have hw12 := ((Below.refl w1.heap.size w1).alloc (Nat.le_refl _) (.cells #[.int .u64 (ix : Int), .int .u64 (tm : Int), .int .u64 (st : Int), .int .i64 kd, .int .u64 (cl : Int), .int .u64 (rq : Int), .int .u32 (fr : Int), .int .u32 (ct : Int), .string (str da), .slice A1 bn bc] 29)).trans (hb2.mono (by simp))
             have HB2 := Lib.hid (HB1.out.trans (hw12.mono HB1.out.size))
             have HF2 := Lib.hid hf2
             have H92 := Lib.hid (row_below H91.out hw12)
             clear hf2 hb2 hw12 x0 x1 x2 x3 x4 x5 x6 x7 x8 x9
             have x0 : w2.cell? ⟨p9, 0, none⟩ = some (.int .u64 (ix : Int)) := (cell_of_row w2 p9 0 _ _ _ H92.out).trans rfl
             have x1 : w2.cell? ⟨p9, 1, none⟩ = some (.int .u64 (tm : Int)) := (cell_of_row w2 p9 1 _ _ _ H92.out).trans rfl
             have x2 : w2.cell? ⟨p9, 2, none⟩ = some (.int .u64 (st : Int)) := (cell_of_row w2 p9 2 _ _ _ H92.out).trans rfl
             have x3 : w2.cell? ⟨p9, 3, none⟩ = some (.int .i64 kd) := (cell_of_row w2 p9 3 _ _ _ H92.out).trans rfl
             have x4 : w2.cell? ⟨p9, 4, none⟩ = some (.int .u64 (cl : Int)) := (cell_of_row w2 p9 4 _ _ _ H92.out).trans rfl
             have x5 : w2.cell? ⟨p9, 5, none⟩ = some (.int .u64 (rq : Int)) := (cell_of_row w2 p9 5 _ _ _ H92.out).trans rfl
             have x6 : w2.cell? ⟨p9, 6, none⟩ = some (.int .u32 (fr : Int)) := (cell_of_row w2 p9 6 _ _ _ H92.out).trans rfl
             have x7 : w2.cell? ⟨p9, 7, none⟩ = some (.int .u32 (ct : Int)) := (cell_of_row w2 p9 7 _ _ _ H92.out).trans rfl
             have x8 : w2.cell? ⟨p9, 8, none⟩ = some (.string (str da)) := (cell_of_row w2 p9 8 _ _ _ H92.out).trans rfl
             have x9 : w2.cell? ⟨p9, 9, none⟩ = some (.slice A1 bn bc) := (cell_of_row w2 p9 9 _ _ _ H92.out).trans rfl
             cases b2)
          | (go_at_call 9; refine (lives23 _).mono ?_; rintro e w9 ⟨rfl, hb9⟩)
          | fail)
        · go_ret
          exact ⟨rfl, HFIN.out _ (HB1.out.trans (hb9.mono HB1.out.size))⟩
        · go_ret
          exact ⟨rfl, HFIN.out _ (HB2.out.trans (hb9.mono HB2.out.size))⟩
        · go_ret
          exact ⟨rfl, HFIN.out _ (HB2.out.trans (hb9.mono HB2.out.size))⟩
      · have g3 : ((n : Int) == 0) = false := by simp; omega
        have HLN := Lib.hid (fun hf : Fit base Ls => (show n ≤ 7 by have := HH.out.len; have := hf.len; omega))
        go_enter Try.func5, Try.ntmps5
        go_wp2_with (first
          | (go_at_call 7; rw [← hW]; (try rw [hp9]); refine HL.out.mono ?_; rintro e w1 ⟨b1, rfl, hf1, hb1⟩
             have HB1 := Lib.hid hb1
             have HF1 := Lib.hid hf1
             have H91 := Lib.hid (row_below HR9.out hb1)
             clear hf1 hb1 hW
             have x0 : w1.cell? ⟨p9, 0, none⟩ = some (.int .u64 (ix : Int)) := (cell_of_row w1 p9 0 _ _ _ H91.out).trans rfl
             have x1 : w1.cell? ⟨p9, 1, none⟩ = some (.int .u64 (tm : Int)) := (cell_of_row w1 p9 1 _ _ _ H91.out).trans rfl
             have x2 : w1.cell? ⟨p9, 2, none⟩ = some (.int .u64 (st : Int)) := (cell_of_row w1 p9 2 _ _ _ H91.out).trans rfl
             have x3 : w1.cell? ⟨p9, 3, none⟩ = some (.int .i64 kd) := (cell_of_row w1 p9 3 _ _ _ H91.out).trans rfl
             have x4 : w1.cell? ⟨p9, 4, none⟩ = some (.int .u64 (cl : Int)) := (cell_of_row w1 p9 4 _ _ _ H91.out).trans rfl
             have x5 : w1.cell? ⟨p9, 5, none⟩ = some (.int .u64 (rq : Int)) := (cell_of_row w1 p9 5 _ _ _ H91.out).trans rfl
             have x6 : w1.cell? ⟨p9, 6, none⟩ = some (.int .u32 (fr : Int)) := (cell_of_row w1 p9 6 _ _ _ H91.out).trans rfl
             have x7 : w1.cell? ⟨p9, 7, none⟩ = some (.int .u32 (ct : Int)) := (cell_of_row w1 p9 7 _ _ _ H91.out).trans rfl
             have x8 : w1.cell? ⟨p9, 8, none⟩ = some (.string (str da)) := (cell_of_row w1 p9 8 _ _ _ H91.out).trans rfl
             have x9 : w1.cell? ⟨p9, 9, none⟩ = some (.slice A1 bn bc) := (cell_of_row w1 p9 9 _ _ _ H91.out).trans rfl
             cases b1)
          | (go_at_call 8; refine (HS10.out _ HB1.out).mono ?_; rintro e w2 ⟨b2, rfl, hf2, hb2⟩
             have hw12 := ((Below.refl w1.heap.size w1).alloc (Nat.le_refl _) (.cells #[.int .u64 (ix : Int), .int .u64 (tm : Int), .int .u64 (st : Int), .int .i64 kd, .int .u64 (cl : Int), .int .u64 (rq : Int), .int .u32 (fr : Int), .int .u32 (ct : Int), .string (str da), .slice A1 bn bc] 29)).trans (hb2.mono (by simp))
             have HB2 := Lib.hid (HB1.out.trans (hw12.mono HB1.out.size))
             have HF2 := Lib.hid hf2
             have H92 := Lib.hid (row_below H91.out hw12)
             clear hf2 hb2 hw12 x0 x1 x2 x3 x4 x5 x6 x7 x8 x9
             have x0 : w2.cell? ⟨p9, 0, none⟩ = some (.int .u64 (ix : Int)) := (cell_of_row w2 p9 0 _ _ _ H92.out).trans rfl
             have x1 : w2.cell? ⟨p9, 1, none⟩ = some (.int .u64 (tm : Int)) := (cell_of_row w2 p9 1 _ _ _ H92.out).trans rfl
             have x2 : w2.cell? ⟨p9, 2, none⟩ = some (.int .u64 (st : Int)) := (cell_of_row w2 p9 2 _ _ _ H92.out).trans rfl
             have x3 : w2.cell? ⟨p9, 3, none⟩ = some (.int .i64 kd) := (cell_of_row w2 p9 3 _ _ _ H92.out).trans rfl
             have x4 : w2.cell? ⟨p9, 4, none⟩ = some (.int .u64 (cl : Int)) := (cell_of_row w2 p9 4 _ _ _ H92.out).trans rfl
             have x5 : w2.cell? ⟨p9, 5, none⟩ = some (.int .u64 (rq : Int)) := (cell_of_row w2 p9 5 _ _ _ H92.out).trans rfl
             have x6 : w2.cell? ⟨p9, 6, none⟩ = some (.int .u32 (fr : Int)) := (cell_of_row w2 p9 6 _ _ _ H92.out).trans rfl
             have x7 : w2.cell? ⟨p9, 7, none⟩ = some (.int .u32 (ct : Int)) := (cell_of_row w2 p9 7 _ _ _ H92.out).trans rfl
             have x8 : w2.cell? ⟨p9, 8, none⟩ = some (.string (str da)) := (cell_of_row w2 p9 8 _ _ _ H92.out).trans rfl
             have x9 : w2.cell? ⟨p9, 9, none⟩ = some (.slice A1 bn bc) := (cell_of_row w2 p9 9 _ _ _ H92.out).trans rfl
             cases b2)
          | (go_at_call 9; refine (lives23 _).mono ?_; rintro e w9 ⟨rfl, hb9⟩)
          | (at_builtin
             have hn7 := HLN.out (HF1.out trivial)
             refine wpL_app (o := ⟨some 51, _, _, _, _, _⟩) (base := w2.heap.size) (v := .slice (some ⟨w2.heap.size + 1, 0, none⟩) 1 1) (y := .slice A n c) (xs := [.slice (some ⟨w2.heap.size, 0, none⟩) 1 1]) (n := 1) rfl (.tmp 49) (.tmp 50) _ _ rfl E_li rfl rfl (own_lit (cs := #[.slice (some ⟨w2.heap.size, 0, none⟩) 1 1]) (row_here _ _ (by simp)) rfl (by simp) (by unfold maxLen; decide)) (((HH.out.below (HB2.out.trans ((((Below.refl w2.heap.size w2).alloc (Nat.le_refl _) _).alloc (by simp) _).mono HB2.out.size))).rd.src Try.underlying23 (li_one Ls))) (by unfold maxLen; omega) (by omega) (by simp <;> omega) ?_
             intro v3 w3 hown3 hg3 hat3
             have hw23 : Below w2.heap.size w2 w3 := (((Below.refl w2.heap.size w2).alloc (Nat.le_refl _) _).alloc (by simp) _).grown hg3 (by simp <;> omega) (fun k e => by cases e; exact Nat.le_succ _)
             have hx3 : w3.heap[w2.heap.size]? = some (.cells #[.int .u64 (ix : Int), .int .u64 (tm : Int), .int .u64 (st : Int), .int .i64 kd, .int .u64 (cl : Int), .int .u64 (rq : Int), .int .u32 (fr : Int), .int .u32 (ct : Int), .string (str da), .slice A1 bn bc] 29 (0, 0)) := (hg3.block w2.heap.size (by simp <;> omega) (own_ne (Nat.lt_succ_self _))).trans (row_old _ (row_here _ _ rfl))
             obtain ⟨A3, c3, rfl⟩ := ownsRow_form hown3
             have HB3 := Lib.hid (HB2.out.trans (hw23.mono HB2.out.size))
             have H93 := Lib.hid (row_below H92.out hw23)
             have HS3 := Lib.hid (slc_cons (x := ⟨ix, tm, st, kd, cl, rq, fr, ct, da, A1, bn, bc, ls⟩) hown3 hx3 (HX.out.below HB3.out) (HH.out.below HB3.out))
             clear hown3 hg3 hat3 hw23 hx3 x0 x1 x2 x3 x4 x5 x6 x7 x8 x9)
          | fail)
        · go_ret
          exact ⟨rfl, HFIN.out _ (HB1.out.trans (hb9.mono HB1.out.size))⟩
        · go_ret
          exact ⟨rfl, HFIN.out _ (HB2.out.trans (hb9.mono HB2.out.size))⟩
        · have hn7 := HLN.out (HF1.out trivial)
          have hfit := HF1.out trivial
          have hbs : base ≤ 4611686018427387904 := hfit.base
          have hbn : bn ≤ 200 := (HF2.out trivial).2 _ (List.mem_singleton.2 rfl) |>.2
          have HMG := Lib.hid (fun W' (hb' : Below w3.heap.size w3 W') => merge_any (HS3.out.below hb') (flat_bn hfit.bn hbn) base term hbs HT.out m)
          obtain ⟨n1, hn1⟩ : ∃ n1, 1 + n = n1 := ⟨_, rfl⟩
          rw [hn1] at HS3 HMG ⊢
          have hn8 : (n1 : Int) ≤ 8 := by omega
          try rw [show (1 : Int) + (n : Int) = (n1 : Int) by omega]
          clear hn7 hfit hbn hn1 HL HH HLN HF1 HF2 HS10 H91 H92 HR9
          go_loopw [13, 54, 60] (fun _ ir _ wr => ∃ (j : Nat), j ≤ n1 ∧ ir = .int .i64 (j : Int) ∧ Hid (∀ a l, a < j → (⟨some ⟨w2.heap.size, 0, none⟩, 1, 1, [⟨ix, tm, st, kd, cl, rq, fr, ct, da, A1, bn, bc, ls⟩]⟩ :: Ls)[a]? = some l → ∀ e ∈ l.es, ¬ e.bad ⟨ix, tm, st, kd, cl, rq, fr, ct, da, A1, bn, bc, ls⟩) ∧ Hid (Below w3.heap.size w3 wr)) (fun _ ir _ _ => n1 - (intOf ir).toNat)
          case atStart => exact ⟨0, Nat.zero_le _, rfl, Lib.hid (fun a l h => absurd h (Nat.not_lt_zero _)), Lib.hid (Below.refl _ _)⟩
          case round =>
            obtain ⟨j, hj, rfl, HN, HBI⟩ := hrel
            by_cases hlt : j < n1
            · obtain ⟨l0, hl⟩ : ∃ l0, (⟨some ⟨w2.heap.size, 0, none⟩, 1, 1, [⟨ix, tm, st, kd, cl, rq, fr, ct, da, A1, bn, bc, ls⟩]⟩ :: Ls)[j]? = some l0 := ⟨_, List.getElem?_eq_getElem (by have := HS3.out.len; omega)⟩
              obtain ⟨bl, ol, hAl, hblb, hcl⟩ := HS3.out.at_ (by omega)
              subst hAl
              have hrd : Ents w3 l0.A l0.n l0.c l0.es := HS3.out.reads l0 (List.mem_of_getElem? hl)
              have kl : wr.cell? ⟨bl, ol + j, none⟩ = some (.slice l0.A l0.n l0.c) := (HBI.out.cell (p := ⟨bl, ol + j, none⟩) hblb).trans (by have := hcl j l0 hl 0 (.slice l0.A l0.n l0.c) rfl; rwa [Nat.mul_one, Nat.add_zero] at this)
              have HE := Lib.hid hrd
              have HL := Lib.hid hl
              have hcl2 := hrd.rd.2.1
              have hncl := hrd.rd.1
              have hnl : (l0.n : Int) ≤ 9223372036854775807 := by unfold maxLen at hcl2; omega
              have hltj : (j : Int) < (n1 : Int) := by omega
              clear hcl hl hrd hcl2 hncl
              obtain ⟨wo, rfl⟩ : ∃ wo : World, wo = wr := ⟨_, rfl⟩
              go_wp2_with (fail)
              go_loopw [60] (fun jr wr => ∃ (k : Nat), k ≤ l0.n ∧ jr = .int .i64 (k : Int) ∧ Hid (∀ b e, b < k → l0.es[b]? = some e → ¬ e.bad ⟨ix, tm, st, kd, cl, rq, fr, ct, da, A1, bn, bc, ls⟩) ∧ Hid (Below w3.heap.size w3 wr)) (fun jr _ => l0.n - (intOf jr).toNat)
              case atStart => exact ⟨0, Nat.zero_le _, rfl, Lib.hid (fun a l h => absurd h (Nat.not_lt_zero _)), HBI⟩
              case round =>
                clear HBI kl
                obtain ⟨k, hk, rfl, HNI, HBI⟩ := hrel
                by_cases hkl : k < l0.n
                · obtain ⟨en0, hx⟩ : ∃ en0, l0.es[k]? = some en0 := ⟨_, List.getElem?_eq_getElem (by have := HE.out.len; omega)⟩
                  obtain ⟨b1, o1, hA1, hb1b, hc1⟩ := HE.out.rd.2.2.2 (by omega)
                  have hce := fun c u (hu : en0.cells[c]? = some u) => (HBI.out.cell (p := ⟨b1, o1 + (k * 10 + c), none⟩) hb1b).trans (hc1 _ _ (ens_get l0.es k _ hx c u hu))
                  have HX0 := Lib.hid hx
                  have HAK := Lib.hid (fun W' => alike_any en0 ⟨ix, tm, st, kd, cl, rq, fr, ct, da, A1, bn, bc, ls⟩ W')
                  have HVO := Lib.hid (fun W' (hb' : Below w3.heap.size w3 W') => rvoids_any en0 ⟨ix, tm, st, kd, cl, rq, fr, ct, da, A1, bn, bc, ls⟩ W' ((HE.out.reads en0 (List.mem_of_getElem? hx)).below hb') ((HX.out.below HB3.out).below hb'))
                  have HROW := Lib.hid (fun o : Obj => heap_alloc_new wr o)
                  have HAB := Lib.hid (fun o : Obj => HBI.out.alloc HBI.out.size o)
                  have hkk : (k : Int) < (l0.n : Int) := by omega
                  have hkj : (k : Int) ≤ 9223372036854775806 := by omega
                  have HLK := Lib.hid hkl
                  obtain ⟨T, hT⟩ : ∃ T, en0.alike ⟨ix, tm, st, kd, cl, rq, fr, ct, da, A1, bn, bc, ls⟩ = T := ⟨_, rfl⟩
                  obtain ⟨V, hV⟩ : ∃ V, en0.voids ⟨ix, tm, st, kd, cl, rq, fr, ct, da, A1, bn, bc, ls⟩ = V := ⟨_, rfl⟩
                  rw [hT] at HAK
                  rw [hV] at HVO
                  have HT2 := Lib.hid hT
                  have HV2 := Lib.hid hV
                  have hrow9 := row_below H93.out HBI.out
                  have HNX := Lib.hid (fun (hb : ¬ en0.bad ⟨ix, tm, st, kd, cl, rq, fr, ct, da, A1, bn, bc, ls⟩) a e (ha : a < k + 1) (he : l0.es[a]? = some e) => (show ¬ e.bad ⟨ix, tm, st, kd, cl, rq, fr, ct, da, A1, bn, bc, ls⟩ from by
                    rcases Nat.lt_or_ge a k with h1 | h1
                    · exact HNI.out a e h1 he
                    · obtain rfl : a = k := by omega
                      rw [HX0.out] at he
                      cases he
                      exact hb))
                  clear hc1 hx hT hV hkl HNI
                  have x0 : ∀ o : Obj, (wr.alloc o).cell? ⟨p9, 0, none⟩ = some (.int .u64 (ix : Int)) := fun o => cell_old o ((cell_of_row wr p9 0 _ _ _ hrow9).trans rfl)
                  have x1 : ∀ o : Obj, (wr.alloc o).cell? ⟨p9, 1, none⟩ = some (.int .u64 (tm : Int)) := fun o => cell_old o ((cell_of_row wr p9 1 _ _ _ hrow9).trans rfl)
                  have x2 : ∀ o : Obj, (wr.alloc o).cell? ⟨p9, 2, none⟩ = some (.int .u64 (st : Int)) := fun o => cell_old o ((cell_of_row wr p9 2 _ _ _ hrow9).trans rfl)
                  have x3 : ∀ o : Obj, (wr.alloc o).cell? ⟨p9, 3, none⟩ = some (.int .i64 kd) := fun o => cell_old o ((cell_of_row wr p9 3 _ _ _ hrow9).trans rfl)
                  have x4 : ∀ o : Obj, (wr.alloc o).cell? ⟨p9, 4, none⟩ = some (.int .u64 (cl : Int)) := fun o => cell_old o ((cell_of_row wr p9 4 _ _ _ hrow9).trans rfl)
                  have x5 : ∀ o : Obj, (wr.alloc o).cell? ⟨p9, 5, none⟩ = some (.int .u64 (rq : Int)) := fun o => cell_old o ((cell_of_row wr p9 5 _ _ _ hrow9).trans rfl)
                  have x6 : ∀ o : Obj, (wr.alloc o).cell? ⟨p9, 6, none⟩ = some (.int .u32 (fr : Int)) := fun o => cell_old o ((cell_of_row wr p9 6 _ _ _ hrow9).trans rfl)
                  have x7 : ∀ o : Obj, (wr.alloc o).cell? ⟨p9, 7, none⟩ = some (.int .u32 (ct : Int)) := fun o => cell_old o ((cell_of_row wr p9 7 _ _ _ hrow9).trans rfl)
                  have x8 : ∀ o : Obj, (wr.alloc o).cell? ⟨p9, 8, none⟩ = some (.string (str da)) := fun o => cell_old o ((cell_of_row wr p9 8 _ _ _ hrow9).trans rfl)
                  have x9 : ∀ o : Obj, (wr.alloc o).cell? ⟨p9, 9, none⟩ = some (.slice A1 bn bc) := fun o => cell_old o ((cell_of_row wr p9 9 _ _ _ hrow9).trans rfl)
                  clear hrow9
                  obtain ⟨ix2, tm2, st2, kd2, cl2, rq2, fr2, ct2, da2, A4, bn2, bc2, ls2⟩ := en0
                  obtain ⟨A0, n0, c0, es0⟩ := l0
                  dsimp only at hA1
                  subst hA1
                  unfold En.bad at HNX
                  unfold En.cells at hce HAK HVO
                  dsimp only at *
                  have k0 := hce 0 _ rfl
                  have k1 := hce 1 _ rfl
                  have k2 := hce 2 _ rfl
                  have k3 := hce 3 _ rfl
                  have k4 := hce 4 _ rfl
                  have k5 := hce 5 _ rfl
                  have k6 := hce 6 _ rfl
                  have k7 := hce 7 _ rfl
                  have k8 := hce 8 _ rfl
                  have k9 := hce 9 _ rfl
                  try dsimp only at k0 k1 k2 k3 k4 k5 k6 k7 k8 k9
                  simp only [← Nat.add_assoc, Nat.add_zero] at k0 k1 k2 k3 k4 k5 k6 k7 k8 k9
                  clear hce
                  by_cases hix : ix2 = ix
                  · subst hix
                    by_cases hgt : tm < tm2
                    · go_wp2_with (first
                        | (go_at_call 9; refine (lives23 _).mono ?_; rintro e w9 ⟨rfl, hb9⟩)
                        | fail)
                      go_ret
                      exact ⟨rfl, HFIN.out _ (HB3.out.trans (((HAB.out _).trans (hb9.mono (HAB.out _).size)).mono HB3.out.size))⟩
                    · by_cases heq : tm2 = tm
                      · subst heq
                        cases T
                        · go_wp2_with (first
                            | (go_at_call 19; refine (HAK.out _).mono ?_; rintro e w8 ⟨rfl, hb8⟩
                               have hr15 := row_below (HROW.out (.cells #[.int .u64 (ix2 : Int), .int .u64 (tm2 : Int), .int .u64 (st2 : Int), .int .i64 kd2, .int .u64 (cl2 : Int), .int .u64 (rq2 : Int), .int .u32 (fr2 : Int), .int .u32 (ct2 : Int), .string (str da2), .slice A4 bn2 bc2] 29)) hb8
                               have HB8 := Lib.hid ((HAB.out (.cells #[.int .u64 (ix2 : Int), .int .u64 (tm2 : Int), .int .u64 (st2 : Int), .int .i64 kd2, .int .u64 (cl2 : Int), .int .u64 (rq2 : Int), .int .u32 (fr2 : Int), .int .u32 (ct2 : Int), .string (str da2), .slice A4 bn2 bc2] 29)).trans (hb8.mono (HAB.out _).size))
                               have hr9 := row_below H93.out HB8.out
                               have e0 := cell_of_row w8 _ 0 _ _ _ hr15
                               have e1 := cell_of_row w8 _ 1 _ _ _ hr15
                               have e2 := cell_of_row w8 _ 2 _ _ _ hr15
                               have e3 := cell_of_row w8 _ 3 _ _ _ hr15
                               have e4 := cell_of_row w8 _ 4 _ _ _ hr15
                               have e5 := cell_of_row w8 _ 5 _ _ _ hr15
                               have e6 := cell_of_row w8 _ 6 _ _ _ hr15
                               have e7 := cell_of_row w8 _ 7 _ _ _ hr15
                               have e8 := cell_of_row w8 _ 8 _ _ _ hr15
                               have e9 := cell_of_row w8 _ 9 _ _ _ hr15
                               have y0 := cell_of_row w8 _ 0 _ _ _ hr9
                               have y1 := cell_of_row w8 _ 1 _ _ _ hr9
                               have y2 := cell_of_row w8 _ 2 _ _ _ hr9
                               have y3 := cell_of_row w8 _ 3 _ _ _ hr9
                               have y4 := cell_of_row w8 _ 4 _ _ _ hr9
                               have y5 := cell_of_row w8 _ 5 _ _ _ hr9
                               have y6 := cell_of_row w8 _ 6 _ _ _ hr9
                               have y7 := cell_of_row w8 _ 7 _ _ _ hr9
                               have y8 := cell_of_row w8 _ 8 _ _ _ hr9
                               have y9 := cell_of_row w8 _ 9 _ _ _ hr9
                               clear hb8 hr15 hr9 x0 x1 x2 x3 x4 x5 x6 x7 x8 x9)
                            | (go_at_call 9; refine (lives23 _).mono ?_; rintro e w9 ⟨rfl, hb9⟩)
                            | fail)
                          go_ret
                          exact ⟨rfl, HFIN.out _ (HB3.out.trans ((HB8.out.trans (hb9.mono HB8.out.size)).mono HB3.out.size))⟩
                        · go_wp2_with (first
                            | (go_at_call 19; refine (HAK.out _).mono ?_; rintro e w8 ⟨rfl, hb8⟩
                               have hr15 := row_below (HROW.out (.cells #[.int .u64 (ix2 : Int), .int .u64 (tm2 : Int), .int .u64 (st2 : Int), .int .i64 kd2, .int .u64 (cl2 : Int), .int .u64 (rq2 : Int), .int .u32 (fr2 : Int), .int .u32 (ct2 : Int), .string (str da2), .slice A4 bn2 bc2] 29)) hb8
                               have HB8 := Lib.hid ((HAB.out (.cells #[.int .u64 (ix2 : Int), .int .u64 (tm2 : Int), .int .u64 (st2 : Int), .int .i64 kd2, .int .u64 (cl2 : Int), .int .u64 (rq2 : Int), .int .u32 (fr2 : Int), .int .u32 (ct2 : Int), .string (str da2), .slice A4 bn2 bc2] 29)).trans (hb8.mono (HAB.out _).size))
                               have hr9 := row_below H93.out HB8.out
                               have e0 := cell_of_row w8 _ 0 _ _ _ hr15
                               have e1 := cell_of_row w8 _ 1 _ _ _ hr15
                               have e2 := cell_of_row w8 _ 2 _ _ _ hr15
                               have e3 := cell_of_row w8 _ 3 _ _ _ hr15
                               have e4 := cell_of_row w8 _ 4 _ _ _ hr15
                               have e5 := cell_of_row w8 _ 5 _ _ _ hr15
                               have e6 := cell_of_row w8 _ 6 _ _ _ hr15
                               have e7 := cell_of_row w8 _ 7 _ _ _ hr15
                               have e8 := cell_of_row w8 _ 8 _ _ _ hr15
                               have e9 := cell_of_row w8 _ 9 _ _ _ hr15
                               have y0 := cell_of_row w8 _ 0 _ _ _ hr9
                               have y1 := cell_of_row w8 _ 1 _ _ _ hr9
                               have y2 := cell_of_row w8 _ 2 _ _ _ hr9
                               have y3 := cell_of_row w8 _ 3 _ _ _ hr9
                               have y4 := cell_of_row w8 _ 4 _ _ _ hr9
                               have y5 := cell_of_row w8 _ 5 _ _ _ hr9
                               have y6 := cell_of_row w8 _ 6 _ _ _ hr9
                               have y7 := cell_of_row w8 _ 7 _ _ _ hr9
                               have y8 := cell_of_row w8 _ 8 _ _ _ hr9
                               have y9 := cell_of_row w8 _ 9 _ _ _ hr9
                               clear hb8 hr15 hr9 x0 x1 x2 x3 x4 x5 x6 x7 x8 x9)
                            | (go_at_call 20; refine (HVO.out _ HB8.out).mono ?_; rintro e w7 ⟨rfl, hb7⟩
                               have HBV := Lib.hid (HB8.out.trans (hb7.mono HB8.out.size))
                               clear hb7
                               cases V)
                            | (go_at_call 9; refine (lives23 _).mono ?_; rintro e w9 ⟨rfl, hb9⟩)
                            | fail)
                          · go_roundw
                            case rel => exact ⟨k + 1, HLK.out, by go_num, Lib.hid (HNX.out (by rw [HT2.out, HV2.out]; simp)), Lib.hid HBV.out⟩
                            case measure => have := HLK.out; simp [intOf]; omega
                          · go_ret
                            exact ⟨rfl, HFIN.out _ (HB3.out.trans ((HBV.out.trans (hb9.mono HBV.out.size)).mono HB3.out.size))⟩
                      · have q2 : ((tm2 : Int) == (tm : Int)) = false := by simp; omega
                        go_wp2_with (first
                          | (go_at_call 20; refine (HVO.out _ (HAB.out _)).mono ?_; rintro e w7 ⟨rfl, hb7⟩
                             have HBV := Lib.hid ((HAB.out _).trans (hb7.mono (HAB.out _).size))
                             clear hb7
                             cases V)
                          | (go_at_call 9; refine (lives23 _).mono ?_; rintro e w9 ⟨rfl, hb9⟩)
                          | fail)
                        · go_roundw
                          case rel => exact ⟨k + 1, HLK.out, by go_num, Lib.hid (HNX.out (by rw [HV2.out]; simp [hgt, heq])), Lib.hid HBV.out⟩
                          case measure => have := HLK.out; simp [intOf]; omega
                        · go_ret
                          exact ⟨rfl, HFIN.out _ (HB3.out.trans ((HBV.out.trans (hb9.mono HBV.out.size)).mono HB3.out.size))⟩
                  · have q1 : ((ix2 : Int) == (ix : Int)) = false := by simp; omega
                    go_wp2_with (first
                      | (go_at_call 20; refine (HVO.out _ (HAB.out _)).mono ?_; rintro e w7 ⟨rfl, hb7⟩
                         have HBV := Lib.hid ((HAB.out _).trans (hb7.mono (HAB.out _).size))
                         clear hb7
                         cases V)
                      | (go_at_call 9; refine (lives23 _).mono ?_; rintro e w9 ⟨rfl, hb9⟩)
                      | fail)
                    · go_roundw
                      case rel => exact ⟨k + 1, HLK.out, by go_num, Lib.hid (HNX.out (by rw [HV2.out]; simp [hix])), Lib.hid HBV.out⟩
                      case measure => have := HLK.out; simp [intOf]; omega
                    · go_ret
                      exact ⟨rfl, HFIN.out _ (HB3.out.trans ((HBV.out.trans (hb9.mono HBV.out.size)).mono HB3.out.size))⟩
                · obtain rfl : k = l0.n := by omega
                  go_wp2
                  go_roundw
                  case rel => exact ⟨j + 1, by omega, by go_num, Lib.hid (fun a l ha hl x hx => by
                    rcases Nat.lt_or_ge a j with h1 | h1
                    · exact HN.out a l h1 hl x hx
                    · obtain rfl : a = j := by omega
                      rw [HL.out] at hl
                      cases hl
                      obtain ⟨b, hb⟩ := List.getElem?_of_mem hx
                      exact HNI.out b x (by have h1 := (List.getElem?_eq_some_iff.1 hb).1; have := HE.out.len; omega) hb), HBI⟩
                  case measure => simp [intOf]; omega
            · obtain rfl : j = n1 := by omega
              have hall : ∀ e ∈ flat (⟨some ⟨w2.heap.size, 0, none⟩, 1, 1, [⟨ix, tm, st, kd, cl, rq, fr, ct, da, A1, bn, bc, ls⟩]⟩ :: Ls), ¬ e.bad ⟨ix, tm, st, kd, cl, rq, fr, ct, da, A1, bn, bc, ls⟩ := fun e he => by
                unfold flat at he
                obtain ⟨l, hl, he⟩ := List.mem_flatMap.1 he
                obtain ⟨a, ha⟩ := List.getElem?_of_mem hl
                exact HN.out a l (by have h1 := (List.getElem?_eq_some_iff.1 ha).1; have := HS3.out.len; omega) ha e he
              have hbst : bst (⟨some ⟨w2.heap.size, 0, none⟩, 1, 1, [⟨ix, tm, st, kd, cl, rq, fr, ct, da, A1, bn, bc, ls⟩]⟩ :: Ls) ix = some ⟨ix, tm, st, kd, cl, rq, fr, ct, da, A1, bn, bc, ls⟩ := keep_bst (L := ⟨some ⟨w2.heap.size, 0, none⟩, 1, 1, [⟨ix, tm, st, kd, cl, rq, fr, ct, da, A1, bn, bc, ls⟩]⟩) (x := ⟨ix, tm, st, kd, cl, rq, fr, ct, da, A1, bn, bc, ls⟩) rfl hall
              obtain ⟨k, hk⟩ : ∃ k, ix = base + 1 + k := ⟨ix - base - 1, by omega⟩
              have hhas : hasE (⟨some ⟨w2.heap.size, 0, none⟩, 1, 1, [⟨ix, tm, st, kd, cl, rq, fr, ct, da, A1, bn, bc, ls⟩]⟩ :: Ls) base k = true := by
                unfold hasE
                rw [← hk, hbst]
                rfl
              have hkH := hadN_ge _ 192 k (by omega) hhas
              have hH192 := hadN_le (hasE (⟨some ⟨w2.heap.size, 0, none⟩, 1, 1, [⟨ix, tm, st, kd, cl, rq, fr, ct, da, A1, bn, bc, ls⟩]⟩ :: Ls) base) 192
              have hsrc : srcE (⟨some ⟨w2.heap.size, 0, none⟩, 1, 1, [⟨ix, tm, st, kd, cl, rq, fr, ct, da, A1, bn, bc, ls⟩]⟩ :: Ls) base k = ⟨ix, tm, st, kd, cl, rq, fr, ct, da, A1, bn, bc, ls⟩ := by
                unfold srcE
                rw [← hk, hbst]
                rfl
              have s2 : IntKind.u64.wrap ((ix : Int) - (base : Int) - 1) = (k : Int) := by rw [u64w _ (by omega) (by omega)]; omega
              have HM2 := Lib.hid (HMG.out _ HBI.out)
              unfold TMerge at HM2
              have hkk : (k : Int) < ((hadN (hasE (⟨some ⟨w2.heap.size, 0, none⟩, 1, 1, [⟨ix, tm, st, kd, cl, rq, fr, ct, da, A1, bn, bc, ls⟩]⟩ :: Ls) base) 192 : Nat) : Int) := by omega
              have hHi : ((hadN (hasE (⟨some ⟨w2.heap.size, 0, none⟩, 1, 1, [⟨ix, tm, st, kd, cl, rq, fr, ct, da, A1, bn, bc, ls⟩]⟩ :: Ls) base) 192 : Nat) : Int) ≤ 192 := by omega
              have hAL : ∀ A' c' W', Calls Try.prog 19 #[.agg ((goes base term m (⟨some ⟨w2.heap.size, 0, none⟩, 1, 1, [⟨ix, tm, st, kd, cl, rq, fr, ct, da, A1, bn, bc, ls⟩]⟩ :: Ls) (hadN (hasE (⟨some ⟨w2.heap.size, 0, none⟩, 1, 1, [⟨ix, tm, st, kd, cl, rq, fr, ct, da, A1, bn, bc, ls⟩]⟩ :: Ls) base) 192) k).put A' c').cells, .agg (En.cells ⟨ix, tm, st, kd, cl, rq, fr, ct, da, A1, bn, bc, ls⟩)] W' fun r w' => r = .returned (.bool true) ∧ Below W'.heap.size W' w' := fun A' c' W' => by
                have h1 := alike_any ((goes base term m (⟨some ⟨w2.heap.size, 0, none⟩, 1, 1, [⟨ix, tm, st, kd, cl, rq, fr, ct, da, A1, bn, bc, ls⟩]⟩ :: Ls) (hadN (hasE (⟨some ⟨w2.heap.size, 0, none⟩, 1, 1, [⟨ix, tm, st, kd, cl, rq, fr, ct, da, A1, bn, bc, ls⟩]⟩ :: Ls) base) 192) k).put A' c') ⟨ix, tm, st, kd, cl, rq, fr, ct, da, A1, bn, bc, ls⟩ W'
                have h2 : ((goes base term m (⟨some ⟨w2.heap.size, 0, none⟩, 1, 1, [⟨ix, tm, st, kd, cl, rq, fr, ct, da, A1, bn, bc, ls⟩]⟩ :: Ls) (hadN (hasE (⟨some ⟨w2.heap.size, 0, none⟩, 1, 1, [⟨ix, tm, st, kd, cl, rq, fr, ct, da, A1, bn, bc, ls⟩]⟩ :: Ls) base) 192) k).put A' c').alike ⟨ix, tm, st, kd, cl, rq, fr, ct, da, A1, bn, bc, ls⟩ = true := by
                  unfold goes
                  rw [hsrc]
                  unfold En.alike En.put En.look
                  simp
                rwa [h2] at h1
              have HAL0 := Lib.hid hAL
              have HKH := Lib.hid hkH
              clear hall hbst hhas hsrc hAL hkH hH192 HN hk
              generalize hadN (hasE (⟨some ⟨w2.heap.size, 0, none⟩, 1, 1, [⟨ix, tm, st, kd, cl, rq, fr, ct, da, A1, bn, bc, ls⟩]⟩ :: Ls) base) 192 = H at *
              have v3 : IntKind.u64.wrap (H : Int) = (H : Int) := u64w _ (by omega) (by omega)
              go_wp2_with (first
                | (go_at_call 16
                   refine HM2.out.mono ?_
                   rintro e w4 ⟨A6, c6, es, rfl, hE, hG, hb4⟩
                   obtain ⟨A', c', hg⟩ := hG k HKH.out
                   obtain ⟨b5, o5, rfl, hb5, hcc⟩ := hE.rd.2.2.2 (Nat.lt_of_le_of_lt (Nat.zero_le _) HKH.out)
                   have HAL1 := Lib.hid (HAL0.out A' c')
                   have hce := fun j u hu => hcc _ _ (ens_get es k _ hg j u hu)
                   have HBF := Lib.hid (HB3.out.trans ((HBI.out.trans (hb4.mono HBI.out.size)).mono HB3.out.size))
                   have hr94 := row_below (row_below H93.out HBI.out) hb4
                   clear hcc hG hE hg hb4
                   generalize (goes base term m (⟨some ⟨w2.heap.size, 0, none⟩, 1, 1, [⟨ix, tm, st, kd, cl, rq, fr, ct, da, A1, bn, bc, ls⟩]⟩ :: Ls) H k).put A' c' = en5 at *
                   obtain ⟨ix5, tm5, st5, kd5, cl5, rq5, fr5, ct5, da5, A5, bn5, bc5, ls5⟩ := en5
                   have x0 : w4.cell? ⟨p9, 0, none⟩ = some (.int .u64 (ix : Int)) := (cell_of_row w4 p9 0 _ _ _ hr94).trans rfl
                   have x1 : w4.cell? ⟨p9, 1, none⟩ = some (.int .u64 (tm : Int)) := (cell_of_row w4 p9 1 _ _ _ hr94).trans rfl
                   have x2 : w4.cell? ⟨p9, 2, none⟩ = some (.int .u64 (st : Int)) := (cell_of_row w4 p9 2 _ _ _ hr94).trans rfl
                   have x3 : w4.cell? ⟨p9, 3, none⟩ = some (.int .i64 kd) := (cell_of_row w4 p9 3 _ _ _ hr94).trans rfl
                   have x4 : w4.cell? ⟨p9, 4, none⟩ = some (.int .u64 (cl : Int)) := (cell_of_row w4 p9 4 _ _ _ hr94).trans rfl
                   have x5 : w4.cell? ⟨p9, 5, none⟩ = some (.int .u64 (rq : Int)) := (cell_of_row w4 p9 5 _ _ _ hr94).trans rfl
                   have x6 : w4.cell? ⟨p9, 6, none⟩ = some (.int .u32 (fr : Int)) := (cell_of_row w4 p9 6 _ _ _ hr94).trans rfl
                   have x7 : w4.cell? ⟨p9, 7, none⟩ = some (.int .u32 (ct : Int)) := (cell_of_row w4 p9 7 _ _ _ hr94).trans rfl
                   have x8 : w4.cell? ⟨p9, 8, none⟩ = some (.string (str da)) := (cell_of_row w4 p9 8 _ _ _ hr94).trans rfl
                   have x9 : w4.cell? ⟨p9, 9, none⟩ = some (.slice A1 bn bc) := (cell_of_row w4 p9 9 _ _ _ hr94).trans rfl
                   unfold En.cells at hce HAL1
                   dsimp only at *
                   have k0 := hce 0 _ rfl
                   have k1 := hce 1 _ rfl
                   have k2 := hce 2 _ rfl
                   have k3 := hce 3 _ rfl
                   have k4 := hce 4 _ rfl
                   have k5 := hce 5 _ rfl
                   have k6 := hce 6 _ rfl
                   have k7 := hce 7 _ rfl
                   have k8 := hce 8 _ rfl
                   have k9 := hce 9 _ rfl
                   try dsimp only at k0 k1 k2 k3 k4 k5 k6 k7 k8 k9
                   simp only [← Nat.add_assoc, Nat.add_zero] at k0 k1 k2 k3 k4 k5 k6 k7 k8 k9
                   clear hce
                   have HAL := HAL1
                   have hbw := hb5
                   have h9w : p9 < w4.heap.size := (Array.getElem?_eq_some_iff.1 hr94).1
                   have g7 : decide ((k : Int) < (H : Int)) = true := decide_eq_true (by have := HKH.out; omega)
                   have g8 : decide (k < H) = true := decide_eq_true HKH.out
                   clear hr94)
                | fail)
              refine wp_low w4.heap.size [([0, 1, 2, 3, 4, 5, 6, 7, 8, 9, 10], 11), ([12, 13], 14)] [15, 16] (by kernel_rfl) (by kernel_rfl) (fun d _ _ _ _ h => by cases d <;> exact h) (Nat.le_refl _) fun wd hbd => ?_
              intro q hq
              have d0 := fun z => kept (hq z) k0 hbw
              have d1 := fun z => kept (hq z) k1 hbw
              have d2 := fun z => kept (hq z) k2 hbw
              have d3 := fun z => kept (hq z) k3 hbw
              have d4 := fun z => kept (hq z) k4 hbw
              have d5 := fun z => kept (hq z) k5 hbw
              have d6 := fun z => kept (hq z) k6 hbw
              have d7 := fun z => kept (hq z) k7 hbw
              have d8 := fun z => kept (hq z) k8 hbw
              have d9 := fun z => kept (hq z) k9 hbw
              have f0 := fun z => kept (hq z) x0 h9w
              have f1 := fun z => kept (hq z) x1 h9w
              have f2 := fun z => kept (hq z) x2 h9w
              have f3 := fun z => kept (hq z) x3 h9w
              have f4 := fun z => kept (hq z) x4 h9w
              have f5 := fun z => kept (hq z) x5 h9w
              have f6 := fun z => kept (hq z) x6 h9w
              have f7 := fun z => kept (hq z) x7 h9w
              have f8 := fun z => kept (hq z) x8 h9w
              have f9 := fun z => kept (hq z) x9 h9w
              simp only [pickI, Option.toList_some, List.cons_append, List.nil_append, List.getElem?_toArray, List.getElem?_cons_succ, List.getElem?_cons_zero]
              try go_frame
              go_big_quiet_step (fail)
              go_big_quiet_step (fail)
              go_big_quiet_step (fail)
              go_big_quiet_step (fail)
              go_big_quiet_step (fail)
              go_big_quiet_step (fail)
              go_big_quiet_step (fail)
              go_big_quiet_step (fail)
              go_big_quiet_step (fail)
              go_big_quiet_step (fail)
              go_big_quiet_step (fail)
              refine wpQuiet_nil ?_
              clear hq q d0 d1 d2 d3 d4 d5 d6 d7 d8 d9 f0 f1 f2 f3 f4 f5 f6 f7 f8 f9
              refine seg_op (by simp only [List.getElem?_toArray, List.getElem?_cons_succ, List.getElem?_cons_zero]; rfl) fun K hK => ?_
              go_simp
              refine (HAL.out _).mono ?_
              rintro e v0 ⟨rfl, bv0⟩
              have zv0 := hbd.trans (bv0.mono hbd.size)
              refine hK.out _ _ (seg_keep zv0 ?_)
              clear hK K
              intro q hq
              have d0 := fun z => kept (hq z) k0 hbw
              have d1 := fun z => kept (hq z) k1 hbw
              have d2 := fun z => kept (hq z) k2 hbw
              have d3 := fun z => kept (hq z) k3 hbw
              have d4 := fun z => kept (hq z) k4 hbw
              have d5 := fun z => kept (hq z) k5 hbw
              have d6 := fun z => kept (hq z) k6 hbw
              have d7 := fun z => kept (hq z) k7 hbw
              have d8 := fun z => kept (hq z) k8 hbw
              have d9 := fun z => kept (hq z) k9 hbw
              have f0 := fun z => kept (hq z) x0 h9w
              have f1 := fun z => kept (hq z) x1 h9w
              have f2 := fun z => kept (hq z) x2 h9w
              have f3 := fun z => kept (hq z) x3 h9w
              have f4 := fun z => kept (hq z) x4 h9w
              have f5 := fun z => kept (hq z) x5 h9w
              have f6 := fun z => kept (hq z) x6 h9w
              have f7 := fun z => kept (hq z) x7 h9w
              have f8 := fun z => kept (hq z) x8 h9w
              have f9 := fun z => kept (hq z) x9 h9w
              simp only [pickI, Option.toList_some, List.cons_append, List.nil_append, List.getElem?_toArray, List.getElem?_cons_succ, List.getElem?_cons_zero]
              try go_frame
              go_big_quiet_step (fail)
              go_big_quiet_step (fail)
              refine wpQuiet_nil ?_
              clear hq q d0 d1 d2 d3 d4 d5 d6 d7 d8 d9 f0 f1 f2 f3 f4 f5 f6 f7 f8 f9
              refine seg_op (by simp only [List.getElem?_toArray, List.getElem?_cons_succ, List.getElem?_cons_zero]; rfl) fun K hK => ?_
              go_simp
              refine (lives23 _).mono ?_
              rintro e v1 ⟨rfl, bv1⟩
              have zv1 := zv0.trans (bv1.mono zv0.size)
              refine hK.out _ _ (seg_keep zv1 ?_)
              clear hK K
              intro q hq
              have d0 := fun z => kept (hq z) k0 hbw
              have d1 := fun z => kept (hq z) k1 hbw
              have d2 := fun z => kept (hq z) k2 hbw
              have d3 := fun z => kept (hq z) k3 hbw
              have d4 := fun z => kept (hq z) k4 hbw
              have d5 := fun z => kept (hq z) k5 hbw
              have d6 := fun z => kept (hq z) k6 hbw
              have d7 := fun z => kept (hq z) k7 hbw
              have d8 := fun z => kept (hq z) k8 hbw
              have d9 := fun z => kept (hq z) k9 hbw
              have f0 := fun z => kept (hq z) x0 h9w
              have f1 := fun z => kept (hq z) x1 h9w
              have f2 := fun z => kept (hq z) x2 h9w
              have f3 := fun z => kept (hq z) x3 h9w
              have f4 := fun z => kept (hq z) x4 h9w
              have f5 := fun z => kept (hq z) x5 h9w
              have f6 := fun z => kept (hq z) x6 h9w
              have f7 := fun z => kept (hq z) x7 h9w
              have f8 := fun z => kept (hq z) x8 h9w
              have f9 := fun z => kept (hq z) x9 h9w
              simp only [pickI, Option.toList_some, List.cons_append, List.nil_append, List.getElem?_toArray, List.getElem?_cons_succ, List.getElem?_cons_zero]
              try go_frame
              go_big_quiet_step (fail)
              go_big_quiet_step (fail)
              refine wpQuiet_nil ?_
              clear hq q d0 d1 d2 d3 d4 d5 d6 d7 d8 d9 f0 f1 f2 f3 f4 f5 f6 f7 f8 f9
              go_wp2
              go_ret
              exact ⟨rfl, HFIN.out _ (HBF.out.trans (zv1.mono HBF.out.size))⟩
namespace mergeKeeps
open Go.ChangeShapes Go.WideShapes Go.ChangeAt
set_option maxRecDepth 100000 in
theorem lifted (os : Os) (started : os.Started) (H : Type) (enc : TypeId × Value → H) :
    ReturnsInHanded {} Try.checked os 5 .any (Rows.mergeKeepsSpec.pre6 enc Try.prog Try.f5 Rows.mergeKeepsRow.domain false) (Rows.mergeKeepsSpec.post enc Try.prog Try.f5 false true false false) := by
  refine returnsInHanded_of_change (C := Try.checked) own started (by kernel_rfl) Try.func5
    (ChangeSpec.witness6 (enc := enc) (C := Try.checked) false ⟨#[], #[.int .u64 0, .int .u64 0, .int .i64 0, .slice none 0 0, .agg #[.int .u64 0, .int .u64 0, .int .u64 0, .int .i64 0, .int .u64 0, .int .u64 0, .int .u32 0, .int .u32 0, .string ⟨#[]⟩, .slice none 0 0]], []⟩ 8 (by kernel_rfl) (by kernel_rfl) (by kernel_rfl) (by kernel_rfl)) ?_
  intro W base args ds gs before hval0 hW _ _
  have hval : ∀ (j : Nat) t v, Try.f5.params[j]? = some t → args[j]? = some v → Value.okWide Try.prog W .any base t v := hval0
  have hW' := hW
  obtain ⟨p, q, hA0, hV, rfl, hfz, hnd⟩ := hW
  have hA : DataW.TrodAll enc Try.prog W 0 (fun _ => true) true Try.f5.params.toList args.toList ds p := hA0
  rw [Try.params5] at hA hval
  obtain ⟨v0, vs0, d0, ds0, p0, q0, hargs, rfl, rfl, h0, r0⟩ := trodAll_cons hA
  obtain ⟨v1, vs1, d1, ds1, p1, q1, rfl, rfl, rfl, h1, r1⟩ := trodAll_cons r0
  obtain ⟨v2, vs2, d2, ds2, p2, q2, rfl, rfl, rfl, h2, r2⟩ := trodAll_cons r1
  obtain ⟨v3, vs3, d3, ds3, p3, q3, rfl, rfl, rfl, h3, r3⟩ := trodAll_cons r2
  obtain ⟨v4, vs4, d4, ds4, p4, q4, rfl, rfl, rfl, h4, r4⟩ := trodAll_cons r3
  obtain ⟨rfl, rfl, rfl⟩ := trodAll_nil r4
  obtain rfl : args = #[v0, v1, v2, v3, v4] := by cases args; simp_all
  obtain ⟨rfl, rfl⟩ := trodVars_none hV
  have k0 := h0
  have lt0 : ∀ x ∈ p0, x.block < W.heap.size := by obtain ⟨m, hm⟩ := k0; exact DataW.trod_lt m _ _ _ hm
  obtain ⟨x0, rfl, w0⟩ := dec_int Try.underlying22 (hval 0 22 v0 rfl rfl) h0
  have k1 := h1
  have lt1 : ∀ x ∈ p1, x.block < W.heap.size := by obtain ⟨m, hm⟩ := k1; exact DataW.trod_lt m _ _ _ hm
  obtain ⟨x1, rfl, w1⟩ := dec_int Try.underlying22 (hval 1 22 v1 rfl rfl) h1
  have k2 := h2
  have lt2 : ∀ x ∈ p2, x.block < W.heap.size := by obtain ⟨m, hm⟩ := k2; exact DataW.trod_lt m _ _ _ hm
  obtain ⟨x2, rfl, w2⟩ := dec_int Try.underlying3 (hval 2 3 v2 rfl rfl) h2
  have k3 := h3
  have lt3 : ∀ x ∈ p3, x.block < W.heap.size := by obtain ⟨m, hm⟩ := k3; exact DataW.trod_lt m _ _ _ hm
  obtain ⟨a3, n3, c3, l3, rfl, w3⟩ := Li.dec (hval 3 23 v3 rfl rfl) h3
  have k4 := h4
  have lt4 : ∀ x ∈ p4, x.block < W.heap.size := by obtain ⟨m, hm⟩ := k4; exact DataW.trod_lt m _ _ _ hm
  obtain ⟨o4, rfl, w4⟩ := dec_entry entryT (hval 4 29 v4 rfl rfl) h4
  clear hA0 hval0
  refine (mergeKeeps_walk x0 w0 x1 w1 x2 w2 w3 o4 w4).mono fun e W' ⟨he, bel⟩ => ?_
  subst he
  exact ⟨_, rfl, _, _, _, [], _, [], hW', trodAll_mk1 (shut_bool Try.underlying4 _), (trodAll_cons_mk (Below.trod laidOut (by kernel_rfl) (of_decide_eq_true (by kernel_rfl)) k0 bel lt0) (trodAll_cons_mk (Below.trod laidOut (by kernel_rfl) (of_decide_eq_true (by kernel_rfl)) k1 bel lt1) (trodAll_cons_mk (Below.trod laidOut (by kernel_rfl) (of_decide_eq_true (by kernel_rfl)) k2 bel lt2) (trodAll_cons_mk (Below.trod laidOut (by kernel_rfl) (of_decide_eq_true (by kernel_rfl)) k3 bel lt3) (trodAll_cons_mk (Below.trod laidOut (by kernel_rfl) (of_decide_eq_true (by kernel_rfl)) k4 bel lt4) trodAll_mk0))))), rfl, bel.frame _, fun h => by cases h⟩

theorem over : Rows.mergeKeepsRow.holds Try.pinned (OpenSpec.ofChange Rows.mergeKeepsSpec) :=
  OpenClaim.holds_of_wide 5 Try.f5 rfl rfl rfl rfl rfl rfl rfl ⟨rfl, rfl, rfl, rfl, rfl⟩ rfl rfl rfl rfl rfl (by kernel_rfl) Try.func5 (by kernel_rfl)
    (of_decide_eq_true (by kernel_rfl)) (by unfold Func.isWrapper; first | (rw [if_pos (by decide +kernel)]; kernel_rfl) | (rw [if_neg (by decide +kernel)]; exact ⟨rfl, rfl⟩))
    (fun os started H enc _ => lifted os started H enc)
/-- The given statement. -/
theorem proved : Rows.MergeKeepsSaid := over
end mergeKeeps

end Go.Proofs.Ytoopeppcmoolgaa
