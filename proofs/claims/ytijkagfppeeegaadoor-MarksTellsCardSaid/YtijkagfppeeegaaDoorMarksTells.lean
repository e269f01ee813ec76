/- MarksTells: of any marks whether they are good, and what they mark, and of good ones all numbers that they mark, and that lie between: the law answers true for all marks and numbers. -/
import Derived.Test.YtijkagfppeeegaaDoorMrholes
import Derived.Test.YtijkagfppeeegaaDoorMamong
import Derived.Test.YtijkagfppeeegaaDoorMbitsof
import Derived.Test.YtijkagfppeeegaaDoorMints
import Derived.Test.YtijkagfppeeegaaDoorMtie
import Derived.Test.YtijkagfppeeegaaDoorCards
import Derived.Test.YtijkagfppeeegaaDoorTie
import Derived.BigRegion
import Derived.Deep.DeepCutAuto
import Derived.Deep.CutBlock
namespace Go.Proofs.YtijkagfppeeegaaDoor
open Go.RowKit

theorem all_same (L B : Nat) (hB : B < 18446744073709551616) : picks (Hs L B) (L + 1) 64 = picks (Hs L B) (L + 1) (Lib.bitLen B) := by
  have h := bl_le B hB
  rw [show 64 = Lib.bitLen B + (64 - Lib.bitLen B) by omega]
  refine picks_more _ _ _ _ fun i hi => ?_
  rw [hs_at]
  exact (bl_bits B hB).1 i hi
theorem holes_same (L B : Nat) (hB : B < 18446744073709551616) : picks (fun x => !Hs L B x) (L + 1) (top L B - (L + 1)) = picks (fun x => !Hs L B x) (L + 1) (Lib.bitLen B) := by
  by_cases h : Lib.bitLen B = 0
  · rw [show top L B - (L + 1) = 0 by unfold top; omega, h]
  · obtain ⟨k, hk⟩ : ∃ k, Lib.bitLen B = k + 1 := ⟨Lib.bitLen B - 1, by omega⟩
    have ht := top_hs L B hB
    have e : top L B = L + 1 + k := by unfold top; omega
    rw [show top L B - (L + 1) = k by omega, hk, picks_no]
    rw [e] at ht
    simp [ht]

set_option maxHeartbeats 4000000 in
theorem tells_walk (L B n : Nat) (w : World) (hL : L < 18446744073709551616) (hB : B < 18446744073709551616) (hn : n < 18446744073709551616) (hT : Tab w) :
    Calls Tryd.prog 3 #[.agg #[.int .u64 (L : Int), .int .u64 (B : Int)], .int .u64 (n : Int)] w fun e w' => e = .returned (.bool true) ∧ Below w.heap.size w w' := by
  have hmf : ∀ (fn : Fn) (first cap : Array Value) (w : World), (Instr.makeFunc fn first cap).run Tryd.prog w = .ok (.func fn first cap) w := fun _ _ _ _ => rfl
  have hG := fun W h => good_any L B W hL hB h
  have hRG := fun W => rgood_any L B W hL hB
  have hH := fun W => has_any L B n W hL hB hn
  have hRH := fun W => rhas_any L B n W hL hB hn
  obtain ⟨W, hW, hWs, r0, r1, hwW⟩ := boxes2 w #[.int .u64 (L : Int), .int .u64 (B : Int)] #[.int .u64 (L : Int), .int .u64 (B : Int)] 24 25
  have hTW := hT.below hwW
  generalize Hs L B n = H at *
  have qH : (H != H) = false := bne_self_eq_false H
  cases hg : gdB L B
  · rw [hg] at hG hRG
    clear hg hL hB hn
    go_enter Tryd.func3, Tryd.ntmps3
    go_wp2_with fail
    rw [← hW]
    refine wp_low W.heap.size [([0, 2], 1), ([], 3), ([4, 5, 6, 7, 9, 10], 8), ([], 11)] [12, 13] (by kernel_rfl) (by kernel_rfl) (fun d _ _ _ _ h => by cases d <;> exact h) (Nat.le_refl _) fun wd hbd => ?_
    intro q hq
    have d0 := fun z => cellz (j := 0) (hq z) r0 rfl
    have d1 := fun z => cellz (j := 1) (hq z) r0 rfl
    have d2 := fun z => cellz (j := 0) (hq z) r1 rfl
    have d3 := fun z => cellz (j := 1) (hq z) r1 rfl
    simp only [pickI, Option.toList_some, List.cons_append, List.nil_append, List.getElem?_toArray, List.getElem?_cons_succ, List.getElem?_cons_zero]
    repeat (go_big_quiet_step (fail))
    refine wpQuiet_nil ?_
    clear d0 d1 d2 d3 hq q
    refine seg_op (by simp only [List.getElem?_toArray, List.getElem?_cons_succ, List.getElem?_cons_zero]; rfl) fun K hK => ?_
    go_simp
    refine (hG _ (hTW.below hbd)).mono ?_
    rintro e v0 ⟨rfl, bv0⟩
    have zv0 := hbd.trans (bv0.mono hbd.size)
    refine hK.out _ _ (seg_keep zv0 ?_)
    clear hK K
    intro q hq
    refine wpQuiet_nil ?_
    clear hq q
    refine seg_op (by simp only [List.getElem?_toArray, List.getElem?_cons_succ, List.getElem?_cons_zero]; rfl) fun K hK => ?_
    go_simp
    refine (hRG _).mono ?_
    rintro e v1 ⟨rfl, bv1⟩
    have zv1 := zv0.trans (bv1.mono zv0.size)
    refine hK.out _ _ (seg_keep zv1 ?_)
    clear hK K
    intro q hq
    have d0 := fun z => cellz (j := 0) (hq z) r0 rfl
    have d1 := fun z => cellz (j := 1) (hq z) r0 rfl
    have d2 := fun z => cellz (j := 0) (hq z) r1 rfl
    have d3 := fun z => cellz (j := 1) (hq z) r1 rfl
    simp only [pickI, Option.toList_some, List.cons_append, List.nil_append, List.getElem?_toArray, List.getElem?_cons_succ, List.getElem?_cons_zero]
    repeat (go_big_quiet_step (fail))
    refine wpQuiet_nil ?_
    clear d0 d1 d2 d3 hq q
    refine seg_op (by simp only [List.getElem?_toArray, List.getElem?_cons_succ, List.getElem?_cons_zero]; rfl) fun K hK => ?_
    go_simp
    refine (hH _).mono ?_
    rintro e v2 ⟨rfl, bv2⟩
    have zv2 := zv1.trans (bv2.mono zv1.size)
    refine hK.out _ _ (seg_keep zv2 ?_)
    clear hK K
    intro q hq
    refine wpQuiet_nil ?_
    clear hq q
    refine seg_op (by simp only [List.getElem?_toArray, List.getElem?_cons_succ, List.getElem?_cons_zero]; rfl) fun K hK => ?_
    go_simp
    refine (hRH _).mono ?_
    rintro e v3 ⟨rfl, bv3⟩
    have zv3 := zv2.trans (bv3.mono zv2.size)
    refine hK.out _ _ (seg_keep zv3 ?_)
    clear hK K
    intro q hq
    have d0 := fun z => cellz (j := 0) (hq z) r0 rfl
    have d1 := fun z => cellz (j := 1) (hq z) r0 rfl
    have d2 := fun z => cellz (j := 0) (hq z) r1 rfl
    have d3 := fun z => cellz (j := 1) (hq z) r1 rfl
    simp only [pickI, Option.toList_some, List.cons_append, List.nil_append, List.getElem?_toArray, List.getElem?_cons_succ, List.getElem?_cons_zero]
    repeat (go_big_quiet_step (fail))
    refine wpQuiet_nil ?_
    clear d0 d1 d2 d3 hq q
    have hfin := zv3
    have k0 := cellz (j := 0) (u := .int .u64 (L : Int)) hfin r0 rfl
    have k1 := cellz (j := 1) (u := .int .u64 (B : Int)) hfin r0 rfl
    have hz := hwW.trans (hfin.mono hwW.size)
    clear hW
    go_wp2_with fail
    refine (hG _ (hT.below hz)).mono ?_
    rintro e w1 ⟨rfl, hb1⟩
    have hz1 := hz.trans (hb1.mono hz.size)
    go_wp2_with fail
    refine (lives4 _ (hT.below hz1)).mono ?_
    rintro e w2 ⟨rfl, hb2⟩
    go_wp2
    go_ret
    exact ⟨rfl, hz1.trans (hb2.mono hz1.size)⟩
  · rw [hg] at hG hRG
    have hL4 := ((gdB_iff L B).1 hg).1
    have hTop := fun W => top_any L B W hL4 hB
    have hRTop := fun W => rtop_any L B W hL4 hB
    have hAll := fun W => all_any L B W hL4 hB
    have hRAll := fun W => rall_any L B W hL4 hB
    have hHo := fun W => holes_any L B W hL4 hB
    have hRHo := fun W => rholes_any L B W hL4 hB
    have hBits := fun W h => bits_any L B (w.heap.size + 1) W hL4 hB h
    rw [all_same L B hB] at hRAll
    rw [holes_same L B hB] at hRHo
    generalize picks (Hs L B) (L + 1) (Lib.bitLen B) = PA at *
    generalize picks (fun x => !Hs L B x) (L + 1) (Lib.bitLen B) = PH at *
    generalize top L B = tp at *
    have hI1 := fun A B c c' W => ints_any A B PA.length c c' PA W rfl
    have hI2 := fun A B c c' W => ints_any A B PH.length c c' PH W rfl
    have qt : ((tp : Int) == (tp : Int)) = true := beq_self_eq_true _
    have qB : ((B : Int) == (B : Int)) = true := beq_self_eq_true _
    clear hg hL hB hn hL4
    go_enter Tryd.func3, Tryd.ntmps3
    go_wp2_with fail
    rw [← hW]
    refine wp_low W.heap.size [([0, 2], 1), ([], 3), ([4, 5, 6, 7, 9, 10], 8), ([], 11)] [12, 13] (by kernel_rfl) (by kernel_rfl) (fun d _ _ _ _ h => by cases d <;> exact h) (Nat.le_refl _) fun wd hbd => ?_
    intro q hq
    have d0 := fun z => cellz (j := 0) (hq z) r0 rfl
    have d1 := fun z => cellz (j := 1) (hq z) r0 rfl
    have d2 := fun z => cellz (j := 0) (hq z) r1 rfl
    have d3 := fun z => cellz (j := 1) (hq z) r1 rfl
    simp only [pickI, Option.toList_some, List.cons_append, List.nil_append, List.getElem?_toArray, List.getElem?_cons_succ, List.getElem?_cons_zero]
    repeat (go_big_quiet_step (fail))
    refine wpQuiet_nil ?_
    clear d0 d1 d2 d3 hq q
    refine seg_op (by simp only [List.getElem?_toArray, List.getElem?_cons_succ, List.getElem?_cons_zero]; rfl) fun K hK => ?_
    go_simp
    refine (hG _ (hTW.below hbd)).mono ?_
    rintro e v0 ⟨rfl, bv0⟩
    have zv0 := hbd.trans (bv0.mono hbd.size)
    refine hK.out _ _ (seg_keep zv0 ?_)
    clear hK K
    intro q hq
    refine wpQuiet_nil ?_
    clear hq q
    refine seg_op (by simp only [List.getElem?_toArray, List.getElem?_cons_succ, List.getElem?_cons_zero]; rfl) fun K hK => ?_
    go_simp
    refine (hRG _).mono ?_
    rintro e v1 ⟨rfl, bv1⟩
    have zv1 := zv0.trans (bv1.mono zv0.size)
    refine hK.out _ _ (seg_keep zv1 ?_)
    clear hK K
    intro q hq
    have d0 := fun z => cellz (j := 0) (hq z) r0 rfl
    have d1 := fun z => cellz (j := 1) (hq z) r0 rfl
    have d2 := fun z => cellz (j := 0) (hq z) r1 rfl
    have d3 := fun z => cellz (j := 1) (hq z) r1 rfl
    simp only [pickI, Option.toList_some, List.cons_append, List.nil_append, List.getElem?_toArray, List.getElem?_cons_succ, List.getElem?_cons_zero]
    repeat (go_big_quiet_step (fail))
    refine wpQuiet_nil ?_
    clear d0 d1 d2 d3 hq q
    refine seg_op (by simp only [List.getElem?_toArray, List.getElem?_cons_succ, List.getElem?_cons_zero]; rfl) fun K hK => ?_
    go_simp
    refine (hH _).mono ?_
    rintro e v2 ⟨rfl, bv2⟩
    have zv2 := zv1.trans (bv2.mono zv1.size)
    refine hK.out _ _ (seg_keep zv2 ?_)
    clear hK K
    intro q hq
    refine wpQuiet_nil ?_
    clear hq q
    refine seg_op (by simp only [List.getElem?_toArray, List.getElem?_cons_succ, List.getElem?_cons_zero]; rfl) fun K hK => ?_
    go_simp
    refine (hRH _).mono ?_
    rintro e v3 ⟨rfl, bv3⟩
    have zv3 := zv2.trans (bv3.mono zv2.size)
    refine hK.out _ _ (seg_keep zv3 ?_)
    clear hK K
    intro q hq
    have d0 := fun z => cellz (j := 0) (hq z) r0 rfl
    have d1 := fun z => cellz (j := 1) (hq z) r0 rfl
    have d2 := fun z => cellz (j := 0) (hq z) r1 rfl
    have d3 := fun z => cellz (j := 1) (hq z) r1 rfl
    simp only [pickI, Option.toList_some, List.cons_append, List.nil_append, List.getElem?_toArray, List.getElem?_cons_succ, List.getElem?_cons_zero]
    repeat (go_big_quiet_step (fail))
    refine wpQuiet_nil ?_
    clear d0 d1 d2 d3 hq q
    have hfin := zv3
    have r0 := (hfin.block _ (by omega)).trans r0
    have r1 := (hfin.block _ (by omega)).trans r1
    have k0 := cell_of_row _ _ 0 _ _ _ r0
    have k1 := cell_of_row _ _ 1 _ _ _ r0
    simp at k0 k1
    have hz := hwW.trans (hfin.mono hwW.size)
    clear hW hfin hbd
    go_wp2_with fail
    refine (hG _ (hT.below hz)).mono ?_
    rintro e w1 ⟨rfl, hb1⟩
    have hz1 := hz.trans (hb1.mono hz.size)
    have r0 := (hb1.block _ (Array.getElem?_eq_some_iff.1 r0).1).trans r0
    have r1 := (hb1.block _ (Array.getElem?_eq_some_iff.1 r1).1).trans r1
    clear k0 k1
    have k0 := cell_of_row _ _ 0 _ _ _ r0
    have k1 := cell_of_row _ _ 1 _ _ _ r0
    simp at k0 k1
    go_wp2_with fail
    refine (hBits _ r1).mono ?_
    rintro e X ⟨rfl, hbX⟩
    have hzX := hz1.trans (hbX.mono hz1.size)
    have r0 := (hbX.block _ (Array.getElem?_eq_some_iff.1 r0).1).trans r0
    have r1 := (hbX.block _ (Array.getElem?_eq_some_iff.1 r1).1).trans r1
    have hX0 : w.heap.size < X.heap.size := (Array.getElem?_eq_some_iff.1 r0).1
    have hX1 : w.heap.size + 1 < X.heap.size := (Array.getElem?_eq_some_iff.1 r1).1
    have hTX := hT.below hzX
    clear k0 k1 hbX hb1 hz hz1 hG hRG hH hRH hBits
    go_wp2_with fail
    refine wp_low X.heap.size [([0, 2], 1), ([], 3), ([4, 5, 6, 8], 7), ([], 9), ([], 10), ([11, 12, 13, 15], 14), ([], 16), ([], 17), ([18, 19, 20, 21, 22, 23, 24, 25], 26)] [27, 28] (by kernel_rfl) (by kernel_rfl) (fun d _ _ _ _ h => by cases d <;> exact h) (Nat.le_refl _) fun wd hbd => ?_
    intro q hq
    have d0 := fun z => cellz (j := 0) (hq z) r0 rfl hX0
    have d1 := fun z => cellz (j := 1) (hq z) r0 rfl hX0
    have d2 := fun z => cellz (j := 0) (hq z) r1 rfl hX1
    have d3 := fun z => cellz (j := 1) (hq z) r1 rfl hX1
    simp only [pickI, Option.toList_some, List.cons_append, List.nil_append, List.getElem?_toArray, List.getElem?_cons_succ, List.getElem?_cons_zero]
    repeat (go_big_quiet_step (fail))
    refine wpQuiet_nil ?_
    clear d0 d1 d2 d3 hq q
    refine seg_op (by simp only [List.getElem?_toArray, List.getElem?_cons_succ, List.getElem?_cons_zero]; rfl) fun K hK => ?_
    go_simp
    refine (hTop _).mono ?_
    rintro e v0 ⟨rfl, bv0⟩
    have zv0 := hbd.trans (bv0.mono hbd.size)
    refine hK.out _ _ (seg_keep zv0 ?_)
    clear hK K
    intro q hq
    refine wpQuiet_nil ?_
    clear hq q
    refine seg_op (by simp only [List.getElem?_toArray, List.getElem?_cons_succ, List.getElem?_cons_zero]; rfl) fun K hK => ?_
    go_simp
    refine (hRTop _).mono ?_
    rintro e v1 ⟨rfl, bv1⟩
    have zv1 := zv0.trans (bv1.mono zv0.size)
    refine hK.out _ _ (seg_keep zv1 ?_)
    clear hK K
    intro q hq
    have d0 := fun z => cellz (j := 0) (hq z) r0 rfl hX0
    have d1 := fun z => cellz (j := 1) (hq z) r0 rfl hX0
    have d2 := fun z => cellz (j := 0) (hq z) r1 rfl hX1
    have d3 := fun z => cellz (j := 1) (hq z) r1 rfl hX1
    simp only [pickI, Option.toList_some, List.cons_append, List.nil_append, List.getElem?_toArray, List.getElem?_cons_succ, List.getElem?_cons_zero]
    repeat (go_big_quiet_step (fail))
    refine wpQuiet_nil ?_
    clear d0 d1 d2 d3 hq q
    refine seg_op (by simp only [List.getElem?_toArray, List.getElem?_cons_succ, List.getElem?_cons_zero]; rfl) fun K hK => ?_
    go_simp
    refine (hAll _).mono ?_
    rintro e v2 ⟨x1, rfl, ho1, bv2⟩
    obtain ⟨A1, c1, rfl⟩ := ownsRow_form ho1
    have h1 := ownsRow_rd ho1
    have H1 := Lib.hid h1
    clear h1 ho1
    have zv2 := zv1.trans (bv2.mono zv1.size)
    refine hK.out _ _ (seg_keep zv2 ?_)
    clear hK K
    intro q hq
    refine wpQuiet_nil ?_
    clear hq q
    refine seg_op (by simp only [List.getElem?_toArray, List.getElem?_cons_succ, List.getElem?_cons_zero]; rfl) fun K hK => ?_
    go_simp
    refine (hRAll _).mono ?_
    rintro e v3 ⟨x2, rfl, ho2, bv3⟩
    obtain ⟨A2, c2, rfl⟩ := ownsRow_form ho2
    have h2 := ownsRow_rd ho2
    have H2 := Lib.hid h2
    have J1 := Lib.hid ((H1.out.below bv3).more bv3.size)
    clear h2 ho2
    have zv3 := zv2.trans (bv3.mono zv2.size)
    refine hK.out _ _ (seg_keep zv3 ?_)
    clear hK K
    intro q hq
    refine wpQuiet_nil ?_
    clear hq q
    refine seg_op (by simp only [List.getElem?_toArray, List.getElem?_cons_succ, List.getElem?_cons_zero]; rfl) fun K hK => ?_
    go_simp
    refine (hI1 _ _ _ _ _ J1.out H2.out).mono ?_
    rintro e v4 ⟨rfl, bv4⟩
    have zv4 := zv3.trans (bv4.mono zv3.size)
    refine hK.out _ _ (seg_keep zv4 ?_)
    clear hK K
    intro q hq
    have d0 := fun z => cellz (j := 0) (hq z) r0 rfl hX0
    have d1 := fun z => cellz (j := 1) (hq z) r0 rfl hX0
    have d2 := fun z => cellz (j := 0) (hq z) r1 rfl hX1
    have d3 := fun z => cellz (j := 1) (hq z) r1 rfl hX1
    simp only [pickI, Option.toList_some, List.cons_append, List.nil_append, List.getElem?_toArray, List.getElem?_cons_succ, List.getElem?_cons_zero]
    repeat (go_big_quiet_step (fail))
    refine wpQuiet_nil ?_
    clear d0 d1 d2 d3 hq q
    refine seg_op (by simp only [List.getElem?_toArray, List.getElem?_cons_succ, List.getElem?_cons_zero]; rfl) fun K hK => ?_
    go_simp
    refine (hHo _).mono ?_
    rintro e v5 ⟨x3, rfl, ho3, bv5⟩
    obtain ⟨A3, c3, rfl⟩ := ownsRow_form ho3
    have h3 := ownsRow_rd ho3
    have H3 := Lib.hid h3
    clear h3 ho3
    have zv5 := zv4.trans (bv5.mono zv4.size)
    refine hK.out _ _ (seg_keep zv5 ?_)
    clear hK K
    intro q hq
    refine wpQuiet_nil ?_
    clear hq q
    refine seg_op (by simp only [List.getElem?_toArray, List.getElem?_cons_succ, List.getElem?_cons_zero]; rfl) fun K hK => ?_
    go_simp
    refine (hRHo _).mono ?_
    rintro e v6 ⟨x4, rfl, ho4, bv6⟩
    obtain ⟨A4, c4, rfl⟩ := ownsRow_form ho4
    have h4 := ownsRow_rd ho4
    have H4 := Lib.hid h4
    have J3 := Lib.hid ((H3.out.below bv6).more bv6.size)
    clear h4 ho4
    have zv6 := zv5.trans (bv6.mono zv5.size)
    refine hK.out _ _ (seg_keep zv6 ?_)
    clear hK K
    intro q hq
    refine wpQuiet_nil ?_
    clear hq q
    refine seg_op (by simp only [List.getElem?_toArray, List.getElem?_cons_succ, List.getElem?_cons_zero]; rfl) fun K hK => ?_
    go_simp
    refine (hI2 _ _ _ _ _ J3.out H4.out).mono ?_
    rintro e v7 ⟨rfl, bv7⟩
    have zv7 := zv6.trans (bv7.mono zv6.size)
    refine hK.out _ _ (seg_keep zv7 ?_)
    clear hK K
    intro q hq
    have d0 := fun z => cellz (j := 0) (hq z) r0 rfl hX0
    have d1 := fun z => cellz (j := 1) (hq z) r0 rfl hX0
    have d2 := fun z => cellz (j := 0) (hq z) r1 rfl hX1
    have d3 := fun z => cellz (j := 1) (hq z) r1 rfl hX1
    simp only [pickI, Option.toList_some, List.cons_append, List.nil_append, List.getElem?_toArray, List.getElem?_cons_succ, List.getElem?_cons_zero]
    repeat (go_big_quiet_step (fail))
    refine wpQuiet_nil ?_
    clear d0 d1 d2 d3 hq q
    refine seg_op (by simp only [List.getElem?_toArray, List.getElem?_cons_succ, List.getElem?_cons_zero]; rfl) fun K hK => ?_
    go_simp
    refine (lives4 _ (hTX.below zv7)).mono ?_
    rintro e v8 ⟨rfl, bv8⟩
    have zv8 := zv7.trans (bv8.mono zv7.size)
    refine hK.out _ _ (seg_keep zv8 ?_)
    clear hK K
    intro q hq
    have d0 := fun z => cellz (j := 0) (hq z) r0 rfl hX0
    have d1 := fun z => cellz (j := 1) (hq z) r0 rfl hX0
    have d2 := fun z => cellz (j := 0) (hq z) r1 rfl hX1
    have d3 := fun z => cellz (j := 1) (hq z) r1 rfl hX1
    simp only [pickI, Option.toList_some, List.cons_append, List.nil_append, List.getElem?_toArray, List.getElem?_cons_succ, List.getElem?_cons_zero]
    repeat (go_big_quiet_step (fail))
    refine wpQuiet_nil ?_
    clear d0 d1 d2 d3 hq q
    have hfin := zv8
    go_wp2
    go_ret
    exact ⟨rfl, hzX.trans (hfin.mono hzX.size)⟩

theorem marksTells_top {w : World} (x0 y0 : Int) (h0 : (Lit.int .u64 x0).wf = true) (g0 : (Lit.int .u64 y0).wf = true) (x1 : Int) (h1 : (Lit.int .u64 x1).wf = true) (hT : Tab w) :
    Calls Tryd.prog 3 #[.agg #[.int .u64 x0, .int .u64 y0], .int .u64 x1] w fun e w' => e = .returned (.bool true) ∧ Below w.heap.size w w' := by
  obtain ⟨L, rfl, hL⟩ := wf_u64 h0
  obtain ⟨B, rfl, hB⟩ := wf_u64 g0
  obtain ⟨n, rfl, hn⟩ := wf_u64 h1
  exact tells_walk L B n w hL hB hn hT

namespace marksTells
open Go.ChangeShapes Go.WideShapes Go.ChangeAt
set_option maxRecDepth 100000 in
theorem lifted (os : Os) (started : os.Started) (H : Type) (enc : TypeId × Value → H) :
    ReturnsInHanded {} Tryd.checked os 3 .any (fun w args => (Rows.marksTellsSpec.pre enc Tryd.prog Tryd.f3 [] false w args ∧ laidMetH Tryd.prog laidL w) ∧ sizedMet enc Tryd.prog Tryd.f3 (OpenSpec.ofChange Rows.marksTellsSpec) false w args)
      (Rows.marksTellsSpec.post enc Tryd.prog Tryd.f3 false true false false) := by
  refine returnsInHanded_of_change_and (C := Tryd.checked) (X := fun w _ => laidMetH Tryd.prog laidL w) (fun _ _ _ hh h => h.of_heap hh) own started (by kernel_rfl) Tryd.func3
    (ChangeSpec.witness_shaped (enc := enc) (C := Tryd.checked) (os := os) (X := fun w _ => laidMetH Tryd.prog laidL w) false (World.doorLaid Tryd.prog 400 os) #[.agg #[.int .u64 0, .int .u64 0], .int .u64 0] 8 rfl (World.shaped_of_RefB (by kernel_rfl) (by kernel_rfl)) (by kernel_rfl) (by kernel_rfl) (by kernel_rfl) (door_met os _)) ?_
  intro W base args ds gs before hval0 hW _ _ hL _
  have hval : ∀ (j : Nat) t v, Tryd.f3.params[j]? = some t → args[j]? = some v → Value.okWide Tryd.prog W .any base t v := hval0
  have hW' := hW
  obtain ⟨p, q, hA0, hV, rfl, hfz, hnd⟩ := hW
  have hA : DataW.TrodAll enc Tryd.prog W 0 (fun _ => true) true Tryd.f3.params.toList args.toList ds p := hA0
  rw [Tryd.params3] at hA hval
  obtain ⟨v0, vs0, d0, ds0, p0, q0, hargs, rfl, rfl, h0, r0⟩ := trodAll_cons hA
  obtain ⟨v1, vs1, d1, ds1, p1, q1, rfl, rfl, rfl, h1, r1⟩ := trodAll_cons r0
  obtain ⟨rfl, rfl, rfl⟩ := trodAll_nil r1
  obtain rfl : args = #[v0, v1] := by cases args; simp_all
  obtain ⟨rfl, rfl⟩ := trodVars_none hV
  have k0 := h0
  have lt0 : ∀ x ∈ p0, x.block < W.heap.size := by obtain ⟨m, hm⟩ := k0; exact DataW.trod_lt m _ _ _ hm
  obtain ⟨x0, y0, rfl, w0, u0⟩ := dec_ints2 Tryd.underlying24 (by kernel_rfl) (by kernel_rfl) Tryd.underlying22 Tryd.underlying22 (hval 0 24 v0 rfl rfl) h0
  have k1 := h1
  have lt1 : ∀ x ∈ p1, x.block < W.heap.size := by obtain ⟨m, hm⟩ := k1; exact DataW.trod_lt m _ _ _ hm
  obtain ⟨x1, rfl, w1⟩ := dec_int Tryd.underlying22 (hval 1 22 v1 rfl rfl) h1
  clear hA0 hval0
  have hT := of_laid hL
  refine (marksTells_top x0 y0 w0 u0 x1 w1 hT).mono fun e W' ⟨he, bel⟩ => ?_
  subst he
  exact ⟨_, rfl, _, _, _, [], _, [], hW', trodAll_mk1 (shut_bool Tryd.underlying4 _), (trodAll_cons_mk (Below.trod laidOut (by kernel_rfl) (of_decide_eq_true (by kernel_rfl)) k0 bel lt0) (trodAll_cons_mk (Below.trod laidOut (by kernel_rfl) (of_decide_eq_true (by kernel_rfl)) k1 bel lt1) trodAll_mk0)), rfl, bel.frame _, fun h => by cases h⟩

theorem over : Rows.marksTellsRow.holds Tryd.pinned (OpenSpec.ofChange Rows.marksTellsSpec) :=
  OpenClaim.holds_of_wide 3 Tryd.f3 rfl rfl rfl rfl rfl rfl rfl ⟨rfl, rfl, rfl, rfl, rfl⟩ rfl rfl rfl rfl rfl (by kernel_rfl) Tryd.func3 (by kernel_rfl)
    (of_decide_eq_true (by kernel_rfl)) (by unfold Func.isWrapper; first | (rw [if_pos (by decide +kernel)]; kernel_rfl) | (rw [if_neg (by decide +kernel)]; exact ⟨rfl, rfl⟩))
    (fun os started H enc _ => lifted os started H enc)
theorem row_tie : Rows.marksTellsRow.laidByTextAt .later Tryd.pinned [.data] true := marksTells_row_tie
/-- The given statement: the card. -/
theorem proved : Rows.MarksTellsCardSaid :=
  Claim7.holds_tied_plain_at .later [] [.data] true Rows.marksTellsCard.stood.harness false
    over (fun _ h => by cases h) (by kernel_rfl) (fun _ h => by cases h) row_tie rfl ⟨rfl, rfl⟩ (by kernel_rfl) rfl
    (fun f fn hf hfn => by
      obtain rfl : f = 3 := Option.some.inj ((show Tryd.prog.funcNamed Rows.marksTellsRow.func = some 3 by kernel_rfl).symm.trans hf) |>.symm
      obtain rfl : fn = Tryd.f3 := (Option.some.inj (Tryd.func3.symm.trans hfn)).symm
      exact ⟨by kernel_rfl, fun j t ht => by
        rw [Tryd.params3] at ht
        have hm : t ∈ [24, 22] := by simpa using Array.mem_of_getElem? ht
        have hall : ([24, 22].all fun u => !Tryd.prog.wantsStandIn u) = true := by kernel_rfl
        exact (show Tryd.prog.wantsStandIn t = false by simpa using List.all_eq_true.1 hall t hm)⟩)
    (by kernel_rfl)
end marksTells

end Go.Proofs.YtijkagfppeeegaaDoor
