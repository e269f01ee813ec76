/- MarksSets: good marks with a number more, with all up to one, and two together: the law answers true for all marks and numbers. -/
import Derived.Test.YtijkagfppeeegaaDoorMrov
import Derived.Test.YtijkagfppeeegaaDoorTri
import Derived.Test.YtijkagfppeeegaaDoorMtie
import Derived.Test.YtijkagfppeeegaaDoorCards
import Derived.Test.YtijkagfppeeegaaDoorTie
import Derived.BigRegion
import Derived.Deep.DeepCutAuto
import Derived.Deep.CutBlock
namespace Go.Proofs.YtijkagfppeeegaaDoor
open Go.RowKit

theorem sets_early (La Ba Lb Bb n : Nat) (w : World) (hLa : La < 18446744073709551616) (hBa : Ba < 18446744073709551616) (hLb : Lb < 18446744073709551616) (hBb : Bb < 18446744073709551616) (hT : Tab w) (h : gdB La Ba = false ∨ gdB Lb Bb = false) :
    Calls Tryd.prog 4 #[.agg #[.int .u64 (La : Int), .int .u64 (Ba : Int)], .agg #[.int .u64 (Lb : Int), .int .u64 (Bb : Int)], .int .u64 (n : Int)] w fun e w' => e = .returned (.bool true) ∧ Below w.heap.size w w' := by
  have hga := fun W h => good_any La Ba W hLa hBa h
  have hgb := fun W h => good_any Lb Bb W hLb hBb h
  obtain ⟨W, hW, hWs, r0, r1, hwW⟩ := boxes2 w #[.int .u64 (La : Int), .int .u64 (Ba : Int)] #[.int .u64 (Lb : Int), .int .u64 (Bb : Int)] 24 24
  cases hb : gdB La Ba
  · rw [hb] at hga
    go_enter Tryd.func4, Tryd.ntmps4
    go_wp2_with fail
    rw [← hW]
    refine (hga _ (hT.below hwW)).mono ?_
    rintro e w1 ⟨rfl, hb1⟩
    have hz := hwW.trans (hb1.mono hwW.size)
    go_wp2_with fail
    refine (lives4 _ (hT.below hz)).mono ?_
    rintro e w2 ⟨rfl, hb2⟩
    go_wp2
    go_ret
    exact ⟨rfl, hz.trans (hb2.mono hz.size)⟩
  · rw [hb] at hga
    have h2 : gdB Lb Bb = false := by
      rcases h with h | h
      · rw [hb] at h; cases h
      · exact h
    rw [h2] at hgb
    go_enter Tryd.func4, Tryd.ntmps4
    go_wp2_with fail
    rw [← hW]
    refine (hga _ (hT.below hwW)).mono ?_
    rintro e w1 ⟨rfl, hb1⟩
    have hz := hwW.trans (hb1.mono hwW.size)
    have k2 := cellz (j := 0) (u := .int .u64 (Lb : Int)) hb1 r1 rfl
    have k3 := cellz (j := 1) (u := .int .u64 (Bb : Int)) hb1 r1 rfl
    go_wp2_with fail
    refine (hgb _ (hT.below hz)).mono ?_
    rintro e w3 ⟨rfl, hb3⟩
    have hz3 := hz.trans (hb3.mono hz.size)
    go_wp2_with fail
    refine (lives4 _ (hT.below hz3)).mono ?_
    rintro e w2 ⟨rfl, hb2⟩
    go_wp2
    go_ret
    exact ⟨rfl, hz3.trans (hb2.mono hz3.size)⟩

/-- What Set tells. -/
def ssres (L B n : Nat) : (Nat × Nat) × Nat := if Room L n then (mset L B n, 0) else ((L, B), 30)
theorem sset_any (L B n : Nat) (w : World) (hL : L ≤ 4611686018427387840) (hB : B < 18446744073709551616) (hn : n < 18446744073709551616) (hT : Tab w) :
    Calls Tryd.prog 21 #[.agg #[.int .u64 (L : Int), .int .u64 (B : Int)], .int .u64 (n : Int)] w fun e w' => e = .returned (.tuple #[.agg #[.int .u64 ((ssres L B n).1.1 : Int), .int .u64 ((ssres L B n).1.2 : Int)], .int .i64 ((ssres L B n).2 : Int)]) ∧ Below w.heap.size w w' := by
  unfold ssres
  by_cases hr : Room L n
  · rw [if_pos hr]; exact set_ok L B n w hL hB hT hr
  · rw [if_neg hr]; exact set_no L B n w hL hn hr
theorem rset_any (L B n : Nat) (w : World) (hB : B < 18446744073709551616) (hg : Gd L B) (hn : n < 18446744073709551616) :
    Calls Tryd.prog 22 #[.agg #[.int .u64 (L : Int), .int .u64 (B : Int)], .int .u64 (n : Int)] w fun e w' => e = .returned (.tuple #[.agg #[.int .u64 ((ssres L B n).1.1 : Int), .int .u64 ((ssres L B n).1.2 : Int)], .int .i64 ((ssres L B n).2 : Int)]) ∧ Below w.heap.size w w' := by
  unfold ssres
  by_cases hr : Room L n
  · rw [if_pos hr]; exact rset_ok L B n w hB hg hr
  · rw [if_neg hr]; exact rset_no L B n w hg.1 hn hr
theorem ssres_lt (L B n : Nat) (hB : B < 18446744073709551616) : (ssres L B n).1.2 < 18446744073709551616 := by
  unfold ssres
  by_cases hr : Room L n
  · rw [if_pos hr]; exact mset_lt L B n hB hr
  · rw [if_neg hr]; exact hB
theorem ssres_gd (L B n : Nat) (hB : B < 18446744073709551616) (hg : Gd L B) : Gd (ssres L B n).1.1 (ssres L B n).1.2 := by
  unfold ssres
  by_cases hr : Room L n
  · rw [if_pos hr]; exact mset_gd L B n hB hr hg
  · rw [if_neg hr]; exact hg
theorem good_yes (L B : Nat) (w : World) (hB : B < 18446744073709551616) (hg : Gd L B) (hT : Tab w) :
    Calls Tryd.prog 7 #[.agg #[.int .u64 (L : Int), .int .u64 (B : Int)]] w fun e w' => e = .returned (.bool true) ∧ Below w.heap.size w w' := by
  have h := good_any L B w (by have := hg.1; omega) hB hT
  rw [(gdB_iff L B).2 hg] at h
  exact h

set_option maxHeartbeats 4000000 in
theorem sets_late (La Ba Lb Bb n : Nat) (w : World) (hBa : Ba < 18446744073709551616) (hBb : Bb < 18446744073709551616) (hn : n < 18446744073709551616) (hT : Tab w) (hga : Gd La Ba) (hgb : Gd Lb Bb) :
    Calls Tryd.prog 4 #[.agg #[.int .u64 (La : Int), .int .u64 (Ba : Int)], .agg #[.int .u64 (Lb : Int), .int .u64 (Bb : Int)], .int .u64 (n : Int)] w fun e w' => e = .returned (.bool true) ∧ Below w.heap.size w w' := by
  have hgA := fun W h => good_yes La Ba W hBa hga h
  have hgB := fun W h => good_yes Lb Bb W hBb hgb h
  have hS := fun W h => sset_any La Ba n W hga.1 hBa hn h
  have hRS := fun W => rset_any La Ba n W hBa hga hn
  have hO := fun W h => over_any La Ba n W hga.1 hBa hn h
  have hRO := fun W => rover_any La Ba n W hBa hga hn
  have hJ := fun W h => join_any La Ba Lb Bb W hga.1 hBa hgb.1 hBb h
  have hRJ := fun W => rjoin_any La Ba Lb Bb W hBa hBb hga hgb
  have hG1 := fun W h => good_yes (ssres La Ba n).1.1 (ssres La Ba n).1.2 W (ssres_lt La Ba n hBa) (ssres_gd La Ba n hBa hga) h
  have hG2 := fun W h => good_yes (mover La Ba n).1 (mover La Ba n).2 W (mover_lt La Ba n hBa) (mover_gd La Ba n hBa hga) h
  have hG3 := fun W h => good_yes (mjoin La Ba Lb Bb).1 (mjoin La Ba Lb Bb).2 W (mjoin_lt La Ba Lb Bb hBa hBb) (mjoin_gd La Ba Lb Bb hBa hBb hga hgb) h
  clear hga hgb
  generalize ssres La Ba n = s at *
  generalize mover La Ba n = o at *
  generalize mjoin La Ba Lb Bb = j at *
  obtain ⟨⟨p1, p2⟩, ea⟩ := s
  obtain ⟨o1, o2⟩ := o
  obtain ⟨j1, j2⟩ := j
  simp only at hS hRS hO hRO hJ hRJ hG1 hG2 hG3
  have q1 : ((p1 : Int) == (p1 : Int)) = true := beq_self_eq_true _
  have q2 : ((p2 : Int) == (p2 : Int)) = true := beq_self_eq_true _
  have q3 : ((o1 : Int) == (o1 : Int)) = true := beq_self_eq_true _
  have q4 : ((o2 : Int) == (o2 : Int)) = true := beq_self_eq_true _
  have q5 : ((j1 : Int) == (j1 : Int)) = true := beq_self_eq_true _
  have q6 : ((j2 : Int) == (j2 : Int)) = true := beq_self_eq_true _
  have q7 : ((ea : Int) == (ea : Int)) = true := beq_self_eq_true _
  obtain ⟨W, hW, hWs, r0, r1, hwW⟩ := boxes2 w #[.int .u64 (La : Int), .int .u64 (Ba : Int)] #[.int .u64 (Lb : Int), .int .u64 (Bb : Int)] 24 24
  clear hBa hBb hn
  go_enter Tryd.func4, Tryd.ntmps4
  go_wp2_with fail
  rw [← hW]
  refine (hgA _ (hT.below hwW)).mono ?_
  rintro e w1 ⟨rfl, hb1⟩
  have hz1 := hwW.trans (hb1.mono hwW.size)
  have r0 := (hb1.block _ (by omega)).trans r0
  have r1 := (hb1.block _ (by omega)).trans r1
  have k2 := cell_of_row w1 _ 0 _ _ _ r1
  have k3 := cell_of_row w1 _ 1 _ _ _ r1
  simp at k2 k3
  clear hb1 hwW hW hWs
  go_wp2_with fail
  refine (hgB _ (hT.below hz1)).mono ?_
  rintro e w2 ⟨rfl, hb2⟩
  have hz2 := Lib.hid (hz1.trans (hb2.mono hz1.size))
  have r0 := (hb2.block _ (Array.getElem?_eq_some_iff.1 r0).1).trans r0
  have r1 := (hb2.block _ (Array.getElem?_eq_some_iff.1 r1).1).trans r1
  clear k2 k3 hb2 hz1
  have k0 := cell_of_row w2 _ 0 _ _ _ r0
  have k1 := cell_of_row w2 _ 1 _ _ _ r0
  have k2 := cell_of_row w2 _ 0 _ _ _ r1
  have k3 := cell_of_row w2 _ 1 _ _ _ r1
  simp at k0 k1 k2 k3
  have hA3 : w.heap.size < w2.heap.size := (Array.getElem?_eq_some_iff.1 r0).1
  have hA4 : w.heap.size + 1 < w2.heap.size := (Array.getElem?_eq_some_iff.1 r1).1
  go_wp2_with fail
  go_cut [7, 8] (fun u v wx => ∃ g h, u = .pointer (some ⟨g, 0, none⟩) ∧ v = .pointer (some ⟨h, 0, none⟩) ∧ Hid (wx.heap[g]? = some (.cells #[.int .u64 (La : Int), .int .u64 (Ba : Int)] 25 (0, 0)) ∧ wx.heap[h]? = some (.cells #[.int .u64 (Lb : Int), .int .u64 (Bb : Int)] 25 (0, 0)) ∧ Below w2.heap.size w2 wx))
  case first =>
    go_big_region
    all_goals
      go_wp2_with (fail)
      go_meet
      case rel =>
        refine ⟨_, _, rfl, rfl, Lib.hid ⟨?_, ?_, ?_⟩⟩
        · first | (refine row_here _ _ ?_; simp; done) | (refine row_old _ (row_here _ _ ?_); simp; done)
        · first | (refine row_here _ _ ?_; simp; done) | (refine row_old _ (row_here _ _ ?_); simp; done)
        · exact (((Below.refl _ _).alloc (Nat.le_refl _) _).alloc (by simp) _).drew
  case rest =>
    obtain ⟨g7, g8, rfl, rfl, HX⟩ := hcut
    generalize wc = Z at *
    obtain ⟨r7, r8, hbZ⟩ := HX.out
    have r0 := (hbZ.block _ hA3).trans r0
    have r1 := (hbZ.block _ hA4).trans r1
    have hz3 := Lib.hid (hz2.out.trans (hbZ.mono hz2.out.size))
    clear k0 k1 k2 k3 hA3 hA4 HX hbZ hz2
    have k0 := cell_of_row Z _ 0 _ _ _ r0
    have k1 := cell_of_row Z _ 1 _ _ _ r0
    simp at k0 k1
    go_wp2_with fail
    refine (hS _ (hT.below hz3.out)).mono ?_
    rintro e w4 ⟨rfl, hb4⟩
    have r0 := (hb4.block _ (Array.getElem?_eq_some_iff.1 r0).1).trans r0
    have r1 := (hb4.block _ (Array.getElem?_eq_some_iff.1 r1).1).trans r1
    have r7 := (hb4.block _ (Array.getElem?_eq_some_iff.1 r7).1).trans r7
    have r8 := (hb4.block _ (Array.getElem?_eq_some_iff.1 r8).1).trans r8
    have hz4 := Lib.hid (hz3.out.trans (hb4.mono hz3.out.size))
    clear k0 k1 hb4 hz3
    obtain ⟨V, hV⟩ : ∃ V, V = w4.alloc (.cells #[.int .u64 (p1 : Int), .int .u64 (p2 : Int)] 24) := ⟨_, rfl⟩
    have r9 : V.heap[w4.heap.size]? = some (.cells #[.int .u64 (p1 : Int), .int .u64 (p2 : Int)] 24 (0, 0)) := by rw [hV]; exact row_here _ _ rfl
    have y0 := cell_of_row w4 _ 0 _ _ _ r7
    have y1 := cell_of_row w4 _ 1 _ _ _ r7
    simp at y0 y1
    have hl7 : g7 < w4.heap.size := (Array.getElem?_eq_some_iff.1 r7).1
    have hn7 : g7 ≠ w4.heap.size := Nat.ne_of_lt hl7
    have r0 := row_new hV r0
    have r1 := row_new hV r1
    have r7 := row_new hV r7
    have r8 := row_new hV r8
    have hzV := Lib.hid (hz4.out.trans (show Below w.heap.size w4 V by rw [hV]; exact ((Below.refl _ _).alloc (Nat.le_refl _) _).mono hz4.out.size))
    go_wp2_with fail
    rw [← hV]
    clear y0 y1 hz4 hl7 hn7
    refine (hRS _).mono ?_
    rintro e w5 ⟨rfl, hb5⟩
    have r0 := (hb5.block _ (Array.getElem?_eq_some_iff.1 r0).1).trans r0
    have r1 := (hb5.block _ (Array.getElem?_eq_some_iff.1 r1).1).trans r1
    have r7 := (hb5.block _ (Array.getElem?_eq_some_iff.1 r7).1).trans r7
    have r8 := (hb5.block _ (Array.getElem?_eq_some_iff.1 r8).1).trans r8
    have r9 := (hb5.block _ (Array.getElem?_eq_some_iff.1 r9).1).trans r9
    generalize w4.heap.size = g9 at *
    have hz5 := Lib.hid (hzV.out.trans (hb5.mono hzV.out.size))
    clear hb5 hV hzV
    obtain ⟨Y, hY⟩ : ∃ Y, Y = w5.alloc (.cells #[.int .u64 (p1 : Int), .int .u64 (p2 : Int)] 25) := ⟨_, rfl⟩
    have rA := row_new hY r0
    have rB := row_new hY r1
    have r7 := row_new hY r7
    have r8 := row_new hY r8
    have r9 := row_new hY r9
    have r11 : Y.heap[w5.heap.size]? = some (.cells #[.int .u64 (p1 : Int), .int .u64 (p2 : Int)] 25 (0, 0)) := by rw [hY]; exact row_here _ _ rfl
    have hz5 := Lib.hid (hz5.out.trans (show Below w.heap.size w5 Y by rw [hY]; exact ((Below.refl _ _).alloc (Nat.le_refl _) _).mono hz5.out.size))
    have hTY := hT.below hz5.out
    have hA3 : w.heap.size < Y.heap.size := (Array.getElem?_eq_some_iff.1 rA).1
    have hA4 : w.heap.size + 1 < Y.heap.size := (Array.getElem?_eq_some_iff.1 rB).1
    have hL7 : g7 < Y.heap.size := (Array.getElem?_eq_some_iff.1 r7).1
    have hL8 : g8 < Y.heap.size := (Array.getElem?_eq_some_iff.1 r8).1
    have hL9 : g9 < Y.heap.size := (Array.getElem?_eq_some_iff.1 r9).1
    have hL11 : w5.heap.size < Y.heap.size := (Array.getElem?_eq_some_iff.1 r11).1
    clear r0 r1
    go_wp2_with fail
    rw [← hY]
    clear hY
    generalize w5.heap.size = g11 at *
    go_cut [13, 14] (fun u v wx => ∃ g h, u = .pointer (some ⟨g, 0, none⟩) ∧ v = .pointer (some ⟨h, 0, none⟩) ∧ Hid (wx.heap[g]? = some (.cells #[.int .u64 (o1 : Int), .int .u64 (o2 : Int)] 24 (0, 0))) ∧ Hid (wx.heap[h]? = some (.cells #[.int .u64 (j1 : Int), .int .u64 (j2 : Int)] 24 (0, 0))) ∧ Hid (Below Y.heap.size Y wx))
    case first =>
      clear hgA hgB hS hRS hRO hRJ hG1 hG2 hG3 q1 q2 q3 q4 q5 q6 q7 r7 r8 r9 r11 hL7 hL8 hL9 hL11 hT hz5
      refine wp_tri Y.heap.size (.three [0, 1, 3, 4] 2 6 7 (.three [] 5 6 7 (.two [] 6 7 (.one [] 7 (.one [] 8 (.one [] 9 (.fin [])))) (.one [] 6 (.one [] 8 (.one [] 9 (.fin []))))) (.two [] 5 7 (.one [] 7 (.one [] 8 (.one [] 9 (.fin [])))) (.one [] 5 (.one [] 8 (.one [] 9 (.fin []))))) (.two [] 5 6 (.one [] 6 (.one [] 8 (.one [] 9 (.fin [])))) (.one [] 5 (.one [] 8 (.one [] 9 (.fin [])))))) (.two [] 2 7 (.two [] 5 7 (.one [] 7 (.one [] 8 (.one [] 9 (.fin [])))) (.one [] 5 (.one [] 8 (.one [] 9 (.fin []))))) (.one [] 2 (.one [] 5 (.one [] 8 (.one [] 9 (.fin [])))))) (.two [] 2 6 (.two [] 5 6 (.one [] 6 (.one [] 8 (.one [] 9 (.fin [])))) (.one [] 5 (.one [] 8 (.one [] 9 (.fin []))))) (.one [] 2 (.one [] 5 (.one [] 8 (.one [] 9 (.fin []))))))) (by kernel_rfl) (by kernel_rfl) (fun d _ _ _ _ h => by cases d <;> exact h) fun wd hbd => ?_
      intro q hq
      have d0 := fun z => cellz (j := 0) (hq z) rA rfl hA3
      have d1 := fun z => cellz (j := 1) (hq z) rA rfl hA3
      have d2 := fun z => cellz (j := 0) (hq z) rB rfl hA4
      have d3 := fun z => cellz (j := 1) (hq z) rB rfl hA4
      simp only [pickI, Option.toList_some, List.cons_append, List.nil_append, List.getElem?_toArray, List.getElem?_cons_succ, List.getElem?_cons_zero]
      repeat (go_big_quiet_step (fail))
      refine wpQuiet_nil ?_
      clear d0 d1 d2 d3 hq q
      refine ⟨?_, ?_, ?_⟩
      · skip
        refine seg_op (by simp only [List.getElem?_toArray, List.getElem?_cons_succ, List.getElem?_cons_zero]; rfl) fun K hK => ?_
        go_simp
        refine (hO _ (hTY.below hbd)).mono ?_
        rintro e v1 ⟨rfl, bv1⟩
        have zv1 := hbd.trans (bv1.mono hbd.size)
        refine hK.out _ _ ⟨zv1, ?_⟩
        clear hK K
        intro q hq
        refine wpQuiet_nil ?_
        clear hq q
        refine ⟨?_, ?_, ?_⟩
        · skip
          refine seg_op (by simp only [List.getElem?_toArray, List.getElem?_cons_succ, List.getElem?_cons_zero]; rfl) fun K hK => ?_
          go_simp
          refine (hJ _ (hTY.below zv1)).mono ?_
          rintro e v2 ⟨rfl, bv2⟩
          have zv2 := zv1.trans (bv2.mono zv1.size)
          refine hK.out _ _ ⟨zv2, ?_⟩
          clear hK K
          intro q hq
          refine wpQuiet_nil ?_
          clear hq q
          refine ⟨?_, ?_⟩
          · skip
            refine seg_op (by simp only [List.getElem?_toArray, List.getElem?_cons_succ, List.getElem?_cons_zero]; rfl) fun K hK => ?_
            go_simp
            obtain ⟨v3, hv3⟩ : ∃ v, v = v2.alloc (.cells #[.int .u64 0, .int .u64 0] 24) := ⟨_, rfl⟩
            rw [← hv3]
            have bv3 : Below v2.heap.size v2 v3 := by rw [hv3]; exact (Below.refl _ _).alloc (Nat.le_refl _) _
            have rv3_6 : v3.heap[v2.heap.size]? = some (.cells #[.int .u64 0, .int .u64 0] 24 (0, 0)) := by rw [hv3]; exact row_here _ _ rfl
            have gv3 : Y.heap.size ≤ v2.heap.size := zv2.size
            have zv3 := zv2.trans (bv3.mono zv2.size)
            refine hK.out _ _ ⟨zv3, ?_⟩
            clear hK K hv3
            intro q hq
            refine wpQuiet_nil ?_
            clear hq q
            refine seg_op (by simp only [List.getElem?_toArray, List.getElem?_cons_succ, List.getElem?_cons_zero]; rfl) fun K hK => ?_
            go_simp
            obtain ⟨v4, hv4⟩ : ∃ v, v = v3.alloc (.cells #[.int .u64 0, .int .u64 0] 24) := ⟨_, rfl⟩
            rw [← hv4]
            have bv4 : Below v3.heap.size v3 v4 := by rw [hv4]; exact (Below.refl _ _).alloc (Nat.le_refl _) _
            have rv4_7 : v4.heap[v3.heap.size]? = some (.cells #[.int .u64 0, .int .u64 0] 24 (0, 0)) := by rw [hv4]; exact row_here _ _ rfl
            have gv4 : Y.heap.size ≤ v3.heap.size := zv3.size
            have zv4 := zv3.trans (bv4.mono zv3.size)
            have nev4 : v2.heap.size ≠ v3.heap.size := Nat.ne_of_lt (Array.getElem?_eq_some_iff.1 rv3_6).1
            have rv4_6 := (bv4.block _ (Array.getElem?_eq_some_iff.1 rv3_6).1).trans rv3_6
            refine hK.out _ _ ⟨zv4, ?_⟩
            clear hK K hv4
            intro q hq
            refine wpQuiet_nil ?_
            clear hq q
            have e0 := cell_of_row v4 _ 0 _ _ _ rv4_6
            have e1 := cell_of_row v4 _ 1 _ _ _ rv4_6
            have f0 := frozen_of_row v4 _ 0 _ _ rv4_6
            have f1 := frozen_of_row v4 _ 1 _ _ rv4_6
            simp at e0 e1
            refine seg_op (by simp only [List.getElem?_toArray, List.getElem?_cons_succ, List.getElem?_cons_zero]; rfl) fun K hK => ?_
            go_simp
            clear e0 e1 f0 f1
            have zz := (zv4.setCell (p := ⟨v2.heap.size, 0, none⟩) gv3 (.int .u64 (o1 : Int))).setCell (p := ⟨v2.heap.size, 1, none⟩) gv3 (.int .u64 (o2 : Int))
            have rr := heap_setCell_same _ (v2.heap.size) 1 _ _ (.int .u64 (o2 : Int)) (heap_setCell_same v4 (v2.heap.size) 0 _ _ (.int .u64 (o1 : Int)) rv4_6)
            have ro := (heap_setCell_other (v4.setCell ⟨v2.heap.size, 0, none⟩ (.int .u64 (o1 : Int))) ⟨v2.heap.size, 1, none⟩ _ (.int .u64 (o2 : Int)) nev4.symm).trans ((heap_setCell_other v4 ⟨v2.heap.size, 0, none⟩ _ (.int .u64 (o1 : Int)) nev4.symm).trans rv4_7)
            refine hK.out _ _ ⟨zz, ?_⟩
            clear hK K
            generalize (v4.setCell ⟨v2.heap.size, 0, none⟩ (.int .u64 (o1 : Int))).setCell ⟨v2.heap.size, 1, none⟩ (.int .u64 (o2 : Int)) = v5 at zz rr ro ⊢
            have zv5 := zz
            have rv5_6 := rr
            have rv5_7 := ro
            clear zz rr ro
            intro q hq
            refine wpQuiet_nil ?_
            clear hq q
            have e0 := cell_of_row v5 _ 0 _ _ _ rv5_7
            have e1 := cell_of_row v5 _ 1 _ _ _ rv5_7
            have f0 := frozen_of_row v5 _ 0 _ _ rv5_7
            have f1 := frozen_of_row v5 _ 1 _ _ rv5_7
            simp at e0 e1
            refine seg_op (by simp only [List.getElem?_toArray, List.getElem?_cons_succ, List.getElem?_cons_zero]; rfl) fun K hK => ?_
            go_simp
            clear e0 e1 f0 f1
            have zz := (zv5.setCell (p := ⟨v3.heap.size, 0, none⟩) gv4 (.int .u64 (j1 : Int))).setCell (p := ⟨v3.heap.size, 1, none⟩) gv4 (.int .u64 (j2 : Int))
            have rr := heap_setCell_same _ (v3.heap.size) 1 _ _ (.int .u64 (j2 : Int)) (heap_setCell_same v5 (v3.heap.size) 0 _ _ (.int .u64 (j1 : Int)) rv5_7)
            have ro := (heap_setCell_other (v5.setCell ⟨v3.heap.size, 0, none⟩ (.int .u64 (j1 : Int))) ⟨v3.heap.size, 1, none⟩ _ (.int .u64 (j2 : Int)) nev4).trans ((heap_setCell_other v5 ⟨v3.heap.size, 0, none⟩ _ (.int .u64 (j1 : Int)) nev4).trans rv5_6)
            refine hK.out _ _ ⟨zz, ?_⟩
            clear hK K
            generalize (v5.setCell ⟨v3.heap.size, 0, none⟩ (.int .u64 (j1 : Int))).setCell ⟨v3.heap.size, 1, none⟩ (.int .u64 (j2 : Int)) = v6 at zz rr ro ⊢
            have zv6 := zz
            have rv6_7 := rr
            have rv6_6 := ro
            clear zz rr ro
            intro q hq
            refine wpQuiet_nil ?_
            clear hq q
            have R6 := Lib.hid rv6_6
            have R7 := Lib.hid rv6_7
            have ZZ := Lib.hid zv6
            clear rv6_6 rv6_7
            go_wp2_with (fail)
            go_meet
            case rel => exact ⟨_, _, rfl, rfl, R6, R7, ZZ⟩
          · skip
            refine seg_op (by simp only [List.getElem?_toArray, List.getElem?_cons_succ, List.getElem?_cons_zero]; rfl) fun K hK => ?_
            go_simp
            obtain ⟨v7, hv7⟩ : ∃ v, v = v2.alloc (.cells #[.int .u64 0, .int .u64 0] 24) := ⟨_, rfl⟩
            rw [← hv7]
            have bv7 : Below v2.heap.size v2 v7 := by rw [hv7]; exact (Below.refl _ _).alloc (Nat.le_refl _) _
            have rv7_7 : v7.heap[v2.heap.size]? = some (.cells #[.int .u64 0, .int .u64 0] 24 (0, 0)) := by rw [hv7]; exact row_here _ _ rfl
            have gv7 : Y.heap.size ≤ v2.heap.size := zv2.size
            have zv7 := zv2.trans (bv7.mono zv2.size)
            refine hK.out _ _ ⟨zv7, ?_⟩
            clear hK K hv7
            intro q hq
            refine wpQuiet_nil ?_
            clear hq q
            refine seg_op (by simp only [List.getElem?_toArray, List.getElem?_cons_succ, List.getElem?_cons_zero]; rfl) fun K hK => ?_
            go_simp
            obtain ⟨v8, hv8⟩ : ∃ v, v = v7.alloc (.cells #[.int .u64 0, .int .u64 0] 24) := ⟨_, rfl⟩
            rw [← hv8]
            have bv8 : Below v7.heap.size v7 v8 := by rw [hv8]; exact (Below.refl _ _).alloc (Nat.le_refl _) _
            have rv8_6 : v8.heap[v7.heap.size]? = some (.cells #[.int .u64 0, .int .u64 0] 24 (0, 0)) := by rw [hv8]; exact row_here _ _ rfl
            have gv8 : Y.heap.size ≤ v7.heap.size := zv7.size
            have zv8 := zv7.trans (bv8.mono zv7.size)
            have nev8 : v2.heap.size ≠ v7.heap.size := Nat.ne_of_lt (Array.getElem?_eq_some_iff.1 rv7_7).1
            have rv8_7 := (bv8.block _ (Array.getElem?_eq_some_iff.1 rv7_7).1).trans rv7_7
            refine hK.out _ _ ⟨zv8, ?_⟩
            clear hK K hv8
            intro q hq
            refine wpQuiet_nil ?_
            clear hq q
            have e0 := cell_of_row v8 _ 0 _ _ _ rv8_6
            have e1 := cell_of_row v8 _ 1 _ _ _ rv8_6
            have f0 := frozen_of_row v8 _ 0 _ _ rv8_6
            have f1 := frozen_of_row v8 _ 1 _ _ rv8_6
            simp at e0 e1
            refine seg_op (by simp only [List.getElem?_toArray, List.getElem?_cons_succ, List.getElem?_cons_zero]; rfl) fun K hK => ?_
            go_simp
            clear e0 e1 f0 f1
            have zz := (zv8.setCell (p := ⟨v7.heap.size, 0, none⟩) gv8 (.int .u64 (o1 : Int))).setCell (p := ⟨v7.heap.size, 1, none⟩) gv8 (.int .u64 (o2 : Int))
            have rr := heap_setCell_same _ (v7.heap.size) 1 _ _ (.int .u64 (o2 : Int)) (heap_setCell_same v8 (v7.heap.size) 0 _ _ (.int .u64 (o1 : Int)) rv8_6)
            have ro := (heap_setCell_other (v8.setCell ⟨v7.heap.size, 0, none⟩ (.int .u64 (o1 : Int))) ⟨v7.heap.size, 1, none⟩ _ (.int .u64 (o2 : Int)) nev8).trans ((heap_setCell_other v8 ⟨v7.heap.size, 0, none⟩ _ (.int .u64 (o1 : Int)) nev8).trans rv8_7)
            refine hK.out _ _ ⟨zz, ?_⟩
            clear hK K
            generalize (v8.setCell ⟨v7.heap.size, 0, none⟩ (.int .u64 (o1 : Int))).setCell ⟨v7.heap.size, 1, none⟩ (.int .u64 (o2 : Int)) = v9 at zz rr ro ⊢
            have zv9 := zz
            have rv9_6 := rr
            have rv9_7 := ro
            clear zz rr ro
            intro q hq
            refine wpQuiet_nil ?_
            clear hq q
            have e0 := cell_of_row v9 _ 0 _ _ _ rv9_7
            have e1 := cell_of_row v9 _ 1 _ _ _ rv9_7
            have f0 := frozen_of_row v9 _ 0 _ _ rv9_7
            have f1 := frozen_of_row v9 _ 1 _ _ rv9_7
            simp at e0 e1
            refine seg_op (by simp only [List.getElem?_toArray, List.getElem?_cons_succ, List.getElem?_cons_zero]; rfl) fun K hK => ?_
            go_simp
            clear e0 e1 f0 f1
            have zz := (zv9.setCell (p := ⟨v2.heap.size, 0, none⟩) gv7 (.int .u64 (j1 : Int))).setCell (p := ⟨v2.heap.size, 1, none⟩) gv7 (.int .u64 (j2 : Int))
            have rr := heap_setCell_same _ (v2.heap.size) 1 _ _ (.int .u64 (j2 : Int)) (heap_setCell_same v9 (v2.heap.size) 0 _ _ (.int .u64 (j1 : Int)) rv9_7)
            have ro := (heap_setCell_other (v9.setCell ⟨v2.heap.size, 0, none⟩ (.int .u64 (j1 : Int))) ⟨v2.heap.size, 1, none⟩ _ (.int .u64 (j2 : Int)) nev8.symm).trans ((heap_setCell_other v9 ⟨v2.heap.size, 0, none⟩ _ (.int .u64 (j1 : Int)) nev8.symm).trans rv9_6)
            refine hK.out _ _ ⟨zz, ?_⟩
            clear hK K
            generalize (v9.setCell ⟨v2.heap.size, 0, none⟩ (.int .u64 (j1 : Int))).setCell ⟨v2.heap.size, 1, none⟩ (.int .u64 (j2 : Int)) = v10 at zz rr ro ⊢
            have zv10 := zz
            have rv10_7 := rr
            have rv10_6 := ro
            clear zz rr ro
            intro q hq
            refine wpQuiet_nil ?_
            clear hq q
            have R6 := Lib.hid rv10_6
            have R7 := Lib.hid rv10_7
            have ZZ := Lib.hid zv10
            clear rv10_6 rv10_7
            go_wp2_with (fail)
            go_meet
            case rel => exact ⟨_, _, rfl, rfl, R6, R7, ZZ⟩
        · skip
          refine seg_op (by simp only [List.getElem?_toArray, List.getElem?_cons_succ, List.getElem?_cons_zero]; rfl) fun K hK => ?_
          go_simp
          obtain ⟨v11, hv11⟩ : ∃ v, v = v1.alloc (.cells #[.int .u64 0, .int .u64 0] 24) := ⟨_, rfl⟩
          rw [← hv11]
          have bv11 : Below v1.heap.size v1 v11 := by rw [hv11]; exact (Below.refl _ _).alloc (Nat.le_refl _) _
          have rv11_6 : v11.heap[v1.heap.size]? = some (.cells #[.int .u64 0, .int .u64 0] 24 (0, 0)) := by rw [hv11]; exact row_here _ _ rfl
          have gv11 : Y.heap.size ≤ v1.heap.size := zv1.size
          have zv11 := zv1.trans (bv11.mono zv1.size)
          refine hK.out _ _ ⟨zv11, ?_⟩
          clear hK K hv11
          intro q hq
          refine wpQuiet_nil ?_
          clear hq q
          refine ⟨?_, ?_⟩
          · skip
            refine seg_op (by simp only [List.getElem?_toArray, List.getElem?_cons_succ, List.getElem?_cons_zero]; rfl) fun K hK => ?_
            go_simp
            refine (hJ _ (hTY.below zv11)).mono ?_
            rintro e v12 ⟨rfl, bv12⟩
            have zv12 := zv11.trans (bv12.mono zv11.size)
            have rv12_6 := (bv12.block _ (Array.getElem?_eq_some_iff.1 rv11_6).1).trans rv11_6
            refine hK.out _ _ ⟨zv12, ?_⟩
            clear hK K
            intro q hq
            refine wpQuiet_nil ?_
            clear hq q
            refine seg_op (by simp only [List.getElem?_toArray, List.getElem?_cons_succ, List.getElem?_cons_zero]; rfl) fun K hK => ?_
            go_simp
            obtain ⟨v13, hv13⟩ : ∃ v, v = v12.alloc (.cells #[.int .u64 0, .int .u64 0] 24) := ⟨_, rfl⟩
            rw [← hv13]
            have bv13 : Below v12.heap.size v12 v13 := by rw [hv13]; exact (Below.refl _ _).alloc (Nat.le_refl _) _
            have rv13_7 : v13.heap[v12.heap.size]? = some (.cells #[.int .u64 0, .int .u64 0] 24 (0, 0)) := by rw [hv13]; exact row_here _ _ rfl
            have gv13 : Y.heap.size ≤ v12.heap.size := zv12.size
            have zv13 := zv12.trans (bv13.mono zv12.size)
            have nev13 : v1.heap.size ≠ v12.heap.size := Nat.ne_of_lt (Array.getElem?_eq_some_iff.1 rv12_6).1
            have rv13_6 := (bv13.block _ (Array.getElem?_eq_some_iff.1 rv12_6).1).trans rv12_6
            refine hK.out _ _ ⟨zv13, ?_⟩
            clear hK K hv13
            intro q hq
            refine wpQuiet_nil ?_
            clear hq q
            have e0 := cell_of_row v13 _ 0 _ _ _ rv13_6
            have e1 := cell_of_row v13 _ 1 _ _ _ rv13_6
            have f0 := frozen_of_row v13 _ 0 _ _ rv13_6
            have f1 := frozen_of_row v13 _ 1 _ _ rv13_6
            simp at e0 e1
            refine seg_op (by simp only [List.getElem?_toArray, List.getElem?_cons_succ, List.getElem?_cons_zero]; rfl) fun K hK => ?_
            go_simp
            clear e0 e1 f0 f1
            have zz := (zv13.setCell (p := ⟨v1.heap.size, 0, none⟩) gv11 (.int .u64 (o1 : Int))).setCell (p := ⟨v1.heap.size, 1, none⟩) gv11 (.int .u64 (o2 : Int))
            have rr := heap_setCell_same _ (v1.heap.size) 1 _ _ (.int .u64 (o2 : Int)) (heap_setCell_same v13 (v1.heap.size) 0 _ _ (.int .u64 (o1 : Int)) rv13_6)
            have ro := (heap_setCell_other (v13.setCell ⟨v1.heap.size, 0, none⟩ (.int .u64 (o1 : Int))) ⟨v1.heap.size, 1, none⟩ _ (.int .u64 (o2 : Int)) nev13.symm).trans ((heap_setCell_other v13 ⟨v1.heap.size, 0, none⟩ _ (.int .u64 (o1 : Int)) nev13.symm).trans rv13_7)
            refine hK.out _ _ ⟨zz, ?_⟩
            clear hK K
            generalize (v13.setCell ⟨v1.heap.size, 0, none⟩ (.int .u64 (o1 : Int))).setCell ⟨v1.heap.size, 1, none⟩ (.int .u64 (o2 : Int)) = v14 at zz rr ro ⊢
            have zv14 := zz
            have rv14_6 := rr
            have rv14_7 := ro
            clear zz rr ro
            intro q hq
            refine wpQuiet_nil ?_
            clear hq q
            have e0 := cell_of_row v14 _ 0 _ _ _ rv14_7
            have e1 := cell_of_row v14 _ 1 _ _ _ rv14_7
            have f0 := frozen_of_row v14 _ 0 _ _ rv14_7
            have f1 := frozen_of_row v14 _ 1 _ _ rv14_7
            simp at e0 e1
            refine seg_op (by simp only [List.getElem?_toArray, List.getElem?_cons_succ, List.getElem?_cons_zero]; rfl) fun K hK => ?_
            go_simp
            clear e0 e1 f0 f1
            have zz := (zv14.setCell (p := ⟨v12.heap.size, 0, none⟩) gv13 (.int .u64 (j1 : Int))).setCell (p := ⟨v12.heap.size, 1, none⟩) gv13 (.int .u64 (j2 : Int))
            have rr := heap_setCell_same _ (v12.heap.size) 1 _ _ (.int .u64 (j2 : Int)) (heap_setCell_same v14 (v12.heap.size) 0 _ _ (.int .u64 (j1 : Int)) rv14_7)
            have ro := (heap_setCell_other (v14.setCell ⟨v12.heap.size, 0, none⟩ (.int .u64 (j1 : Int))) ⟨v12.heap.size, 1, none⟩ _ (.int .u64 (j2 : Int)) nev13).trans ((heap_setCell_other v14 ⟨v12.heap.size, 0, none⟩ _ (.int .u64 (j1 : Int)) nev13).trans rv14_6)
            refine hK.out _ _ ⟨zz, ?_⟩
            clear hK K
            generalize (v14.setCell ⟨v12.heap.size, 0, none⟩ (.int .u64 (j1 : Int))).setCell ⟨v12.heap.size, 1, none⟩ (.int .u64 (j2 : Int)) = v15 at zz rr ro ⊢
            have zv15 := zz
            have rv15_7 := rr
            have rv15_6 := ro
            clear zz rr ro
            intro q hq
            refine wpQuiet_nil ?_
            clear hq q
            have R6 := Lib.hid rv15_6
            have R7 := Lib.hid rv15_7
            have ZZ := Lib.hid zv15
            clear rv15_6 rv15_7
            go_wp2_with (fail)
            go_meet
            case rel => exact ⟨_, _, rfl, rfl, R6, R7, ZZ⟩
          · skip
            refine seg_op (by simp only [List.getElem?_toArray, List.getElem?_cons_succ, List.getElem?_cons_zero]; rfl) fun K hK => ?_
            go_simp
            obtain ⟨v16, hv16⟩ : ∃ v, v = v11.alloc (.cells #[.int .u64 0, .int .u64 0] 24) := ⟨_, rfl⟩
            rw [← hv16]
            have bv16 : Below v11.heap.size v11 v16 := by rw [hv16]; exact (Below.refl _ _).alloc (Nat.le_refl _) _
            have rv16_7 : v16.heap[v11.heap.size]? = some (.cells #[.int .u64 0, .int .u64 0] 24 (0, 0)) := by rw [hv16]; exact row_here _ _ rfl
            have gv16 : Y.heap.size ≤ v11.heap.size := zv11.size
            have zv16 := zv11.trans (bv16.mono zv11.size)
            have nev16 : v1.heap.size ≠ v11.heap.size := Nat.ne_of_lt (Array.getElem?_eq_some_iff.1 rv11_6).1
            have rv16_6 := (bv16.block _ (Array.getElem?_eq_some_iff.1 rv11_6).1).trans rv11_6
            refine hK.out _ _ ⟨zv16, ?_⟩
            clear hK K hv16
            intro q hq
            refine wpQuiet_nil ?_
            clear hq q
            refine seg_op (by simp only [List.getElem?_toArray, List.getElem?_cons_succ, List.getElem?_cons_zero]; rfl) fun K hK => ?_
            go_simp
            refine (hJ _ (hTY.below zv16)).mono ?_
            rintro e v17 ⟨rfl, bv17⟩
            have zv17 := zv16.trans (bv17.mono zv16.size)
            have rv17_6 := (bv17.block _ (Array.getElem?_eq_some_iff.1 rv16_6).1).trans rv16_6
            have rv17_7 := (bv17.block _ (Array.getElem?_eq_some_iff.1 rv16_7).1).trans rv16_7
            refine hK.out _ _ ⟨zv17, ?_⟩
            clear hK K
            intro q hq
            refine wpQuiet_nil ?_
            clear hq q
            have e0 := cell_of_row v17 _ 0 _ _ _ rv17_6
            have e1 := cell_of_row v17 _ 1 _ _ _ rv17_6
            have f0 := frozen_of_row v17 _ 0 _ _ rv17_6
            have f1 := frozen_of_row v17 _ 1 _ _ rv17_6
            simp at e0 e1
            refine seg_op (by simp only [List.getElem?_toArray, List.getElem?_cons_succ, List.getElem?_cons_zero]; rfl) fun K hK => ?_
            go_simp
            clear e0 e1 f0 f1
            have zz := (zv17.setCell (p := ⟨v1.heap.size, 0, none⟩) gv11 (.int .u64 (o1 : Int))).setCell (p := ⟨v1.heap.size, 1, none⟩) gv11 (.int .u64 (o2 : Int))
            have rr := heap_setCell_same _ (v1.heap.size) 1 _ _ (.int .u64 (o2 : Int)) (heap_setCell_same v17 (v1.heap.size) 0 _ _ (.int .u64 (o1 : Int)) rv17_6)
            have ro := (heap_setCell_other (v17.setCell ⟨v1.heap.size, 0, none⟩ (.int .u64 (o1 : Int))) ⟨v1.heap.size, 1, none⟩ _ (.int .u64 (o2 : Int)) nev16.symm).trans ((heap_setCell_other v17 ⟨v1.heap.size, 0, none⟩ _ (.int .u64 (o1 : Int)) nev16.symm).trans rv17_7)
            refine hK.out _ _ ⟨zz, ?_⟩
            clear hK K
            generalize (v17.setCell ⟨v1.heap.size, 0, none⟩ (.int .u64 (o1 : Int))).setCell ⟨v1.heap.size, 1, none⟩ (.int .u64 (o2 : Int)) = v18 at zz rr ro ⊢
            have zv18 := zz
            have rv18_6 := rr
            have rv18_7 := ro
            clear zz rr ro
            intro q hq
            refine wpQuiet_nil ?_
            clear hq q
            have e0 := cell_of_row v18 _ 0 _ _ _ rv18_7
            have e1 := cell_of_row v18 _ 1 _ _ _ rv18_7
            have f0 := frozen_of_row v18 _ 0 _ _ rv18_7
            have f1 := frozen_of_row v18 _ 1 _ _ rv18_7
            simp at e0 e1
            refine seg_op (by simp only [List.getElem?_toArray, List.getElem?_cons_succ, List.getElem?_cons_zero]; rfl) fun K hK => ?_
            go_simp
            clear e0 e1 f0 f1
            have zz := (zv18.setCell (p := ⟨v11.heap.size, 0, none⟩) gv16 (.int .u64 (j1 : Int))).setCell (p := ⟨v11.heap.size, 1, none⟩) gv16 (.int .u64 (j2 : Int))
            have rr := heap_setCell_same _ (v11.heap.size) 1 _ _ (.int .u64 (j2 : Int)) (heap_setCell_same v18 (v11.heap.size) 0 _ _ (.int .u64 (j1 : Int)) rv18_7)
            have ro := (heap_setCell_other (v18.setCell ⟨v11.heap.size, 0, none⟩ (.int .u64 (j1 : Int))) ⟨v11.heap.size, 1, none⟩ _ (.int .u64 (j2 : Int)) nev16).trans ((heap_setCell_other v18 ⟨v11.heap.size, 0, none⟩ _ (.int .u64 (j1 : Int)) nev16).trans rv18_6)
            refine hK.out _ _ ⟨zz, ?_⟩
            clear hK K
            generalize (v18.setCell ⟨v11.heap.size, 0, none⟩ (.int .u64 (j1 : Int))).setCell ⟨v11.heap.size, 1, none⟩ (.int .u64 (j2 : Int)) = v19 at zz rr ro ⊢
            have zv19 := zz
            have rv19_7 := rr
            have rv19_6 := ro
            clear zz rr ro
            intro q hq
            refine wpQuiet_nil ?_
            clear hq q
            have R6 := Lib.hid rv19_6
            have R7 := Lib.hid rv19_7
            have ZZ := Lib.hid zv19
            clear rv19_6 rv19_7
            go_wp2_with (fail)
            go_meet
            case rel => exact ⟨_, _, rfl, rfl, R6, R7, ZZ⟩
        · skip
          refine seg_op (by simp only [List.getElem?_toArray, List.getElem?_cons_succ, List.getElem?_cons_zero]; rfl) fun K hK => ?_
          go_simp
          obtain ⟨v20, hv20⟩ : ∃ v, v = v1.alloc (.cells #[.int .u64 0, .int .u64 0] 24) := ⟨_, rfl⟩
          rw [← hv20]
          have bv20 : Below v1.heap.size v1 v20 := by rw [hv20]; exact (Below.refl _ _).alloc (Nat.le_refl _) _
          have rv20_7 : v20.heap[v1.heap.size]? = some (.cells #[.int .u64 0, .int .u64 0] 24 (0, 0)) := by rw [hv20]; exact row_here _ _ rfl
          have gv20 : Y.heap.size ≤ v1.heap.size := zv1.size
          have zv20 := zv1.trans (bv20.mono zv1.size)
          refine hK.out _ _ ⟨zv20, ?_⟩
          clear hK K hv20
          intro q hq
          refine wpQuiet_nil ?_
          clear hq q
          refine ⟨?_, ?_⟩
          · skip
            refine seg_op (by simp only [List.getElem?_toArray, List.getElem?_cons_succ, List.getElem?_cons_zero]; rfl) fun K hK => ?_
            go_simp
            refine (hJ _ (hTY.below zv20)).mono ?_
            rintro e v21 ⟨rfl, bv21⟩
            have zv21 := zv20.trans (bv21.mono zv20.size)
            have rv21_7 := (bv21.block _ (Array.getElem?_eq_some_iff.1 rv20_7).1).trans rv20_7
            refine hK.out _ _ ⟨zv21, ?_⟩
            clear hK K
            intro q hq
            refine wpQuiet_nil ?_
            clear hq q
            refine seg_op (by simp only [List.getElem?_toArray, List.getElem?_cons_succ, List.getElem?_cons_zero]; rfl) fun K hK => ?_
            go_simp
            obtain ⟨v22, hv22⟩ : ∃ v, v = v21.alloc (.cells #[.int .u64 0, .int .u64 0] 24) := ⟨_, rfl⟩
            rw [← hv22]
            have bv22 : Below v21.heap.size v21 v22 := by rw [hv22]; exact (Below.refl _ _).alloc (Nat.le_refl _) _
            have rv22_6 : v22.heap[v21.heap.size]? = some (.cells #[.int .u64 0, .int .u64 0] 24 (0, 0)) := by rw [hv22]; exact row_here _ _ rfl
            have gv22 : Y.heap.size ≤ v21.heap.size := zv21.size
            have zv22 := zv21.trans (bv22.mono zv21.size)
            have nev22 : v1.heap.size ≠ v21.heap.size := Nat.ne_of_lt (Array.getElem?_eq_some_iff.1 rv21_7).1
            have rv22_7 := (bv22.block _ (Array.getElem?_eq_some_iff.1 rv21_7).1).trans rv21_7
            refine hK.out _ _ ⟨zv22, ?_⟩
            clear hK K hv22
            intro q hq
            refine wpQuiet_nil ?_
            clear hq q
            have e0 := cell_of_row v22 _ 0 _ _ _ rv22_6
            have e1 := cell_of_row v22 _ 1 _ _ _ rv22_6
            have f0 := frozen_of_row v22 _ 0 _ _ rv22_6
            have f1 := frozen_of_row v22 _ 1 _ _ rv22_6
            simp at e0 e1
            refine seg_op (by simp only [List.getElem?_toArray, List.getElem?_cons_succ, List.getElem?_cons_zero]; rfl) fun K hK => ?_
            go_simp
            clear e0 e1 f0 f1
            have zz := (zv22.setCell (p := ⟨v21.heap.size, 0, none⟩) gv22 (.int .u64 (o1 : Int))).setCell (p := ⟨v21.heap.size, 1, none⟩) gv22 (.int .u64 (o2 : Int))
            have rr := heap_setCell_same _ (v21.heap.size) 1 _ _ (.int .u64 (o2 : Int)) (heap_setCell_same v22 (v21.heap.size) 0 _ _ (.int .u64 (o1 : Int)) rv22_6)
            have ro := (heap_setCell_other (v22.setCell ⟨v21.heap.size, 0, none⟩ (.int .u64 (o1 : Int))) ⟨v21.heap.size, 1, none⟩ _ (.int .u64 (o2 : Int)) nev22).trans ((heap_setCell_other v22 ⟨v21.heap.size, 0, none⟩ _ (.int .u64 (o1 : Int)) nev22).trans rv22_7)
            refine hK.out _ _ ⟨zz, ?_⟩
            clear hK K
            generalize (v22.setCell ⟨v21.heap.size, 0, none⟩ (.int .u64 (o1 : Int))).setCell ⟨v21.heap.size, 1, none⟩ (.int .u64 (o2 : Int)) = v23 at zz rr ro ⊢
            have zv23 := zz
            have rv23_6 := rr
            have rv23_7 := ro
            clear zz rr ro
            intro q hq
            refine wpQuiet_nil ?_
            clear hq q
            have e0 := cell_of_row v23 _ 0 _ _ _ rv23_7
            have e1 := cell_of_row v23 _ 1 _ _ _ rv23_7
            have f0 := frozen_of_row v23 _ 0 _ _ rv23_7
            have f1 := frozen_of_row v23 _ 1 _ _ rv23_7
            simp at e0 e1
            refine seg_op (by simp only [List.getElem?_toArray, List.getElem?_cons_succ, List.getElem?_cons_zero]; rfl) fun K hK => ?_
            go_simp
            clear e0 e1 f0 f1
            have zz := (zv23.setCell (p := ⟨v1.heap.size, 0, none⟩) gv20 (.int .u64 (j1 : Int))).setCell (p := ⟨v1.heap.size, 1, none⟩) gv20 (.int .u64 (j2 : Int))
            have rr := heap_setCell_same _ (v1.heap.size) 1 _ _ (.int .u64 (j2 : Int)) (heap_setCell_same v23 (v1.heap.size) 0 _ _ (.int .u64 (j1 : Int)) rv23_7)
            have ro := (heap_setCell_other (v23.setCell ⟨v1.heap.size, 0, none⟩ (.int .u64 (j1 : Int))) ⟨v1.heap.size, 1, none⟩ _ (.int .u64 (j2 : Int)) nev22.symm).trans ((heap_setCell_other v23 ⟨v1.heap.size, 0, none⟩ _ (.int .u64 (j1 : Int)) nev22.symm).trans rv23_6)
            refine hK.out _ _ ⟨zz, ?_⟩
            clear hK K
            generalize (v23.setCell ⟨v1.heap.size, 0, none⟩ (.int .u64 (j1 : Int))).setCell ⟨v1.heap.size, 1, none⟩ (.int .u64 (j2 : Int)) = v24 at zz rr ro ⊢
            have zv24 := zz
            have rv24_7 := rr
            have rv24_6 := ro
            clear zz rr ro
            intro q hq
            refine wpQuiet_nil ?_
            clear hq q
            have R6 := Lib.hid rv24_6
            have R7 := Lib.hid rv24_7
            have ZZ := Lib.hid zv24
            clear rv24_6 rv24_7
            go_wp2_with (fail)
            go_meet
            case rel => exact ⟨_, _, rfl, rfl, R6, R7, ZZ⟩
          · skip
            refine seg_op (by simp only [List.getElem?_toArray, List.getElem?_cons_succ, List.getElem?_cons_zero]; rfl) fun K hK => ?_
            go_simp
            obtain ⟨v25, hv25⟩ : ∃ v, v = v20.alloc (.cells #[.int .u64 0, .int .u64 0] 24) := ⟨_, rfl⟩
            rw [← hv25]
            have bv25 : Below v20.heap.size v20 v25 := by rw [hv25]; exact (Below.refl _ _).alloc (Nat.le_refl _) _
            have rv25_6 : v25.heap[v20.heap.size]? = some (.cells #[.int .u64 0, .int .u64 0] 24 (0, 0)) := by rw [hv25]; exact row_here _ _ rfl
            have gv25 : Y.heap.size ≤ v20.heap.size := zv20.size
            have zv25 := zv20.trans (bv25.mono zv20.size)
            have nev25 : v1.heap.size ≠ v20.heap.size := Nat.ne_of_lt (Array.getElem?_eq_some_iff.1 rv20_7).1
            have rv25_7 := (bv25.block _ (Array.getElem?_eq_some_iff.1 rv20_7).1).trans rv20_7
            refine hK.out _ _ ⟨zv25, ?_⟩
            clear hK K hv25
            intro q hq
            refine wpQuiet_nil ?_
            clear hq q
            refine seg_op (by simp only [List.getElem?_toArray, List.getElem?_cons_succ, List.getElem?_cons_zero]; rfl) fun K hK => ?_
            go_simp
            refine (hJ _ (hTY.below zv25)).mono ?_
            rintro e v26 ⟨rfl, bv26⟩
            have zv26 := zv25.trans (bv26.mono zv25.size)
            have rv26_7 := (bv26.block _ (Array.getElem?_eq_some_iff.1 rv25_7).1).trans rv25_7
            have rv26_6 := (bv26.block _ (Array.getElem?_eq_some_iff.1 rv25_6).1).trans rv25_6
            refine hK.out _ _ ⟨zv26, ?_⟩
            clear hK K
            intro q hq
            refine wpQuiet_nil ?_
            clear hq q
            have e0 := cell_of_row v26 _ 0 _ _ _ rv26_6
            have e1 := cell_of_row v26 _ 1 _ _ _ rv26_6
            have f0 := frozen_of_row v26 _ 0 _ _ rv26_6
            have f1 := frozen_of_row v26 _ 1 _ _ rv26_6
            simp at e0 e1
            refine seg_op (by simp only [List.getElem?_toArray, List.getElem?_cons_succ, List.getElem?_cons_zero]; rfl) fun K hK => ?_
            go_simp
            clear e0 e1 f0 f1
            have zz := (zv26.setCell (p := ⟨v20.heap.size, 0, none⟩) gv25 (.int .u64 (o1 : Int))).setCell (p := ⟨v20.heap.size, 1, none⟩) gv25 (.int .u64 (o2 : Int))
            have rr := heap_setCell_same _ (v20.heap.size) 1 _ _ (.int .u64 (o2 : Int)) (heap_setCell_same v26 (v20.heap.size) 0 _ _ (.int .u64 (o1 : Int)) rv26_6)
            have ro := (heap_setCell_other (v26.setCell ⟨v20.heap.size, 0, none⟩ (.int .u64 (o1 : Int))) ⟨v20.heap.size, 1, none⟩ _ (.int .u64 (o2 : Int)) nev25).trans ((heap_setCell_other v26 ⟨v20.heap.size, 0, none⟩ _ (.int .u64 (o1 : Int)) nev25).trans rv26_7)
            refine hK.out _ _ ⟨zz, ?_⟩
            clear hK K
            generalize (v26.setCell ⟨v20.heap.size, 0, none⟩ (.int .u64 (o1 : Int))).setCell ⟨v20.heap.size, 1, none⟩ (.int .u64 (o2 : Int)) = v27 at zz rr ro ⊢
            have zv27 := zz
            have rv27_6 := rr
            have rv27_7 := ro
            clear zz rr ro
            intro q hq
            refine wpQuiet_nil ?_
            clear hq q
            have e0 := cell_of_row v27 _ 0 _ _ _ rv27_7
            have e1 := cell_of_row v27 _ 1 _ _ _ rv27_7
            have f0 := frozen_of_row v27 _ 0 _ _ rv27_7
            have f1 := frozen_of_row v27 _ 1 _ _ rv27_7
            simp at e0 e1
            refine seg_op (by simp only [List.getElem?_toArray, List.getElem?_cons_succ, List.getElem?_cons_zero]; rfl) fun K hK => ?_
            go_simp
            clear e0 e1 f0 f1
            have zz := (zv27.setCell (p := ⟨v1.heap.size, 0, none⟩) gv20 (.int .u64 (j1 : Int))).setCell (p := ⟨v1.heap.size, 1, none⟩) gv20 (.int .u64 (j2 : Int))
            have rr := heap_setCell_same _ (v1.heap.size) 1 _ _ (.int .u64 (j2 : Int)) (heap_setCell_same v27 (v1.heap.size) 0 _ _ (.int .u64 (j1 : Int)) rv27_7)
            have ro := (heap_setCell_other (v27.setCell ⟨v1.heap.size, 0, none⟩ (.int .u64 (j1 : Int))) ⟨v1.heap.size, 1, none⟩ _ (.int .u64 (j2 : Int)) nev25.symm).trans ((heap_setCell_other v27 ⟨v1.heap.size, 0, none⟩ _ (.int .u64 (j1 : Int)) nev25.symm).trans rv27_6)
            refine hK.out _ _ ⟨zz, ?_⟩
            clear hK K
            generalize (v27.setCell ⟨v1.heap.size, 0, none⟩ (.int .u64 (j1 : Int))).setCell ⟨v1.heap.size, 1, none⟩ (.int .u64 (j2 : Int)) = v28 at zz rr ro ⊢
            have zv28 := zz
            have rv28_7 := rr
            have rv28_6 := ro
            clear zz rr ro
            intro q hq
            refine wpQuiet_nil ?_
            clear hq q
            have R6 := Lib.hid rv28_6
            have R7 := Lib.hid rv28_7
            have ZZ := Lib.hid zv28
            clear rv28_6 rv28_7
            go_wp2_with (fail)
            go_meet
            case rel => exact ⟨_, _, rfl, rfl, R6, R7, ZZ⟩
      · skip
        refine seg_op (by simp only [List.getElem?_toArray, List.getElem?_cons_succ, List.getElem?_cons_zero]; rfl) fun K hK => ?_
        go_simp
        obtain ⟨v29, hv29⟩ : ∃ v, v = wd.alloc (.cells #[.int .u64 0, .int .u64 0] 24) := ⟨_, rfl⟩
        rw [← hv29]
        have bv29 : Below wd.heap.size wd v29 := by rw [hv29]; exact (Below.refl _ _).alloc (Nat.le_refl _) _
        have rv29_6 : v29.heap[wd.heap.size]? = some (.cells #[.int .u64 0, .int .u64 0] 24 (0, 0)) := by rw [hv29]; exact row_here _ _ rfl
        have gv29 : Y.heap.size ≤ wd.heap.size := hbd.size
        have zv29 := hbd.trans (bv29.mono hbd.size)
        refine hK.out _ _ ⟨zv29, ?_⟩
        clear hK K hv29
        intro q hq
        refine wpQuiet_nil ?_
        clear hq q
        refine ⟨?_, ?_⟩
        · skip
          refine seg_op (by simp only [List.getElem?_toArray, List.getElem?_cons_succ, List.getElem?_cons_zero]; rfl) fun K hK => ?_
          go_simp
          refine (hO _ (hTY.below zv29)).mono ?_
          rintro e v30 ⟨rfl, bv30⟩
          have zv30 := zv29.trans (bv30.mono zv29.size)
          have rv30_6 := (bv30.block _ (Array.getElem?_eq_some_iff.1 rv29_6).1).trans rv29_6
          refine hK.out _ _ ⟨zv30, ?_⟩
          clear hK K
          intro q hq
          refine wpQuiet_nil ?_
          clear hq q
          refine ⟨?_, ?_⟩
          · skip
            refine seg_op (by simp only [List.getElem?_toArray, List.getElem?_cons_succ, List.getElem?_cons_zero]; rfl) fun K hK => ?_
            go_simp
            refine (hJ _ (hTY.below zv30)).mono ?_
            rintro e v31 ⟨rfl, bv31⟩
            have zv31 := zv30.trans (bv31.mono zv30.size)
            have rv31_6 := (bv31.block _ (Array.getElem?_eq_some_iff.1 rv30_6).1).trans rv30_6
            refine hK.out _ _ ⟨zv31, ?_⟩
            clear hK K
            intro q hq
            refine wpQuiet_nil ?_
            clear hq q
            refine seg_op (by simp only [List.getElem?_toArray, List.getElem?_cons_succ, List.getElem?_cons_zero]; rfl) fun K hK => ?_
            go_simp
            obtain ⟨v32, hv32⟩ : ∃ v, v = v31.alloc (.cells #[.int .u64 0, .int .u64 0] 24) := ⟨_, rfl⟩
            rw [← hv32]
            have bv32 : Below v31.heap.size v31 v32 := by rw [hv32]; exact (Below.refl _ _).alloc (Nat.le_refl _) _
            have rv32_7 : v32.heap[v31.heap.size]? = some (.cells #[.int .u64 0, .int .u64 0] 24 (0, 0)) := by rw [hv32]; exact row_here _ _ rfl
            have gv32 : Y.heap.size ≤ v31.heap.size := zv31.size
            have zv32 := zv31.trans (bv32.mono zv31.size)
            have nev32 : wd.heap.size ≠ v31.heap.size := Nat.ne_of_lt (Array.getElem?_eq_some_iff.1 rv31_6).1
            have rv32_6 := (bv32.block _ (Array.getElem?_eq_some_iff.1 rv31_6).1).trans rv31_6
            refine hK.out _ _ ⟨zv32, ?_⟩
            clear hK K hv32
            intro q hq
            refine wpQuiet_nil ?_
            clear hq q
            have e0 := cell_of_row v32 _ 0 _ _ _ rv32_6
            have e1 := cell_of_row v32 _ 1 _ _ _ rv32_6
            have f0 := frozen_of_row v32 _ 0 _ _ rv32_6
            have f1 := frozen_of_row v32 _ 1 _ _ rv32_6
            simp at e0 e1
            refine seg_op (by simp only [List.getElem?_toArray, List.getElem?_cons_succ, List.getElem?_cons_zero]; rfl) fun K hK => ?_
            go_simp
            clear e0 e1 f0 f1
            have zz := (zv32.setCell (p := ⟨wd.heap.size, 0, none⟩) gv29 (.int .u64 (o1 : Int))).setCell (p := ⟨wd.heap.size, 1, none⟩) gv29 (.int .u64 (o2 : Int))
            have rr := heap_setCell_same _ (wd.heap.size) 1 _ _ (.int .u64 (o2 : Int)) (heap_setCell_same v32 (wd.heap.size) 0 _ _ (.int .u64 (o1 : Int)) rv32_6)
            have ro := (heap_setCell_other (v32.setCell ⟨wd.heap.size, 0, none⟩ (.int .u64 (o1 : Int))) ⟨wd.heap.size, 1, none⟩ _ (.int .u64 (o2 : Int)) nev32.symm).trans ((heap_setCell_other v32 ⟨wd.heap.size, 0, none⟩ _ (.int .u64 (o1 : Int)) nev32.symm).trans rv32_7)
            refine hK.out _ _ ⟨zz, ?_⟩
            clear hK K
            generalize (v32.setCell ⟨wd.heap.size, 0, none⟩ (.int .u64 (o1 : Int))).setCell ⟨wd.heap.size, 1, none⟩ (.int .u64 (o2 : Int)) = v33 at zz rr ro ⊢
            have zv33 := zz
            have rv33_6 := rr
            have rv33_7 := ro
            clear zz rr ro
            intro q hq
            refine wpQuiet_nil ?_
            clear hq q
            have e0 := cell_of_row v33 _ 0 _ _ _ rv33_7
            have e1 := cell_of_row v33 _ 1 _ _ _ rv33_7
            have f0 := frozen_of_row v33 _ 0 _ _ rv33_7
            have f1 := frozen_of_row v33 _ 1 _ _ rv33_7
            simp at e0 e1
            refine seg_op (by simp only [List.getElem?_toArray, List.getElem?_cons_succ, List.getElem?_cons_zero]; rfl) fun K hK => ?_
            go_simp
            clear e0 e1 f0 f1
            have zz := (zv33.setCell (p := ⟨v31.heap.size, 0, none⟩) gv32 (.int .u64 (j1 : Int))).setCell (p := ⟨v31.heap.size, 1, none⟩) gv32 (.int .u64 (j2 : Int))
            have rr := heap_setCell_same _ (v31.heap.size) 1 _ _ (.int .u64 (j2 : Int)) (heap_setCell_same v33 (v31.heap.size) 0 _ _ (.int .u64 (j1 : Int)) rv33_7)
            have ro := (heap_setCell_other (v33.setCell ⟨v31.heap.size, 0, none⟩ (.int .u64 (j1 : Int))) ⟨v31.heap.size, 1, none⟩ _ (.int .u64 (j2 : Int)) nev32).trans ((heap_setCell_other v33 ⟨v31.heap.size, 0, none⟩ _ (.int .u64 (j1 : Int)) nev32).trans rv33_6)
            refine hK.out _ _ ⟨zz, ?_⟩
            clear hK K
            generalize (v33.setCell ⟨v31.heap.size, 0, none⟩ (.int .u64 (j1 : Int))).setCell ⟨v31.heap.size, 1, none⟩ (.int .u64 (j2 : Int)) = v34 at zz rr ro ⊢
            have zv34 := zz
            have rv34_7 := rr
            have rv34_6 := ro
            clear zz rr ro
            intro q hq
            refine wpQuiet_nil ?_
            clear hq q
            have R6 := Lib.hid rv34_6
            have R7 := Lib.hid rv34_7
            have ZZ := Lib.hid zv34
            clear rv34_6 rv34_7
            go_wp2_with (fail)
            go_meet
            case rel => exact ⟨_, _, rfl, rfl, R6, R7, ZZ⟩
          · skip
            refine seg_op (by simp only [List.getElem?_toArray, List.getElem?_cons_succ, List.getElem?_cons_zero]; rfl) fun K hK => ?_
            go_simp
            obtain ⟨v35, hv35⟩ : ∃ v, v = v30.alloc (.cells #[.int .u64 0, .int .u64 0] 24) := ⟨_, rfl⟩
            rw [← hv35]
            have bv35 : Below v30.heap.size v30 v35 := by rw [hv35]; exact (Below.refl _ _).alloc (Nat.le_refl _) _
            have rv35_7 : v35.heap[v30.heap.size]? = some (.cells #[.int .u64 0, .int .u64 0] 24 (0, 0)) := by rw [hv35]; exact row_here _ _ rfl
            have gv35 : Y.heap.size ≤ v30.heap.size := zv30.size
            have zv35 := zv30.trans (bv35.mono zv30.size)
            have nev35 : wd.heap.size ≠ v30.heap.size := Nat.ne_of_lt (Array.getElem?_eq_some_iff.1 rv30_6).1
            have rv35_6 := (bv35.block _ (Array.getElem?_eq_some_iff.1 rv30_6).1).trans rv30_6
            refine hK.out _ _ ⟨zv35, ?_⟩
            clear hK K hv35
            intro q hq
            refine wpQuiet_nil ?_
            clear hq q
            refine seg_op (by simp only [List.getElem?_toArray, List.getElem?_cons_succ, List.getElem?_cons_zero]; rfl) fun K hK => ?_
            go_simp
            refine (hJ _ (hTY.below zv35)).mono ?_
            rintro e v36 ⟨rfl, bv36⟩
            have zv36 := zv35.trans (bv36.mono zv35.size)
            have rv36_6 := (bv36.block _ (Array.getElem?_eq_some_iff.1 rv35_6).1).trans rv35_6
            have rv36_7 := (bv36.block _ (Array.getElem?_eq_some_iff.1 rv35_7).1).trans rv35_7
            refine hK.out _ _ ⟨zv36, ?_⟩
            clear hK K
            intro q hq
            refine wpQuiet_nil ?_
            clear hq q
            have e0 := cell_of_row v36 _ 0 _ _ _ rv36_6
            have e1 := cell_of_row v36 _ 1 _ _ _ rv36_6
            have f0 := frozen_of_row v36 _ 0 _ _ rv36_6
            have f1 := frozen_of_row v36 _ 1 _ _ rv36_6
            simp at e0 e1
            refine seg_op (by simp only [List.getElem?_toArray, List.getElem?_cons_succ, List.getElem?_cons_zero]; rfl) fun K hK => ?_
            go_simp
            clear e0 e1 f0 f1
            have zz := (zv36.setCell (p := ⟨wd.heap.size, 0, none⟩) gv29 (.int .u64 (o1 : Int))).setCell (p := ⟨wd.heap.size, 1, none⟩) gv29 (.int .u64 (o2 : Int))
            have rr := heap_setCell_same _ (wd.heap.size) 1 _ _ (.int .u64 (o2 : Int)) (heap_setCell_same v36 (wd.heap.size) 0 _ _ (.int .u64 (o1 : Int)) rv36_6)
            have ro := (heap_setCell_other (v36.setCell ⟨wd.heap.size, 0, none⟩ (.int .u64 (o1 : Int))) ⟨wd.heap.size, 1, none⟩ _ (.int .u64 (o2 : Int)) nev35.symm).trans ((heap_setCell_other v36 ⟨wd.heap.size, 0, none⟩ _ (.int .u64 (o1 : Int)) nev35.symm).trans rv36_7)
            refine hK.out _ _ ⟨zz, ?_⟩
            clear hK K
            generalize (v36.setCell ⟨wd.heap.size, 0, none⟩ (.int .u64 (o1 : Int))).setCell ⟨wd.heap.size, 1, none⟩ (.int .u64 (o2 : Int)) = v37 at zz rr ro ⊢
            have zv37 := zz
            have rv37_6 := rr
            have rv37_7 := ro
            clear zz rr ro
            intro q hq
            refine wpQuiet_nil ?_
            clear hq q
            have e0 := cell_of_row v37 _ 0 _ _ _ rv37_7
            have e1 := cell_of_row v37 _ 1 _ _ _ rv37_7
            have f0 := frozen_of_row v37 _ 0 _ _ rv37_7
            have f1 := frozen_of_row v37 _ 1 _ _ rv37_7
            simp at e0 e1
            refine seg_op (by simp only [List.getElem?_toArray, List.getElem?_cons_succ, List.getElem?_cons_zero]; rfl) fun K hK => ?_
            go_simp
            clear e0 e1 f0 f1
            have zz := (zv37.setCell (p := ⟨v30.heap.size, 0, none⟩) gv35 (.int .u64 (j1 : Int))).setCell (p := ⟨v30.heap.size, 1, none⟩) gv35 (.int .u64 (j2 : Int))
            have rr := heap_setCell_same _ (v30.heap.size) 1 _ _ (.int .u64 (j2 : Int)) (heap_setCell_same v37 (v30.heap.size) 0 _ _ (.int .u64 (j1 : Int)) rv37_7)
            have ro := (heap_setCell_other (v37.setCell ⟨v30.heap.size, 0, none⟩ (.int .u64 (j1 : Int))) ⟨v30.heap.size, 1, none⟩ _ (.int .u64 (j2 : Int)) nev35).trans ((heap_setCell_other v37 ⟨v30.heap.size, 0, none⟩ _ (.int .u64 (j1 : Int)) nev35).trans rv37_6)
            refine hK.out _ _ ⟨zz, ?_⟩
            clear hK K
            generalize (v37.setCell ⟨v30.heap.size, 0, none⟩ (.int .u64 (j1 : Int))).setCell ⟨v30.heap.size, 1, none⟩ (.int .u64 (j2 : Int)) = v38 at zz rr ro ⊢
            have zv38 := zz
            have rv38_7 := rr
            have rv38_6 := ro
            clear zz rr ro
            intro q hq
            refine wpQuiet_nil ?_
            clear hq q
            have R6 := Lib.hid rv38_6
            have R7 := Lib.hid rv38_7
            have ZZ := Lib.hid zv38
            clear rv38_6 rv38_7
            go_wp2_with (fail)
            go_meet
            case rel => exact ⟨_, _, rfl, rfl, R6, R7, ZZ⟩
        · skip
          refine seg_op (by simp only [List.getElem?_toArray, List.getElem?_cons_succ, List.getElem?_cons_zero]; rfl) fun K hK => ?_
          go_simp
          obtain ⟨v39, hv39⟩ : ∃ v, v = v29.alloc (.cells #[.int .u64 0, .int .u64 0] 24) := ⟨_, rfl⟩
          rw [← hv39]
          have bv39 : Below v29.heap.size v29 v39 := by rw [hv39]; exact (Below.refl _ _).alloc (Nat.le_refl _) _
          have rv39_7 : v39.heap[v29.heap.size]? = some (.cells #[.int .u64 0, .int .u64 0] 24 (0, 0)) := by rw [hv39]; exact row_here _ _ rfl
          have gv39 : Y.heap.size ≤ v29.heap.size := zv29.size
          have zv39 := zv29.trans (bv39.mono zv29.size)
          have nev39 : wd.heap.size ≠ v29.heap.size := Nat.ne_of_lt (Array.getElem?_eq_some_iff.1 rv29_6).1
          have rv39_6 := (bv39.block _ (Array.getElem?_eq_some_iff.1 rv29_6).1).trans rv29_6
          refine hK.out _ _ ⟨zv39, ?_⟩
          clear hK K hv39
          intro q hq
          refine wpQuiet_nil ?_
          clear hq q
          refine seg_op (by simp only [List.getElem?_toArray, List.getElem?_cons_succ, List.getElem?_cons_zero]; rfl) fun K hK => ?_
          go_simp
          refine (hO _ (hTY.below zv39)).mono ?_
          rintro e v40 ⟨rfl, bv40⟩
          have zv40 := zv39.trans (bv40.mono zv39.size)
          have rv40_6 := (bv40.block _ (Array.getElem?_eq_some_iff.1 rv39_6).1).trans rv39_6
          have rv40_7 := (bv40.block _ (Array.getElem?_eq_some_iff.1 rv39_7).1).trans rv39_7
          refine hK.out _ _ ⟨zv40, ?_⟩
          clear hK K
          intro q hq
          refine wpQuiet_nil ?_
          clear hq q
          refine seg_op (by simp only [List.getElem?_toArray, List.getElem?_cons_succ, List.getElem?_cons_zero]; rfl) fun K hK => ?_
          go_simp
          refine (hJ _ (hTY.below zv40)).mono ?_
          rintro e v41 ⟨rfl, bv41⟩
          have zv41 := zv40.trans (bv41.mono zv40.size)
          have rv41_6 := (bv41.block _ (Array.getElem?_eq_some_iff.1 rv40_6).1).trans rv40_6
          have rv41_7 := (bv41.block _ (Array.getElem?_eq_some_iff.1 rv40_7).1).trans rv40_7
          refine hK.out _ _ ⟨zv41, ?_⟩
          clear hK K
          intro q hq
          refine wpQuiet_nil ?_
          clear hq q
          have e0 := cell_of_row v41 _ 0 _ _ _ rv41_6
          have e1 := cell_of_row v41 _ 1 _ _ _ rv41_6
          have f0 := frozen_of_row v41 _ 0 _ _ rv41_6
          have f1 := frozen_of_row v41 _ 1 _ _ rv41_6
          simp at e0 e1
          refine seg_op (by simp only [List.getElem?_toArray, List.getElem?_cons_succ, List.getElem?_cons_zero]; rfl) fun K hK => ?_
          go_simp
          clear e0 e1 f0 f1
          have zz := (zv41.setCell (p := ⟨wd.heap.size, 0, none⟩) gv29 (.int .u64 (o1 : Int))).setCell (p := ⟨wd.heap.size, 1, none⟩) gv29 (.int .u64 (o2 : Int))
          have rr := heap_setCell_same _ (wd.heap.size) 1 _ _ (.int .u64 (o2 : Int)) (heap_setCell_same v41 (wd.heap.size) 0 _ _ (.int .u64 (o1 : Int)) rv41_6)
          have ro := (heap_setCell_other (v41.setCell ⟨wd.heap.size, 0, none⟩ (.int .u64 (o1 : Int))) ⟨wd.heap.size, 1, none⟩ _ (.int .u64 (o2 : Int)) nev39.symm).trans ((heap_setCell_other v41 ⟨wd.heap.size, 0, none⟩ _ (.int .u64 (o1 : Int)) nev39.symm).trans rv41_7)
          refine hK.out _ _ ⟨zz, ?_⟩
          clear hK K
          generalize (v41.setCell ⟨wd.heap.size, 0, none⟩ (.int .u64 (o1 : Int))).setCell ⟨wd.heap.size, 1, none⟩ (.int .u64 (o2 : Int)) = v42 at zz rr ro ⊢
          have zv42 := zz
          have rv42_6 := rr
          have rv42_7 := ro
          clear zz rr ro
          intro q hq
          refine wpQuiet_nil ?_
          clear hq q
          have e0 := cell_of_row v42 _ 0 _ _ _ rv42_7
          have e1 := cell_of_row v42 _ 1 _ _ _ rv42_7
          have f0 := frozen_of_row v42 _ 0 _ _ rv42_7
          have f1 := frozen_of_row v42 _ 1 _ _ rv42_7
          simp at e0 e1
          refine seg_op (by simp only [List.getElem?_toArray, List.getElem?_cons_succ, List.getElem?_cons_zero]; rfl) fun K hK => ?_
          go_simp
          clear e0 e1 f0 f1
          have zz := (zv42.setCell (p := ⟨v29.heap.size, 0, none⟩) gv39 (.int .u64 (j1 : Int))).setCell (p := ⟨v29.heap.size, 1, none⟩) gv39 (.int .u64 (j2 : Int))
          have rr := heap_setCell_same _ (v29.heap.size) 1 _ _ (.int .u64 (j2 : Int)) (heap_setCell_same v42 (v29.heap.size) 0 _ _ (.int .u64 (j1 : Int)) rv42_7)
          have ro := (heap_setCell_other (v42.setCell ⟨v29.heap.size, 0, none⟩ (.int .u64 (j1 : Int))) ⟨v29.heap.size, 1, none⟩ _ (.int .u64 (j2 : Int)) nev39).trans ((heap_setCell_other v42 ⟨v29.heap.size, 0, none⟩ _ (.int .u64 (j1 : Int)) nev39).trans rv42_6)
          refine hK.out _ _ ⟨zz, ?_⟩
          clear hK K
          generalize (v42.setCell ⟨v29.heap.size, 0, none⟩ (.int .u64 (j1 : Int))).setCell ⟨v29.heap.size, 1, none⟩ (.int .u64 (j2 : Int)) = v43 at zz rr ro ⊢
          have zv43 := zz
          have rv43_7 := rr
          have rv43_6 := ro
          clear zz rr ro
          intro q hq
          refine wpQuiet_nil ?_
          clear hq q
          have R6 := Lib.hid rv43_6
          have R7 := Lib.hid rv43_7
          have ZZ := Lib.hid zv43
          clear rv43_6 rv43_7
          go_wp2_with (fail)
          go_meet
          case rel => exact ⟨_, _, rfl, rfl, R6, R7, ZZ⟩
      · skip
        refine seg_op (by simp only [List.getElem?_toArray, List.getElem?_cons_succ, List.getElem?_cons_zero]; rfl) fun K hK => ?_
        go_simp
        obtain ⟨v44, hv44⟩ : ∃ v, v = wd.alloc (.cells #[.int .u64 0, .int .u64 0] 24) := ⟨_, rfl⟩
        rw [← hv44]
        have bv44 : Below wd.heap.size wd v44 := by rw [hv44]; exact (Below.refl _ _).alloc (Nat.le_refl _) _
        have rv44_7 : v44.heap[wd.heap.size]? = some (.cells #[.int .u64 0, .int .u64 0] 24 (0, 0)) := by rw [hv44]; exact row_here _ _ rfl
        have gv44 : Y.heap.size ≤ wd.heap.size := hbd.size
        have zv44 := hbd.trans (bv44.mono hbd.size)
        refine hK.out _ _ ⟨zv44, ?_⟩
        clear hK K hv44
        intro q hq
        refine wpQuiet_nil ?_
        clear hq q
        refine ⟨?_, ?_⟩
        · skip
          refine seg_op (by simp only [List.getElem?_toArray, List.getElem?_cons_succ, List.getElem?_cons_zero]; rfl) fun K hK => ?_
          go_simp
          refine (hO _ (hTY.below zv44)).mono ?_
          rintro e v45 ⟨rfl, bv45⟩
          have zv45 := zv44.trans (bv45.mono zv44.size)
          have rv45_7 := (bv45.block _ (Array.getElem?_eq_some_iff.1 rv44_7).1).trans rv44_7
          refine hK.out _ _ ⟨zv45, ?_⟩
          clear hK K
          intro q hq
          refine wpQuiet_nil ?_
          clear hq q
          refine ⟨?_, ?_⟩
          · skip
            refine seg_op (by simp only [List.getElem?_toArray, List.getElem?_cons_succ, List.getElem?_cons_zero]; rfl) fun K hK => ?_
            go_simp
            refine (hJ _ (hTY.below zv45)).mono ?_
            rintro e v46 ⟨rfl, bv46⟩
            have zv46 := zv45.trans (bv46.mono zv45.size)
            have rv46_7 := (bv46.block _ (Array.getElem?_eq_some_iff.1 rv45_7).1).trans rv45_7
            refine hK.out _ _ ⟨zv46, ?_⟩
            clear hK K
            intro q hq
            refine wpQuiet_nil ?_
            clear hq q
            refine seg_op (by simp only [List.getElem?_toArray, List.getElem?_cons_succ, List.getElem?_cons_zero]; rfl) fun K hK => ?_
            go_simp
            obtain ⟨v47, hv47⟩ : ∃ v, v = v46.alloc (.cells #[.int .u64 0, .int .u64 0] 24) := ⟨_, rfl⟩
            rw [← hv47]
            have bv47 : Below v46.heap.size v46 v47 := by rw [hv47]; exact (Below.refl _ _).alloc (Nat.le_refl _) _
            have rv47_6 : v47.heap[v46.heap.size]? = some (.cells #[.int .u64 0, .int .u64 0] 24 (0, 0)) := by rw [hv47]; exact row_here _ _ rfl
            have gv47 : Y.heap.size ≤ v46.heap.size := zv46.size
            have zv47 := zv46.trans (bv47.mono zv46.size)
            have nev47 : wd.heap.size ≠ v46.heap.size := Nat.ne_of_lt (Array.getElem?_eq_some_iff.1 rv46_7).1
            have rv47_7 := (bv47.block _ (Array.getElem?_eq_some_iff.1 rv46_7).1).trans rv46_7
            refine hK.out _ _ ⟨zv47, ?_⟩
            clear hK K hv47
            intro q hq
            refine wpQuiet_nil ?_
            clear hq q
            have e0 := cell_of_row v47 _ 0 _ _ _ rv47_6
            have e1 := cell_of_row v47 _ 1 _ _ _ rv47_6
            have f0 := frozen_of_row v47 _ 0 _ _ rv47_6
            have f1 := frozen_of_row v47 _ 1 _ _ rv47_6
            simp at e0 e1
            refine seg_op (by simp only [List.getElem?_toArray, List.getElem?_cons_succ, List.getElem?_cons_zero]; rfl) fun K hK => ?_
            go_simp
            clear e0 e1 f0 f1
            have zz := (zv47.setCell (p := ⟨v46.heap.size, 0, none⟩) gv47 (.int .u64 (o1 : Int))).setCell (p := ⟨v46.heap.size, 1, none⟩) gv47 (.int .u64 (o2 : Int))
            have rr := heap_setCell_same _ (v46.heap.size) 1 _ _ (.int .u64 (o2 : Int)) (heap_setCell_same v47 (v46.heap.size) 0 _ _ (.int .u64 (o1 : Int)) rv47_6)
            have ro := (heap_setCell_other (v47.setCell ⟨v46.heap.size, 0, none⟩ (.int .u64 (o1 : Int))) ⟨v46.heap.size, 1, none⟩ _ (.int .u64 (o2 : Int)) nev47).trans ((heap_setCell_other v47 ⟨v46.heap.size, 0, none⟩ _ (.int .u64 (o1 : Int)) nev47).trans rv47_7)
            refine hK.out _ _ ⟨zz, ?_⟩
            clear hK K
            generalize (v47.setCell ⟨v46.heap.size, 0, none⟩ (.int .u64 (o1 : Int))).setCell ⟨v46.heap.size, 1, none⟩ (.int .u64 (o2 : Int)) = v48 at zz rr ro ⊢
            have zv48 := zz
            have rv48_6 := rr
            have rv48_7 := ro
            clear zz rr ro
            intro q hq
            refine wpQuiet_nil ?_
            clear hq q
            have e0 := cell_of_row v48 _ 0 _ _ _ rv48_7
            have e1 := cell_of_row v48 _ 1 _ _ _ rv48_7
            have f0 := frozen_of_row v48 _ 0 _ _ rv48_7
            have f1 := frozen_of_row v48 _ 1 _ _ rv48_7
            simp at e0 e1
            refine seg_op (by simp only [List.getElem?_toArray, List.getElem?_cons_succ, List.getElem?_cons_zero]; rfl) fun K hK => ?_
            go_simp
            clear e0 e1 f0 f1
            have zz := (zv48.setCell (p := ⟨wd.heap.size, 0, none⟩) gv44 (.int .u64 (j1 : Int))).setCell (p := ⟨wd.heap.size, 1, none⟩) gv44 (.int .u64 (j2 : Int))
            have rr := heap_setCell_same _ (wd.heap.size) 1 _ _ (.int .u64 (j2 : Int)) (heap_setCell_same v48 (wd.heap.size) 0 _ _ (.int .u64 (j1 : Int)) rv48_7)
            have ro := (heap_setCell_other (v48.setCell ⟨wd.heap.size, 0, none⟩ (.int .u64 (j1 : Int))) ⟨wd.heap.size, 1, none⟩ _ (.int .u64 (j2 : Int)) nev47.symm).trans ((heap_setCell_other v48 ⟨wd.heap.size, 0, none⟩ _ (.int .u64 (j1 : Int)) nev47.symm).trans rv48_6)
            refine hK.out _ _ ⟨zz, ?_⟩
            clear hK K
            generalize (v48.setCell ⟨wd.heap.size, 0, none⟩ (.int .u64 (j1 : Int))).setCell ⟨wd.heap.size, 1, none⟩ (.int .u64 (j2 : Int)) = v49 at zz rr ro ⊢
            have zv49 := zz
            have rv49_7 := rr
            have rv49_6 := ro
            clear zz rr ro
            intro q hq
            refine wpQuiet_nil ?_
            clear hq q
            have R6 := Lib.hid rv49_6
            have R7 := Lib.hid rv49_7
            have ZZ := Lib.hid zv49
            clear rv49_6 rv49_7
            go_wp2_with (fail)
            go_meet
            case rel => exact ⟨_, _, rfl, rfl, R6, R7, ZZ⟩
          · skip
            refine seg_op (by simp only [List.getElem?_toArray, List.getElem?_cons_succ, List.getElem?_cons_zero]; rfl) fun K hK => ?_
            go_simp
            obtain ⟨v50, hv50⟩ : ∃ v, v = v45.alloc (.cells #[.int .u64 0, .int .u64 0] 24) := ⟨_, rfl⟩
            rw [← hv50]
            have bv50 : Below v45.heap.size v45 v50 := by rw [hv50]; exact (Below.refl _ _).alloc (Nat.le_refl _) _
            have rv50_6 : v50.heap[v45.heap.size]? = some (.cells #[.int .u64 0, .int .u64 0] 24 (0, 0)) := by rw [hv50]; exact row_here _ _ rfl
            have gv50 : Y.heap.size ≤ v45.heap.size := zv45.size
            have zv50 := zv45.trans (bv50.mono zv45.size)
            have nev50 : wd.heap.size ≠ v45.heap.size := Nat.ne_of_lt (Array.getElem?_eq_some_iff.1 rv45_7).1
            have rv50_7 := (bv50.block _ (Array.getElem?_eq_some_iff.1 rv45_7).1).trans rv45_7
            refine hK.out _ _ ⟨zv50, ?_⟩
            clear hK K hv50
            intro q hq
            refine wpQuiet_nil ?_
            clear hq q
            refine seg_op (by simp only [List.getElem?_toArray, List.getElem?_cons_succ, List.getElem?_cons_zero]; rfl) fun K hK => ?_
            go_simp
            refine (hJ _ (hTY.below zv50)).mono ?_
            rintro e v51 ⟨rfl, bv51⟩
            have zv51 := zv50.trans (bv51.mono zv50.size)
            have rv51_7 := (bv51.block _ (Array.getElem?_eq_some_iff.1 rv50_7).1).trans rv50_7
            have rv51_6 := (bv51.block _ (Array.getElem?_eq_some_iff.1 rv50_6).1).trans rv50_6
            refine hK.out _ _ ⟨zv51, ?_⟩
            clear hK K
            intro q hq
            refine wpQuiet_nil ?_
            clear hq q
            have e0 := cell_of_row v51 _ 0 _ _ _ rv51_6
            have e1 := cell_of_row v51 _ 1 _ _ _ rv51_6
            have f0 := frozen_of_row v51 _ 0 _ _ rv51_6
            have f1 := frozen_of_row v51 _ 1 _ _ rv51_6
            simp at e0 e1
            refine seg_op (by simp only [List.getElem?_toArray, List.getElem?_cons_succ, List.getElem?_cons_zero]; rfl) fun K hK => ?_
            go_simp
            clear e0 e1 f0 f1
            have zz := (zv51.setCell (p := ⟨v45.heap.size, 0, none⟩) gv50 (.int .u64 (o1 : Int))).setCell (p := ⟨v45.heap.size, 1, none⟩) gv50 (.int .u64 (o2 : Int))
            have rr := heap_setCell_same _ (v45.heap.size) 1 _ _ (.int .u64 (o2 : Int)) (heap_setCell_same v51 (v45.heap.size) 0 _ _ (.int .u64 (o1 : Int)) rv51_6)
            have ro := (heap_setCell_other (v51.setCell ⟨v45.heap.size, 0, none⟩ (.int .u64 (o1 : Int))) ⟨v45.heap.size, 1, none⟩ _ (.int .u64 (o2 : Int)) nev50).trans ((heap_setCell_other v51 ⟨v45.heap.size, 0, none⟩ _ (.int .u64 (o1 : Int)) nev50).trans rv51_7)
            refine hK.out _ _ ⟨zz, ?_⟩
            clear hK K
            generalize (v51.setCell ⟨v45.heap.size, 0, none⟩ (.int .u64 (o1 : Int))).setCell ⟨v45.heap.size, 1, none⟩ (.int .u64 (o2 : Int)) = v52 at zz rr ro ⊢
            have zv52 := zz
            have rv52_6 := rr
            have rv52_7 := ro
            clear zz rr ro
            intro q hq
            refine wpQuiet_nil ?_
            clear hq q
            have e0 := cell_of_row v52 _ 0 _ _ _ rv52_7
            have e1 := cell_of_row v52 _ 1 _ _ _ rv52_7
            have f0 := frozen_of_row v52 _ 0 _ _ rv52_7
            have f1 := frozen_of_row v52 _ 1 _ _ rv52_7
            simp at e0 e1
            refine seg_op (by simp only [List.getElem?_toArray, List.getElem?_cons_succ, List.getElem?_cons_zero]; rfl) fun K hK => ?_
            go_simp
            clear e0 e1 f0 f1
            have zz := (zv52.setCell (p := ⟨wd.heap.size, 0, none⟩) gv44 (.int .u64 (j1 : Int))).setCell (p := ⟨wd.heap.size, 1, none⟩) gv44 (.int .u64 (j2 : Int))
            have rr := heap_setCell_same _ (wd.heap.size) 1 _ _ (.int .u64 (j2 : Int)) (heap_setCell_same v52 (wd.heap.size) 0 _ _ (.int .u64 (j1 : Int)) rv52_7)
            have ro := (heap_setCell_other (v52.setCell ⟨wd.heap.size, 0, none⟩ (.int .u64 (j1 : Int))) ⟨wd.heap.size, 1, none⟩ _ (.int .u64 (j2 : Int)) nev50.symm).trans ((heap_setCell_other v52 ⟨wd.heap.size, 0, none⟩ _ (.int .u64 (j1 : Int)) nev50.symm).trans rv52_6)
            refine hK.out _ _ ⟨zz, ?_⟩
            clear hK K
            generalize (v52.setCell ⟨wd.heap.size, 0, none⟩ (.int .u64 (j1 : Int))).setCell ⟨wd.heap.size, 1, none⟩ (.int .u64 (j2 : Int)) = v53 at zz rr ro ⊢
            have zv53 := zz
            have rv53_7 := rr
            have rv53_6 := ro
            clear zz rr ro
            intro q hq
            refine wpQuiet_nil ?_
            clear hq q
            have R6 := Lib.hid rv53_6
            have R7 := Lib.hid rv53_7
            have ZZ := Lib.hid zv53
            clear rv53_6 rv53_7
            go_wp2_with (fail)
            go_meet
            case rel => exact ⟨_, _, rfl, rfl, R6, R7, ZZ⟩
        · skip
          refine seg_op (by simp only [List.getElem?_toArray, List.getElem?_cons_succ, List.getElem?_cons_zero]; rfl) fun K hK => ?_
          go_simp
          obtain ⟨v54, hv54⟩ : ∃ v, v = v44.alloc (.cells #[.int .u64 0, .int .u64 0] 24) := ⟨_, rfl⟩
          rw [← hv54]
          have bv54 : Below v44.heap.size v44 v54 := by rw [hv54]; exact (Below.refl _ _).alloc (Nat.le_refl _) _
          have rv54_6 : v54.heap[v44.heap.size]? = some (.cells #[.int .u64 0, .int .u64 0] 24 (0, 0)) := by rw [hv54]; exact row_here _ _ rfl
          have gv54 : Y.heap.size ≤ v44.heap.size := zv44.size
          have zv54 := zv44.trans (bv54.mono zv44.size)
          have nev54 : wd.heap.size ≠ v44.heap.size := Nat.ne_of_lt (Array.getElem?_eq_some_iff.1 rv44_7).1
          have rv54_7 := (bv54.block _ (Array.getElem?_eq_some_iff.1 rv44_7).1).trans rv44_7
          refine hK.out _ _ ⟨zv54, ?_⟩
          clear hK K hv54
          intro q hq
          refine wpQuiet_nil ?_
          clear hq q
          refine seg_op (by simp only [List.getElem?_toArray, List.getElem?_cons_succ, List.getElem?_cons_zero]; rfl) fun K hK => ?_
          go_simp
          refine (hO _ (hTY.below zv54)).mono ?_
          rintro e v55 ⟨rfl, bv55⟩
          have zv55 := zv54.trans (bv55.mono zv54.size)
          have rv55_7 := (bv55.block _ (Array.getElem?_eq_some_iff.1 rv54_7).1).trans rv54_7
          have rv55_6 := (bv55.block _ (Array.getElem?_eq_some_iff.1 rv54_6).1).trans rv54_6
          refine hK.out _ _ ⟨zv55, ?_⟩
          clear hK K
          intro q hq
          refine wpQuiet_nil ?_
          clear hq q
          refine seg_op (by simp only [List.getElem?_toArray, List.getElem?_cons_succ, List.getElem?_cons_zero]; rfl) fun K hK => ?_
          go_simp
          refine (hJ _ (hTY.below zv55)).mono ?_
          rintro e v56 ⟨rfl, bv56⟩
          have zv56 := zv55.trans (bv56.mono zv55.size)
          have rv56_7 := (bv56.block _ (Array.getElem?_eq_some_iff.1 rv55_7).1).trans rv55_7
          have rv56_6 := (bv56.block _ (Array.getElem?_eq_some_iff.1 rv55_6).1).trans rv55_6
          refine hK.out _ _ ⟨zv56, ?_⟩
          clear hK K
          intro q hq
          refine wpQuiet_nil ?_
          clear hq q
          have e0 := cell_of_row v56 _ 0 _ _ _ rv56_6
          have e1 := cell_of_row v56 _ 1 _ _ _ rv56_6
          have f0 := frozen_of_row v56 _ 0 _ _ rv56_6
          have f1 := frozen_of_row v56 _ 1 _ _ rv56_6
          simp at e0 e1
          refine seg_op (by simp only [List.getElem?_toArray, List.getElem?_cons_succ, List.getElem?_cons_zero]; rfl) fun K hK => ?_
          go_simp
          clear e0 e1 f0 f1
          have zz := (zv56.setCell (p := ⟨v44.heap.size, 0, none⟩) gv54 (.int .u64 (o1 : Int))).setCell (p := ⟨v44.heap.size, 1, none⟩) gv54 (.int .u64 (o2 : Int))
          have rr := heap_setCell_same _ (v44.heap.size) 1 _ _ (.int .u64 (o2 : Int)) (heap_setCell_same v56 (v44.heap.size) 0 _ _ (.int .u64 (o1 : Int)) rv56_6)
          have ro := (heap_setCell_other (v56.setCell ⟨v44.heap.size, 0, none⟩ (.int .u64 (o1 : Int))) ⟨v44.heap.size, 1, none⟩ _ (.int .u64 (o2 : Int)) nev54).trans ((heap_setCell_other v56 ⟨v44.heap.size, 0, none⟩ _ (.int .u64 (o1 : Int)) nev54).trans rv56_7)
          refine hK.out _ _ ⟨zz, ?_⟩
          clear hK K
          generalize (v56.setCell ⟨v44.heap.size, 0, none⟩ (.int .u64 (o1 : Int))).setCell ⟨v44.heap.size, 1, none⟩ (.int .u64 (o2 : Int)) = v57 at zz rr ro ⊢
          have zv57 := zz
          have rv57_6 := rr
          have rv57_7 := ro
          clear zz rr ro
          intro q hq
          refine wpQuiet_nil ?_
          clear hq q
          have e0 := cell_of_row v57 _ 0 _ _ _ rv57_7
          have e1 := cell_of_row v57 _ 1 _ _ _ rv57_7
          have f0 := frozen_of_row v57 _ 0 _ _ rv57_7
          have f1 := frozen_of_row v57 _ 1 _ _ rv57_7
          simp at e0 e1
          refine seg_op (by simp only [List.getElem?_toArray, List.getElem?_cons_succ, List.getElem?_cons_zero]; rfl) fun K hK => ?_
          go_simp
          clear e0 e1 f0 f1
          have zz := (zv57.setCell (p := ⟨wd.heap.size, 0, none⟩) gv44 (.int .u64 (j1 : Int))).setCell (p := ⟨wd.heap.size, 1, none⟩) gv44 (.int .u64 (j2 : Int))
          have rr := heap_setCell_same _ (wd.heap.size) 1 _ _ (.int .u64 (j2 : Int)) (heap_setCell_same v57 (wd.heap.size) 0 _ _ (.int .u64 (j1 : Int)) rv57_7)
          have ro := (heap_setCell_other (v57.setCell ⟨wd.heap.size, 0, none⟩ (.int .u64 (j1 : Int))) ⟨wd.heap.size, 1, none⟩ _ (.int .u64 (j2 : Int)) nev54.symm).trans ((heap_setCell_other v57 ⟨wd.heap.size, 0, none⟩ _ (.int .u64 (j1 : Int)) nev54.symm).trans rv57_6)
          refine hK.out _ _ ⟨zz, ?_⟩
          clear hK K
          generalize (v57.setCell ⟨wd.heap.size, 0, none⟩ (.int .u64 (j1 : Int))).setCell ⟨wd.heap.size, 1, none⟩ (.int .u64 (j2 : Int)) = v58 at zz rr ro ⊢
          have zv58 := zz
          have rv58_7 := rr
          have rv58_6 := ro
          clear zz rr ro
          intro q hq
          refine wpQuiet_nil ?_
          clear hq q
          have R6 := Lib.hid rv58_6
          have R7 := Lib.hid rv58_7
          have ZZ := Lib.hid zv58
          clear rv58_6 rv58_7
          go_wp2_with (fail)
          go_meet
          case rel => exact ⟨_, _, rfl, rfl, R6, R7, ZZ⟩
    case rest =>
      obtain ⟨g13, g14, rfl, rfl, R13, R14, HY⟩ := hcut
      generalize wc = X at *
      have rX := (HY.out.block _ hL7).trans r7
      have rY := (HY.out.block _ hL8).trans r8
      have rS := (HY.out.block _ hL9).trans r9
      have rT := (HY.out.block _ hL11).trans r11
      have rO := R13.out
      have rJ := R14.out
      have hz6 := Lib.hid (hz5.out.trans (HY.out.mono hz5.out.size))
      have hTX := hT.below hz6.out
      clear rA rB r7 r8 r9 r11 hA3 hA4 hL7 hL8 hL9 hL11 HY hz5 hTY
      have hL7 : g7 < X.heap.size := (Array.getElem?_eq_some_iff.1 rX).1
      have hL8 : g8 < X.heap.size := (Array.getElem?_eq_some_iff.1 rY).1
      have hL9 : g9 < X.heap.size := (Array.getElem?_eq_some_iff.1 rS).1
      have hL11 : g11 < X.heap.size := (Array.getElem?_eq_some_iff.1 rT).1
      have hL13 : g13 < X.heap.size := (Array.getElem?_eq_some_iff.1 rO).1
      have hL14 : g14 < X.heap.size := (Array.getElem?_eq_some_iff.1 rJ).1
      go_wp2_with fail
      refine wp_low X.heap.size [([0, 1, 2, 3, 4, 5, 6, 7, 8, 9, 10, 11], 12), ([13, 14, 15, 16, 17, 18], 19), ([20, 21, 22, 23], 24), ([25, 26, 27], 28), ([29, 30, 31], 32), ([33, 34], 35)] [36, 37] (by kernel_rfl) (by kernel_rfl) (fun d _ _ _ _ h => by cases d <;> exact h) (Nat.le_refl _) fun wd hbd => ?_
      intro q hq
      have ds0 := fun z => cellz (j := 0) (hq z) rS rfl hL9
      have ds1 := fun z => cellz (j := 1) (hq z) rS rfl hL9
      have dt0 := fun z => cellz (j := 0) (hq z) rT rfl hL11
      have dt1 := fun z => cellz (j := 1) (hq z) rT rfl hL11
      have do0 := fun z => cellz (j := 0) (hq z) rO rfl hL13
      have do1 := fun z => cellz (j := 1) (hq z) rO rfl hL13
      have dj0 := fun z => cellz (j := 0) (hq z) rJ rfl hL14
      have dj1 := fun z => cellz (j := 1) (hq z) rJ rfl hL14
      have dx0 := fun z => cellz (j := 0) (hq z) rX rfl hL7
      have dx1 := fun z => cellz (j := 1) (hq z) rX rfl hL7
      have dy0 := fun z => cellz (j := 0) (hq z) rY rfl hL8
      have dy1 := fun z => cellz (j := 1) (hq z) rY rfl hL8
      simp only [pickI, Option.toList_some, List.cons_append, List.nil_append, List.getElem?_toArray, List.getElem?_cons_succ, List.getElem?_cons_zero]
      repeat (go_big_quiet_step (fail))
      refine wpQuiet_nil ?_
      clear ds0 ds1 dt0 dt1 do0 do1 dj0 dj1 dx0 dx1 dy0 dy1 hq q
      refine seg_op (by simp only [List.getElem?_toArray, List.getElem?_cons_succ, List.getElem?_cons_zero]; rfl) fun K hK => ?_
      go_simp
      refine (hRO _).mono ?_
      rintro e v0 ⟨rfl, bv0⟩
      have zv0 := hbd.trans (bv0.mono hbd.size)
      refine hK.out _ _ (seg_keep zv0 ?_)
      clear hK K
      intro q hq
      have ds0 := fun z => cellz (j := 0) (hq z) rS rfl hL9
      have ds1 := fun z => cellz (j := 1) (hq z) rS rfl hL9
      have dt0 := fun z => cellz (j := 0) (hq z) rT rfl hL11
      have dt1 := fun z => cellz (j := 1) (hq z) rT rfl hL11
      have do0 := fun z => cellz (j := 0) (hq z) rO rfl hL13
      have do1 := fun z => cellz (j := 1) (hq z) rO rfl hL13
      have dj0 := fun z => cellz (j := 0) (hq z) rJ rfl hL14
      have dj1 := fun z => cellz (j := 1) (hq z) rJ rfl hL14
      have dx0 := fun z => cellz (j := 0) (hq z) rX rfl hL7
      have dx1 := fun z => cellz (j := 1) (hq z) rX rfl hL7
      have dy0 := fun z => cellz (j := 0) (hq z) rY rfl hL8
      have dy1 := fun z => cellz (j := 1) (hq z) rY rfl hL8
      simp only [pickI, Option.toList_some, List.cons_append, List.nil_append, List.getElem?_toArray, List.getElem?_cons_succ, List.getElem?_cons_zero]
      repeat (go_big_quiet_step (fail))
      refine wpQuiet_nil ?_
      clear ds0 ds1 dt0 dt1 do0 do1 dj0 dj1 dx0 dx1 dy0 dy1 hq q
      refine seg_op (by simp only [List.getElem?_toArray, List.getElem?_cons_succ, List.getElem?_cons_zero]; rfl) fun K hK => ?_
      go_simp
      refine (hRJ _).mono ?_
      rintro e v1 ⟨rfl, bv1⟩
      have zv1 := zv0.trans (bv1.mono zv0.size)
      refine hK.out _ _ (seg_keep zv1 ?_)
      clear hK K
      intro q hq
      have ds0 := fun z => cellz (j := 0) (hq z) rS rfl hL9
      have ds1 := fun z => cellz (j := 1) (hq z) rS rfl hL9
      have dt0 := fun z => cellz (j := 0) (hq z) rT rfl hL11
      have dt1 := fun z => cellz (j := 1) (hq z) rT rfl hL11
      have do0 := fun z => cellz (j := 0) (hq z) rO rfl hL13
      have do1 := fun z => cellz (j := 1) (hq z) rO rfl hL13
      have dj0 := fun z => cellz (j := 0) (hq z) rJ rfl hL14
      have dj1 := fun z => cellz (j := 1) (hq z) rJ rfl hL14
      have dx0 := fun z => cellz (j := 0) (hq z) rX rfl hL7
      have dx1 := fun z => cellz (j := 1) (hq z) rX rfl hL7
      have dy0 := fun z => cellz (j := 0) (hq z) rY rfl hL8
      have dy1 := fun z => cellz (j := 1) (hq z) rY rfl hL8
      simp only [pickI, Option.toList_some, List.cons_append, List.nil_append, List.getElem?_toArray, List.getElem?_cons_succ, List.getElem?_cons_zero]
      repeat (go_big_quiet_step (fail))
      refine wpQuiet_nil ?_
      clear ds0 ds1 dt0 dt1 do0 do1 dj0 dj1 dx0 dx1 dy0 dy1 hq q
      refine seg_op (by simp only [List.getElem?_toArray, List.getElem?_cons_succ, List.getElem?_cons_zero]; rfl) fun K hK => ?_
      go_simp
      refine (hG1 _ (hTX.below zv1)).mono ?_
      rintro e v2 ⟨rfl, bv2⟩
      have zv2 := zv1.trans (bv2.mono zv1.size)
      refine hK.out _ _ (seg_keep zv2 ?_)
      clear hK K
      intro q hq
      have ds0 := fun z => cellz (j := 0) (hq z) rS rfl hL9
      have ds1 := fun z => cellz (j := 1) (hq z) rS rfl hL9
      have dt0 := fun z => cellz (j := 0) (hq z) rT rfl hL11
      have dt1 := fun z => cellz (j := 1) (hq z) rT rfl hL11
      have do0 := fun z => cellz (j := 0) (hq z) rO rfl hL13
      have do1 := fun z => cellz (j := 1) (hq z) rO rfl hL13
      have dj0 := fun z => cellz (j := 0) (hq z) rJ rfl hL14
      have dj1 := fun z => cellz (j := 1) (hq z) rJ rfl hL14
      have dx0 := fun z => cellz (j := 0) (hq z) rX rfl hL7
      have dx1 := fun z => cellz (j := 1) (hq z) rX rfl hL7
      have dy0 := fun z => cellz (j := 0) (hq z) rY rfl hL8
      have dy1 := fun z => cellz (j := 1) (hq z) rY rfl hL8
      simp only [pickI, Option.toList_some, List.cons_append, List.nil_append, List.getElem?_toArray, List.getElem?_cons_succ, List.getElem?_cons_zero]
      repeat (go_big_quiet_step (fail))
      refine wpQuiet_nil ?_
      clear ds0 ds1 dt0 dt1 do0 do1 dj0 dj1 dx0 dx1 dy0 dy1 hq q
      refine seg_op (by simp only [List.getElem?_toArray, List.getElem?_cons_succ, List.getElem?_cons_zero]; rfl) fun K hK => ?_
      go_simp
      refine (hG2 _ (hTX.below zv2)).mono ?_
      rintro e v3 ⟨rfl, bv3⟩
      have zv3 := zv2.trans (bv3.mono zv2.size)
      refine hK.out _ _ (seg_keep zv3 ?_)
      clear hK K
      intro q hq
      have ds0 := fun z => cellz (j := 0) (hq z) rS rfl hL9
      have ds1 := fun z => cellz (j := 1) (hq z) rS rfl hL9
      have dt0 := fun z => cellz (j := 0) (hq z) rT rfl hL11
      have dt1 := fun z => cellz (j := 1) (hq z) rT rfl hL11
      have do0 := fun z => cellz (j := 0) (hq z) rO rfl hL13
      have do1 := fun z => cellz (j := 1) (hq z) rO rfl hL13
      have dj0 := fun z => cellz (j := 0) (hq z) rJ rfl hL14
      have dj1 := fun z => cellz (j := 1) (hq z) rJ rfl hL14
      have dx0 := fun z => cellz (j := 0) (hq z) rX rfl hL7
      have dx1 := fun z => cellz (j := 1) (hq z) rX rfl hL7
      have dy0 := fun z => cellz (j := 0) (hq z) rY rfl hL8
      have dy1 := fun z => cellz (j := 1) (hq z) rY rfl hL8
      simp only [pickI, Option.toList_some, List.cons_append, List.nil_append, List.getElem?_toArray, List.getElem?_cons_succ, List.getElem?_cons_zero]
      repeat (go_big_quiet_step (fail))
      refine wpQuiet_nil ?_
      clear ds0 ds1 dt0 dt1 do0 do1 dj0 dj1 dx0 dx1 dy0 dy1 hq q
      refine seg_op (by simp only [List.getElem?_toArray, List.getElem?_cons_succ, List.getElem?_cons_zero]; rfl) fun K hK => ?_
      go_simp
      refine (hG3 _ (hTX.below zv3)).mono ?_
      rintro e v4 ⟨rfl, bv4⟩
      have zv4 := zv3.trans (bv4.mono zv3.size)
      refine hK.out _ _ (seg_keep zv4 ?_)
      clear hK K
      intro q hq
      have ds0 := fun z => cellz (j := 0) (hq z) rS rfl hL9
      have ds1 := fun z => cellz (j := 1) (hq z) rS rfl hL9
      have dt0 := fun z => cellz (j := 0) (hq z) rT rfl hL11
      have dt1 := fun z => cellz (j := 1) (hq z) rT rfl hL11
      have do0 := fun z => cellz (j := 0) (hq z) rO rfl hL13
      have do1 := fun z => cellz (j := 1) (hq z) rO rfl hL13
      have dj0 := fun z => cellz (j := 0) (hq z) rJ rfl hL14
      have dj1 := fun z => cellz (j := 1) (hq z) rJ rfl hL14
      have dx0 := fun z => cellz (j := 0) (hq z) rX rfl hL7
      have dx1 := fun z => cellz (j := 1) (hq z) rX rfl hL7
      have dy0 := fun z => cellz (j := 0) (hq z) rY rfl hL8
      have dy1 := fun z => cellz (j := 1) (hq z) rY rfl hL8
      simp only [pickI, Option.toList_some, List.cons_append, List.nil_append, List.getElem?_toArray, List.getElem?_cons_succ, List.getElem?_cons_zero]
      repeat (go_big_quiet_step (fail))
      refine wpQuiet_nil ?_
      clear ds0 ds1 dt0 dt1 do0 do1 dj0 dj1 dx0 dx1 dy0 dy1 hq q
      refine seg_op (by simp only [List.getElem?_toArray, List.getElem?_cons_succ, List.getElem?_cons_zero]; rfl) fun K hK => ?_
      go_simp
      refine (lives4 _ (hTX.below zv4)).mono ?_
      rintro e v5 ⟨rfl, bv5⟩
      have zv5 := zv4.trans (bv5.mono zv4.size)
      refine hK.out _ _ (seg_keep zv5 ?_)
      clear hK K
      intro q hq
      have ds0 := fun z => cellz (j := 0) (hq z) rS rfl hL9
      have ds1 := fun z => cellz (j := 1) (hq z) rS rfl hL9
      have dt0 := fun z => cellz (j := 0) (hq z) rT rfl hL11
      have dt1 := fun z => cellz (j := 1) (hq z) rT rfl hL11
      have do0 := fun z => cellz (j := 0) (hq z) rO rfl hL13
      have do1 := fun z => cellz (j := 1) (hq z) rO rfl hL13
      have dj0 := fun z => cellz (j := 0) (hq z) rJ rfl hL14
      have dj1 := fun z => cellz (j := 1) (hq z) rJ rfl hL14
      have dx0 := fun z => cellz (j := 0) (hq z) rX rfl hL7
      have dx1 := fun z => cellz (j := 1) (hq z) rX rfl hL7
      have dy0 := fun z => cellz (j := 0) (hq z) rY rfl hL8
      have dy1 := fun z => cellz (j := 1) (hq z) rY rfl hL8
      simp only [pickI, Option.toList_some, List.cons_append, List.nil_append, List.getElem?_toArray, List.getElem?_cons_succ, List.getElem?_cons_zero]
      repeat (go_big_quiet_step (fail))
      refine wpQuiet_nil ?_
      clear ds0 ds1 dt0 dt1 do0 do1 dj0 dj1 dx0 dx1 dy0 dy1 hq q
      have hfin := zv5
      go_wp2
      go_ret
      exact ⟨rfl, hz6.out.trans (hfin.mono hz6.out.size)⟩

theorem marksSets_top {w : World} (x0 y0 : Int) (h0 : (Lit.int .u64 x0).wf = true) (g0 : (Lit.int .u64 y0).wf = true) (x1 y1 : Int) (h1 : (Lit.int .u64 x1).wf = true) (g1 : (Lit.int .u64 y1).wf = true) (x2 : Int) (h2 : (Lit.int .u64 x2).wf = true) (hT : Tab w) :
    Calls Tryd.prog 4 #[.agg #[.int .u64 x0, .int .u64 y0], .agg #[.int .u64 x1, .int .u64 y1], .int .u64 x2] w fun e w' => e = .returned (.bool true) ∧ Below w.heap.size w w' := by
  obtain ⟨La, rfl, hLa⟩ := wf_u64 h0
  obtain ⟨Ba, rfl, hBa⟩ := wf_u64 g0
  obtain ⟨Lb, rfl, hLb⟩ := wf_u64 h1
  obtain ⟨Bb, rfl, hBb⟩ := wf_u64 g1
  obtain ⟨n, rfl, hn⟩ := wf_u64 h2
  cases hga : gdB La Ba
  · exact sets_early La Ba Lb Bb n w hLa hBa hLb hBb hT (.inl hga)
  · cases hgb : gdB Lb Bb
    · exact sets_early La Ba Lb Bb n w hLa hBa hLb hBb hT (.inr hgb)
    · exact sets_late La Ba Lb Bb n w hBa hBb hn hT ((gdB_iff La Ba).1 hga) ((gdB_iff Lb Bb).1 hgb)

namespace marksSets
open Go.ChangeShapes Go.WideShapes Go.ChangeAt
set_option maxRecDepth 100000 in
theorem lifted (os : Os) (started : os.Started) (H : Type) (enc : TypeId × Value → H) :
    ReturnsInHanded {} Tryd.checked os 4 .any (fun w args => (Rows.marksSetsSpec.pre enc Tryd.prog Tryd.f4 [] false w args ∧ laidMetH Tryd.prog laidL w) ∧ sizedMet enc Tryd.prog Tryd.f4 (OpenSpec.ofChange Rows.marksSetsSpec) false w args)
      (Rows.marksSetsSpec.post enc Tryd.prog Tryd.f4 false true false false) := by
  refine returnsInHanded_of_change_and (C := Tryd.checked) (X := fun w _ => laidMetH Tryd.prog laidL w) (fun _ _ _ hh h => h.of_heap hh) own started (by kernel_rfl) Tryd.func4
    (ChangeSpec.witness_shaped (enc := enc) (C := Tryd.checked) (os := os) (X := fun w _ => laidMetH Tryd.prog laidL w) false (World.doorLaid Tryd.prog 400 os) #[.agg #[.int .u64 0, .int .u64 0], .agg #[.int .u64 0, .int .u64 0], .int .u64 0] 8 rfl (World.shaped_of_RefB (by kernel_rfl) (by kernel_rfl)) (by kernel_rfl) (by kernel_rfl) (by kernel_rfl) (door_met os _)) ?_
  intro W base args ds gs before hval0 hW _ _ hL _
  have hval : ∀ (j : Nat) t v, Tryd.f4.params[j]? = some t → args[j]? = some v → Value.okWide Tryd.prog W .any base t v := hval0
  have hW' := hW
  obtain ⟨p, q, hA0, hV, rfl, hfz, hnd⟩ := hW
  have hA : DataW.TrodAll enc Tryd.prog W 0 (fun _ => true) true Tryd.f4.params.toList args.toList ds p := hA0
  rw [Tryd.params4] at hA hval
  obtain ⟨v0, vs0, d0, ds0, p0, q0, hargs, rfl, rfl, h0, r0⟩ := trodAll_cons hA
  obtain ⟨v1, vs1, d1, ds1, p1, q1, rfl, rfl, rfl, h1, r1⟩ := trodAll_cons r0
  obtain ⟨v2, vs2, d2, ds2, p2, q2, rfl, rfl, rfl, h2, r2⟩ := trodAll_cons r1
  obtain ⟨rfl, rfl, rfl⟩ := trodAll_nil r2
  obtain rfl : args = #[v0, v1, v2] := by cases args; simp_all
  obtain ⟨rfl, rfl⟩ := trodVars_none hV
  have k0 := h0
  have lt0 : ∀ x ∈ p0, x.block < W.heap.size := by obtain ⟨m, hm⟩ := k0; exact DataW.trod_lt m _ _ _ hm
  obtain ⟨x0, y0, rfl, w0, u0⟩ := dec_ints2 Tryd.underlying24 (by kernel_rfl) (by kernel_rfl) Tryd.underlying22 Tryd.underlying22 (hval 0 24 v0 rfl rfl) h0
  have k1 := h1
  have lt1 : ∀ x ∈ p1, x.block < W.heap.size := by obtain ⟨m, hm⟩ := k1; exact DataW.trod_lt m _ _ _ hm
  obtain ⟨x1, y1, rfl, w1, u1⟩ := dec_ints2 Tryd.underlying24 (by kernel_rfl) (by kernel_rfl) Tryd.underlying22 Tryd.underlying22 (hval 1 24 v1 rfl rfl) h1
  have k2 := h2
  have lt2 : ∀ x ∈ p2, x.block < W.heap.size := by obtain ⟨m, hm⟩ := k2; exact DataW.trod_lt m _ _ _ hm
  obtain ⟨x2, rfl, w2⟩ := dec_int Tryd.underlying22 (hval 2 22 v2 rfl rfl) h2
  clear hA0 hval0
  have hT := of_laid hL
  refine (marksSets_top x0 y0 w0 u0 x1 y1 w1 u1 x2 w2 hT).mono fun e W' ⟨he, bel⟩ => ?_
  subst he
  exact ⟨_, rfl, _, _, _, [], _, [], hW', trodAll_mk1 (shut_bool Tryd.underlying4 _), (trodAll_cons_mk (Below.trod laidOut (by kernel_rfl) (of_decide_eq_true (by kernel_rfl)) k0 bel lt0) (trodAll_cons_mk (Below.trod laidOut (by kernel_rfl) (of_decide_eq_true (by kernel_rfl)) k1 bel lt1) (trodAll_cons_mk (Below.trod laidOut (by kernel_rfl) (of_decide_eq_true (by kernel_rfl)) k2 bel lt2) trodAll_mk0))), rfl, bel.frame _, fun h => by cases h⟩

theorem over : Rows.marksSetsRow.holds Tryd.pinned (OpenSpec.ofChange Rows.marksSetsSpec) :=
  OpenClaim.holds_of_wide 4 Tryd.f4 rfl rfl rfl rfl rfl rfl rfl ⟨rfl, rfl, rfl, rfl, rfl⟩ rfl rfl rfl rfl rfl (by kernel_rfl) Tryd.func4 (by kernel_rfl)
    (of_decide_eq_true (by kernel_rfl)) (by unfold Func.isWrapper; first | (rw [if_pos (by decide +kernel)]; kernel_rfl) | (rw [if_neg (by decide +kernel)]; exact ⟨rfl, rfl⟩))
    (fun os started H enc _ => lifted os started H enc)
theorem row_tie : Rows.marksSetsRow.laidByTextAt .later Tryd.pinned [.data] true := marksSets_row_tie
/-- The given statement: the card. -/
theorem proved : Rows.MarksSetsCardSaid :=
  Claim7.holds_tied_plain_at .later [] [.data] true Rows.marksSetsCard.stood.harness false
    over (fun _ h => by cases h) (by kernel_rfl) (fun _ h => by cases h) row_tie rfl ⟨rfl, rfl⟩ (by kernel_rfl) rfl
    (fun f fn hf hfn => by
      obtain rfl : f = 4 := Option.some.inj ((show Tryd.prog.funcNamed Rows.marksSetsRow.func = some 4 by kernel_rfl).symm.trans hf) |>.symm
      obtain rfl : fn = Tryd.f4 := (Option.some.inj (Tryd.func4.symm.trans hfn)).symm
      exact ⟨by kernel_rfl, fun j t ht => by
        rw [Tryd.params4] at ht
        have hm : t ∈ [24, 24, 22] := by simpa using Array.mem_of_getElem? ht
        have hall : ([24, 24, 22].all fun u => !Tryd.prog.wantsStandIn u) = true := by kernel_rfl
        exact (show Tryd.prog.wantsStandIn t = false by simpa using List.all_eq_true.1 hall t hm)⟩)
    (by kernel_rfl)
end marksSets

end Go.Proofs.YtijkagfppeeegaaDoor
