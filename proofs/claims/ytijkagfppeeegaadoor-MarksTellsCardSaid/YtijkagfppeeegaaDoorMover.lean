/- Contracts of marks.Over and marks.Join, and what they mark. -/
import Derived.Test.YtijkagfppeeegaaDoorMset
namespace Go.Proofs.YtijkagfppeeegaaDoor
open Go.RowKit

/-- Marks with all up to one. -/
def mover (L B low : Nat) : Nat × Nat := if low ≤ L ∨ 4611686018427387840 < low then (L, B) else (low + tro (B >>> (low - L)), (B >>> (low - L)) >>> tro (B >>> (low - L)))
theorem mover_lt (L B low : Nat) (hB : B < 18446744073709551616) : (mover L B low).2 < 18446744073709551616 := by
  unfold mover
  split
  · exact hB
  · exact shr_lt _ _ (shr_lt _ _ hB)
theorem mover_hs (L B low x : Nat) (hB : B < 18446744073709551616) (hl : low ≤ 4611686018427387840) : Hs (mover L B low).1 (mover L B low).2 x = (Hs L B x || decide (x ≤ low)) := by
  unfold mover
  by_cases h : low ≤ L
  · rw [if_pos (.inl h)]
    by_cases hx : x ≤ low
    · rw [hs_low (Nat.le_trans hx h)]; simp
    · simp [hx]
  · rw [if_neg (by omega), hs_settle _ _ _ (shr_lt _ _ hB), hs_over L B low x (by omega)]
theorem mover_gd (L B low : Nat) (hB : B < 18446744073709551616) (hg : Gd L B) : Gd (mover L B low).1 (mover L B low).2 := by
  by_cases h : low ≤ L ∨ 4611686018427387840 < low
  · unfold mover; rw [if_pos h]; exact hg
  · unfold mover
    rw [if_neg h]
    refine gd_settle low _ (shr_lt _ _ hB) fun x hx => ?_
    rw [hs_over L B low x (by omega), Bool.or_eq_true] at hx
    rcases hx with hx | hx
    · exact gd_le hB hg hx
    · have := of_decide_eq_true hx; omega

/-- Two marks together. -/
def mjoin (La Ba Lb Bb : Nat) : Nat × Nat :=
  (max La Lb + tro (Ba >>> (max La Lb - La) ||| Bb >>> (max La Lb - Lb)), (Ba >>> (max La Lb - La) ||| Bb >>> (max La Lb - Lb)) >>> tro (Ba >>> (max La Lb - La) ||| Bb >>> (max La Lb - Lb)))
theorem mjoin_lt (La Ba Lb Bb : Nat) (hA : Ba < 18446744073709551616) (hB : Bb < 18446744073709551616) : (mjoin La Ba Lb Bb).2 < 18446744073709551616 :=
  shr_lt _ _ (or_lt _ _ (shr_lt _ _ hA) (shr_lt _ _ hB))
theorem mjoin_hs (La Ba Lb Bb x : Nat) (hA : Ba < 18446744073709551616) (hB : Bb < 18446744073709551616) : Hs (mjoin La Ba Lb Bb).1 (mjoin La Ba Lb Bb).2 x = (Hs La Ba x || Hs Lb Bb x) := by
  unfold mjoin
  rw [hs_settle _ _ _ (or_lt _ _ (shr_lt _ _ hA) (shr_lt _ _ hB)), hs_join, hs_over La Ba _ x (Nat.le_max_left _ _), hs_over Lb Bb _ x (Nat.le_max_right _ _)]
  by_cases h : x ≤ max La Lb
  · have : Hs La Ba x = true ∨ Hs Lb Bb x = true := by
      rcases Nat.le_total La Lb with h1 | h1
      · exact .inr (hs_low (by omega))
      · exact .inl (hs_low (by omega))
    rcases this with h2 | h2 <;> simp [h, h2]
  · simp [h]
theorem mjoin_gd (La Ba Lb Bb : Nat) (hA : Ba < 18446744073709551616) (hB : Bb < 18446744073709551616) (hga : Gd La Ba) (hgb : Gd Lb Bb) : Gd (mjoin La Ba Lb Bb).1 (mjoin La Ba Lb Bb).2 := by
  unfold mjoin
  refine gd_settle _ _ (or_lt _ _ (shr_lt _ _ hA) (shr_lt _ _ hB)) fun x hx => ?_
  have := mjoin_hs La Ba Lb Bb x hA hB
  unfold mjoin at this
  rw [hs_settle _ _ _ (or_lt _ _ (shr_lt _ _ hA) (shr_lt _ _ hB))] at this
  rw [this, Bool.or_eq_true] at hx
  rcases hx with hx | hx
  · exact gd_le hA hga hx
  · exact gd_le hB hgb hx

theorem over_any (L B low : Nat) (w : World) (hL : L ≤ 4611686018427387840) (hB : B < 18446744073709551616) (hlow : low < 18446744073709551616) (hT : Tab w) :
    Calls Tryd.prog 23 #[.agg #[.int .u64 (L : Int), .int .u64 (B : Int)], .int .u64 (low : Int)] w fun e w' => e = .returned (.agg #[.int .u64 ((mover L B low).1 : Int), .int .u64 ((mover L B low).2 : Int)]) ∧ Below w.heap.size w w' := by
  by_cases h1 : low ≤ L
  · have hm : mover L B low = (L, B) := by unfold mover; rw [if_pos (.inl h1)]
    rw [hm]
    have d1 : decide (low ≤ L) = true := by simp; omega
    clear hm h1 hL hB
    go_enter Tryd.func23, Tryd.ntmps23
    go_wp2
    exact bodyPost_ret (v := .agg #[.int .u64 (L : Int), .int .u64 (B : Int)]) (by simp [results, Tryd.results23, go_sem]) rfl ⟨rfl, ((Below.refl _ _).alloc (Nat.le_refl _) _).alloc (by simp) _⟩
  · by_cases h2 : low ≤ 4611686018427387840
    · have hm : mover L B low = (low + tro (B >>> (low - L)), (B >>> (low - L)) >>> tro (B >>> (low - L))) := by unfold mover; rw [if_neg (by omega)]
      rw [hm]
      have hs := fun W h => settled_any low (B >>> (low - L)) W h2 (shr_lt _ _ hB) h
      have ha := fun W => above_any L B low W hB (by omega) hlow
      have d1 : decide (low ≤ L) = false := by simp; omega
      have d2 : decide ((4611686018427387840 : Int) < (low : Int)) = false := by simp; omega
      generalize B >>> (low - L) = X at *
      generalize low + tro X = L' at *
      generalize X >>> tro X = X' at *
      clear hm h1 h2 hL hB
      go_enter Tryd.func23, Tryd.ntmps23
      go_wp2_with fail
      refine (ha _).mono ?_
      rintro e w1 ⟨rfl, hb1⟩
      obtain ⟨W, hW, hWs, r0, r1, hwW⟩ := boxes2 w #[.int .u64 (L : Int), .int .u64 (B : Int)] #[.int .u64 0, .int .u64 0] 24 24
      rw [← hW] at hb1
      have hz1 := hwW.trans (hb1.mono hwW.size)
      go_wp2_with fail
      refine (hs _ (hT.below hz1)).mono ?_
      rintro e w2 ⟨rfl, hb2⟩
      have hz2 := hb1.trans (hb2.mono hb1.size)
      have c0 := cellz (j := 0) (u := .int .u64 0) hz2 r1 rfl
      have c1 := cellz (j := 1) (u := .int .u64 0) hz2 r1 rfl
      have z0 := frozenz hz2 0 r1
      have z1 := frozenz hz2 1 r1
      go_wp2
      exact bodyPost_ret (v := .agg #[.int .u64 (L' : Int), .int .u64 (X' : Int)]) (by simp [results, Tryd.results23, go_sem, c0, c1]) rfl ⟨rfl, hwW.trans ((((show Below (w.heap.size + 1) W w2 from hz2.mono (by omega)).setCell (Nat.le_refl _) _).setCell (Nat.le_refl _) _).mono (by omega))⟩
    · have hm : mover L B low = (L, B) := by unfold mover; rw [if_pos (.inr (by omega))]
      rw [hm]
      have d1 : decide (low ≤ L) = false := by simp; omega
      have d2 : decide ((4611686018427387840 : Int) < (low : Int)) = true := by simp; omega
      clear hm h1 h2 hL hB
      go_enter Tryd.func23, Tryd.ntmps23
      go_wp2
      exact bodyPost_ret (v := .agg #[.int .u64 (L : Int), .int .u64 (B : Int)]) (by simp [results, Tryd.results23, go_sem]) rfl ⟨rfl, ((Below.refl _ _).alloc (Nat.le_refl _) _).alloc (by simp) _⟩

set_option maxHeartbeats 1000000 in
theorem join_any (La Ba Lb Bb : Nat) (w : World) (hLa : La ≤ 4611686018427387840) (hA : Ba < 18446744073709551616) (hLb : Lb ≤ 4611686018427387840) (hB : Bb < 18446744073709551616) (hT : Tab w) :
    Calls Tryd.prog 24 #[.agg #[.int .u64 (La : Int), .int .u64 (Ba : Int)], .agg #[.int .u64 (Lb : Int), .int .u64 (Bb : Int)]] w fun e w' => e = .returned (.agg #[.int .u64 ((mjoin La Ba Lb Bb).1 : Int), .int .u64 ((mjoin La Ba Lb Bb).2 : Int)]) ∧ Below w.heap.size w w' := by
  unfold mjoin
  obtain ⟨m, hm⟩ : ∃ m, m = max La Lb := ⟨_, rfl⟩
  rw [← hm]
  have hmx : (if La < Lb then (Lb : Int) else (La : Int)) = (m : Int) := by rw [hm]; split <;> omega
  have hmy : max (La : Int) (Lb : Int) = (m : Int) := by rw [hm]; omega
  have h1 := fun W => above_any La Ba m W hA (by omega) (by omega)
  have h2 := fun W => above_any Lb Bb m W hB (by omega) (by omega)
  have hx1 := shr_lt Ba (m - La) hA
  have hx2 := shr_lt Bb (m - Lb) hB
  have hs := fun W h => settled_any m (Ba >>> (m - La) ||| Bb >>> (m - Lb)) W (by omega) (or_lt _ _ hx1 hx2) h
  have ho := or_run _ _ hx1 hx2
  generalize Ba >>> (m - La) = X at *
  generalize Bb >>> (m - Lb) = Y at *
  generalize X ||| Y = Z at *
  generalize m + tro Z = L' at *
  generalize Z >>> tro Z = Z' at *
  clear hm hLa hLb hA hB
  obtain ⟨W, hW, hWs, r0, r1, r2, hwW⟩ := boxes3 w #[.int .u64 (La : Int), .int .u64 (Ba : Int)] #[.int .u64 (Lb : Int), .int .u64 (Bb : Int)] #[.int .u64 0, .int .u64 0] 24 24 24
  go_enter Tryd.func24, Tryd.ntmps24
  go_wp2_with fail
  rw [← hW]
  refine wp_low (w.heap.size + 2) [([0, 1, 2, 4, 5], 3), ([], 6), ([7, 8], 9), ([], 10)] [] (by kernel_rfl) (by kernel_rfl) (fun d _ _ _ _ h => by cases d <;> exact h) (by omega) fun wd hbd => ?_
  intro q hq
  have d0 := fun z => cellz (j := 0) (hq z) r0 rfl
  have d1 := fun z => cellz (j := 1) (hq z) r0 rfl
  have d2 := fun z => cellz (j := 0) (hq z) r1 rfl
  have d3 := fun z => cellz (j := 1) (hq z) r1 rfl
  simp only [pickI, Option.toList_some, List.cons_append, List.nil_append, List.getElem?_toArray, List.getElem?_cons_succ, List.getElem?_cons_zero]
  repeat (go_big_quiet_step (fail))
  refine wpQuiet_nil ?_
  clear d0 d1 d2 d3 hq q
  refine seg_op (by simp only [List.getElem?_toArray, List.getElem?_cons_succ, List.getElem?_cons_zero]; rfl) fun K hK => ?_
  go_simp
  refine (h1 _).mono ?_
  rintro e v0 ⟨rfl, bv0⟩
  have zv0 := hbd.trans (bv0.mono hbd.size)
  refine hK.out _ _ (seg_keep (zv0.mono (by omega)) ?_)
  clear hK K
  intro q hq
  refine wpQuiet_nil ?_
  clear hq q
  refine seg_op (by simp only [List.getElem?_toArray, List.getElem?_cons_succ, List.getElem?_cons_zero]; rfl) fun K hK => ?_
  go_simp
  refine (h2 _).mono ?_
  rintro e v1 ⟨rfl, bv1⟩
  have zv1 := zv0.trans (bv1.mono zv0.size)
  refine hK.out _ _ (seg_keep (zv1.mono (by omega)) ?_)
  clear hK K
  intro q hq
  have d0 := fun z => cellz (j := 0) (hq z) r0 rfl
  have d1 := fun z => cellz (j := 1) (hq z) r0 rfl
  have d2 := fun z => cellz (j := 0) (hq z) r1 rfl
  have d3 := fun z => cellz (j := 1) (hq z) r1 rfl
  simp only [pickI, Option.toList_some, List.cons_append, List.nil_append, List.getElem?_toArray, List.getElem?_cons_succ, List.getElem?_cons_zero]
  repeat (go_big_quiet_step (fail))
  refine wpQuiet_nil ?_
  clear d0 d1 d2 d3 hq q
  refine seg_op (by simp only [List.getElem?_toArray, List.getElem?_cons_succ, List.getElem?_cons_zero]; rfl) fun K hK => ?_
  go_simp
  refine (hs _ (hT.below (hwW.trans (zv1.mono hwW.size)))).mono ?_
  rintro e v2 ⟨rfl, bv2⟩
  have zv2 := zv1.trans (bv2.mono zv1.size)
  refine hK.out _ _ (seg_keep (zv2.mono (by omega)) ?_)
  clear hK K
  intro q hq
  refine wpQuiet_nil ?_
  clear hq q
  have hfin := zv2
  have e0 := cellz (j := 0) (u := .int .u64 0) hfin r2 rfl
  have e1 := cellz (j := 1) (u := .int .u64 0) hfin r2 rfl
  have z0 := frozenz hfin 0 r2
  have z1 := frozenz hfin 1 r2
  refine seg_op (by simp only [List.getElem?_toArray, List.getElem?_cons_succ, List.getElem?_cons_zero]; rfl) fun K hK => ?_
  go_simp
  have hz4 := ((show Below (w.heap.size + 2) W _ from hfin.mono (by omega)).setCell (p := ⟨w.heap.size + 2, 0, none⟩) (Nat.le_refl _) (.int .u64 (L' : Int))).setCell (p := ⟨w.heap.size + 2, 1, none⟩) (Nat.le_refl _) (.int .u64 (Z' : Int))
  refine hK.out _ _ (seg_keep hz4 ?_)
  clear hK K
  intro q hq
  refine wpQuiet_nil ?_
  clear hq q
  go_wp2
  exact bodyPost_ret (v := .agg #[.int .u64 (L' : Int), .int .u64 (Z' : Int)]) (by simp [results, Tryd.results24, go_sem, e0, e1]) rfl ⟨rfl, hwW.trans (hz4.mono (by omega))⟩

end Go.Proofs.YtijkagfppeeegaaDoor
