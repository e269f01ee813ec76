/- Contracts of package marks: settled, above, Top, Good. Images as data: what may be, their bytes, both ways. -/
import Derived.Test.YtgejmeankppmhaaDoorMarksM
import Derived.Test.YtgejmeankppmhaaDoorAsksM
namespace Go.Proofs.YtgejmeankppmhaaDoor
open Go.RowKit

theorem not_run (B : Nat) (hB : B < 18446744073709551616) : bits .xor .u64 IntKind.u64.max (B : Int) = ((18446744073709551615 - B : Nat) : Int) := by
  have e : (18446744073709551615 : Nat) ^^^ B = 18446744073709551615 - B := by
    refine Nat.eq_of_testBit_eq fun i => ?_
    rw [Nat.testBit_xor]
    by_cases hi : i < 64
    · rw [comp_bit B i hB hi, show (18446744073709551615 : Nat) = 2 ^ 64 - 1 by decide, Nat.testBit_two_pow_sub_one]
      simp [hi]
    · rw [high_bit B i hB (by omega), high_bit _ i (by omega) (by omega), high_bit _ i (by omega) (by omega)]; rfl
  have h1 : (BitVec.ofInt 64 ((18446744073709551615 : Nat) : Int)).toNat = 18446744073709551615 := by
    rw [BitVec.ofInt_natCast, BitVec.toNat_ofNat]
  have h2 : (BitVec.ofInt 64 (B : Int)).toNat = B := by
    rw [BitVec.ofInt_natCast, BitVec.toNat_ofNat]; exact Nat.mod_eq_of_lt (by omega)
  show IntKind.u64.wrap ((BitVec.ofInt 64 ((18446744073709551615 : Nat) : Int) ^^^ BitVec.ofInt 64 (B : Int)).toNat : Int) = _
  rw [BitVec.toNat_xor, h1, h2, e, u64w _ (by omega) (by omega)]

theorem settled_any (L B : Nat) (w : World) (hL : L ≤ 4611686018427387840) (hB : B < 18446744073709551616) (hT : Tab w) :
    Calls Tryd.prog 24 #[.agg #[.int .u64 (L : Int), .int .u64 (B : Int)]] w fun e w' => e = .returned (.agg #[.int .u64 ((L + tro B : Nat) : Int), .int .u64 ((B >>> tro B : Nat) : Int)]) ∧ Below w.heap.size w w' := by
  have ht := fun (W : World) (h : Below w.heap.size w W) => tz_any (18446744073709551615 - B) W (by omega) (hT.below h)
  rw [show Lib.ctz 64 (18446744073709551615 - B) = tro B from rfl] at ht
  have hle := tro_le B
  generalize tro B = t at *
  have e1 : Op.shift .shr .u64 (B : Int) .i64 (t : Int) = pure (.int .u64 ((B >>> t : Nat) : Int)) := shr_op B t (t : Int) hB rfl
  have e2 : (B : Int) / 2 ^ t = ((B >>> t : Nat) : Int) := by rw [Nat.shiftRight_eq_div_pow]; simp
  have hX := shr_lt B t hB
  generalize B >>> t = X at *
  obtain ⟨W, hW, hWs, r0, r1, hwW⟩ := boxes2 w #[.int .u64 (L : Int), .int .u64 (B : Int)] #[.int .u64 0, .int .u64 0] 25 25
  have en := not_run B hB
  go_enter Tryd.func24, Tryd.ntmps24
  go_wp2_with fail
  rw [← hW]
  refine (ht W hwW).mono ?_
  rintro e w1 ⟨rfl, rfl⟩
  clear hW
  have c0 := cell_of_row W _ 0 _ _ _ r1
  have c1 := cell_of_row W _ 1 _ _ _ r1
  simp at c0 c1
  go_wp2_with fail
  refine wp_low (w.heap.size + 1) [([0, 1, 2, 3, 4, 5, 6, 7, 8, 9], 10)] [] (by kernel_rfl) (by kernel_rfl) (fun d _ _ _ _ h => by cases d <;> exact h) (by first | omega | (simp <;> omega)) fun wd hbd => ?_
  intro q hq
  have d0 := fun z => cellz (j := 0) (hq z) r0 rfl
  have d1 := fun z => cellz (j := 1) (hq z) r0 rfl
  simp only [pickI, Option.toList_some, List.cons_append, List.nil_append, List.getElem?_toArray, List.getElem?_cons_succ, List.getElem?_cons_zero]
  repeat (go_big_quiet_step (fail))
  refine wpQuiet_nil ?_
  clear d0 d1 hq q
  refine seg_op (by simp only [List.getElem?_toArray, List.getElem?_cons_succ, List.getElem?_cons_zero]; rfl) fun K hK => ?_
  have f0 := kept hbd c0 (by omega)
  have f1 := kept hbd c1 (by omega)
  have z0 := frozenz hbd 0 r1
  have z1 := frozenz hbd 1 r1
  go_simp
  have hz2 := ((show Below (w.heap.size + 1) W wd from hbd.mono (by omega)).setCell (p := ⟨w.heap.size + 1, 0, none⟩) (Nat.le_refl _) (.int .u64 ((L : Int) + (t : Int)))).setCell (p := ⟨w.heap.size + 1, 1, none⟩) (Nat.le_refl _) (.int .u64 (X : Int))
  refine hK.out _ _ (seg_keep hz2 ?_)
  clear hK K
  intro q hq
  refine wpQuiet_nil ?_
  clear hq q
  go_wp2
  exact bodyPost_ret (v := .agg #[.int .u64 ((L + t : Nat) : Int), .int .u64 (X : Int)]) (by simp [results, Tryd.results24, go_sem, f0, f1]) rfl ⟨rfl, hwW.trans (hz2.mono (by omega))⟩

theorem top_any (L B : Nat) (w : World) (hL : L ≤ 4611686018427387840) (hB : B < 18446744073709551616) :
    Calls Tryd.prog 23 #[.agg #[.int .u64 (L : Int), .int .u64 (B : Int)]] w fun e w' => e = .returned (.int .u64 ((top L B : Nat) : Int)) ∧ Below w.heap.size w w' := by
  have hl := fun W => len_any B W hB
  have hb := bl_le B hB
  have ht : top L B = L + Lib.bitLen B := rfl
  rw [ht]
  clear ht
  generalize Lib.bitLen B = t at *
  obtain ⟨W, hW, hWs, r0, hwW⟩ := boxes1 w #[.int .u64 (L : Int), .int .u64 (B : Int)] 25
  go_enter Tryd.func23, Tryd.ntmps23
  go_wp2_with fail
  rw [← hW]
  refine wp_low (W.heap.size) [([0, 1, 2, 3], 4)] [5, 6, 7] (by kernel_rfl) (by kernel_rfl) (fun d _ _ _ _ h => by cases d <;> exact h) (by first | omega | (simp <;> omega)) fun wd hbd => ?_
  intro q hq
  have d0 := fun z => cellz (j := 0) (hq z) r0 rfl
  have d1 := fun z => cellz (j := 1) (hq z) r0 rfl
  simp only [pickI, Option.toList_some, List.cons_append, List.nil_append, List.getElem?_toArray, List.getElem?_cons_succ, List.getElem?_cons_zero]
  repeat (go_big_quiet_step (fail))
  refine wpQuiet_nil ?_
  clear d0 d1 hq q
  refine seg_op (by simp only [List.getElem?_toArray, List.getElem?_cons_succ, List.getElem?_cons_zero]; rfl) fun K hK => ?_
  go_simp
  refine (hl _).mono ?_
  rintro e w1 ⟨rfl, rfl⟩
  refine hK.out _ _ (seg_keep hbd ?_)
  clear hK K
  intro q hq
  simp only [pickI, Option.toList_some, List.cons_append, List.nil_append, List.getElem?_toArray, List.getElem?_cons_succ, List.getElem?_cons_zero]
  repeat (go_big_quiet_step (fail))
  refine wpQuiet_nil ?_
  clear hq q
  go_wp2
  go_ret
  exact ⟨ret_u64 (by omega), hwW.trans (hbd.mono (by omega))⟩

/-- Good marks, as a truth value. -/
def gdB (L B : Nat) : Bool := decide (L ≤ 4611686018427387840) && (!B.testBit 0 && decide (top L B ≤ 4611686018427387840))
theorem gdB_iff (L B : Nat) : gdB L B = true ↔ Gd L B := by unfold gdB Gd; simp
theorem tro_low (B : Nat) (hB : B < 18446744073709551616) : B.testBit 0 = decide (0 < tro B) := by
  by_cases h : 0 < tro B
  · rw [tro_ones B 0 hB h]; simp [h]
  · have : tro B = 0 := by omega
    have hz := tro_zero B hB
    rw [this] at hz
    rw [hz, this]; rfl

theorem good_any (L B : Nat) (w : World) (hL : L < 18446744073709551616) (hB : B < 18446744073709551616) (hT : Tab w) :
    Calls Tryd.prog 6 #[.agg #[.int .u64 (L : Int), .int .u64 (B : Int)]] w fun e w' => e = .returned (.bool (gdB L B)) ∧ Below w.heap.size w w' := by
  obtain ⟨W, hW, hWs, r0, hwW⟩ := boxes1 w #[.int .u64 (L : Int), .int .u64 (B : Int)] 25
  by_cases h1 : L ≤ 4611686018427387840
  · have ht := fun W => top_any L B W h1 hB
    have hs := fun W h => settled_any L B W h1 hB h
    have d1 : decide ((L : Int) ≤ 4611686018427387840) = true := by simp; omega
    by_cases h2 : top L B ≤ 4611686018427387840
    · have d2 : decide (((top L B : Nat) : Int) ≤ 4611686018427387840) = true := by simp; omega
      have hg : gdB L B = !B.testBit 0 := by unfold gdB; simp [h1, h2]
      rw [hg]
      by_cases h0 : tro B = 0
      · have hb0 : B.testBit 0 = false := by rw [tro_low B hB, h0]; rfl
        rw [hb0]
        rw [h0, Nat.add_zero, Nat.shiftRight_zero] at hs
        have qL : ((L : Int) == (L : Int)) = true := beq_self_eq_true _
        have qB : ((B : Int) == (B : Int)) = true := beq_self_eq_true _
        have h3 : top L B ≤ 4611686018427387840 := h2
        generalize top L B = tp at *
        clear hg h0 hb0 hL hB
        go_enter Tryd.func6, Tryd.ntmps6
        go_wp2_with fail
        rw [← hW]
        refine wp_low W.heap.size [([0, 1, 2, 3, 4], 5), ([6, 7, 8, 9, 10], 11)] [12, 13, 14] (by kernel_rfl) (by kernel_rfl) (fun d _ _ _ _ h => by cases d <;> exact h) (Nat.le_refl _) fun wd hbd => ?_
        intro q hq
        have d0 := fun z => cellz (j := 0) (hq z) r0 rfl
        have d1 := fun z => cellz (j := 1) (hq z) r0 rfl
        simp only [pickI, Option.toList_some, List.cons_append, List.nil_append, List.getElem?_toArray, List.getElem?_cons_succ, List.getElem?_cons_zero]
        repeat (go_big_quiet_step (fail))
        refine wpQuiet_nil ?_
        clear d0 d1 hq q
        refine seg_op (by simp only [List.getElem?_toArray, List.getElem?_cons_succ, List.getElem?_cons_zero]; rfl) fun K hK => ?_
        go_simp
        refine (ht _).mono ?_
        rintro e v0 ⟨rfl, bv0⟩
        have zv0 := hbd.trans (bv0.mono hbd.size)
        refine hK.out _ _ (seg_keep zv0 ?_)
        clear hK K
        intro q hq
        have d0 := fun z => cellz (j := 0) (hq z) r0 rfl
        have d1 := fun z => cellz (j := 1) (hq z) r0 rfl
        simp only [pickI, Option.toList_some, List.cons_append, List.nil_append, List.getElem?_toArray, List.getElem?_cons_succ, List.getElem?_cons_zero]
        repeat (go_big_quiet_step (fail))
        refine wpQuiet_nil ?_
        clear d0 d1 hq q
        refine seg_op (by simp only [List.getElem?_toArray, List.getElem?_cons_succ, List.getElem?_cons_zero]; rfl) fun K hK => ?_
        go_simp
        refine (hs _ (hT.below (hwW.trans (hbd.trans (bv0.mono hbd.size) |>.mono hwW.size)))).mono ?_
        rintro e v1 ⟨rfl, bv1⟩
        have zv1 := zv0.trans (bv1.mono zv0.size)
        refine hK.out _ _ (seg_keep zv1 ?_)
        clear hK K
        intro q hq
        have d0 := fun z => cellz (j := 0) (hq z) r0 rfl
        have d1 := fun z => cellz (j := 1) (hq z) r0 rfl
        simp only [pickI, Option.toList_some, List.cons_append, List.nil_append, List.getElem?_toArray, List.getElem?_cons_succ, List.getElem?_cons_zero]
        repeat (go_big_quiet_step (fail))
        refine wpQuiet_nil ?_
        clear d0 d1 hq q
        have hfin := zv1
        go_wp2
        go_ret
        exact ⟨rfl, hwW.trans (hfin.mono (by omega))⟩
      · have hb0 : B.testBit 0 = true := by rw [tro_low B hB]; simp; omega
        rw [hb0]
        have qL : ((L : Int) == (L : Int) + ((tro B : Nat) : Int)) = false := by simp; omega
        generalize top L B = tp at *
        generalize B >>> tro B = X at *
        generalize tro B = t at *
        clear hg h0 hb0 hL hB
        go_enter Tryd.func6, Tryd.ntmps6
        go_wp2_with fail
        rw [← hW]
        refine wp_low W.heap.size [([0, 1, 2, 3, 4], 5), ([6, 7, 8, 9, 10], 11)] [12, 13, 14] (by kernel_rfl) (by kernel_rfl) (fun d _ _ _ _ h => by cases d <;> exact h) (Nat.le_refl _) fun wd hbd => ?_
        intro q hq
        have d0 := fun z => cellz (j := 0) (hq z) r0 rfl
        have d1 := fun z => cellz (j := 1) (hq z) r0 rfl
        simp only [pickI, Option.toList_some, List.cons_append, List.nil_append, List.getElem?_toArray, List.getElem?_cons_succ, List.getElem?_cons_zero]
        repeat (go_big_quiet_step (fail))
        refine wpQuiet_nil ?_
        clear d0 d1 hq q
        refine seg_op (by simp only [List.getElem?_toArray, List.getElem?_cons_succ, List.getElem?_cons_zero]; rfl) fun K hK => ?_
        go_simp
        refine (ht _).mono ?_
        rintro e v0 ⟨rfl, bv0⟩
        have zv0 := hbd.trans (bv0.mono hbd.size)
        refine hK.out _ _ (seg_keep zv0 ?_)
        clear hK K
        intro q hq
        have d0 := fun z => cellz (j := 0) (hq z) r0 rfl
        have d1 := fun z => cellz (j := 1) (hq z) r0 rfl
        simp only [pickI, Option.toList_some, List.cons_append, List.nil_append, List.getElem?_toArray, List.getElem?_cons_succ, List.getElem?_cons_zero]
        repeat (go_big_quiet_step (fail))
        refine wpQuiet_nil ?_
        clear d0 d1 hq q
        refine seg_op (by simp only [List.getElem?_toArray, List.getElem?_cons_succ, List.getElem?_cons_zero]; rfl) fun K hK => ?_
        go_simp
        refine (hs _ (hT.below (hwW.trans (hbd.trans (bv0.mono hbd.size) |>.mono hwW.size)))).mono ?_
        rintro e v1 ⟨rfl, bv1⟩
        have zv1 := zv0.trans (bv1.mono zv0.size)
        refine hK.out _ _ (seg_keep zv1 ?_)
        clear hK K
        intro q hq
        have d0 := fun z => cellz (j := 0) (hq z) r0 rfl
        have d1 := fun z => cellz (j := 1) (hq z) r0 rfl
        simp only [pickI, Option.toList_some, List.cons_append, List.nil_append, List.getElem?_toArray, List.getElem?_cons_succ, List.getElem?_cons_zero]
        repeat (go_big_quiet_step (fail))
        refine wpQuiet_nil ?_
        clear d0 d1 hq q
        have hfin := zv1
        go_wp2
        go_ret
        exact ⟨rfl, hwW.trans (hfin.mono (by omega))⟩
    · have d2 : decide (((top L B : Nat) : Int) ≤ 4611686018427387840) = false := by simp; omega
      have hg : gdB L B = false := by unfold gdB; simp [h2]
      rw [hg]
      generalize top L B = tp at *
      clear hg hs hL hB
      go_enter Tryd.func6, Tryd.ntmps6
      go_wp2_with fail
      rw [← hW]
      refine wp_low W.heap.size [([0, 1, 2, 3, 4], 5), ([6, 7, 8, 9, 10], 11)] [12, 13, 14] (by kernel_rfl) (by kernel_rfl) (fun d _ _ _ _ h => by cases d <;> exact h) (Nat.le_refl _) fun wd hbd => ?_
      intro q hq
      have d0 := fun z => cellz (j := 0) (hq z) r0 rfl
      have d1 := fun z => cellz (j := 1) (hq z) r0 rfl
      simp only [pickI, Option.toList_some, List.cons_append, List.nil_append, List.getElem?_toArray, List.getElem?_cons_succ, List.getElem?_cons_zero]
      repeat (go_big_quiet_step (fail))
      refine wpQuiet_nil ?_
      clear d0 d1 hq q
      refine seg_op (by simp only [List.getElem?_toArray, List.getElem?_cons_succ, List.getElem?_cons_zero]; rfl) fun K hK => ?_
      go_simp
      refine (ht _).mono ?_
      rintro e v0 ⟨rfl, bv0⟩
      have zv0 := hbd.trans (bv0.mono hbd.size)
      refine hK.out _ _ (seg_keep zv0 ?_)
      clear hK K
      intro q hq
      have d0 := fun z => cellz (j := 0) (hq z) r0 rfl
      have d1 := fun z => cellz (j := 1) (hq z) r0 rfl
      simp only [pickI, Option.toList_some, List.cons_append, List.nil_append, List.getElem?_toArray, List.getElem?_cons_succ, List.getElem?_cons_zero]
      repeat (go_big_quiet_step (fail))
      refine wpQuiet_nil ?_
      clear d0 d1 hq q
      refine seg_op (by simp only [List.getElem?_toArray, List.getElem?_cons_succ, List.getElem?_cons_zero]; rfl) fun K hK => ?_
      go_simp
      refine hK.out _ _ (seg_keep zv0 ?_)
      clear hK K
      intro q hq
      have d0 := fun z => cellz (j := 0) (hq z) r0 rfl
      have d1 := fun z => cellz (j := 1) (hq z) r0 rfl
      simp only [pickI, Option.toList_some, List.cons_append, List.nil_append, List.getElem?_toArray, List.getElem?_cons_succ, List.getElem?_cons_zero]
      repeat (go_big_quiet_step (fail))
      refine wpQuiet_nil ?_
      clear d0 d1 hq q
      have hfin := zv0
      go_wp2
      go_ret
      exact ⟨rfl, hwW.trans (hfin.mono (by omega))⟩
  · have d1 : decide ((L : Int) ≤ 4611686018427387840) = false := by simp; omega
    have hg : gdB L B = false := by unfold gdB; simp [h1]
    rw [hg]
    clear hg hB
    go_enter Tryd.func6, Tryd.ntmps6
    go_wp2_with fail
    rw [← hW]
    refine wp_low W.heap.size [([0, 1, 2, 3, 4], 5), ([6, 7, 8, 9, 10], 11)] [12, 13, 14] (by kernel_rfl) (by kernel_rfl) (fun d _ _ _ _ h => by cases d <;> exact h) (Nat.le_refl _) fun wd hbd => ?_
    intro q hq
    have d0 := fun z => cellz (j := 0) (hq z) r0 rfl
    have d1 := fun z => cellz (j := 1) (hq z) r0 rfl
    simp only [pickI, Option.toList_some, List.cons_append, List.nil_append, List.getElem?_toArray, List.getElem?_cons_succ, List.getElem?_cons_zero]
    repeat (go_big_quiet_step (fail))
    refine wpQuiet_nil ?_
    clear d0 d1 hq q
    refine seg_op (by simp only [List.getElem?_toArray, List.getElem?_cons_succ, List.getElem?_cons_zero]; rfl) fun K hK => ?_
    go_simp
    refine hK.out _ _ (seg_keep hbd ?_)
    clear hK K
    intro q hq
    have d0 := fun z => cellz (j := 0) (hq z) r0 rfl
    have d1 := fun z => cellz (j := 1) (hq z) r0 rfl
    simp only [pickI, Option.toList_some, List.cons_append, List.nil_append, List.getElem?_toArray, List.getElem?_cons_succ, List.getElem?_cons_zero]
    repeat (go_big_quiet_step (fail))
    refine wpQuiet_nil ?_
    clear d0 d1 hq q
    refine seg_op (by simp only [List.getElem?_toArray, List.getElem?_cons_succ, List.getElem?_cons_zero]; rfl) fun K hK => ?_
    go_simp
    refine hK.out _ _ (seg_keep hbd ?_)
    clear hK K
    intro q hq
    have d0 := fun z => cellz (j := 0) (hq z) r0 rfl
    have d1 := fun z => cellz (j := 1) (hq z) r0 rfl
    simp only [pickI, Option.toList_some, List.cons_append, List.nil_append, List.getElem?_toArray, List.getElem?_cons_succ, List.getElem?_cons_zero]
    repeat (go_big_quiet_step (fail))
    refine wpQuiet_nil ?_
    clear d0 d1 hq q
    have hfin := hbd
    go_wp2
    go_ret
    exact ⟨rfl, hwW.trans (hfin.mono (by omega))⟩

end Go.Proofs.YtgejmeankppmhaaDoor

namespace Go.Proofs.YtgejmeankppmhaaDoor
open Go.RowKit
set_option maxRecDepth 20000

/-- An image: its marks, its blocks, its requests. -/
theorem t0_ok : Tok T0 := ⟨rfl, fun p hp => by have := List.eq_of_mem_replicate hp; subst this; exact ⟨by decide, by decide⟩⟩
structure Im where
  L : Nat
  B : Nat
  l : List UInt8
  T : List Cl
  deriving DecidableEq
def Im.ok (i : Im) : Prop := i.L < 18446744073709551616 ∧ i.B < 18446744073709551616 ∧ Tok i.T
def icells (i : Im) : List Value := .int .u64 (i.L : Int) :: .int .u64 (i.B : Int) :: .string (str i.l) :: tcells i.T
def imv (i : Im) : Value := .agg (icells i).toArray
def I0 : Im := ⟨0, 0, [], T0⟩
theorem i0_ok : I0.ok := ⟨by decide, by decide, t0_ok⟩
theorem icells_len (i : Im) : (icells i).length = 3 + 2 * i.T.length := by
  simp only [icells, List.length_cons, tcells_len]; omega
theorem icells_19 {i : Im} (h : i.T.length = 8) : (icells i).length = 19 := by rw [icells_len, h]
theorem icells_one (i : Im) : ∀ u ∈ icells i, u.oneCell' = true := by
  intro u hu
  simp only [icells, List.mem_cons] at hu
  rcases hu with rfl | rfl | rfl | hu
  · rfl
  · rfl
  · rfl
  · exact tcells_one _ u hu
theorem str_inj {a b : List UInt8} (h : (str a).toList = (str b).toList) : a = b := by
  have e : ∀ l : List UInt8, (str l).toList = l := fun l => ByteArray.toList_mk l
  rwa [e, e] at h
def szB (l : List UInt8) : Bool := decide (l.length % 8 = 0 ∧ 8 ≤ l.length ∧ l.length ≤ 512)
def igB (i : Im) : Bool := gdB i.L i.B && szB i.l
end Go.Proofs.YtgejmeankppmhaaDoor
