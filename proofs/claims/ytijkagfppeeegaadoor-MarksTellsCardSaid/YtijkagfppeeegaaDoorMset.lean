/- The contract of marks.Set. -/
import Derived.Test.YtijkagfppeeegaaDoorMarks2
namespace Go.Proofs.YtijkagfppeeegaaDoor
open Go.RowKit

/-- Marks with a number more, where it has room. -/
def mset (L B n : Nat) : Nat × Nat := if n ≤ L then (L, B) else (L + tro (B ||| 2 ^ (n - L - 1)), (B ||| 2 ^ (n - L - 1)) >>> tro (B ||| 2 ^ (n - L - 1)))
/-- Has a number room? -/
def Room (L n : Nat) : Prop := n ≤ 4611686018427387840 ∧ n ≤ L + 64
instance (L n : Nat) : Decidable (Room L n) := inferInstanceAs (Decidable (_ ∧ _))
theorem mset_hs (L B n x : Nat) (hB : B < 18446744073709551616) (hr : Room L n) : Hs (mset L B n).1 (mset L B n).2 x = (Hs L B x || decide (x = n)) := by
  unfold mset
  by_cases h : n ≤ L
  · rw [if_pos h]
    by_cases hx : x = n
    · subst hx; rw [hs_low h]; simp
    · simp [hx]
  · rw [if_neg h]
    have hp := pow_lt (n - L - 1) (by have := hr.2; omega)
    rw [hs_settle _ _ _ (or_lt _ _ hB hp), hs_set L B n x (by omega)]
theorem mset_lt (L B n : Nat) (hB : B < 18446744073709551616) (hr : Room L n) : (mset L B n).2 < 18446744073709551616 := by
  unfold mset
  split
  · exact hB
  · exact shr_lt _ _ (or_lt _ _ hB (pow_lt _ (by have := hr.2; omega)))
theorem mset_gd (L B n : Nat) (hB : B < 18446744073709551616) (hr : Room L n) (hg : Gd L B) : Gd (mset L B n).1 (mset L B n).2 := by
  unfold mset
  by_cases h : n ≤ L
  · rw [if_pos h]; exact hg
  · rw [if_neg h]
    have hp := pow_lt (n - L - 1) (by have := hr.2; omega)
    refine gd_settle L _ (or_lt _ _ hB hp) fun x hx => ?_
    rw [hs_set L B n x (by omega)] at hx
    rw [Bool.or_eq_true] at hx
    rcases hx with h | h
    · exact gd_le hB hg h
    · have := of_decide_eq_true h; subst this; exact hr.1

set_option maxHeartbeats 1000000 in
theorem set_ok (L B n : Nat) (w : World) (hL : L ≤ 4611686018427387840) (hB : B < 18446744073709551616) (hT : Tab w) (hr : Room L n) :
    Calls Tryd.prog 21 #[.agg #[.int .u64 (L : Int), .int .u64 (B : Int)], .int .u64 (n : Int)] w fun e w' => e = .returned (.tuple #[.agg #[.int .u64 ((mset L B n).1 : Int), .int .u64 ((mset L B n).2 : Int)], .int .i64 0]) ∧ Below w.heap.size w w' := by
  obtain ⟨hn, hn2⟩ := hr
  have d1 : decide ((4611686018427387840 : Int) < (n : Int)) = false := by simp; omega
  by_cases h : n ≤ L
  · have hm : mset L B n = (L, B) := by unfold mset; rw [if_pos h]
    rw [hm]
    have d2 : decide (L < n) = false := by simp; omega
    have d3 : decide (n ≤ L) = true := by simp; omega
    clear hm hn hn2 hL hB
    go_enter Tryd.func21, Tryd.ntmps21
    go_wp2
    refine bodyPost_ret (v := .tuple #[.agg #[.int .u64 (L : Int), .int .u64 (B : Int)], .int .i64 0]) (by simp [results, Tryd.results21, go_sem]) rfl ⟨rfl, ?_⟩
    exact ((Below.refl _ _).alloc (Nat.le_refl _) _).alloc (by simp) _
  · have hm : mset L B n = (L + tro (B ||| 2 ^ (n - L - 1)), (B ||| 2 ^ (n - L - 1)) >>> tro (B ||| 2 ^ (n - L - 1))) := by unfold mset; rw [if_neg h]
    rw [hm]
    have d2 : decide (L < n) = true := by simp; omega
    have d3 : decide (n ≤ L) = false := by simp; omega
    have d4 : decide ((64 : Int) < (n : Int) - (L : Int)) = false := by simp; omega
    have hp := pow_lt (n - L - 1) (by omega)
    have e1 := shl_op (n - L - 1) ((n : Int) - (L : Int) - 1) (by omega) (by omega)
    have e2 := or_run B (2 ^ (n - L - 1)) hB hp
    have hs := fun W hW => settled_any L (B ||| 2 ^ (n - L - 1)) W hL (or_lt _ _ hB hp) hW
    have hLn : (L : Int) < (n : Int) := by omega
    have hn4 : n < 18446744073709551616 := by omega
    generalize B ||| 2 ^ (n - L - 1) = X at *
    generalize 2 ^ (n - L - 1) = Y at *
    generalize L + tro X = L' at *
    generalize X >>> tro X = X' at *
    clear hm h hn hn2 hL
    go_enter Tryd.func21, Tryd.ntmps21
    go_wp2_with fail
    refine (hs _ (hT.below (((Below.refl _ _).alloc (Nat.le_refl _) _).alloc (by simp) _))).mono ?_
    rintro e w1 ⟨rfl, hb1⟩
    obtain ⟨W, hW, hWs, r0, r1, hwW⟩ := boxes2 w #[.int .u64 (L : Int), .int .u64 (X : Int)] #[.int .u64 0, .int .u64 0] 24 24
    rw [← hW] at hb1
    have c0 := cellz (j := 0) (u := .int .u64 0) hb1 r1 rfl
    have c1 := cellz (j := 1) (u := .int .u64 0) hb1 r1 rfl
    have z0 := frozenz hb1 0 r1
    have z1 := frozenz hb1 1 r1
    go_wp2
    exact bodyPost_ret (v := .tuple #[.agg #[.int .u64 (L' : Int), .int .u64 (X' : Int)], .int .i64 0]) (by simp [results, Tryd.results21, go_sem, c0, c1]) rfl ⟨rfl, hwW.trans ((((show Below (w.heap.size + 1) W w1 from hb1.mono (by omega)).setCell (Nat.le_refl _) _).setCell (Nat.le_refl _) _).mono (by omega))⟩

set_option maxHeartbeats 1000000 in
theorem set_no (L B n : Nat) (w : World) (hL : L ≤ 4611686018427387840) (hn4 : n < 18446744073709551616) (hr : ¬ Room L n) :
    Calls Tryd.prog 21 #[.agg #[.int .u64 (L : Int), .int .u64 (B : Int)], .int .u64 (n : Int)] w fun e w' => e = .returned (.tuple #[.agg #[.int .u64 (L : Int), .int .u64 (B : Int)], .int .i64 30]) ∧ Below w.heap.size w w' := by
  by_cases hn : n ≤ 4611686018427387840
  · have h2 : ¬ n ≤ L + 64 := fun h => hr ⟨hn, h⟩
    have d1 : decide ((4611686018427387840 : Int) < (n : Int)) = false := by simp; omega
    have d2 : decide (L < n) = true := by simp; omega
    have d4 : decide ((64 : Int) < (n : Int) - (L : Int)) = true := by simp; omega
    have hLn : (L : Int) < (n : Int) := by omega
    clear hr hn h2 hL
    go_enter Tryd.func21, Tryd.ntmps21
    go_wp2
    exact bodyPost_ret (v := .tuple #[.agg #[.int .u64 (L : Int), .int .u64 (B : Int)], .int .i64 30]) (by simp [results, Tryd.results21, go_sem]) rfl ⟨rfl, ((Below.refl _ _).alloc (Nat.le_refl _) _).alloc (by simp) _⟩
  · have d1 : decide ((4611686018427387840 : Int) < (n : Int)) = true := by simp; omega
    clear hr hn hL
    go_enter Tryd.func21, Tryd.ntmps21
    go_wp2
    exact bodyPost_ret (v := .tuple #[.agg #[.int .u64 (L : Int), .int .u64 (B : Int)], .int .i64 30]) (by simp [results, Tryd.results21, go_sem]) rfl ⟨rfl, ((Below.refl _ _).alloc (Nat.le_refl _) _).alloc (by simp) _⟩

/-- The chapter's example. -/
theorem lives4 (w : World) (hT : Tab w) : Calls Tryd.prog 11 #[] w fun e w' => e = .returned (.bool true) ∧ Below w.heap.size w w' := by
  have h1 := fun W h => set_ok 3 0 5 W (by decide) (by decide) h ⟨by decide, by decide⟩
  have h2 := fun W h => set_ok 3 2 4 W (by decide) (by decide) h ⟨by decide, by decide⟩
  rw [show mset 3 0 5 = (3, 2) by decide] at h1
  rw [show mset 3 2 4 = (5, 0) by decide] at h2
  go_enter Tryd.func11, Tryd.ntmps11
  go_wp2_with fail
  refine (h1 _ hT).mono ?_
  rintro e w1 ⟨rfl, hb1⟩
  go_wp2_with fail
  refine (h2 _ (hT.below (hb1.alloc hb1.size _))).mono ?_
  rintro e w2 ⟨rfl, hb2⟩
  have c0 : w2.cell? ⟨w1.heap.size, 0, none⟩ = some (.int .u64 3) := kept hb2 (by simp)
  have c1 : w2.cell? ⟨w1.heap.size, 1, none⟩ = some (.int .u64 2) := kept hb2 (by simp)
  have hb3 := unal hb2
  have e0 : ∀ o, (w2.alloc o).cell? ⟨w1.heap.size, 0, none⟩ = some (.int .u64 3) := fun o => cell_old o c0
  have e1 : ∀ o, (w2.alloc o).cell? ⟨w1.heap.size, 1, none⟩ = some (.int .u64 2) := fun o => cell_old o c1
  go_wp2
  go_ways
  go_ret
  have hz := hb1.trans (hb3.mono hb1.size)
  exact ⟨rfl, hz.alloc hz.size _⟩

end Go.Proofs.YtijkagfppeeegaaDoor
