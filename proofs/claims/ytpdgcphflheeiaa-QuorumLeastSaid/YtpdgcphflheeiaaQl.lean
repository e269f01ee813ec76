/- The chapter's example. -/
import Derived.Test.YtpdgcphflheeiaaQu
import Derived.Outline
namespace Go.Proofs.Ytpdgcphflheeiaa
open Go.RowKit
open Go.Sort (insertionSort)
set_option maxRecDepth 20000

def f20 (k : Nat) : Nat := [5, 3, 9].getD k 0
theorem memb7 : memb 7 = [0, 1, 2] := by decide +kernel
/-- What the example's closure reads. -/
def Own20 (p g : Nat) (w : World) : Prop := p < w.heap.size ∧ g < w.heap.size ∧ w.cell? ⟨p, 0, none⟩ = some (.slice (some ⟨g, 0, none⟩) 3 3) ∧ w.cell? ⟨g, 0, none⟩ = some (.int .u64 5) ∧ w.cell? ⟨g, 1, none⟩ = some (.int .u64 3) ∧ w.cell? ⟨g, 2, none⟩ = some (.int .u64 9)
theorem Own20.below {p g : Nat} {w w' : World} (h : Own20 p g w) (hb : Below w.heap.size w w') : Own20 p g w' := by
  obtain ⟨h1, h2, h3, h4, h5, h6⟩ := h
  exact ⟨Nat.lt_of_lt_of_le h1 hb.size, Nat.lt_of_lt_of_le h2 hb.size, kept hb h3 h1, kept hb h4 h2, kept hb h5 h2, kept hb h6 h2⟩
theorem clos20 (p g : Nat) (w : World) (h : Own20 p g w) (k : Nat) (hk : k ∈ memb 7) :
    Calls Try.prog 21 #[.int .i64 (k : Int), .pointer (some ⟨p, 0, none⟩)] w fun e w' => e = .returned (.int .u64 ((f20 k : Nat) : Int)) ∧ w = w' := by
  rw [memb7] at hk
  obtain ⟨_, _, h3, h4, h5, h6⟩ := h
  simp only [List.mem_cons, List.not_mem_nil, or_false] at hk
  have m0 : min (0 : Int) 2 = 0 := by decide
  have m1 : min (1 : Int) 2 = 1 := by decide
  have m2 : max (1 : Int) 0 = 1 := by decide
  have m3 : max (2 : Int) 0 = 2 := by decide
  rcases hk with rfl | rfl | rfl
  all_goals
    go_enter Try.func21, Try.ntmps21
    go_wp2
    go_ret
    exact ⟨rfl, rfl⟩
def S20 (d : Array Nat) : Array Nat := insertionSort ltN d 0 d.size
theorem outerN_size (lt : Nat → Nat → Bool) (a b : Nat) : ∀ (m i : Nat) (d : Array Nat), b - i ≤ m → (Go.Sort.insOuter lt a b i d).size = d.size
  | 0, i, d, h => by rw [outer_end (by omega)]
  | m + 1, i, d, h => by
    by_cases hi : i < b
    · rw [outer_step hi, outerN_size lt a b m (i + 1) _ (by omega), inner_size]
    · rw [outer_end hi]
theorem S20_size (d : Array Nat) : (S20 d).size = d.size := outerN_size _ _ _ _ _ _ (Nat.le_refl _)
theorem mid20 : mid S20 ((memb 7).map f20) = 5 := by
  rw [memb7]
  show mid S20 [5, 3, 9] = 5
  unfold mid S20 insertionSort
  rw [outer_step (by decide), outer_step (by decide), outer_end (by decide)]
  decide
theorem least20 (p g : Nat) (w : World) (h : Own20 p g w) :
    Calls Try.prog 17 #[.int .u64 7, .func (.func 21) #[] #[.pointer (some ⟨p, 0, none⟩)]] w fun e w' => e = .returned (.int .u64 5) ∧ Below w.heap.size w w' := by
  have := leastL_any 7 p f20 S20 w (by decide) (fun W hb k hk => clos20 p g W (h.below hb) k hk) S20_size (fun W g' c d hd ha => by
    have h3 : (memb 7).length = 3 := by rw [memb7]; rfl
    rw [h3] at hd ⊢
    refine sort_of (by omega) fun l _ => ?_
    unfold S20
    rw [hd]
    exact pdq_few l ha hd (by omega))
  rw [mid20] at this
  exact this
theorem is_lit {w : World} {cs : List Int} (h : cs.length ≤ 10) : Rd (w.alloc (.cells (is cs).toArray 3)) (w.alloc (.cells (is cs).toArray 3)).heap.size 1 (some ⟨w.heap.size, 0, none⟩) cs.length cs.length (is cs) :=
  Rd.lit w (is cs).toArray 3 (by simp [is_len]) (by unfold maxLen; omega) (by simp)
theorem with20 (W : World) : Calls Try.prog 8 #[.int .u64 0, .slice (some ⟨W.heap.size, 0, none⟩) 3 3] (W.alloc (.cells #[.int .i64 0, .int .i64 2, .int .i64 99] 3)) fun e w' => e = .returned (.int .u64 5) ∧ Below W.heap.size W w' := by
  have := with_any (w := W.alloc (.cells (is [0, 2, 99]).toArray 3)) (l := [0, 2, 99]) 0 (by decide) (is_lit (by decide)) (by decide)
  rw [show withN 0 [0, 2, 99] = 5 by decide +kernel] at this
  exact this.mono fun e w' h => ⟨h.1, h.2 ▸ (Below.refl _ _).alloc (Nat.le_refl _) _⟩
theorem count20 (W : World) : Calls Try.prog 22 #[.slice (some ⟨W.heap.size, 0, none⟩) 3 3, .int .i64 1] (W.alloc (.cells #[.int .i64 1, .int .i64 2, .int .i64 1] 3)) fun e w' => e = .returned (.int .i64 2) ∧ Below W.heap.size W w' := by
  have := counti_any (w := W.alloc (.cells (is [1, 2, 1]).toArray 3)) (l := [1, 2, 1]) 1 (is_lit (by decide)) (by decide)
  rw [show cnti [1, 2, 1] 1 = 2 by decide +kernel] at this
  exact this.mono fun e w' h => ⟨h.1, h.2 ▸ (Below.refl _ _).alloc (Nat.le_refl _) _⟩
theorem maj20 (W : World) : Calls Try.prog 15 #[.int .u64 5, .int .u64 7] W fun e w' => e = .returned (.bool true) ∧ W = w' := by
  have := maj_any 5 7 W (by decide) (by decide)
  rw [show majB 5 7 = true by decide +kernel] at this
  exact this
set_option maxHeartbeats 1000000 in
theorem lives20 (w : World) : Calls Try.prog 7 #[] w fun e w' => e = .returned (.bool true) ∧ Below w.heap.size w w' := by
  have HL := Lib.hid (fun p g W h => least20 p g W h)
  have HM := Lib.hid maj20
  have HW := Lib.hid with20
  have HC := Lib.hid count20
  go_enter Try.func7, Try.ntmps7
  go_upto_region 2 with (fail)
  obtain ⟨W, hW, hWs, r0, r1, hwW⟩ := boxes2 w #[.int .u64 5, .int .u64 3, .int .u64 9] #[.slice (some ⟨w.heap.size, 0, none⟩) 3 3] 22 36
  rw [← hW]
  have ho : Own20 (w.heap.size + 1) w.heap.size W := ⟨by omega, by omega, cell_of_row W _ 0 _ _ _ r1, cell_of_row W _ 0 _ _ _ r0, cell_of_row W _ 1 _ _ _ r0, cell_of_row W _ 2 _ _ _ r0⟩
  have HO := Lib.hid ho
  have HWB := Lib.hid hwW
  clear hW hWs r0 r1 ho hwW
  go_wp2_with (first
    | (go_at_call 17; (with_reducible refine (HL.out _ _ _ HO.out).mono ?_); rintro e w3 ⟨rfl, hb3⟩; have HB3 := Lib.hid hb3; clear hb3)
    | (go_at_call 8; (with_reducible refine (HW.out _).mono ?_); rintro e w4 ⟨rfl, hb4⟩; have HB4 := Lib.hid (HB3.out.trans (hb4.mono HB3.out.size)); clear hb4)
    | (go_at_call 15; (with_reducible refine (HM.out _).mono ?_); rintro e w4 ⟨rfl, rfl⟩)
    | (go_at_call 22; (with_reducible refine (HC.out _).mono ?_); rintro e w5 ⟨rfl, hb5⟩; have HB5 := Lib.hid (HB4.out.trans (hb5.mono HB4.out.size)); clear hb5)
    | fail)
  go_ret
  exact ⟨rfl, HWB.out.trans (HB5.out.mono HWB.out.size)⟩
end Go.Proofs.Ytpdgcphflheeiaa
