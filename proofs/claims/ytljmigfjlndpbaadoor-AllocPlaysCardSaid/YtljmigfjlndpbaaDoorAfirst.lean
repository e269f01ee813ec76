/- The first place that is free, as a number. -/
import Derived.Test.YtljmigfjlndpbaaDoorAlc2
namespace Go.Proofs.YtljmigfjlndpbaaDoor
open Go.RowKit

theorem pow_odd_bit (c t i : Nat) : (2 ^ c * (2 * t + 1)).testBit i = (decide (c ≤ i) && (2 * t + 1).testBit (i - c)) := by
  rw [Nat.mul_comm, Nat.testBit_mul_two_pow]
theorem odd_bit (t : Nat) : (2 * t + 1).testBit 0 = true := by rw [Nat.testBit_zero]; simp
theorem ctz_is {x m : Nat} (hx : x < 18446744073709551616) (hm : x.testBit m = true) (hl : ∀ i, i < m → x.testBit i = false) : Lib.ctz 64 x = m := by
  have h0 : x ≠ 0 := by rintro rfl; rw [Nat.zero_testBit] at hm; cases hm
  obtain ⟨t, ht, hc⟩ := Lib.ctzFrom_spec 64 x (by omega) hx
  have e : Lib.ctz 64 x = Lib.ctzFrom 64 x := by simp [Lib.ctz, h0]
  rw [e]
  generalize Lib.ctzFrom 64 x = c at *
  rcases Nat.lt_trichotomy c m with h | h | h
  · have := hl c h
    rw [ht, pow_odd_bit, Nat.sub_self, odd_bit] at this
    simp at this
  · exact h
  · rw [ht, pow_odd_bit] at hm
    simp at hm
    omega
theorem word_zero {x : Nat} (hx : x < 18446744073709551616) (h : ∀ i, i < 64 → x.testBit i = false) : x = 0 := by
  apply Nat.eq_of_testBit_eq
  intro i
  rw [Nat.zero_testBit]
  by_cases hi : i < 64
  · exact h i hi
  · exact Nat.testBit_lt_two_pow (Nat.lt_of_lt_of_le hx (Nat.pow_le_pow_right (n := 2) (by decide) (show 64 ≤ i by omega)))
def rowOf (ws : List Nat) (q : Nat) : List Nat := (ws.drop (8 * q)).take 8
theorem rowOf_get (ws : List Nat) (q t : Nat) (ht : t < 8) : (rowOf ws q).getD t 0 = ws.getD (8 * q + t) 0 := by
  unfold rowOf
  rw [List.getD, List.getD, List.getElem?_take_of_lt ht, List.getElem?_drop]
theorem rowOf_bit (ws : List Nat) (q j : Nat) (hj : j < 512) : bitAt (rowOf ws q) j = bitAt ws (512 * q + j) := by
  unfold bitAt
  rw [rowOf_get _ _ _ (by omega), show (512 * q + j) / 64 = 8 * q + j / 64 by omega, show (512 * q + j) % 64 = j % 64 by omega]
theorem rowOf_len {ws : List Nat} {k q : Nat} (h : ws.length = 8 * k) (hq : q < k) : (rowOf ws q).length = 8 := by
  unfold rowOf
  rw [List.length_take, List.length_drop]
  omega
theorem rowOf_lt {ws : List Nat} (h : ∀ x ∈ ws, x < 18446744073709551616) (q : Nat) : ∀ x ∈ rowOf ws q, x < 18446744073709551616 := fun x hx => h x (List.mem_of_mem_drop (List.mem_of_mem_take hx))
def Z8 : List Nat := List.replicate 8 0
theorem row_zero {xs : List Nat} (hl : xs.length = 8) (hx : ∀ x ∈ xs, x < 18446744073709551616) (h : ∀ j, j < 512 → bitAt xs j = false) : xs = Z8 := by
  apply List.ext_getElem?
  intro i
  by_cases hi : i < 8
  · have hz : xs.getD i 0 = 0 := word_zero (getD_lt hx i) (fun b hb => by
      have := h (i * 64 + b) (by omega)
      unfold bitAt at this
      rwa [show (i * 64 + b) / 64 = i by omega, show (i * 64 + b) % 64 = b by omega] at this)
    rw [List.getD, List.getElem?_eq_getElem (by omega)] at hz
    rw [List.getElem?_eq_getElem (by omega)]
    unfold Z8
    rw [List.getElem?_replicate, if_pos hi]
    simpa using hz
  · rw [List.getElem?_eq_none (by omega), List.getElem?_eq_none (by unfold Z8; rw [List.length_replicate]; omega)]
theorem row_not_zero {xs : List Nat} {j : Nat} (h : bitAt xs j = true) : xs ≠ Z8 := by
  rintro rfl
  unfold bitAt Z8 at h
  have : (List.replicate 8 0).getD (j / 64) 0 = 0 := by
    rw [List.getD, List.getElem?_replicate]
    split <;> rfl
  rw [this, Nat.zero_testBit] at h
  cases h
/-- The first place that is free. -/
def FirstIs (ws : List Nat) : Option Nat → Prop
  | none => ∀ j, bitAt ws j = false
  | some j => bitAt ws j = true ∧ ∀ i, i < j → bitAt ws i = false
theorem bitAt_far {ws : List Nat} {j : Nat} (h : 64 * ws.length ≤ j) : bitAt ws j = false := by
  unfold bitAt
  rw [List.getD, List.getElem?_eq_none (by omega)]
  exact Nat.zero_testBit _
theorem first_ex (ws : List Nat) : ∃ r, FirstIs ws r := by
  by_cases h : ∃ j, bitAt ws j = true
  · obtain ⟨j, hj⟩ := h
    induction j using Nat.strongRecOn with
    | _ j ih =>
      by_cases h2 : ∃ i, i < j ∧ bitAt ws i = true
      · obtain ⟨i, hi, hb⟩ := h2
        exact ih i hi hb
      · refine ⟨some j, hj, fun i hi => ?_⟩
        cases hb : bitAt ws i
        · rfl
        · exact absurd ⟨i, hi, hb⟩ h2
  · refine ⟨none, fun j => ?_⟩
    cases hb : bitAt ws j
    · rfl
    · exact absurd ⟨j, hb⟩ h
theorem first_lt {a : Av} {k j : Nat} (h : a.Ok k) (hf : FirstIs a.ws (some j)) : j < a.n := by
  by_cases hj : j < a.n
  · exact hj
  · have := h.out j (by omega)
    rw [hf.1] at this
    cases this

set_option maxHeartbeats 1000000 in
theorem rowfirst_any (xs : List Nat) (j : Nat) (w : World) (hl : xs.length = 8) (hx : ∀ x ∈ xs, x < 18446744073709551616) (hj : j < 512) (hf : FirstIs xs (some j)) (hT : Tab w) :
    Calls Tryd.prog 32 #[.agg (u64s xs).toArray] w fun e w' => e = .returned (.int .i64 (j : Int)) ∧ Below w.heap.size w w' := by
  obtain ⟨hb, hz⟩ := hf
  have hq : j / 64 < 8 := by omega
  have hzero : ∀ i, i < j / 64 → xs.getD i 0 = 0 := fun i hi => word_zero (getD_lt hx i) (fun b hb => by
    have := hz (i * 64 + b) (by omega)
    unfold bitAt at this
    rwa [show (i * 64 + b) / 64 = i by omega, show (i * 64 + b) % 64 = b by omega] at this)
  have hne : xs.getD (j / 64) 0 ≠ 0 := by
    intro e
    unfold bitAt at hb
    rw [e, Nat.zero_testBit] at hb
    cases hb
  have hctz : Lib.ctz 64 (xs.getD (j / 64) 0) = j % 64 := ctz_is (getD_lt hx _) hb (fun i hi => by
    have := hz (j / 64 * 64 + i) (by omega)
    unfold bitAt at this
    rwa [show (j / 64 * 64 + i) / 64 = j / 64 by omega, show (j / 64 * 64 + i) % 64 = i by omega] at this)
  obtain ⟨W, hW⟩ : ∃ W, W = w.alloc (.cells (u64s xs).toArray 62) := ⟨_, rfl⟩
  have hr : W.heap[w.heap.size]? = some (.cells (u64s xs).toArray 62 (0, 0)) := by rw [hW]; exact heap_alloc_new w _
  have hbl : Below w.heap.size w W := by rw [hW]; exact (Below.refl _ _).alloc (Nat.le_refl _) _
  have htz := tz_any (xs.getD (j / 64) 0) W (getD_lt hx _) (hT.below hbl)
  rw [hctz] at htz
  have hcell : ∀ i, i < 8 → W.cell? ⟨w.heap.size, i, none⟩ = some (.int .u64 ((xs.getD i 0 : Nat) : Int)) := fun i hi => by
    rw [cell_of_row W _ i _ _ _ hr]
    simpa using u64s_at xs i (by omega)
  have hfin : ((j / 64 : Nat) : Int) * 64 + ((j % 64 : Nat) : Int) = (j : Int) := by omega
  have HW := Lib.hid hW
  have HBL := Lib.hid hbl
  have HTZ := Lib.hid htz
  have HC := Lib.hid hcell
  have HZ := Lib.hid hzero
  have HNE := Lib.hid hne
  have HF := Lib.hid hfin
  have hm64 : ((j % 64 : Nat) : Int) < 64 := by omega
  generalize j / 64 = q at *
  generalize j % 64 = m at *
  clear hb hz hW hr hbl htz hcell hzero hne hctz hfin hx hl hj hT
  go_enter Tryd.func32, Tryd.ntmps32
  go_wp2_with (fail)
  rw [← HW.out]
  go_loop [3] (fun ir => ∃ i : Nat, i ≤ q ∧ ir = .int .i64 (i : Int)) (fun ir => q - (intOf ir).toNat)
  case atStart => exact ⟨0, Nat.zero_le _, rfl⟩
  case round =>
    obtain ⟨i, hi, rfl⟩ := hrel
    have hc := HC.out i (by omega)
    by_cases hlt : i < q
    · rw [HZ.out i hlt] at hc
      go_wp2
      go_round
      case rel => exact ⟨i + 1, by omega, by go_num⟩
      case measure => simp [intOf]; omega
    · obtain rfl : i = q := by omega
      have hne := HNE.out
      generalize xs.getD i 0 = x at *
      have hx0 : ((x : Int) == 0) = false := by simpa using hne
      have hxn : ¬ ((x : Int) = 0) := by omega
      go_wp2_with (first
        | (go_at_call 33; refine HTZ.out.mono ?_; rintro e w1 ⟨rfl, rfl⟩)
        | fail)
      go_ret
      refine ⟨?_, HBL.out⟩
      simp only [Array.getD]
      simp
      exact HF.out

end Go.Proofs.YtljmigfjlndpbaaDoor
