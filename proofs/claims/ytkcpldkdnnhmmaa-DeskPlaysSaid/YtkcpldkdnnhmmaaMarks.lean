/- Contracts of package marks: Has, and the reference's; settled, Top, above, Good. -/
import Derived.Test.YtkcpldkdnnhmmaaMmath
namespace Go.Proofs.Ytkcpldkdnnhmmaa
open Go.RowKit

theorem shr_run (B y : Nat) (z : Int) (hB : B < 18446744073709551616) (hz : z = (y : Int)) : (B : Int) / 2 ^ min z.toNat 64 = ((B >>> y : Nat) : Int) := by
  subst hz
  rw [Int.toNat_natCast, Nat.shiftRight_eq_div_pow]
  by_cases hy : y ≤ 64
  · rw [Nat.min_eq_left hy]; simp
  · rw [Nat.min_eq_right (by omega), Nat.div_eq_of_lt (Nat.lt_of_lt_of_le hB (Nat.pow_le_pow_right (n := 2) (by decide) (show 64 ≤ y by omega)))]
    omega
theorem shr_op (B y : Nat) (z : Int) (hB : B < 18446744073709551616) (hz : z = (y : Int)) {yk : IntKind} : Op.shift .shr .u64 (B : Int) yk z = pure (.int .u64 ((B >>> y : Nat) : Int)) := by
  have e := shr_run B y z hB hz
  have h1 : ¬ (z < 0) := by omega
  have h2 : (0 : Int) ≤ 2 ^ min z.toNat 64 := Int.pow_nonneg (by decide)
  simp [Op.shift, IntKind.bits, h1, Int.fdiv_eq_ediv_of_nonneg _ h2, e]
theorem shl_op (y : Nat) (z : Int) (hy : y < 64) (hz : z = (y : Int)) : Op.shift .shl .u64 1 .u64 z = pure (.int .u64 ((2 ^ y : Nat) : Int)) := by
  subst hz
  have := pow_lt y hy
  rw [shift_shl .u64 .u64 _ _ (by omega) (by simp [IntKind.bits]; omega), Int.toNat_natCast, Int.one_mul, show (2 : Int) ^ y = ((2 ^ y : Nat) : Int) by simp]
  generalize 2 ^ y = p at *
  rw [u64w _ (by omega) (by omega)]
theorem shl_run (y : Nat) (z : Int) (hy : y < 64) (hz : z = (y : Int)) : IntKind.u64.wrap (1 * 2 ^ z.toNat) = ((2 ^ y : Nat) : Int) := by
  subst hz
  have := pow_lt y hy
  rw [Int.toNat_natCast, Int.one_mul, show (2 : Int) ^ y = ((2 ^ y : Nat) : Int) by simp]
  generalize 2 ^ y = p at *
  exact u64w _ (by omega) (by omega)
theorem and_run (X : Nat) (hX : X < 18446744073709551616) : bits .and .u64 (X : Int) 1 = if X.testBit 0 then 1 else 0 := by
  have := bits_and_u64_nat X 1 hX (by decide)
  rw [show ((1 : Nat) : Int) = 1 from rfl] at this
  rw [this, Nat.and_one_is_mod, Nat.testBit_zero]
  rcases Nat.mod_two_eq_zero_or_one X with h | h <;> simp [h]
theorem or_run (a b : Nat) (ha : a < 18446744073709551616) (hb : b < 18446744073709551616) : bits .or .u64 (a : Int) (b : Int) = ((a ||| b : Nat) : Int) := by
  have hx : a ||| b < 2 ^ 64 := Nat.or_lt_two_pow ha hb
  have h1 : (BitVec.ofInt 64 (a : Int)).toNat = a := by
    rw [BitVec.ofInt_natCast, BitVec.toNat_ofNat]; exact Nat.mod_eq_of_lt (by omega)
  have h2 : (BitVec.ofInt 64 (b : Int)).toNat = b := by
    rw [BitVec.ofInt_natCast, BitVec.toNat_ofNat]; exact Nat.mod_eq_of_lt (by omega)
  show IntKind.u64.wrap ((BitVec.ofInt 64 (a : Int) ||| BitVec.ofInt 64 (b : Int)).toNat : Int) = _
  rw [BitVec.toNat_or, h1, h2, u64w _ (by omega) (by omega)]

theorem has_any (L B n : Nat) (w : World) (_ : L < 18446744073709551616) (hB : B < 18446744073709551616) (hn : n < 18446744073709551616) :
    Calls Try.prog 42 #[.agg #[.int .u64 (L : Int), .int .u64 (B : Int)], .int .u64 (n : Int)] w fun e w' => e = .returned (.bool (Hs L B n)) ∧ Below w.heap.size w w' := by
  by_cases h1 : n ≤ L
  · rw [hs_low h1]
    go_enter Try.func42, Try.ntmps42
    go_wp2
    go_ret
    exact ⟨rfl, (Below.refl _ _).alloc (Nat.le_refl _) _⟩
  · rw [hs_high (by omega)]
    have e1 := shr_op (yk := .u64) B (n - L - 1) ((n : Int) - (L : Int) - 1) hB (by omega)
    have e2 := and_run _ (shr_lt B (n - L - 1) hB)
    rw [shr_bit, Nat.add_zero] at e2
    have h2 : (L : Int) < (n : Int) := by omega
    have h3 : decide (n ≤ L) = false := by simpa using h1
    generalize B >>> (n - L - 1) = X at *
    clear h1
    cases hb : B.testBit (n - L - 1)
    all_goals
      rw [hb] at e2
      simp only [if_true, Bool.false_eq_true, if_false] at e2
      clear hb
      go_enter Try.func42, Try.ntmps42
      go_wp2
      go_ret
      exact ⟨rfl, (Below.refl _ _).alloc (Nat.le_refl _) _⟩

theorem rhas_any (L B n : Nat) (w : World) (_ : L < 18446744073709551616) (hB : B < 18446744073709551616) (hn : n < 18446744073709551616) :
    Calls Try.prog 44 #[.agg #[.int .u64 (L : Int), .int .u64 (B : Int)], .int .u64 (n : Int)] w fun e w' => e = .returned (.bool (Hs L B n)) ∧ Below w.heap.size w w' := by
  by_cases h1 : n ≤ L
  · rw [hs_low h1]
    go_enter Try.func44, Try.ntmps44
    go_wp2
    go_ret
    exact ⟨rfl, (Below.refl _ _).alloc (Nat.le_refl _) _⟩
  · rw [hs_high (by omega)]
    have h2 : (L : Int) < (n : Int) := by omega
    have h3 : decide (n ≤ L) = false := by simpa using h1
    by_cases h4 : n - L - 1 < 64
    · have e1 := shr_op (yk := .u64) B (n - L - 1) ((n : Int) - (L : Int) - 1) hB (by omega)
      have e2 := and_run _ (shr_lt B (n - L - 1) hB)
      have e3 : decide ((n : Int) - (L : Int) - 1 < 64) = true := by simp; omega
      rw [shr_bit, Nat.add_zero] at e2
      generalize B >>> (n - L - 1) = X at *
      clear h1 h4
      cases hb : B.testBit (n - L - 1)
      all_goals
        rw [hb] at e2
        simp only [if_true, Bool.false_eq_true, if_false] at e2
        clear hb
        go_enter Try.func44, Try.ntmps44
        go_wp2
        go_ret
        exact ⟨rfl, (Below.refl _ _).alloc (Nat.le_refl _) _⟩
    · have e3 : decide ((n : Int) - (L : Int) - 1 < 64) = false := by simp; omega
      rw [high_bit B _ hB (by omega)]
      clear h1 h4
      go_enter Try.func44, Try.ntmps44
      go_wp2
      go_ret
      exact ⟨rfl, (Below.refl _ _).alloc (Nat.le_refl _) _⟩

end Go.Proofs.Ytkcpldkdnnhmmaa
