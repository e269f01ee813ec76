/- Marks as a low end and bits: what they mark, how they settle, and that settled marks which mark the same are the same. Contracts of package marks: Has, and the reference's; settled, Top, above, Good. -/
import Derived.Test.YtgejmeankppmhaaDoorBoxM
namespace Go.Proofs.YtgejmeankppmhaaDoor

/-- How many of the lowest bits are set. -/
def tro (B : Nat) : Nat := Lib.ctz 64 (18446744073709551615 - B)
theorem ctz_bits (x : Nat) (hx : x < 18446744073709551616) : Lib.ctz 64 x ≤ 64 ∧ (∀ i, i < Lib.ctz 64 x → x.testBit i = false) ∧ (Lib.ctz 64 x < 64 → x.testBit (Lib.ctz 64 x) = true) := by
  unfold Lib.ctz
  by_cases h0 : x = 0
  · rw [if_pos h0]
    subst h0
    exact ⟨Nat.le_refl _, fun i _ => Nat.zero_testBit i, fun h => absurd h (by decide)⟩
  · rw [if_neg h0]
    obtain ⟨m, hm, hl⟩ := Lib.ctzFrom_spec 64 x (Nat.pos_of_ne_zero h0) hx
    generalize Lib.ctzFrom 64 x = t at *
    subst hm
    refine ⟨by omega, fun i hi => ?_, fun _ => ?_⟩
    · rw [Nat.testBit_two_pow_mul]; simp; omega
    · rw [Nat.testBit_two_pow_mul]; simp
theorem comp_bit (B i : Nat) (hB : B < 18446744073709551616) (hi : i < 64) : (18446744073709551615 - B).testBit i = !B.testBit i := by
  have := Nat.testBit_two_pow_sub_succ (n := 64) (x := B) hB i
  rw [show 18446744073709551615 - B = 2 ^ 64 - (B + 1) by omega, this]
  simp [hi]
theorem tro_le (B : Nat) : tro B ≤ 64 := (ctz_bits _ (by omega)).1
theorem tro_ones (B i : Nat) (hB : B < 18446744073709551616) (h : i < tro B) : B.testBit i = true := by
  have hl := tro_le B
  have := (ctz_bits (18446744073709551615 - B) (by omega)).2.1 i h
  rw [comp_bit B i hB (by omega)] at this
  simpa using this
theorem high_bit (B i : Nat) (hB : B < 18446744073709551616) (h : 64 ≤ i) : B.testBit i = false :=
  Nat.testBit_lt_two_pow (Nat.lt_of_lt_of_le hB (Nat.pow_le_pow_right (n := 2) (by decide) h))
theorem tro_zero (B : Nat) (hB : B < 18446744073709551616) : B.testBit (tro B) = false := by
  by_cases h : tro B < 64
  · have := (ctz_bits (18446744073709551615 - B) (by omega)).2.2 h
    rw [show Lib.ctz 64 (18446744073709551615 - B) = tro B from rfl, comp_bit B _ hB h] at this
    simpa using this
  · exact high_bit B _ hB (by omega)

/-- Is a number marked? -/
def Hs (L B n : Nat) : Bool := decide (n ≤ L) || B.testBit (n - L - 1)
theorem hs_low {L B n : Nat} (h : n ≤ L) : Hs L B n = true := by unfold Hs; simp [h]
theorem hs_high {L B n : Nat} (h : L < n) : Hs L B n = B.testBit (n - L - 1) := by
  have : decide (n ≤ L) = false := by simpa using h
  unfold Hs; rw [this]; rfl
theorem hs_at (L B i : Nat) : Hs L B (L + 1 + i) = B.testBit i := by
  rw [hs_high (by omega)]; congr 1; omega
theorem shr_bit (B t i : Nat) : (B >>> t).testBit i = B.testBit (t + i) := Nat.testBit_shiftRight B
theorem hs_settle (L B n : Nat) (hB : B < 18446744073709551616) : Hs (L + tro B) (B >>> tro B) n = Hs L B n := by
  by_cases h1 : n ≤ L
  · rw [hs_low h1, hs_low (by omega)]
  · by_cases h2 : n ≤ L + tro B
    · rw [hs_low h2, hs_high (by omega), tro_ones B _ hB (by omega)]
    · rw [hs_high (by omega), hs_high (by omega), shr_bit]
      congr 1; omega
theorem settle_zero (B : Nat) (hB : B < 18446744073709551616) : (B >>> tro B).testBit 0 = false := by rw [shr_bit]; exact tro_zero B hB
theorem shr_lt (B t : Nat) (hB : B < 18446744073709551616) : B >>> t < 18446744073709551616 := by
  rw [Nat.shiftRight_eq_div_pow]; exact Nat.lt_of_le_of_lt (Nat.div_le_self _ _) hB

theorem hs_uniq (L B L' B' : Nat) (h0 : B.testBit 0 = false) (h0' : B'.testBit 0 = false) (h : ∀ n, Hs L B n = Hs L' B' n) : L = L' ∧ B = B' := by
  have key : ∀ L B L' B' : Nat, B.testBit 0 = false → (∀ n, Hs L B n = Hs L' B' n) → L' ≤ L := by
    intro L B L' B' hb h
    rcases Nat.lt_or_ge L L' with hlt | hge
    · have := h (L + 1)
      rw [show L + 1 = L + 1 + 0 from rfl, hs_at, hb, hs_low (by omega)] at this
      cases this
    · exact hge
  have e : L = L' := Nat.le_antisymm (key L' B' L B h0' fun n => (h n).symm) (key L B L' B' h0 h)
  subst e
  refine ⟨rfl, Nat.eq_of_testBit_eq fun i => ?_⟩
  have := h (L + 1 + i)
  rwa [hs_at, hs_at] at this

/-- The greatest number that is marked. -/
def top (L B : Nat) : Nat := L + Lib.bitLen B
theorem bl_bits (B : Nat) (hB : B < 18446744073709551616) : (∀ i, Lib.bitLen B ≤ i → B.testBit i = false) ∧ (B ≠ 0 → 1 ≤ Lib.bitLen B ∧ B.testBit (Lib.bitLen B - 1) = true) ∧ (B = 0 → Lib.bitLen B = 0) := by
  by_cases h0 : B = 0
  · subst h0
    exact ⟨fun i _ => Nat.zero_testBit i, fun h => absurd rfl h, fun _ => rfl⟩
  · obtain ⟨h1, h2, h3⟩ := Lib.bitLenAux_bounds 64 B hB h0
    have e : Lib.bitLenAux 64 B = Lib.bitLen B := rfl
    rw [e] at h1 h2 h3
    refine ⟨fun i hi => Nat.testBit_lt_two_pow (Nat.lt_of_lt_of_le h3 (Nat.pow_le_pow_right (by decide) hi)), fun _ => ⟨h1, ?_⟩, fun h => absurd h h0⟩
    refine Nat.testBit_of_two_pow_le_and_two_pow_add_one_gt h2 ?_
    rw [Nat.sub_add_cancel h1]; exact h3
theorem hs_top (L B n : Nat) (hB : B < 18446744073709551616) (h : Hs L B n = true) : n ≤ top L B := by
  unfold top
  by_cases h1 : n ≤ L
  · omega
  · rw [hs_high (by omega)] at h
    rcases Nat.lt_or_ge (n - L - 1) (Lib.bitLen B) with hlt | hge
    · omega
    · rw [(bl_bits B hB).1 _ hge] at h; cases h
theorem top_hs (L B : Nat) (hB : B < 18446744073709551616) : Hs L B (top L B) = true := by
  unfold top
  by_cases h0 : B = 0
  · rw [(bl_bits B hB).2.2 h0]; exact hs_low (Nat.le_refl _)
  · obtain ⟨h1, h2⟩ := (bl_bits B hB).2.1 h0
    rw [hs_high (by omega), show L + Lib.bitLen B - L - 1 = Lib.bitLen B - 1 by omega]; exact h2
theorem bl_le (B : Nat) (hB : B < 18446744073709551616) : Lib.bitLen B ≤ 64 := Lib.bitLen_le B 64 (Nat.le_refl _) hB

/-- Good marks. -/
def Gd (L B : Nat) : Prop := L ≤ 4611686018427387840 ∧ B.testBit 0 = false ∧ top L B ≤ 4611686018427387840
theorem gd_le {L B n : Nat} (hB : B < 18446744073709551616) (h : Gd L B) (hn : Hs L B n = true) : n ≤ 4611686018427387840 := Nat.le_trans (hs_top L B n hB hn) h.2.2
theorem gd_settle (L B : Nat) (hB : B < 18446744073709551616) (h : ∀ n, Hs L B n = true → n ≤ 4611686018427387840) : Gd (L + tro B) (B >>> tro B) := by
  refine ⟨h _ ?_, settle_zero B hB, h _ ?_⟩
  · rw [← hs_settle L B _ hB]; exact hs_low (Nat.le_refl _)
  · rw [← hs_settle L B _ hB]; exact top_hs _ _ (shr_lt _ _ hB)

theorem or_lt (a b : Nat) (ha : a < 18446744073709551616) (hb : b < 18446744073709551616) : a ||| b < 18446744073709551616 := Nat.or_lt_two_pow (n := 64) ha hb
theorem pow_lt (k : Nat) (h : k < 64) : 2 ^ k < 18446744073709551616 := Nat.pow_lt_pow_right (n := 64) (by decide) h
/-- With one number more. -/
theorem hs_set (L B n x : Nat) (hn : L < n) : Hs L (B ||| 2 ^ (n - L - 1)) x = (Hs L B x || decide (x = n)) := by
  by_cases h1 : x ≤ L
  · rw [hs_low h1, hs_low h1]; rfl
  · rw [hs_high (by omega), hs_high (by omega), Nat.testBit_or, Nat.testBit_two_pow]
    congr 1
    apply decide_eq_decide.2
    omega
theorem hs_over (L B low x : Nat) (h : L ≤ low) : Hs low (B >>> (low - L)) x = (Hs L B x || decide (x ≤ low)) := by
  by_cases h1 : x ≤ low
  · rw [hs_low h1]; simp [h1]
  · have : decide (x ≤ low) = false := by simpa using h1
    rw [hs_high (by omega), hs_high (by omega), shr_bit, this, Bool.or_false]
    congr 1; omega
theorem hs_join (L A B x : Nat) : Hs L (A ||| B) x = (Hs L A x || Hs L B x) := by
  by_cases h1 : x ≤ L
  · rw [hs_low h1, hs_low h1]; rfl
  · rw [hs_high (by omega), hs_high (by omega), hs_high (by omega), Nat.testBit_or]

end Go.Proofs.YtgejmeankppmhaaDoor

namespace Go.Proofs.YtgejmeankppmhaaDoor
open Go.RowKit

theorem shr_run (B y : Nat) (z : Int) (hB : B < 18446744073709551616) (hz : z = (y : Int)) : (B : Int) / 2 ^ min z.toNat 64 = ((B >>> y : Nat) : Int) := by
  subst hz
  rw [Int.toNat_natCast, Nat.shiftRight_eq_div_pow]
  by_cases hy : y ≤ 64
  · rw [Nat.min_eq_left hy]; simp
  · rw [Nat.min_eq_right (by omega), Nat.div_eq_of_lt (Nat.lt_of_lt_of_le hB (Nat.pow_le_pow_right (n := 2) (by decide) (show 64 ≤ y by omega)))]
    omega
theorem shr_op (B y : Nat) (z : Int) (hB : B < 18446744073709551616) (hz : z = (y : Int)) {yk : IntKind} : Op.shift .shr .u64 (B : Int) yk z = pure (.int .u64 ((B >>> y : Nat) : Int)) := by
  have e := shr_run B y z hB hz
  have h1 : ¬ (z < 0) := by omega
  have h2 : (0 : Int) ≤ 2 ^ min z.toNat 64 := Int.pow_nonneg (by decide)
  simp [Op.shift, IntKind.bits, h1, Int.fdiv_eq_ediv_of_nonneg _ h2, e]
theorem shl_op (y : Nat) (z : Int) (hy : y < 64) (hz : z = (y : Int)) : Op.shift .shl .u64 1 .u64 z = pure (.int .u64 ((2 ^ y : Nat) : Int)) := by
  subst hz
  have := pow_lt y hy
  rw [shift_shl .u64 .u64 _ _ (by omega) (by simp [IntKind.bits]; omega), Int.toNat_natCast, Int.one_mul, show (2 : Int) ^ y = ((2 ^ y : Nat) : Int) by simp]
  generalize 2 ^ y = p at *
  rw [u64w _ (by omega) (by omega)]
theorem shl_run (y : Nat) (z : Int) (hy : y < 64) (hz : z = (y : Int)) : IntKind.u64.wrap (1 * 2 ^ z.toNat) = ((2 ^ y : Nat) : Int) := by
  subst hz
  have := pow_lt y hy
  rw [Int.toNat_natCast, Int.one_mul, show (2 : Int) ^ y = ((2 ^ y : Nat) : Int) by simp]
  generalize 2 ^ y = p at *
  exact u64w _ (by omega) (by omega)
theorem and_run (X : Nat) (hX : X < 18446744073709551616) : bits .and .u64 (X : Int) 1 = if X.testBit 0 then 1 else 0 := by
  have := bits_and_u64_nat X 1 hX (by decide)
  rw [show ((1 : Nat) : Int) = 1 from rfl] at this
  rw [this, Nat.and_one_is_mod, Nat.testBit_zero]
  rcases Nat.mod_two_eq_zero_or_one X with h | h <;> simp [h]
theorem or_run (a b : Nat) (ha : a < 18446744073709551616) (hb : b < 18446744073709551616) : bits .or .u64 (a : Int) (b : Int) = ((a ||| b : Nat) : Int) := by
  have hx : a ||| b < 2 ^ 64 := Nat.or_lt_two_pow ha hb
  have h1 : (BitVec.ofInt 64 (a : Int)).toNat = a := by
    rw [BitVec.ofInt_natCast, BitVec.toNat_ofNat]; exact Nat.mod_eq_of_lt (by omega)
  have h2 : (BitVec.ofInt 64 (b : Int)).toNat = b := by
    rw [BitVec.ofInt_natCast, BitVec.toNat_ofNat]; exact Nat.mod_eq_of_lt (by omega)
  show IntKind.u64.wrap ((BitVec.ofInt 64 (a : Int) ||| BitVec.ofInt 64 (b : Int)).toNat : Int) = _
  rw [BitVec.toNat_or, h1, h2, u64w _ (by omega) (by omega)]

theorem has_any (L B n : Nat) (w : World) (_ : L < 18446744073709551616) (hB : B < 18446744073709551616) (hn : n < 18446744073709551616) :
    Calls Tryd.prog 20 #[.agg #[.int .u64 (L : Int), .int .u64 (B : Int)], .int .u64 (n : Int)] w fun e w' => e = .returned (.bool (Hs L B n)) ∧ Below w.heap.size w w' := by
  by_cases h1 : n ≤ L
  · rw [hs_low h1]
    go_enter Tryd.func20, Tryd.ntmps20
    go_wp2
    go_ret
    exact ⟨rfl, (Below.refl _ _).alloc (Nat.le_refl _) _⟩
  · rw [hs_high (by omega)]
    have e1 := shr_op (yk := .u64) B (n - L - 1) ((n : Int) - (L : Int) - 1) hB (by omega)
    have e2 := and_run _ (shr_lt B (n - L - 1) hB)
    rw [shr_bit, Nat.add_zero] at e2
    have h2 : (L : Int) < (n : Int) := by omega
    have h3 : decide (n ≤ L) = false := by simpa using h1
    generalize B >>> (n - L - 1) = X at *
    clear h1
    cases hb : B.testBit (n - L - 1)
    all_goals
      rw [hb] at e2
      simp only [if_true, Bool.false_eq_true, if_false] at e2
      clear hb
      go_enter Tryd.func20, Tryd.ntmps20
      go_wp2
      go_ret
      exact ⟨rfl, (Below.refl _ _).alloc (Nat.le_refl _) _⟩

theorem rhas_any (L B n : Nat) (w : World) (_ : L < 18446744073709551616) (hB : B < 18446744073709551616) (hn : n < 18446744073709551616) :
    Calls Tryd.prog 28 #[.agg #[.int .u64 (L : Int), .int .u64 (B : Int)], .int .u64 (n : Int)] w fun e w' => e = .returned (.bool (Hs L B n)) ∧ Below w.heap.size w w' := by
  by_cases h1 : n ≤ L
  · rw [hs_low h1]
    go_enter Tryd.func28, Tryd.ntmps28
    go_wp2
    go_ret
    exact ⟨rfl, (Below.refl _ _).alloc (Nat.le_refl _) _⟩
  · rw [hs_high (by omega)]
    have h2 : (L : Int) < (n : Int) := by omega
    have h3 : decide (n ≤ L) = false := by simpa using h1
    by_cases h4 : n - L - 1 < 64
    · have e1 := shr_op (yk := .u64) B (n - L - 1) ((n : Int) - (L : Int) - 1) hB (by omega)
      have e2 := and_run _ (shr_lt B (n - L - 1) hB)
      have e3 : decide ((n : Int) - (L : Int) - 1 < 64) = true := by simp; omega
      rw [shr_bit, Nat.add_zero] at e2
      generalize B >>> (n - L - 1) = X at *
      clear h1 h4
      cases hb : B.testBit (n - L - 1)
      all_goals
        rw [hb] at e2
        simp only [if_true, Bool.false_eq_true, if_false] at e2
        clear hb
        go_enter Tryd.func28, Tryd.ntmps28
        go_wp2
        go_ret
        exact ⟨rfl, (Below.refl _ _).alloc (Nat.le_refl _) _⟩
    · have e3 : decide ((n : Int) - (L : Int) - 1 < 64) = false := by simp; omega
      rw [high_bit B _ hB (by omega)]
      clear h1 h4
      go_enter Tryd.func28, Tryd.ntmps28
      go_wp2
      go_ret
      exact ⟨rfl, (Below.refl _ _).alloc (Nat.le_refl _) _⟩

end Go.Proofs.YtgejmeankppmhaaDoor
