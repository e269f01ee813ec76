/- Marks as a low end and bits: what they mark, how they settle, and that settled marks which mark the same are the same. -/
import Derived.Test.YtkcpldkdnnhmmaaMbits
namespace Go.Proofs.Ytkcpldkdnnhmmaa

/-- How many of the lowest bits are set. -/
def tro (B : Nat) : Nat := Lib.ctz 64 (18446744073709551615 - B)
theorem ctz_bits (x : Nat) (hx : x < 18446744073709551616) : Lib.ctz 64 x ≤ 64 ∧ (∀ i, i < Lib.ctz 64 x → x.testBit i = false) ∧ (Lib.ctz 64 x < 64 → x.testBit (Lib.ctz 64 x) = true) := by
  unfold Lib.ctz
  by_cases h0 : x = 0
  · rw [if_pos h0]
    subst h0
    exact ⟨Nat.le_refl _, fun i _ => Nat.zero_testBit i, fun h => absurd h (by decide)⟩
  · rw [if_neg h0]
    obtain ⟨m, hm, hl⟩ := Lib.ctzFrom_spec 64 x (Nat.pos_of_ne_zero h0) hx
    generalize Lib.ctzFrom 64 x = t at *
    subst hm
    refine ⟨by omega, fun i hi => ?_, fun _ => ?_⟩
    · rw [Nat.testBit_two_pow_mul]; simp; omega
    · rw [Nat.testBit_two_pow_mul]; simp
theorem comp_bit (B i : Nat) (hB : B < 18446744073709551616) (hi : i < 64) : (18446744073709551615 - B).testBit i = !B.testBit i := by
  have := Nat.testBit_two_pow_sub_succ (n := 64) (x := B) hB i
  rw [show 18446744073709551615 - B = 2 ^ 64 - (B + 1) by omega, this]
  simp [hi]
theorem tro_le (B : Nat) : tro B ≤ 64 := (ctz_bits _ (by omega)).1
theorem tro_ones (B i : Nat) (hB : B < 18446744073709551616) (h : i < tro B) : B.testBit i = true := by
  have hl := tro_le B
  have := (ctz_bits (18446744073709551615 - B) (by omega)).2.1 i h
  rw [comp_bit B i hB (by omega)] at this
  simpa using this
theorem high_bit (B i : Nat) (hB : B < 18446744073709551616) (h : 64 ≤ i) : B.testBit i = false :=
  Nat.testBit_lt_two_pow (Nat.lt_of_lt_of_le hB (Nat.pow_le_pow_right (n := 2) (by decide) h))
theorem tro_zero (B : Nat) (hB : B < 18446744073709551616) : B.testBit (tro B) = false := by
  by_cases h : tro B < 64
  · have := (ctz_bits (18446744073709551615 - B) (by omega)).2.2 h
    rw [show Lib.ctz 64 (18446744073709551615 - B) = tro B from rfl, comp_bit B _ hB h] at this
    simpa using this
  · exact high_bit B _ hB (by omega)

/-- Is a number marked? -/
def Hs (L B n : Nat) : Bool := decide (n ≤ L) || B.testBit (n - L - 1)
theorem hs_low {L B n : Nat} (h : n ≤ L) : Hs L B n = true := by unfold Hs; simp [h]
theorem hs_high {L B n : Nat} (h : L < n) : Hs L B n = B.testBit (n - L - 1) := by
  have : decide (n ≤ L) = false := by simpa using h
  unfold Hs; rw [this]; rfl
theorem hs_at (L B i : Nat) : Hs L B (L + 1 + i) = B.testBit i := by
  rw [hs_high (by omega)]; congr 1; omega
theorem shr_bit (B t i : Nat) : (B >>> t).testBit i = B.testBit (t + i) := Nat.testBit_shiftRight B
theorem hs_settle (L B n : Nat) (hB : B < 18446744073709551616) : Hs (L + tro B) (B >>> tro B) n = Hs L B n := by
  by_cases h1 : n ≤ L
  · rw [hs_low h1, hs_low (by omega)]
  · by_cases h2 : n ≤ L + tro B
    · rw [hs_low h2, hs_high (by omega), tro_ones B _ hB (by omega)]
    · rw [hs_high (by omega), hs_high (by omega), shr_bit]
      congr 1; omega
theorem settle_zero (B : Nat) (hB : B < 18446744073709551616) : (B >>> tro B).testBit 0 = false := by rw [shr_bit]; exact tro_zero B hB
theorem shr_lt (B t : Nat) (hB : B < 18446744073709551616) : B >>> t < 18446744073709551616 := by
  rw [Nat.shiftRight_eq_div_pow]; exact Nat.lt_of_le_of_lt (Nat.div_le_self _ _) hB

theorem hs_uniq (L B L' B' : Nat) (h0 : B.testBit 0 = false) (h0' : B'.testBit 0 = false) (h : ∀ n, Hs L B n = Hs L' B' n) : L = L' ∧ B = B' := by
  have key : ∀ L B L' B' : Nat, B.testBit 0 = false → (∀ n, Hs L B n = Hs L' B' n) → L' ≤ L := by
    intro L B L' B' hb h
    rcases Nat.lt_or_ge L L' with hlt | hge
    · have := h (L + 1)
      rw [show L + 1 = L + 1 + 0 from rfl, hs_at, hb, hs_low (by omega)] at this
      cases this
    · exact hge
  have e : L = L' := Nat.le_antisymm (key L' B' L B h0' fun n => (h n).symm) (key L B L' B' h0 h)
  subst e
  refine ⟨rfl, Nat.eq_of_testBit_eq fun i => ?_⟩
  have := h (L + 1 + i)
  rwa [hs_at, hs_at] at this

/-- The greatest number that is marked. -/
def top (L B : Nat) : Nat := L + Lib.bitLen B
theorem bl_bits (B : Nat) (hB : B < 18446744073709551616) : (∀ i, Lib.bitLen B ≤ i → B.testBit i = false) ∧ (B ≠ 0 → 1 ≤ Lib.bitLen B ∧ B.testBit (Lib.bitLen B - 1) = true) ∧ (B = 0 → Lib.bitLen B = 0) := by
  by_cases h0 : B = 0
  · subst h0
    exact ⟨fun i _ => Nat.zero_testBit i, fun h => absurd rfl h, fun _ => rfl⟩
  · obtain ⟨h1, h2, h3⟩ := Lib.bitLenAux_bounds 64 B hB h0
    have e : Lib.bitLenAux 64 B = Lib.bitLen B := rfl
    rw [e] at h1 h2 h3
    refine ⟨fun i hi => Nat.testBit_lt_two_pow (Nat.lt_of_lt_of_le h3 (Nat.pow_le_pow_right (by decide) hi)), fun _ => ⟨h1, ?_⟩, fun h => absurd h h0⟩
    refine Nat.testBit_of_two_pow_le_and_two_pow_add_one_gt h2 ?_
    rw [Nat.sub_add_cancel h1]; exact h3
theorem hs_top (L B n : Nat) (hB : B < 18446744073709551616) (h : Hs L B n = true) : n ≤ top L B := by
  unfold top
  by_cases h1 : n ≤ L
  · omega
  · rw [hs_high (by omega)] at h
    rcases Nat.lt_or_ge (n - L - 1) (Lib.bitLen B) with hlt | hge
    · omega
    · rw [(bl_bits B hB).1 _ hge] at h; cases h
theorem top_hs (L B : Nat) (hB : B < 18446744073709551616) : Hs L B (top L B) = true := by
  unfold top
  by_cases h0 : B = 0
  · rw [(bl_bits B hB).2.2 h0]; exact hs_low (Nat.le_refl _)
  · obtain ⟨h1, h2⟩ := (bl_bits B hB).2.1 h0
    rw [hs_high (by omega), show L + Lib.bitLen B - L - 1 = Lib.bitLen B - 1 by omega]; exact h2
theorem bl_le (B : Nat) (hB : B < 18446744073709551616) : Lib.bitLen B ≤ 64 := Lib.bitLen_le B 64 (Nat.le_refl _) hB

/-- Good marks. -/
def Gd (L B : Nat) : Prop := L ≤ 4611686018427387840 ∧ B.testBit 0 = false ∧ top L B ≤ 4611686018427387840
theorem gd_le {L B n : Nat} (hB : B < 18446744073709551616) (h : Gd L B) (hn : Hs L B n = true) : n ≤ 4611686018427387840 := Nat.le_trans (hs_top L B n hB hn) h.2.2
theorem gd_settle (L B : Nat) (hB : B < 18446744073709551616) (h : ∀ n, Hs L B n = true → n ≤ 4611686018427387840) : Gd (L + tro B) (B >>> tro B) := by
  refine ⟨h _ ?_, settle_zero B hB, h _ ?_⟩
  · rw [← hs_settle L B _ hB]; exact hs_low (Nat.le_refl _)
  · rw [← hs_settle L B _ hB]; exact top_hs _ _ (shr_lt _ _ hB)

theorem or_lt (a b : Nat) (ha : a < 18446744073709551616) (hb : b < 18446744073709551616) : a ||| b < 18446744073709551616 := Nat.or_lt_two_pow (n := 64) ha hb
theorem pow_lt (k : Nat) (h : k < 64) : 2 ^ k < 18446744073709551616 := Nat.pow_lt_pow_right (n := 64) (by decide) h
/-- With one number more. -/
theorem hs_set (L B n x : Nat) (hn : L < n) : Hs L (B ||| 2 ^ (n - L - 1)) x = (Hs L B x || decide (x = n)) := by
  by_cases h1 : x ≤ L
  · rw [hs_low h1, hs_low h1]; rfl
  · rw [hs_high (by omega), hs_high (by omega), Nat.testBit_or, Nat.testBit_two_pow]
    congr 1
    apply decide_eq_decide.2
    omega
theorem hs_over (L B low x : Nat) (h : L ≤ low) : Hs low (B >>> (low - L)) x = (Hs L B x || decide (x ≤ low)) := by
  by_cases h1 : x ≤ low
  · rw [hs_low h1]; simp [h1]
  · have : decide (x ≤ low) = false := by simpa using h1
    rw [hs_high (by omega), hs_high (by omega), shr_bit, this, Bool.or_false]
    congr 1; omega
theorem hs_join (L A B x : Nat) : Hs L (A ||| B) x = (Hs L A x || Hs L B x) := by
  by_cases h1 : x ≤ L
  · rw [hs_low h1, hs_low h1]; rfl
  · rw [hs_high (by omega), hs_high (by omega), hs_high (by omega), Nat.testBit_or]

end Go.Proofs.Ytkcpldkdnnhmmaa
