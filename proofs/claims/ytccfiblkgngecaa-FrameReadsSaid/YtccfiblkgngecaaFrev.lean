/- math/bits.ReverseBytes64. -/
import Derived.Test.YtccfiblkgngecaaNum
import Derived.Laws.Bits64b
namespace Go.Proofs.Ytccfiblkgngecaa
open Go.RowKit

theorem and_split (k a b c d : Nat) (ha : a < 2 ^ k) (hc : c < 2 ^ k) : (2 ^ k * b + a) &&& (2 ^ k * d + c) = 2 ^ k * (b &&& d) + (a &&& c) := by
  apply Nat.eq_of_testBit_eq
  intro i
  rw [Nat.testBit_and, Nat.testBit_two_pow_mul_add _ ha, Nat.testBit_two_pow_mul_add _ hc, Nat.testBit_two_pow_mul_add _ (Nat.and_lt_two_pow _ hc)]
  split <;> rw [Nat.testBit_and]
theorem or_split (k a b c d : Nat) (ha : a < 2 ^ k) (hc : c < 2 ^ k) : (2 ^ k * b + a) ||| (2 ^ k * d + c) = 2 ^ k * (b ||| d) + (a ||| c) := by
  apply Nat.eq_of_testBit_eq
  intro i
  rw [Nat.testBit_or, Nat.testBit_two_pow_mul_add _ ha, Nat.testBit_two_pow_mul_add _ hc, Nat.testBit_two_pow_mul_add _ (Nat.or_lt_two_pow ha hc)]
  split <;> rw [Nat.testBit_or]
theorem and16 (y m g : Nat) (hg : g < 65536) : (65536 * y + g) &&& (65536 * m + 255) = 65536 * (y &&& m) + g % 256 := by
  have := and_split 16 g y 255 m (by omega) (by omega)
  rw [show (2 : Nat) ^ 16 = 65536 from rfl] at this
  rw [this, show (255 : Nat) = 2 ^ 8 - 1 from rfl, Nat.and_two_pow_sub_one_eq_mod]
theorem and32 (y m g : Nat) (hg : g < 4294967296) : (4294967296 * y + g) &&& (4294967296 * m + 65535) = 4294967296 * (y &&& m) + g % 65536 := by
  have := and_split 32 g y 65535 m (by omega) (by omega)
  rw [show (2 : Nat) ^ 32 = 4294967296 from rfl] at this
  rw [this, show (65535 : Nat) = 2 ^ 16 - 1 from rfl, Nat.and_two_pow_sub_one_eq_mod]
theorem or16 (y z a b : Nat) (ha : a < 256) (hb : b < 256) : (65536 * y + a) ||| (65536 * z + 256 * b) = 65536 * (y ||| z) + (a + 256 * b) := by
  have := or_split 16 a y (256 * b) z (by omega) (by omega)
  rw [show (2 : Nat) ^ 16 = 65536 from rfl] at this
  rw [this]
  have h := Nat.two_pow_add_eq_or_of_lt (i := 8) (show a < 2 ^ 8 by omega) b
  rw [show (2 : Nat) ^ 8 = 256 from rfl] at h
  rw [Nat.or_comm a, ← h]
  omega
theorem or32 (y z a b : Nat) (ha : a < 65536) (hb : b < 65536) : (4294967296 * y + a) ||| (4294967296 * z + 65536 * b) = 4294967296 * (y ||| z) + (a + 65536 * b) := by
  have := or_split 32 a y (65536 * b) z (by omega) (by omega)
  rw [show (2 : Nat) ^ 32 = 4294967296 from rfl] at this
  rw [this]
  have h := Nat.two_pow_add_eq_or_of_lt (i := 16) (show a < 2 ^ 16 by omega) b
  rw [show (2 : Nat) ^ 16 = 65536 from rfl] at h
  rw [Nat.or_comm a, ← h]
  omega
/-- Four groups of two bytes. -/
def gr (a0 b0 a1 b1 a2 b2 a3 b3 : Nat) : Nat := 65536 * (65536 * (65536 * (65536 * 0 + (a3 + 256 * b3)) + (a2 + 256 * b2)) + (a1 + 256 * b1)) + (a0 + 256 * b0)
section
variable {a0 b0 a1 b1 a2 b2 a3 b3 : Nat}
theorem gr_and (h0 : a0 < 256) (k0 : b0 < 256) (h1 : a1 < 256) (k1 : b1 < 256) (h2 : a2 < 256) (k2 : b2 < 256) (h3 : a3 < 256) (k3 : b3 < 256) : gr a0 b0 a1 b1 a2 b2 a3 b3 &&& 71777214294589695 = gr a0 0 a1 0 a2 0 a3 0 := by
  have e : (71777214294589695 : Nat) = 65536 * (65536 * (65536 * (65536 * 0 + 255) + 255) + 255) + 255 := rfl
  unfold gr
  rw [e, and16 _ _ _ (by omega), and16 _ _ _ (by omega), and16 _ _ _ (by omega), and16 _ _ _ (by omega), Nat.and_zero]
  omega
theorem gr_or (h0 : a0 < 256) (k0 : b0 < 256) (h1 : a1 < 256) (k1 : b1 < 256) (h2 : a2 < 256) (k2 : b2 < 256) (h3 : a3 < 256) (k3 : b3 < 256) : gr b0 0 b1 0 b2 0 b3 0 ||| gr 0 a0 0 a1 0 a2 0 a3 = gr b0 a0 b1 a1 b2 a2 b3 a3 := by
  have e : gr b0 0 b1 0 b2 0 b3 0 = 65536 * (65536 * (65536 * (65536 * 0 + b3) + b2) + b1) + b0 := by unfold gr; omega
  have f : gr 0 a0 0 a1 0 a2 0 a3 = 65536 * (65536 * (65536 * (65536 * 0 + 256 * a3) + 256 * a2) + 256 * a1) + 256 * a0 := by unfold gr; omega
  rw [e, f, or16 _ _ _ _ k0 h0, or16 _ _ _ _ k1 h1, or16 _ _ _ _ k2 h2, or16 _ _ _ _ k3 h3]
  unfold gr
  simp
end
/-- The bytes of a number, the other way round. -/
def rev8 (x : Nat) : Nat := unle (le 8 x).reverse
theorem rev_bytes (x : Nat) (hx : x < 18446744073709551616) : ∃ b0 b1 b2 b3 b4 b5 b6 b7 : Nat, b0 < 256 ∧ b1 < 256 ∧ b2 < 256 ∧ b3 < 256 ∧ b4 < 256 ∧ b5 < 256 ∧ b6 < 256 ∧ b7 < 256 ∧ x = gr b0 b1 b2 b3 b4 b5 b6 b7 ∧ x / 256 = gr b1 b2 b3 b4 b5 b6 b7 0 ∧ rev8 x = b7 + 256 * (b6 + 256 * (b5 + 256 * (b4 + 256 * (b3 + 256 * (b2 + 256 * (b1 + 256 * b0)))))) := by
  have step : ∀ n : Nat, ∃ b y, b = n % 256 ∧ y = n / 256 ∧ b < 256 ∧ n = b + 256 * y := fun n => ⟨n % 256, n / 256, rfl, rfl, by omega, by omega⟩
  obtain ⟨b0, y1, h0, g1, l0, s0⟩ := step x
  obtain ⟨b1, y2, h1, g2, l1, s1⟩ := step y1
  obtain ⟨b2, y3, h2, g3, l2, s2⟩ := step y2
  obtain ⟨b3, y4, h3, g4, l3, s3⟩ := step y3
  obtain ⟨b4, y5, h4, g5, l4, s4⟩ := step y4
  obtain ⟨b5, y6, h5, g6, l5, s5⟩ := step y5
  obtain ⟨b6, y7, h6, g7, l6, s6⟩ := step y6
  obtain ⟨b7, y8, h7, g8, l7, s7⟩ := step y7
  have hr : rev8 x = b7 + 256 * (b6 + 256 * (b5 + 256 * (b4 + 256 * (b3 + 256 * (b2 + 256 * (b1 + 256 * b0)))))) := by
    unfold rev8
    simp only [le, ← g1, ← g2, ← g3, ← g4, ← g5, ← g6, ← g7, ← g8, ← h0, ← h1, ← h2, ← h3, ← h4, ← h5, ← h6, ← h7, List.reverse_cons, List.reverse_nil, List.nil_append, List.cons_append, unle, UInt8.toNat_ofNat', Nat.reducePow]
    rw [Nat.mod_eq_of_lt l0, Nat.mod_eq_of_lt l1, Nat.mod_eq_of_lt l2, Nat.mod_eq_of_lt l3, Nat.mod_eq_of_lt l4, Nat.mod_eq_of_lt l5, Nat.mod_eq_of_lt l6, Nat.mod_eq_of_lt l7]
    rw [Nat.mul_zero, Nat.add_zero]
  have z8 : y8 = 0 := by
    clear hr h0 h1 h2 h3 h4 h5 h6 h7 g1 g2 g3 g4 g5 g6 g7 g8 step
    omega
  refine ⟨b0, b1, b2, b3, b4, b5, b6, b7, l0, l1, l2, l3, l4, l5, l6, l7, ?_, ?_, hr⟩
  · clear hr h0 h1 h2 h3 h4 h5 h6 h7 g1 g2 g3 g4 g5 g6 g7 g8 step hx
    rw [s0, s1, s2, s3, s4, s5, s6, s7, z8]
    unfold gr
    clear s0 s1 s2 s3 s4 s5 s6 s7 z8 l0 l1 l2 l3 l4 l5 l6 l7
    omega
  · rw [← g1]
    clear hr h0 h1 h2 h3 h4 h5 h6 h7 g1 g2 g3 g4 g5 g6 g7 g8 step hx
    rw [s1, s2, s3, s4, s5, s6, s7, z8]
    unfold gr
    clear s0 s1 s2 s3 s4 s5 s6 s7 z8 l0 l1 l2 l3 l4 l5 l6 l7
    omega

/-- Two groups of four bytes. -/
def gq (p0 p1 p2 p3 : Nat) : Nat := 4294967296 * (4294967296 * 0 + (p2 + 65536 * p3)) + (p0 + 65536 * p1)
theorem gq_of (a0 b0 a1 b1 a2 b2 a3 b3 : Nat) : gr a0 b0 a1 b1 a2 b2 a3 b3 = gq (a0 + 256 * b0) (a1 + 256 * b1) (a2 + 256 * b2) (a3 + 256 * b3) := by
  unfold gr gq
  omega
section
variable {p0 p1 p2 p3 : Nat}
theorem gq_div (h0 : p0 < 65536) : gq p0 p1 p2 p3 / 65536 = gq p1 p2 p3 0 := by
  unfold gq
  omega
theorem gq_and (h0 : p0 < 65536) (h1 : p1 < 65536) (h2 : p2 < 65536) (h3 : p3 < 65536) : gq p0 p1 p2 p3 &&& 281470681808895 = gq p0 0 p2 0 := by
  have m : (281470681808895 : Nat) = 4294967296 * (4294967296 * 0 + 65535) + 65535 := rfl
  have e0 : (p0 + 65536 * p1) % 65536 = p0 := by omega
  have e1 : (p2 + 65536 * p3) % 65536 = p2 := by omega
  unfold gq
  rw [m, and32 _ _ _ (by omega), and32 _ _ _ (by omega), Nat.and_zero, e0, e1, Nat.mul_zero, Nat.add_zero, Nat.add_zero]
theorem gq_or (h0 : p0 < 65536) (h1 : p1 < 65536) (h2 : p2 < 65536) (h3 : p3 < 65536) : gq p1 0 p3 0 ||| (gq p0 0 p2 0 * 65536) = gq p1 p0 p3 p2 := by
  have e0 : gq p1 0 p3 0 = 4294967296 * (4294967296 * 0 + p3) + p1 := by unfold gq; omega
  have e1 : gq p0 0 p2 0 * 65536 = 4294967296 * (4294967296 * 0 + 65536 * p2) + 65536 * p0 := by unfold gq; omega
  rw [e0, e1, or32 _ _ _ _ h1 h0, or32 _ _ _ _ h3 h2, Nat.or_zero]
  rfl
theorem gq_fin (h0 : p0 < 65536) (h1 : p1 < 65536) (h2 : p2 < 65536) (h3 : p3 < 65536) : gq p1 p0 p3 p2 / 4294967296 ||| (gq p1 p0 p3 p2 % 4294967296 * 4294967296) = 4294967296 * (p1 + 65536 * p0) + (p3 + 65536 * p2) := by
  have d1 : gq p1 p0 p3 p2 / 4294967296 = p3 + 65536 * p2 := by unfold gq; omega
  have d2 : gq p1 p0 p3 p2 % 4294967296 = p1 + 65536 * p0 := by unfold gq; omega
  rw [d1, d2, Nat.mul_comm _ 4294967296]
  have := Nat.two_pow_add_eq_or_of_lt (i := 32) (show p3 + 65536 * p2 < 2 ^ 32 by omega) (p1 + 65536 * p0)
  rw [show (2 : Nat) ^ 32 = 4294967296 from rfl] at this
  rw [Nat.or_comm, ← this]
theorem gq_lt (h0 : p0 < 65536) (h1 : p1 < 65536) (h2 : p2 < 65536) (h3 : p3 < 65536) : gq p0 p1 p2 p3 < 18446744073709551616 := by
  unfold gq
  omega
theorem gq_lo (h0 : p0 < 65536) (h2 : p2 < 65536) : gq p0 0 p2 0 < 281474976710656 := by
  unfold gq
  omega
end
section
variable {a0 a1 a2 a3 : Nat}
theorem gr_shl : gr a0 0 a1 0 a2 0 a3 0 * 256 = gr 0 a0 0 a1 0 a2 0 a3 := by
  unfold gr
  omega
theorem gr_lo (h0 : a0 < 256) (h1 : a1 < 256) (h2 : a2 < 256) (h3 : a3 < 256) : gr a0 0 a1 0 a2 0 a3 0 < 72057594037927936 := by
  unfold gr
  omega
end
theorem rev_steps (x : Nat) (hx : x < 18446744073709551616) : ∃ t5 t7 x1 u5 u7 x2 : Nat, t5 = x / 256 &&& 71777214294589695 ∧ t7 = x &&& 71777214294589695 ∧ t5 < 18446744073709551616 ∧ t7 < 72057594037927936 ∧ x1 = t5 ||| (t7 * 256) ∧ x1 < 18446744073709551616 ∧
    u5 = x1 / 65536 &&& 281470681808895 ∧ u7 = x1 &&& 281470681808895 ∧ u5 < 18446744073709551616 ∧ u7 < 281474976710656 ∧ x2 = u5 ||| (u7 * 65536) ∧ x2 < 18446744073709551616 ∧ rev8 x = x2 / 4294967296 ||| (x2 % 4294967296 * 4294967296) := by
  obtain ⟨b0, b1, b2, b3, b4, b5, b6, b7, l0, l1, l2, l3, l4, l5, l6, l7, e0, e1, hr⟩ := rev_bytes x hx
  have z : 0 < 256 := by decide
  have n0 : b1 + 256 * b0 < 65536 := by omega
  have n1 : b3 + 256 * b2 < 65536 := by omega
  have n2 : b5 + 256 * b4 < 65536 := by omega
  have n3 : b7 + 256 * b6 < 65536 := by omega
  have a5 : gr b1 0 b3 0 b5 0 b7 0 = x / 256 &&& 71777214294589695 := by rw [e1, gr_and l1 l2 l3 l4 l5 l6 l7 z]
  have a7 : gr b0 0 b2 0 b4 0 b6 0 = x &&& 71777214294589695 := by rw [e0, gr_and l0 l1 l2 l3 l4 l5 l6 l7]
  refine ⟨gr b1 0 b3 0 b5 0 b7 0, gr b0 0 b2 0 b4 0 b6 0, gq (b1 + 256 * b0) (b3 + 256 * b2) (b5 + 256 * b4) (b7 + 256 * b6), gq (b3 + 256 * b2) 0 (b7 + 256 * b6) 0, gq (b1 + 256 * b0) 0 (b5 + 256 * b4) 0, gq (b3 + 256 * b2) (b1 + 256 * b0) (b7 + 256 * b6) (b5 + 256 * b4), a5, a7, ?_, gr_lo l0 l2 l4 l6, ?_, gq_lt n0 n1 n2 n3, ?_, ?_, ?_, gq_lo n0 n2, ?_, gq_lt n1 n0 n3 n2, ?_⟩
  · exact Nat.lt_trans (gr_lo l1 l3 l5 l7) (by decide)
  · rw [gr_shl, gr_or l0 l1 l2 l3 l4 l5 l6 l7, gq_of]
  · rw [gq_div n0, gq_and n1 n2 n3 (by decide)]
  · rw [gq_and n0 n1 n2 n3]
  · exact Nat.lt_trans (gq_lo n1 n3) (by decide)
  · rw [gq_or n0 n1 n2 n3]
  · rw [gq_fin n0 n1 n2 n3, hr]
    clear a5 a7 e0 e1 hr hx n0 n1 n2 n3 l0 l1 l2 l3 l4 l5 l6 l7
    omega
theorem rev_lt (x : Nat) : rev8 x < 18446744073709551616 := unle_le8 _ (by rw [List.length_reverse, le_len]; omega)

set_option maxRecDepth 8000 in
theorem rev_any (x : Nat) (w : World) (hx : x < 18446744073709551616) :
    Calls Try.prog 19 #[.int .u64 (x : Int)] w fun e w' => e = .returned (.int .u64 ((rev8 x : Nat) : Int)) ∧ w = w' := by
  obtain ⟨t5, t7, x1, u5, u7, x2, h1, h2, h3, h4, h5, h6, h7, h8, h9, h10, h11, h12, h13⟩ := rev_steps x hx
  have e1 : bits .and .u64 ((x : Int) / 256) 71777214294589695 = (t5 : Int) := by
    have := bits_and_u64_nat (x / 256) 71777214294589695 (by omega) (by decide)
    rw [← h1] at this
    exact this
  have e2 : bits .and .u64 (x : Int) 71777214294589695 = (t7 : Int) := by
    have := bits_and_u64_nat x 71777214294589695 hx (by decide)
    rw [← h2] at this
    exact this
  have w1 : IntKind.u64.wrap ((t7 : Int) * 256) = ((t7 * 256 : Nat) : Int) := by rw [IntKind.wrap_u64]; omega
  have e3 : bits .or .u64 (t5 : Int) (IntKind.u64.wrap ((t7 : Int) * 256)) = (x1 : Int) := by rw [w1, bits_or_u64_nat _ _ h3 (by omega), ← h5]
  have e4 : bits .and .u64 ((x1 : Int) / 65536) 281470681808895 = (u5 : Int) := by
    have := bits_and_u64_nat (x1 / 65536) 281470681808895 (by omega) (by decide)
    rw [← h7] at this
    exact this
  have e5 : bits .and .u64 (x1 : Int) 281470681808895 = (u7 : Int) := by
    have := bits_and_u64_nat x1 281470681808895 h6 (by decide)
    rw [← h8] at this
    exact this
  have w2 : IntKind.u64.wrap ((u7 : Int) * 65536) = ((u7 * 65536 : Nat) : Int) := by rw [IntKind.wrap_u64]; omega
  have e6 : bits .or .u64 (u5 : Int) (IntKind.u64.wrap ((u7 : Int) * 65536)) = (x2 : Int) := by rw [w2, bits_or_u64_nat _ _ h9 (by omega), ← h11]
  have w3 : IntKind.u64.wrap ((x2 : Int) * 4294967296) = ((x2 % 4294967296 * 4294967296 : Nat) : Int) := by rw [IntKind.wrap_u64]; omega
  have e7 : bits .or .u64 ((x2 : Int) / 4294967296) (IntKind.u64.wrap ((x2 : Int) * 4294967296)) = ((rev8 x : Nat) : Int) := by
    rw [w3, show (x2 : Int) / 4294967296 = ((x2 / 4294967296 : Nat) : Int) from by omega, bits_or_u64_nat _ _ (by omega) (by omega), ← h13]
  clear h1 h2 h3 h4 h5 h6 h7 h8 h9 h10 h11 h12 h13 w1 w2 w3 hx
  go_enter Try.func19, Try.ntmps19
  go_wp2
  go_ret
  exact ⟨rfl, rfl⟩

end Go.Proofs.Ytccfiblkgngecaa
