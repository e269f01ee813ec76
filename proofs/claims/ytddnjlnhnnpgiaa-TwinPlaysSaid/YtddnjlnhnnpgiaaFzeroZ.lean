/- math/bits.ReverseBytes64. Parts of package frame. append of so many noughts onto a row of one's own. -/
import Derived.Test.YtddnjlnhnnpgiaaTextZ
import Derived.Laws.Bits64b
import Derived.Test.YtddnjlnhnnpgiaaRefsZ
import Derived.Test.YtddnjlnhnnpgiaaWords
import Derived.Lib.AppendZerosOnto
namespace Go.Proofs.Ytddnjlnhnnpgiaa
set_option maxRecDepth 20000
open Go.RowKit

theorem and_split (k a b c d : Nat) (ha : a < 2 ^ k) (hc : c < 2 ^ k) : (2 ^ k * b + a) &&& (2 ^ k * d + c) = 2 ^ k * (b &&& d) + (a &&& c) := by
  apply Nat.eq_of_testBit_eq
  intro i
  rw [Nat.testBit_and, Nat.testBit_two_pow_mul_add _ ha, Nat.testBit_two_pow_mul_add _ hc, Nat.testBit_two_pow_mul_add _ (Nat.and_lt_two_pow _ hc)]
  split <;> rw [Nat.testBit_and]
theorem or_split (k a b c d : Nat) (ha : a < 2 ^ k) (hc : c < 2 ^ k) : (2 ^ k * b + a) ||| (2 ^ k * d + c) = 2 ^ k * (b ||| d) + (a ||| c) := by
  apply Nat.eq_of_testBit_eq
  intro i
  rw [Nat.testBit_or, Nat.testBit_two_pow_mul_add _ ha, Nat.testBit_two_pow_mul_add _ hc, Nat.testBit_two_pow_mul_add _ (Nat.or_lt_two_pow ha hc)]
  split <;> rw [Nat.testBit_or]
theorem and16 (y m g : Nat) (hg : g < 65536) : (65536 * y + g) &&& (65536 * m + 255) = 65536 * (y &&& m) + g % 256 := by
  have := and_split 16 g y 255 m (by omega) (by omega)
  rw [show (2 : Nat) ^ 16 = 65536 from rfl] at this
  rw [this, show (255 : Nat) = 2 ^ 8 - 1 from rfl, Nat.and_two_pow_sub_one_eq_mod]
theorem and32 (y m g : Nat) (hg : g < 4294967296) : (4294967296 * y + g) &&& (4294967296 * m + 65535) = 4294967296 * (y &&& m) + g % 65536 := by
  have := and_split 32 g y 65535 m (by omega) (by omega)
  rw [show (2 : Nat) ^ 32 = 4294967296 from rfl] at this
  rw [this, show (65535 : Nat) = 2 ^ 16 - 1 from rfl, Nat.and_two_pow_sub_one_eq_mod]
theorem or16 (y z a b : Nat) (ha : a < 256) (hb : b < 256) : (65536 * y + a) ||| (65536 * z + 256 * b) = 65536 * (y ||| z) + (a + 256 * b) := by
  have := or_split 16 a y (256 * b) z (by omega) (by omega)
  rw [show (2 : Nat) ^ 16 = 65536 from rfl] at this
  rw [this]
  have h := Nat.two_pow_add_eq_or_of_lt (i := 8) (show a < 2 ^ 8 by omega) b
  rw [show (2 : Nat) ^ 8 = 256 from rfl] at h
  rw [Nat.or_comm a, ← h]
  omega
theorem or32 (y z a b : Nat) (ha : a < 65536) (hb : b < 65536) : (4294967296 * y + a) ||| (4294967296 * z + 65536 * b) = 4294967296 * (y ||| z) + (a + 65536 * b) := by
  have := or_split 32 a y (65536 * b) z (by omega) (by omega)
  rw [show (2 : Nat) ^ 32 = 4294967296 from rfl] at this
  rw [this]
  have h := Nat.two_pow_add_eq_or_of_lt (i := 16) (show a < 2 ^ 16 by omega) b
  rw [show (2 : Nat) ^ 16 = 65536 from rfl] at h
  rw [Nat.or_comm a, ← h]
  omega
/-- Four groups of two bytes. -/
def gr (a0 b0 a1 b1 a2 b2 a3 b3 : Nat) : Nat := 65536 * (65536 * (65536 * (65536 * 0 + (a3 + 256 * b3)) + (a2 + 256 * b2)) + (a1 + 256 * b1)) + (a0 + 256 * b0)
section
variable {a0 b0 a1 b1 a2 b2 a3 b3 : Nat}
theorem gr_and (h0 : a0 < 256) (k0 : b0 < 256) (h1 : a1 < 256) (k1 : b1 < 256) (h2 : a2 < 256) (k2 : b2 < 256) (h3 : a3 < 256) (k3 : b3 < 256) : gr a0 b0 a1 b1 a2 b2 a3 b3 &&& 71777214294589695 = gr a0 0 a1 0 a2 0 a3 0 := by
  have e : (71777214294589695 : Nat) = 65536 * (65536 * (65536 * (65536 * 0 + 255) + 255) + 255) + 255 := rfl
  unfold gr
  rw [e, and16 _ _ _ (by omega), and16 _ _ _ (by omega), and16 _ _ _ (by omega), and16 _ _ _ (by omega), Nat.and_zero]
  omega
theorem gr_or (h0 : a0 < 256) (k0 : b0 < 256) (h1 : a1 < 256) (k1 : b1 < 256) (h2 : a2 < 256) (k2 : b2 < 256) (h3 : a3 < 256) (k3 : b3 < 256) : gr b0 0 b1 0 b2 0 b3 0 ||| gr 0 a0 0 a1 0 a2 0 a3 = gr b0 a0 b1 a1 b2 a2 b3 a3 := by
  have e : gr b0 0 b1 0 b2 0 b3 0 = 65536 * (65536 * (65536 * (65536 * 0 + b3) + b2) + b1) + b0 := by unfold gr; omega
  have f : gr 0 a0 0 a1 0 a2 0 a3 = 65536 * (65536 * (65536 * (65536 * 0 + 256 * a3) + 256 * a2) + 256 * a1) + 256 * a0 := by unfold gr; omega
  rw [e, f, or16 _ _ _ _ k0 h0, or16 _ _ _ _ k1 h1, or16 _ _ _ _ k2 h2, or16 _ _ _ _ k3 h3]
  unfold gr
  simp
end
/-- The bytes of a number, the other way round. -/
def rev8 (x : Nat) : Nat := unle (le 8 x).reverse
theorem rev_bytes (x : Nat) (hx : x < 18446744073709551616) : ∃ b0 b1 b2 b3 b4 b5 b6 b7 : Nat, b0 < 256 ∧ b1 < 256 ∧ b2 < 256 ∧ b3 < 256 ∧ b4 < 256 ∧ b5 < 256 ∧ b6 < 256 ∧ b7 < 256 ∧ x = gr b0 b1 b2 b3 b4 b5 b6 b7 ∧ x / 256 = gr b1 b2 b3 b4 b5 b6 b7 0 ∧ rev8 x = b7 + 256 * (b6 + 256 * (b5 + 256 * (b4 + 256 * (b3 + 256 * (b2 + 256 * (b1 + 256 * b0)))))) := by
  have step : ∀ n : Nat, ∃ b y, b = n % 256 ∧ y = n / 256 ∧ b < 256 ∧ n = b + 256 * y := fun n => ⟨n % 256, n / 256, rfl, rfl, by omega, by omega⟩
  obtain ⟨b0, y1, h0, g1, l0, s0⟩ := step x
  obtain ⟨b1, y2, h1, g2, l1, s1⟩ := step y1
  obtain ⟨b2, y3, h2, g3, l2, s2⟩ := step y2
  obtain ⟨b3, y4, h3, g4, l3, s3⟩ := step y3
  obtain ⟨b4, y5, h4, g5, l4, s4⟩ := step y4
  obtain ⟨b5, y6, h5, g6, l5, s5⟩ := step y5
  obtain ⟨b6, y7, h6, g7, l6, s6⟩ := step y6
  obtain ⟨b7, y8, h7, g8, l7, s7⟩ := step y7
  have hr : rev8 x = b7 + 256 * (b6 + 256 * (b5 + 256 * (b4 + 256 * (b3 + 256 * (b2 + 256 * (b1 + 256 * b0)))))) := by
    unfold rev8
    simp only [le, ← g1, ← g2, ← g3, ← g4, ← g5, ← g6, ← g7, ← h0, ← h1, ← h2, ← h3, ← h4, ← h5, ← h6, ← h7, List.reverse_cons, List.reverse_nil, List.nil_append, List.cons_append, unle, UInt8.toNat_ofNat', Nat.reducePow]
    rw [Nat.mod_eq_of_lt l0, Nat.mod_eq_of_lt l1, Nat.mod_eq_of_lt l2, Nat.mod_eq_of_lt l3, Nat.mod_eq_of_lt l4, Nat.mod_eq_of_lt l5, Nat.mod_eq_of_lt l6, Nat.mod_eq_of_lt l7]
    rw [Nat.mul_zero, Nat.add_zero]
  have z8 : y8 = 0 := by
    clear hr h0 h1 h2 h3 h4 h5 h6 h7 g1 g2 g3 g4 g5 g6 g7 g8 step
    omega
  refine ⟨b0, b1, b2, b3, b4, b5, b6, b7, l0, l1, l2, l3, l4, l5, l6, l7, ?_, ?_, hr⟩
  · clear hr h0 h1 h2 h3 h4 h5 h6 h7 g1 g2 g3 g4 g5 g6 g7 g8 step hx
    rw [s0, s1, s2, s3, s4, s5, s6, s7, z8]
    unfold gr
    clear s0 s1 s2 s3 s4 s5 s6 s7 z8 l0 l1 l2 l3 l4 l5 l6 l7
    omega
  · rw [← g1]
    clear hr h0 h1 h2 h3 h4 h5 h6 h7 g1 g2 g3 g4 g5 g6 g7 g8 step hx
    rw [s1, s2, s3, s4, s5, s6, s7, z8]
    unfold gr
    clear s0 s1 s2 s3 s4 s5 s6 s7 z8 l0 l1 l2 l3 l4 l5 l6 l7
    omega

/-- Two groups of four bytes. -/
def gq (p0 p1 p2 p3 : Nat) : Nat := 4294967296 * (4294967296 * 0 + (p2 + 65536 * p3)) + (p0 + 65536 * p1)
theorem gq_of (a0 b0 a1 b1 a2 b2 a3 b3 : Nat) : gr a0 b0 a1 b1 a2 b2 a3 b3 = gq (a0 + 256 * b0) (a1 + 256 * b1) (a2 + 256 * b2) (a3 + 256 * b3) := by
  unfold gr gq
  omega
section
variable {p0 p1 p2 p3 : Nat}
theorem gq_div (h0 : p0 < 65536) : gq p0 p1 p2 p3 / 65536 = gq p1 p2 p3 0 := by
  unfold gq
  omega
theorem gq_and (h0 : p0 < 65536) (h1 : p1 < 65536) (h2 : p2 < 65536) (h3 : p3 < 65536) : gq p0 p1 p2 p3 &&& 281470681808895 = gq p0 0 p2 0 := by
  have m : (281470681808895 : Nat) = 4294967296 * (4294967296 * 0 + 65535) + 65535 := rfl
  have e0 : (p0 + 65536 * p1) % 65536 = p0 := by omega
  have e1 : (p2 + 65536 * p3) % 65536 = p2 := by omega
  unfold gq
  rw [m, and32 _ _ _ (by omega), and32 _ _ _ (by omega), Nat.and_zero, e0, e1, Nat.mul_zero, Nat.add_zero, Nat.add_zero]
theorem gq_or (h0 : p0 < 65536) (h1 : p1 < 65536) (h2 : p2 < 65536) (h3 : p3 < 65536) : gq p1 0 p3 0 ||| (gq p0 0 p2 0 * 65536) = gq p1 p0 p3 p2 := by
  have e0 : gq p1 0 p3 0 = 4294967296 * (4294967296 * 0 + p3) + p1 := by unfold gq; omega
  have e1 : gq p0 0 p2 0 * 65536 = 4294967296 * (4294967296 * 0 + 65536 * p2) + 65536 * p0 := by unfold gq; omega
  rw [e0, e1, or32 _ _ _ _ h1 h0, or32 _ _ _ _ h3 h2, Nat.or_zero]
  rfl
theorem gq_fin (h0 : p0 < 65536) (h1 : p1 < 65536) (h2 : p2 < 65536) (h3 : p3 < 65536) : gq p1 p0 p3 p2 / 4294967296 ||| (gq p1 p0 p3 p2 % 4294967296 * 4294967296) = 4294967296 * (p1 + 65536 * p0) + (p3 + 65536 * p2) := by
  have d1 : gq p1 p0 p3 p2 / 4294967296 = p3 + 65536 * p2 := by unfold gq; omega
  have d2 : gq p1 p0 p3 p2 % 4294967296 = p1 + 65536 * p0 := by unfold gq; omega
  rw [d1, d2, Nat.mul_comm _ 4294967296]
  have := Nat.two_pow_add_eq_or_of_lt (i := 32) (show p3 + 65536 * p2 < 2 ^ 32 by omega) (p1 + 65536 * p0)
  rw [show (2 : Nat) ^ 32 = 4294967296 from rfl] at this
  rw [Nat.or_comm, ← this]
theorem gq_lt (h0 : p0 < 65536) (h1 : p1 < 65536) (h2 : p2 < 65536) (h3 : p3 < 65536) : gq p0 p1 p2 p3 < 18446744073709551616 := by
  unfold gq
  omega
theorem gq_lo (h0 : p0 < 65536) (h2 : p2 < 65536) : gq p0 0 p2 0 < 281474976710656 := by
  unfold gq
  omega
end
section
variable {a0 a1 a2 a3 : Nat}
theorem gr_shl : gr a0 0 a1 0 a2 0 a3 0 * 256 = gr 0 a0 0 a1 0 a2 0 a3 := by
  unfold gr
  omega
theorem gr_lo (h0 : a0 < 256) (h1 : a1 < 256) (h2 : a2 < 256) (h3 : a3 < 256) : gr a0 0 a1 0 a2 0 a3 0 < 72057594037927936 := by
  unfold gr
  omega
end
theorem rev_steps (x : Nat) (hx : x < 18446744073709551616) : ∃ t5 t7 x1 u5 u7 x2 : Nat, t5 = x / 256 &&& 71777214294589695 ∧ t7 = x &&& 71777214294589695 ∧ t5 < 18446744073709551616 ∧ t7 < 72057594037927936 ∧ x1 = t5 ||| (t7 * 256) ∧ x1 < 18446744073709551616 ∧
    u5 = x1 / 65536 &&& 281470681808895 ∧ u7 = x1 &&& 281470681808895 ∧ u5 < 18446744073709551616 ∧ u7 < 281474976710656 ∧ x2 = u5 ||| (u7 * 65536) ∧ x2 < 18446744073709551616 ∧ rev8 x = x2 / 4294967296 ||| (x2 % 4294967296 * 4294967296) := by
  obtain ⟨b0, b1, b2, b3, b4, b5, b6, b7, l0, l1, l2, l3, l4, l5, l6, l7, e0, e1, hr⟩ := rev_bytes x hx
  have z : 0 < 256 := by decide
  have n0 : b1 + 256 * b0 < 65536 := by omega
  have n1 : b3 + 256 * b2 < 65536 := by omega
  have n2 : b5 + 256 * b4 < 65536 := by omega
  have n3 : b7 + 256 * b6 < 65536 := by omega
  have a5 : gr b1 0 b3 0 b5 0 b7 0 = x / 256 &&& 71777214294589695 := by rw [e1, gr_and l1 l2 l3 l4 l5 l6 l7 z]
  have a7 : gr b0 0 b2 0 b4 0 b6 0 = x &&& 71777214294589695 := by rw [e0, gr_and l0 l1 l2 l3 l4 l5 l6 l7]
  refine ⟨gr b1 0 b3 0 b5 0 b7 0, gr b0 0 b2 0 b4 0 b6 0, gq (b1 + 256 * b0) (b3 + 256 * b2) (b5 + 256 * b4) (b7 + 256 * b6), gq (b3 + 256 * b2) 0 (b7 + 256 * b6) 0, gq (b1 + 256 * b0) 0 (b5 + 256 * b4) 0, gq (b3 + 256 * b2) (b1 + 256 * b0) (b7 + 256 * b6) (b5 + 256 * b4), a5, a7, ?_, gr_lo l0 l2 l4 l6, ?_, gq_lt n0 n1 n2 n3, ?_, ?_, ?_, gq_lo n0 n2, ?_, gq_lt n1 n0 n3 n2, ?_⟩
  · exact Nat.lt_trans (gr_lo l1 l3 l5 l7) (by decide)
  · rw [gr_shl, gr_or l0 l1 l2 l3 l4 l5 l6 l7, gq_of]
  · rw [gq_div n0, gq_and n1 n2 n3 (by decide)]
  · rw [gq_and n0 n1 n2 n3]
  · exact Nat.lt_trans (gq_lo n1 n3) (by decide)
  · rw [gq_or n0 n1 n2 n3]
  · rw [gq_fin n0 n1 n2 n3, hr]
    clear a5 a7 e0 e1 hr hx n0 n1 n2 n3 l0 l1 l2 l3 l4 l5 l6 l7
    omega
theorem rev_lt (x : Nat) : rev8 x < 18446744073709551616 := unle_le8 _ (by rw [List.length_reverse, le_len]; omega)

set_option maxRecDepth 8000 in
theorem rev_any (x : Nat) (w : World) (hx : x < 18446744073709551616) :
    Calls Try.prog 74 #[.int .u64 (x : Int)] w fun e w' => e = .returned (.int .u64 ((rev8 x : Nat) : Int)) ∧ w = w' := by
  obtain ⟨t5, t7, x1, u5, u7, x2, h1, h2, h3, h4, h5, h6, h7, h8, h9, h10, h11, h12, h13⟩ := rev_steps x hx
  have e1 : bits .and .u64 ((x : Int) / 256) 71777214294589695 = (t5 : Int) := by
    have := bits_and_u64_nat (x / 256) 71777214294589695 (by omega) (by decide)
    rw [← h1] at this
    exact this
  have e2 : bits .and .u64 (x : Int) 71777214294589695 = (t7 : Int) := by
    have := bits_and_u64_nat x 71777214294589695 hx (by decide)
    rw [← h2] at this
    exact this
  have w1 : IntKind.u64.wrap ((t7 : Int) * 256) = ((t7 * 256 : Nat) : Int) := by rw [IntKind.wrap_u64]; omega
  have e3 : bits .or .u64 (t5 : Int) (IntKind.u64.wrap ((t7 : Int) * 256)) = (x1 : Int) := by rw [w1, bits_or_u64_nat _ _ h3 (by omega), ← h5]
  have e4 : bits .and .u64 ((x1 : Int) / 65536) 281470681808895 = (u5 : Int) := by
    have := bits_and_u64_nat (x1 / 65536) 281470681808895 (by omega) (by decide)
    rw [← h7] at this
    exact this
  have e5 : bits .and .u64 (x1 : Int) 281470681808895 = (u7 : Int) := by
    have := bits_and_u64_nat x1 281470681808895 h6 (by decide)
    rw [← h8] at this
    exact this
  have w2 : IntKind.u64.wrap ((u7 : Int) * 65536) = ((u7 * 65536 : Nat) : Int) := by rw [IntKind.wrap_u64]; omega
  have e6 : bits .or .u64 (u5 : Int) (IntKind.u64.wrap ((u7 : Int) * 65536)) = (x2 : Int) := by rw [w2, bits_or_u64_nat _ _ h9 (by omega), ← h11]
  have w3 : IntKind.u64.wrap ((x2 : Int) * 4294967296) = ((x2 % 4294967296 * 4294967296 : Nat) : Int) := by rw [IntKind.wrap_u64]; omega
  have e7 : bits .or .u64 ((x2 : Int) / 4294967296) (IntKind.u64.wrap ((x2 : Int) * 4294967296)) = ((rev8 x : Nat) : Int) := by
    rw [w3, show (x2 : Int) / 4294967296 = ((x2 / 4294967296 : Nat) : Int) from by omega, bits_or_u64_nat _ _ (by omega) (by omega), ← h13]
  clear h1 h2 h3 h4 h5 h6 h7 h8 h9 h10 h11 h12 h13 w1 w2 w3 hx
  go_enter Try.func74, Try.ntmps74
  go_wp2
  go_ret
  exact ⟨rfl, rfl⟩

end Go.Proofs.Ytddnjlnhnnpgiaa

namespace Go.Proofs.Ytddnjlnhnnpgiaa
set_option maxRecDepth 20000
open Go.RowKit

def headOf (l : List UInt8) : Nat := unle (l.take 8).reverse
def tailOf (l : List UInt8) : Nat := unle ((l.drop 56).take 8)
def headsOf (l : List UInt8) : Nat := if l.length < 64 then 0 else headOf l
def tailsOf (l : List UInt8) : Nat := if l.length < 64 then 0 else tailOf l
theorem headsOf_lt (l : List UInt8) : headsOf l < 18446744073709551616 := by
  unfold headsOf headOf
  split
  · decide
  · exact unle_le8 _ (by rw [List.length_reverse, List.length_take]; omega)
theorem tailsOf_lt (l : List UInt8) : tailsOf l < 18446744073709551616 := by
  unfold tailsOf tailOf
  split
  · decide
  · exact unle_le8 _ (by rw [List.length_take]; omega)
theorem st_num (t : List UInt8) (k : Nat) (hk : 1 ≤ k) (hk8 : k ≤ 8) (ht : t.length = k) : St.num ⟨t, false⟩ (k : Int) = (unle t, ⟨[], false⟩) := by
  have e1 : t.take k = t := List.take_of_length_le (by omega)
  have e2 : t.drop k = [] := List.drop_of_length_le (by omega)
  unfold St.num St.next
  rw [if_pos (by omega), if_pos (by dsimp only; omega)]
  simp only [Int.toNat_natCast, e1, e2]
theorem rev_unle (t : List UInt8) (ht : t.length = 8) : rev8 (unle t) = unle t.reverse := by
  unfold rev8
  have := le_unle t
  rw [ht] at this
  rw [this]

set_option maxHeartbeats 1000000 in
set_option maxRecDepth 8000 in
theorem ends_any (A : Option Addr) (n c : Nat) (l : List UInt8) (w : World) (h : Rd w w.heap.size 1 A n c (u8s l)) (hn : n ≤ 1000000) :
    Calls Try.prog 50 #[.slice A n c] w fun e w' => e = .returned (.tuple #[.int .u64 ((headsOf l : Nat) : Int), .int .u64 ((tailsOf l : Nat) : Int)]) ∧ Below w.heap.size w w' := by
  have hln : l.length = n := by have := h.len; rwa [u8s_len] at this
  by_cases hs : n < 64
  · have e1 : headsOf l = 0 := by unfold headsOf; rw [if_pos (by omega)]
    have e2 : tailsOf l = 0 := by unfold tailsOf; rw [if_pos (by omega)]
    rw [e1, e2]
    have hi : (n : Int) < 64 := by omega
    clear e1 e2 hln hn
    go_enter Try.func50, Try.ntmps50
    go_wp2
    go_ret2
    exact ⟨rfl, Below.refl _ _⟩
  · have e1 : headsOf l = rev8 (unle (l.take 8)) := by
      unfold headsOf
      rw [if_neg (by omega), rev_unle _ (by rw [List.length_take]; omega)]
      rfl
    have e2 : tailsOf l = unle ((l.drop 56).take 8) := by unfold tailsOf; rw [if_neg (by omega)]; rfl
    rw [e1, e2]
    obtain ⟨b, o, rfl, hb, hc⟩ := h.2.2.2 (by omega)
    have hnc := h.1
    have hd : decide ((n : Int) < 64) = false := by simp; omega
    have h1 := h.pre (k := 8) (by omega)
    rw [← u8s_take] at h1
    have h2 := h.cut (k := 56) (m := 8) (by omega)
    rw [← u8s_drop, ← u8s_take, Option.map_some, addOff] at h2
    have hn64 : 64 ≤ n := by omega
    have n1 := fun (g : Nat) (w : World) (hR : Rdr w g ⟨l.take 8, false⟩) => num_all g ⟨l.take 8, false⟩ 8 w hR
    rw [show St.num ⟨l.take 8, false⟩ 8 = (unle (l.take 8), ⟨[], false⟩) from st_num _ 8 (by omega) (by omega) (by rw [List.length_take]; omega)] at n1
    have n2 := fun (g : Nat) (w : World) (hR : Rdr w g ⟨(l.drop 56).take 8, false⟩) => num_all g ⟨(l.drop 56).take 8, false⟩ 8 w hR
    rw [show St.num ⟨(l.drop 56).take 8, false⟩ 8 = (unle ((l.drop 56).take 8), ⟨[], false⟩) from st_num _ 8 (by omega) (by omega) (by rw [List.length_take, List.length_drop]; omega)] at n2
    have hx : unle (l.take 8) < 18446744073709551616 := unle_le8 _ (by rw [List.length_take]; omega)
    have N1 := Lib.hid n1
    have N2 := Lib.hid n2
    have HX := Lib.hid hx
    have H1 := Lib.hid h1
    have H2 := Lib.hid h2
    clear e1 e2 hln hn n1 n2 hx h1 h2 hs hc
    generalize l.take 8 = t1 at *
    generalize (l.drop 56).take 8 = t2 at *
    go_enter Try.func50, Try.ntmps50
    go_wp2_with (first
      | (go_at_call 72; first
          | (with_reducible refine (read_any _ _ _ t1 _ H1.out (by omega)).mono ?_; rintro e w1 ⟨g1, rfl, hg1, hR1, hb1⟩)
          | (refine (read_any _ _ _ t2 _ ((H2.out.below hb2).more hb2.size) (by omega)).mono ?_; rintro e w3 ⟨g3, rfl, hg3, hR3, hb3⟩))
      | (go_at_call 73; first
          | (with_reducible refine (N1.out _ _ hR1).mono ?_; rintro e w2 ⟨rfl, hR2, hgr2⟩
             have hb2 := hb1.grown hgr2 hb1.size (fun k e => by obtain rfl : g1 = k := Option.some.inj e; exact hg1))
          | (refine (N2.out _ _ hR3).mono ?_; rintro e w4 ⟨rfl, hR4, hgr4⟩))
      | (go_at_call 74; refine (rev_any _ _ HX.out).mono ?_; rintro e w5 ⟨rfl, rfl⟩)
      | fail)
    go_ret2
    refine ⟨rfl, (hb2.trans (hb3.mono hb2.size)).grown hgr4 (Nat.le_trans hb2.size hb3.size) (fun k e => by obtain rfl : g3 = k := Option.some.inj e; exact Nat.le_trans hb2.size hg3)⟩

theorem piece_any (A : Option Addr) (n c : Nat) (l : List UInt8) (B : Nat) (w : World) (h : Rd w B 1 A n c (u8s l)) (hn : 64 ≤ n) (hn2 : n ≤ 1000000) :
    Calls Try.prog 82 #[.slice A n c] w fun e w' => ∃ b o, e = .returned (.slice (some ⟨b, o, none⟩) 48 (c - 8)) ∧ Rd w B 1 (some ⟨b, o, none⟩) 48 (c - 8) (u8s ((l.drop 8).take 48)) ∧ w = w' := by
  obtain ⟨b, o, rfl, hb, hc⟩ := h.2.2.2 (by omega)
  have hnc := h.1
  have h2 := h.cut (k := 8) (m := 48) (by omega)
  rw [← u8s_drop, ← u8s_take, Option.map_some, addOff] at h2
  have H2 := Lib.hid h2
  clear h2 hc h
  go_enter Try.func82, Try.ntmps82
  go_wp2
  go_ret
  exact ⟨b, o + 8, rfl, H2.out, rfl⟩

def wrongOf (l : List UInt8) (m : Nat) : Int := if headsOf l ≠ tailsOf l ∨ headsOf l ≠ m then 13 else if m = 0 then 40 else 0
set_option maxRecDepth 8000 in
theorem wrong_any (A : Option Addr) (n c : Nat) (l : List UInt8) (m : Nat) (w : World) (h : Rd w w.heap.size 1 A n c (u8s l)) (hn : n ≤ 1000000) :
    Calls Try.prog 81 #[.slice A n c, .int .u64 (m : Int)] w fun e w' => e = .returned (.int .i64 (wrongOf l m)) ∧ Below w.heap.size w w' := by
  have hE := ends_any A n c l w h hn
  unfold wrongOf
  generalize headsOf l = hd at *
  generalize tailsOf l = tl at *
  have HE := Lib.hid hE
  clear hE h hn
  by_cases h1 : hd = tl
  · subst h1
    have q1 : (((hd : Int)) != ((hd : Int))) = false := bne_self_eq_false _
    by_cases h2 : hd = m
    · subst h2
      by_cases h3 : hd = 0
      · subst h3
        rw [if_neg (by simp), if_pos rfl]
        go_enter Try.func81, Try.ntmps81
        go_wp2_with (go_at_call 50; refine HE.out.mono ?_; rintro e w1 ⟨rfl, hb⟩)
        go_ret
        exact ⟨rfl, hb⟩
      · rw [if_neg (by simp), if_neg h3]
        have q3 : (((hd : Int)) == 0) = false := by simp; omega
        clear h3
        go_enter Try.func81, Try.ntmps81
        go_wp2_with (go_at_call 50; refine HE.out.mono ?_; rintro e w1 ⟨rfl, hb⟩)
        go_ret
        exact ⟨rfl, hb⟩
    · rw [if_pos (.inr h2)]
      have q2 : (((hd : Int)) != ((m : Int))) = true := by simp; omega
      clear h2
      go_enter Try.func81, Try.ntmps81
      go_wp2_with (go_at_call 50; refine HE.out.mono ?_; rintro e w1 ⟨rfl, hb⟩)
      go_ret
      exact ⟨rfl, hb⟩
  · rw [if_pos (.inl h1)]
    have q2 : (((hd : Int)) != ((tl : Int))) = true := by simp; omega
    clear h1
    go_enter Try.func81, Try.ntmps81
    go_wp2_with (go_at_call 50; refine HE.out.mono ?_; rintro e w1 ⟨rfl, hb⟩)
    go_ret
    exact ⟨rfl, hb⟩

def sectorsOf (n : Int) : Nat := if n < 0 ∨ 65536 < n then 0 else (n.toNat + 55) / 48
theorem sealedLen_any (n : Int) (w : World) (h0 : 0 ≤ n) (hn : n ≤ 1000000) : Calls Try.prog 83 #[.int .i64 n] w fun e w' => e = .returned (.int .i64 (4 + n + 4)) ∧ w = w' := by
  go_enter Try.func83, Try.ntmps83
  go_wp2
  go_ret
  exact ⟨rfl, rfl⟩
end Go.Proofs.Ytddnjlnhnnpgiaa

namespace Go.Proofs.Ytddnjlnhnnpgiaa
set_option maxRecDepth 20000
open Go.RowKit

theorem run_app0 {P : Program} {w : World} {base n k sz bt : Nat} {t tn ty e : TypeId} {z : Value} {kn kq : IntKind} {A : Option Addr} {c : Nat} {xs : List Value} (hT : Elem P t e z sz bt) (htn : P.underlying tn = some (.int kn)) (hown : w.ownsRow base e sz (.slice A n c) n xs) (hn : 0 < n)
    (hone : ∀ u ∈ (Builtin.zeroCells z.cells k).toList, u.oneCell' = true) (h63 : n + k ≤ maxLen) (hbytes : (n + k) * bt ≤ 140737488355328) (hbase : base ≤ w.heap.size) :
    ∃ v' w', (Builtin.append_ #[t, tn] ty #[.slice A n c, .int kq (k : Int)]).run P w = .ok v' w' ∧ w'.ownsRow base e sz v' (n + k) (xs ++ (Builtin.zeroCells z.cells k).toList) ∧ w.grownBy w' (Value.ownBlock (.slice A n c)) ∧
      (v'.ownBlock = Value.ownBlock (.slice A n c) ∨ v'.ownBlock = some w.heap.size) := by
  obtain ⟨ht, ⟨i, hi, hz, rfl, rfl⟩, hzs, hsz⟩ := hT
  have hzl : (Builtin.zeroCells z.cells k).toList.length = k * i.size := by rw [Array.length_toList, size_zeroCells, hzs]
  have hlen : (xs ++ (Builtin.zeroCells z.cells k).toList).length = (n + k) * i.size := by rw [List.length_append, hown.1, hzl, Nat.add_mul]
  have hm63 : n + k ≤ 9223372036854775807 := by unfold maxLen at h63; omega
  have hkb : k * i.bytes ≤ 140737488355328 := Nat.le_trans (Nat.mul_le_mul_right _ (Nat.le_add_left k n)) hbytes
  have hw : IntKind.i64.wrap (k : Int) = k := by rw [IntKind.wrap_i64]; omega
  have hneg : ¬ ((k : Int) < 0) := by omega
  have h48i : ¬ (281474976710656 < (k : Int) * (i.bytes : Int)) := by
    rw [← Int.natCast_mul]
    omega
  rcases hown.2 with ⟨hv, rfl⟩ | ⟨g, cap, cur, hv, hbg, hg, hnc, hcm, hcs, htake⟩
  · cases hv; omega
  · cases hv
    by_cases hroom : n + k ≤ c
    · have hfit : n * i.size + (Builtin.zeroCells z.cells k).toList.length ≤ cur.size := by rw [hzl, hcs, ← Nat.add_mul]; exact Nat.mul_le_mul_right _ hroom
      have hst := run_storeCells_at P g (n * i.size) e (Builtin.zeroCells z.cells k).toList 0 cur w hg (by simpa using hfit) hone
      simp only [Nat.add_zero] at hst
      have hr : (Builtin.append_ #[t, tn] ty #[.slice (some ⟨g, 0, none⟩) n c, .int kq (k : Int)]).run P w =
          .ok (.slice (some ⟨g, 0, none⟩) (n + k) c) (w.setRow g (cur.toList.take (n * i.size) ++ (Builtin.zeroCells z.cells k).toList ++ cur.toList.drop (n * i.size + (Builtin.zeroCells z.cells k).toList.length)).toArray) := by
        by_cases hk : k * i.size = 0
        · have hk0 : k = 0 := by
            rcases Nat.mul_eq_zero.1 hk with h | h
            · exact h
            · omega
          subst hk0
          have hz0 : Builtin.zeroCells z.cells 0 = #[] := by
            apply Array.eq_empty_of_size_eq_zero
            rw [size_zeroCells, Nat.zero_mul]
          rw [hz0] at hst ⊢
          have hst' := hst
          simp only [List.append_nil, List.length_nil, Nat.add_zero] at hst' ⊢
          have hw0 : IntKind.i64.wrap 0 = 0 := rfl
          simp [Builtin.append_, run_underlying ht, run_underlying htn, sizeOf, typeInfo, zeroValue, hi, hz, asInt, asIntOf, hw0, hnc, Addr.add_lit, hst']
        · simp [Builtin.append_, run_underlying ht, run_underlying htn, sizeOf, typeInfo, zeroValue, hi, hz, asInt, asIntOf, hw, hneg, h48i, hroom, hk, Addr.add_lit, hst]
      refine ⟨_, _, hr, ⟨hlen, .inr ⟨g, c, _, rfl, hbg, setRow_heap w g cur _ e _ hg, hroom, hcm, ?_, ?_⟩⟩, ⟨rfl, rfl, rfl, by simp, fun k _ hk => setRow_other w g k _ (fun e => hk (by simp [Value.ownBlock, e]))⟩, Or.inl rfl⟩
      · simp only [List.size_toArray, List.length_append, List.length_take, List.length_drop, Array.length_toList]
        simp only [Array.length_toList] at hzl hfit
        omega
      · rw [htake, ← hlen]
        exact List.take_left
    · have holds : ∀ j u, xs[j]? = some u → w.drew.cell? ((⟨g, 0, none⟩ : Addr).add j) = some u := fun j u hu => hown.cells (g := g) rfl j u hu
      have hr := Lib.run_append_grow_zeros (P := P) w t tn ty e i z kq kn ht htn hi hz (some ⟨g, 0, none⟩) n c xs (run_firstCells_some w.drew i.size n _ n c xs hown.1 holds) k (by omega) hsz (by omega) (by omega) (by omega) (growslice_fits (by omega) hbytes)
      have hge := grownCap_ge w (n + k) c e
      have hcm : grownCap w (n + k) c e ≤ maxLen := grownCap_le_maxLen w (n + k) c e h63
      refine ⟨_, _, hr, ⟨hlen, .inr ⟨w.heap.size, _, _, rfl, hbase, heap_alloc_new w.drew _, hge, hcm, ?_, ?_⟩⟩, ⟨rfl, rfl, rfl, by rw [World.size_alloc]; exact Nat.le_succ _, fun k hk _ => heap_alloc_old w.drew _ hk⟩, Or.inr rfl⟩
      · simp only [Array.size_append, List.size_toArray, size_zeroCells, hzs, hown.1, ← Nat.add_mul]
        congr 1
        omega
      · simp only [Array.toList_append]
        rw [← hlen]
        exact List.take_left

theorem wpL_app0 {P : Program} {w : World} {ops : Array Oper} {rest : List Oper} {o : Oper} {a : Act} {Q : Exit → Act → World → Prop} (hgd : o.guard = none) (s x : Operand) (t tn : TypeId)
    (ho : o.op = .call { callee := .builtin .append, args := #[s, x], argTypes := #[t, tn] })
    {base n k sz bt : Nat} {e : TypeId} {z : Value} {kn kq : IntKind} {A : Option Addr} {c : Nat} {xs : List Value} {X : Int} (hT : Elem P t e z sz bt) (htn : P.underlying tn = some (.int kn)) (hs : a.eval s = .slice A n c) (hx : a.eval x = .int kq X) (hX : X = (k : Int)) (hown : w.ownsRow base e sz (.slice A n c) n xs) (hn : 0 < n)
    (hone : ∀ u ∈ (Builtin.zeroCells z.cells k).toList, u.oneCell' = true) (h63 : n + k ≤ maxLen) (hbytes : (n + k) * bt ≤ 140737488355328) (hbase : base ≤ w.heap.size)
    (h : ∀ v' w', w'.ownsRow base e sz v' (n + k) (xs ++ (Builtin.zeroCells z.cells k).toList) → w.grownBy w' (Value.ownBlock (.slice A n c)) → wpList P ops Q rest (a.put o.dst v') w') : wpList P ops Q (o :: rest) a w := by
  subst hX
  obtain ⟨v', w', hr, h1, h2, _⟩ := run_app0 (ty := o.type) (kq := kq) hT htn hown hn hone h63 hbytes hbase
  exact Lib.wpList_append_run w hgd s x t tn ho _ _ hs hx v' w' hr (h v' w' h1 h2)

theorem zeros_u8 (k : Nat) : (Builtin.zeroCells (Value.cells (.int .u8 0)) k).toList = u8s (List.replicate k 0) := by
  have h : ∀ i : Nat, (Value.cells (.int .u8 0))[i % 1]! = Value.int .u8 0 := fun i => by
    rw [Nat.mod_one]
    rfl
  have h1 : (Value.cells (.int .u8 0)).size = 1 := rfl
  unfold Builtin.zeroCells
  simp only [h1, Nat.mul_one, h, u8s, List.map_replicate, u8]
  apply List.ext_getElem?
  intro i
  simp only [Array.toList_map, Array.toList_range, List.getElem?_map, List.getElem?_replicate]
  by_cases hi : i < k
  · rw [List.getElem?_eq_getElem (by simpa using hi), if_pos hi]; rfl
  · rw [List.getElem?_eq_none (by simpa using hi), if_neg hi]; rfl

end Go.Proofs.Ytddnjlnhnnpgiaa
