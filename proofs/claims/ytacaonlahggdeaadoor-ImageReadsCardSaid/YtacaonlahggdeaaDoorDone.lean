/- Contracts of done: old, has, with. -/
import Derived.Test.YtacaonlahggdeaaDoorBox
import Derived.Test.YtacaonlahggdeaaDoorDmath
namespace Go.Proofs.YtacaonlahggdeaaDoor
open Go.RowKit

theorem below1 (w : World) (o : Obj) : Below w.heap.size w (w.alloc o) := (Below.refl _ _).alloc (Nat.le_refl _) _
theorem below2 (w : World) (o p : Obj) : Below w.heap.size w ((w.alloc o).alloc p) := (below1 w o).alloc (by simp) _
/-- A client's cells. -/
def clv (p : Cl) : Value := .agg #[.int .u64 (p.1 : Int), .int .u16 (p.2 : Int)]

theorem shr16_op (b n : Nat) (z : Int) (hz : z = (n : Int)) {yk : IntKind} : Op.shift .shr .u16 (b : Int) yk z = pure (.int .u16 ((b / 2 ^ min n 16 : Nat) : Int)) := by
  subst hz
  have h1 : ¬ ((n : Int) < 0) := by omega
  have h2 : (0 : Int) ≤ 2 ^ min n 16 := Int.pow_nonneg (by decide)
  have e : ((2 : Int) ^ min n 16) = ((2 ^ min n 16 : Nat) : Int) := by simp
  simp only [Op.shift, IntKind.bits, h1, if_false, Int.toNat_natCast]
  rw [Int.fdiv_eq_ediv_of_nonneg _ h2, e]
  rfl
theorem shl16_op (b n : Nat) (z : Int) (hz : z = (n : Int)) {yk : IntKind} : Op.shift .shl .u16 (b : Int) yk z = pure (.int .u16 ((b * 2 ^ min n 16 % 65536 : Nat) : Int)) := by
  subst hz
  have h1 : ¬ ((n : Int) < 0) := by omega
  have e : ((b : Int) * (2 : Int) ^ min n 16) = ((b * 2 ^ min n 16 : Nat) : Int) := by simp
  simp only [Op.shift, IntKind.bits, h1, if_false, Int.toNat_natCast, e, IntKind.wrap_u16]
  generalize b * 2 ^ min n 16 = X
  congr 2
theorem ofInt16 (a : Nat) (ha : a < 65536) : (BitVec.ofInt 16 (a : Int)).toNat = a := by
  rw [BitVec.ofInt_natCast, BitVec.toNat_ofNat]; exact Nat.mod_eq_of_lt (by omega)
theorem or16_run (a b : Nat) (ha : a < 65536) (hb : b < 65536) : bits .or .u16 (a : Int) (b : Int) = ((a ||| b : Nat) : Int) := by
  have hx : a ||| b < 2 ^ 16 := Nat.or_lt_two_pow ha hb
  show IntKind.u16.wrap ((BitVec.ofInt 16 (a : Int) ||| BitVec.ofInt 16 (b : Int)).toNat : Int) = _
  rw [BitVec.toNat_or, ofInt16 a ha, ofInt16 b hb, IntKind.wrap_u16]
  omega
theorem and16_one (a : Nat) (ha : a < 65536) : bits .and .u16 (a : Int) 1 = if a.testBit 0 then 1 else 0 := by
  have e1 : (BitVec.ofInt 16 1).toNat = 1 := by decide
  have hx : a &&& 1 ≤ 1 := Nat.and_le_right
  show IntKind.u16.wrap ((BitVec.ofInt 16 (a : Int) &&& BitVec.ofInt 16 1).toNat : Int) = _
  rw [BitVec.toNat_and, ofInt16 a ha, e1, IntKind.wrap_u16, Nat.and_one_is_mod, Nat.testBit_zero]
  rcases Nat.mod_two_eq_zero_or_one a with h | h <;> simp [h]

theorem bit_min {b n : Nat} (hb : b < 65536) : (b / 2 ^ min n 16).testBit 0 = b.testBit n := by
  rw [← Nat.shiftRight_eq_div_pow, Nat.testBit_shiftRight, Nat.add_zero]
  by_cases h : n ≤ 16
  · rw [Nat.min_eq_left h]
  · rw [Nat.min_eq_right (by omega), Nat.testBit_lt_two_pow hb, Nat.testBit_lt_two_pow (Nat.lt_of_lt_of_le hb (Nat.pow_le_pow_right (n := 2) (by decide) (show 16 ≤ n by omega)))]
end Go.Proofs.YtacaonlahggdeaaDoor
