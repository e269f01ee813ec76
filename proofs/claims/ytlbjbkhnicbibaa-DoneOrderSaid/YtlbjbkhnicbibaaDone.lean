/- Contracts of done: old, has, with. -/
import Derived.Test.YtlbjbkhnicbibaaBox
import Derived.Test.YtlbjbkhnicbibaaDmath
namespace Go.Proofs.Ytlbjbkhnicbibaa
open Go.RowKit

theorem below1 (w : World) (o : Obj) : Below w.heap.size w (w.alloc o) := (Below.refl _ _).alloc (Nat.le_refl _) _
theorem below2 (w : World) (o p : Obj) : Below w.heap.size w ((w.alloc o).alloc p) := (below1 w o).alloc (by simp) _
/-- A client's cells. -/
def clv (p : Cl) : Value := .agg #[.int .u64 (p.1 : Int), .int .u16 (p.2 : Int)]

theorem shr16_op (b n : Nat) (z : Int) (hz : z = (n : Int)) {yk : IntKind} : Op.shift .shr .u16 (b : Int) yk z = pure (.int .u16 ((b / 2 ^ min n 16 : Nat) : Int)) := by
  subst hz
  have h1 : ¬ ((n : Int) < 0) := by omega
  have h2 : (0 : Int) ≤ 2 ^ min n 16 := Int.pow_nonneg (by decide)
  have e : ((2 : Int) ^ min n 16) = ((2 ^ min n 16 : Nat) : Int) := by simp
  simp only [Op.shift, IntKind.bits, h1, if_false, Int.toNat_natCast]
  rw [Int.fdiv_eq_ediv_of_nonneg _ h2, e]
  rfl
theorem shl16_op (b n : Nat) (z : Int) (hz : z = (n : Int)) {yk : IntKind} : Op.shift .shl .u16 (b : Int) yk z = pure (.int .u16 ((b * 2 ^ min n 16 % 65536 : Nat) : Int)) := by
  subst hz
  have h1 : ¬ ((n : Int) < 0) := by omega
  have e : ((b : Int) * (2 : Int) ^ min n 16) = ((b * 2 ^ min n 16 : Nat) : Int) := by simp
  simp only [Op.shift, IntKind.bits, h1, if_false, Int.toNat_natCast, e, IntKind.wrap_u16]
  generalize b * 2 ^ min n 16 = X
  congr 2
theorem ofInt16 (a : Nat) (ha : a < 65536) : (BitVec.ofInt 16 (a : Int)).toNat = a := by
  rw [BitVec.ofInt_natCast, BitVec.toNat_ofNat]; exact Nat.mod_eq_of_lt (by omega)
theorem or16_run (a b : Nat) (ha : a < 65536) (hb : b < 65536) : bits .or .u16 (a : Int) (b : Int) = ((a ||| b : Nat) : Int) := by
  have hx : a ||| b < 2 ^ 16 := Nat.or_lt_two_pow ha hb
  show IntKind.u16.wrap ((BitVec.ofInt 16 (a : Int) ||| BitVec.ofInt 16 (b : Int)).toNat : Int) = _
  rw [BitVec.toNat_or, ofInt16 a ha, ofInt16 b hb, IntKind.wrap_u16]
  omega
theorem and16_one (a : Nat) (ha : a < 65536) : bits .and .u16 (a : Int) 1 = if a.testBit 0 then 1 else 0 := by
  have e1 : (BitVec.ofInt 16 1).toNat = 1 := by decide
  have hx : a &&& 1 ≤ 1 := Nat.and_le_right
  show IntKind.u16.wrap ((BitVec.ofInt 16 (a : Int) &&& BitVec.ofInt 16 1).toNat : Int) = _
  rw [BitVec.toNat_and, ofInt16 a ha, e1, IntKind.wrap_u16, Nat.and_one_is_mod, Nat.testBit_zero]
  rcases Nat.mod_two_eq_zero_or_one a with h | h <;> simp [h]

theorem old_any (p : Cl) (r : Nat) (w : World) (hp : p.ok) :
    Calls Try.prog 25 #[clv p, .int .u64 (r : Int)] w fun e w' => e = .returned (.bool (oldN p.1 r)) ∧ Below w.heap.size w w' := by
  obtain ⟨t, b⟩ := p
  have ht := hp.1
  clear hp
  unfold clv oldN
  dsimp only at ht ⊢
  by_cases h0 : r = 0
  · subst h0
    go_enter Try.func25, Try.ntmps25
    go_wp2
    go_ret
    exact ⟨rfl, (Below.refl _ _).alloc (Nat.le_refl _) _⟩
  · have d0 : ((r : Int) == 0) = false := by simpa using h0
    simp only [h0, decide_false, Bool.false_or]
    by_cases h1 : r ≤ t
    · by_cases h2 : 16 ≤ t - r
      · have d2 : decide ((16 : Int) ≤ (t : Int) - (r : Int)) = true := by simp; omega
        have hfin : (decide (r ≤ t) && decide (16 ≤ t - r)) = true := by simp [h1, h2]
        rw [hfin]
        clear hfin h0
        go_enter Try.func25, Try.ntmps25
        go_wp2
        go_ret
        exact ⟨rfl, (Below.refl _ _).alloc (Nat.le_refl _) _⟩
      · have d2 : decide ((16 : Int) ≤ (t : Int) - (r : Int)) = false := by simp; omega
        have hfin : (decide (r ≤ t) && decide (16 ≤ t - r)) = false := by simp [h2]
        rw [hfin]
        clear hfin h0
        go_enter Try.func25, Try.ntmps25
        go_wp2
        go_ret
        exact ⟨rfl, (Below.refl _ _).alloc (Nat.le_refl _) _⟩
    · have d1 : decide (r ≤ t) = false := by simpa using h1
      rw [d1, Bool.false_and]
      clear h0
      go_enter Try.func25, Try.ntmps25
      go_wp2
      go_ret
      exact ⟨rfl, (Below.refl _ _).alloc (Nat.le_refl _) _⟩

theorem bit_min {b n : Nat} (hb : b < 65536) : (b / 2 ^ min n 16).testBit 0 = b.testBit n := by
  rw [← Nat.shiftRight_eq_div_pow, Nat.testBit_shiftRight, Nat.add_zero]
  by_cases h : n ≤ 16
  · rw [Nat.min_eq_left h]
  · rw [Nat.min_eq_right (by omega), Nat.testBit_lt_two_pow hb, Nat.testBit_lt_two_pow (Nat.lt_of_lt_of_le hb (Nat.pow_le_pow_right (n := 2) (by decide) (show 16 ≤ n by omega)))]
theorem has14_any (p : Cl) (r : Nat) (w : World) (hp : p.ok) (hr : r < 18446744073709551616) :
    Calls Try.prog 29 #[clv p, .int .u64 (r : Int)] w fun e w' => e = .returned (.bool (hasN p r)) ∧ Below w.heap.size w w' := by
  obtain ⟨t, b⟩ := p
  obtain ⟨ht, hb⟩ := hp
  unfold clv hasN
  dsimp only at ht hb ⊢
  by_cases h0 : 0 < r
  · have d0 : ((r : Int) != 0) = true := by simp; omega
    simp only [h0, decide_true, Bool.true_and]
    by_cases h1 : r ≤ t
    · have e1 := shr16_op (yk := .u64) b (t - r) ((t : Int) - (r : Int)) (by omega)
      have hx : b / 2 ^ min (t - r) 16 < 65536 := Nat.lt_of_le_of_lt (Nat.div_le_self _ _) hb
      have e2 := and16_one _ hx
      rw [bit_min hb] at e2
      have d1 : decide (r ≤ t) = true := by simpa using h1
      rw [d1, Bool.true_and]
      clear d1
      generalize b / 2 ^ min (t - r) 16 = X at *
      cases hbit : b.testBit (t - r)
      · rw [hbit] at e2
        simp only [Bool.false_eq_true, if_false] at e2
        clear hbit
        go_enter Try.func29, Try.ntmps29
        go_wp2
        go_ret
        exact ⟨rfl, (Below.refl _ _).alloc (Nat.le_refl _) _⟩
      · rw [hbit] at e2
        simp only [if_true] at e2
        clear hbit
        go_enter Try.func29, Try.ntmps29
        go_wp2
        go_ret
        exact ⟨rfl, (Below.refl _ _).alloc (Nat.le_refl _) _⟩
    · have d1 : decide (r ≤ t) = false := by simpa using h1
      rw [d1, Bool.false_and]
      go_enter Try.func29, Try.ntmps29
      go_wp2
      go_ret
      exact ⟨rfl, (Below.refl _ _).alloc (Nat.le_refl _) _⟩
  · obtain rfl : r = 0 := by omega
    go_enter Try.func29, Try.ntmps29
    go_wp2
    go_ret
    exact ⟨rfl, (Below.refl _ _).alloc (Nat.le_refl _) _⟩

theorem with_any (p : Cl) (r : Nat) (w : World) (hp : p.ok) (hr : r < 18446744073709551616) (ho : oldN p.1 r = false) :
    Calls Try.prog 26 #[clv p, .int .u64 (r : Int)] w fun e w' => e = .returned (clv (withN p r)) ∧ Below w.heap.size w w' := by
  obtain ⟨t, b⟩ := p
  obtain ⟨ht, hb⟩ := hp
  obtain ⟨h0, hl⟩ := oldN_no ho
  unfold clv withN
  dsimp only at ht hb hl ⊢
  clear ho
  by_cases h1 : t < r
  · rw [if_pos h1]
    have e1 := shl16_op (yk := .u64) b (r - t) ((r : Int) - (t : Int)) (by omega)
    have e2 := shl16_op (yk := .u64) 1 0 ((r : Int) - (r : Int)) (by omega)
    have hx : b * 2 ^ min (r - t) 16 % 65536 < 65536 := Nat.mod_lt _ (by decide)
    generalize b * 2 ^ min (r - t) 16 % 65536 = X at *
    have e3 := or16_run X 1 hx (by decide)
    simp at e2 e3
    clear hl
    go_enter Try.func26, Try.ntmps26
    go_wp2
    exact bodyPost_ret (v := .agg #[.int .u64 (r : Int), .int .u16 ((X ||| 1 : Nat) : Int)]) (by simp [results, Try.results26, go_sem]) rfl ⟨rfl, below2 _ _ _⟩
  · rw [if_neg h1]
    have hl := hl (by omega)
    have hq := p16 hl
    have e1 := shl16_op (yk := .u64) 1 (t - r) ((t : Int) - (r : Int)) (by omega)
    rw [Nat.min_eq_left (by omega), Nat.one_mul, Nat.mod_eq_of_lt (by omega)] at e1
    generalize 2 ^ (t - r) = X at *
    have e3 := or16_run b X hb (by omega)
    have h1' : decide (t < r) = false := by simpa using h1
    simp at e1
    go_enter Try.func26, Try.ntmps26
    go_wp2
    exact bodyPost_ret (v := .agg #[.int .u64 (t : Int), .int .u16 ((b ||| X : Nat) : Int)]) (by simp [results, Try.results26, go_sem]) rfl ⟨rfl, below2 _ _ _⟩

end Go.Proofs.Ytlbjbkhnicbibaa
