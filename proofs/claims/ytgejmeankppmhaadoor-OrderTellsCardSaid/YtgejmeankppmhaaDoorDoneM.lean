/- What is remembered of a client, as numbers. Contracts of done: old, has, with. -/
import Derived.Test.YtgejmeankppmhaaDoorRowkitM
import Derived.Test.YtgejmeankppmhaaDoorBoxM
namespace Go.Proofs.YtgejmeankppmhaaDoor

/-- What is remembered of a client: Top and Bits. -/
abbrev Cl := Nat × Nat
def Cl.ok (p : Cl) : Prop := p.1 < 18446744073709551616 ∧ p.2 < 65536
def oldN (t r : Nat) : Bool := decide (r = 0) || (decide (r ≤ t) && decide (16 ≤ t - r))
def hasN (p : Cl) (r : Nat) : Bool := decide (0 < r) && (decide (r ≤ p.1) && p.2.testBit (p.1 - r))
def withN (p : Cl) (r : Nat) : Cl := if p.1 < r then (r, (p.2 * 2 ^ min (r - p.1) 16 % 65536) ||| 1) else (p.1, p.2 ||| 2 ^ (p.1 - r))

theorem oldN_no {t r : Nat} (h : oldN t r = false) : 0 < r ∧ (r ≤ t → t - r < 16) := by
  simp only [oldN, Bool.or_eq_false_iff, decide_eq_false_iff_not, Bool.and_eq_false_iff] at h
  omega
theorem p16 {k : Nat} (h : k < 16) : 2 ^ k ≤ 32768 := Nat.pow_le_pow_right (n := 2) (by decide) (by omega : k ≤ 15)
theorem withN_ok {p : Cl} {r : Nat} (hp : p.ok) (hr : r < 18446744073709551616) (ho : oldN p.1 r = false) : (withN p r).ok := by
  unfold withN
  split
  · refine ⟨hr, ?_⟩
    exact Nat.or_lt_two_pow (n := 16) (Nat.mod_lt _ (by decide)) (by decide)
  · next h =>
    refine ⟨hp.1, ?_⟩
    have := p16 ((oldN_no ho).2 (by omega))
    exact Nat.or_lt_two_pow (n := 16) hp.2 (by omega)
theorem bit_one (k : Nat) : (1 : Nat).testBit k = decide (k = 0) := by
  cases k with
  | zero => rfl
  | succ k => simp [Nat.testBit_succ]
theorem bit_pow (i k : Nat) : (2 ^ i).testBit k = decide (i = k) := by
  rw [Nat.testBit_two_pow]
theorem withN_bit {p : Cl} {r k : Nat} (hk : k < 16) : (withN p r).2.testBit k = if p.1 < r then (decide (k = 0) || (decide (r - p.1 ≤ k) && p.2.testBit (k - (r - p.1)))) else (p.2.testBit k || decide (p.1 - r = k)) := by
  unfold withN
  split
  · next h =>
    simp only [Nat.testBit_or, bit_one, show (65536 : Nat) = 2 ^ 16 from rfl, Nat.testBit_mod_two_pow, hk, decide_true, Bool.true_and, Nat.testBit_mul_two_pow]
    rw [Bool.or_comm]
    congr 1
    by_cases h16 : r - p.1 ≤ 16
    · rw [Nat.min_eq_left h16]
    · rw [Nat.min_eq_right (by omega)]
      simp [show ¬ 16 ≤ k by omega, show ¬ r - p.1 ≤ k by omega]
  · simp only [Nat.testBit_or, bit_pow]
theorem withN_top (p : Cl) (r : Nat) : (withN p r).1 = max p.1 r := by
  unfold withN
  split <;> simp only <;> omega

theorem bits_ext {a b : Nat} (ha : a < 65536) (hb : b < 65536) (h : ∀ k, k < 16 → a.testBit k = b.testBit k) : a = b := by
  apply Nat.eq_of_testBit_eq
  intro k
  by_cases hk : k < 16
  · exact h k hk
  · rw [Nat.testBit_lt_two_pow (Nat.lt_of_lt_of_le ha (Nat.pow_le_pow_right (n := 2) (by decide) (show 16 ≤ k by omega))), Nat.testBit_lt_two_pow (Nat.lt_of_lt_of_le hb (Nat.pow_le_pow_right (n := 2) (by decide) (show 16 ≤ k by omega)))]
/-- What is there already changes nothing. -/
theorem withN_has {p : Cl} {r : Nat} (hp : p.ok) (h : hasN p r = true) (ho : oldN p.1 r = false) : withN p r = p := by
  simp only [hasN, Bool.and_eq_true, decide_eq_true_eq] at h
  obtain ⟨h0, h1, h2⟩ := h
  have hl := (oldN_no ho).2 h1
  refine Prod.ext (by rw [withN_top]; omega) (bits_ext ?_ hp.2 fun k hk => ?_)
  · unfold withN
    rw [if_neg (by omega)]
    have := p16 hl
    exact Nat.or_lt_two_pow (n := 16) hp.2 (by omega)
  · rw [withN_bit hk, if_neg (by omega)]
    by_cases e : p.1 - r = k
    · subst e; simp [h2]
    · simp [e]
/-- What is new changes what is remembered. -/
theorem withN_new {p : Cl} {r : Nat} (h : hasN p r = false) (ho : oldN p.1 r = false) : withN p r ≠ p := by
  intro e
  obtain ⟨h0, hl⟩ := oldN_no ho
  have ht := withN_top p r
  rw [e] at ht
  have hle : r ≤ p.1 := by omega
  have hb := withN_bit (p := p) (r := r) (hl hle)
  rw [e, if_neg (by omega)] at hb
  simp only [hasN, h0, hle, decide_true, Bool.true_and] at h
  rw [h] at hb
  simp at hb
theorem hasN_with {p : Cl} {r : Nat} (ho : oldN p.1 r = false) : hasN (withN p r) r = true ∧ oldN (withN p r).1 r = false := by
  obtain ⟨h0, hl⟩ := oldN_no ho
  have ht := withN_top p r
  have hk : (withN p r).1 - r < 16 := by omega
  constructor
  · simp only [hasN, h0, show r ≤ (withN p r).1 by omega, decide_true, Bool.true_and]
    rw [withN_bit hk]
    split
    · simp only [show (withN p r).1 - r = 0 by omega, decide_true, Bool.true_or]
    · simp only [show p.1 - r = (withN p r).1 - r by omega, decide_true, Bool.or_true]
  · simp only [oldN, show ¬ r = 0 by omega, decide_false, Bool.false_or, Bool.and_eq_false_iff, decide_eq_false_iff_not]
    omega
theorem hasN_old {p : Cl} {r : Nat} (hp : p.ok) (ho : oldN p.1 r = true) : hasN p r = false := by
  simp only [oldN, Bool.or_eq_true, Bool.and_eq_true, decide_eq_true_eq] at ho
  simp only [hasN, Bool.and_eq_false_iff, decide_eq_false_iff_not]
  rcases ho with h | ⟨h1, h2⟩
  · left; omega
  · right; right
    exact Nat.testBit_lt_two_pow (Nat.lt_of_lt_of_le hp.2 (Nat.pow_le_pow_right (n := 2) (by decide) (show 16 ≤ p.1 - r by omega)))

/-- The document's bit k of what is remembered then. -/
def bitN (p : Cl) (r k : Nat) : Bool := decide (k = max p.1 r - r) || (decide (max p.1 r - p.1 ≤ k) && p.2.testBit (k - (max p.1 r - p.1)))
theorem withN_bitN {p : Cl} {r k : Nat} (hk : k < 16) : (withN p r).2.testBit k = bitN p r k := by
  rw [withN_bit hk]
  unfold bitN
  split
  · next h =>
    rw [Nat.max_eq_right (by omega), Nat.sub_self]
  · next h =>
    rw [Nat.max_eq_left (by omega), Nat.sub_self]
    simp only [Nat.zero_le, decide_true, Bool.true_and, Nat.sub_zero]
    rw [Bool.or_comm]
    congr 1
    rw [Bool.eq_iff_iff]
    simp only [decide_eq_true_eq]
    omega
theorem mod_step (x k : Nat) : x % 2 ^ (k + 1) = x % 2 ^ k + if x.testBit k then 2 ^ k else 0 := by
  rw [Nat.mod_pow_succ, Nat.testBit_eq_decide_div_mod_eq]
  rcases Nat.mod_two_eq_zero_or_one (x / 2 ^ k) with h | h <;> simp [h]

/-! ### In which order requests are done is of no matter -/
def Inv (p : Cl) (P : Nat → Prop) : Prop := (∀ x, P x → x ≤ p.1 ∧ 0 < x) ∧ (p.1 = 0 ∨ P p.1) ∧ p.ok ∧ ∀ k, k < 16 → (p.2.testBit k = true ↔ k ≤ p.1 ∧ P (p.1 - k))
theorem inv_zero : Inv (0, 0) (fun _ => False) := ⟨fun _ h => h.elim, .inl rfl, ⟨by decide, by decide⟩, fun k _ => by simp⟩
theorem inv_iff {p : Cl} {P Q : Nat → Prop} (h : Inv p P) (hq : ∀ x, P x ↔ Q x) : Inv p Q := by
  obtain ⟨h1, h2, h3, h4⟩ := h
  refine ⟨fun x hx => h1 x ((hq x).2 hx), h2.imp id (hq _).1, h3, fun k hk => ?_⟩
  rw [h4 k hk, hq]
theorem inv_with {p : Cl} {P : Nat → Prop} {r : Nat} (h : Inv p P) (hr : r < 18446744073709551616) (ho : oldN p.1 r = false) : Inv (withN p r) (fun x => P x ∨ x = r) := by
  obtain ⟨h1, h2, h3, h4⟩ := h
  obtain ⟨h0, hl⟩ := oldN_no ho
  have ht := withN_top p r
  refine ⟨fun x hx => ?_, ?_, withN_ok h3 hr ho, fun k hk => ?_⟩
  · rcases hx with hx | rfl
    · have := h1 x hx; omega
    · omega
  · by_cases hc : p.1 < r
    · exact .inr (.inr (by omega))
    · rcases h2 with e | e
      · exact .inl (by omega)
      · exact .inr (.inl (by rw [show (withN p r).1 = p.1 by omega]; exact e))
  · rw [withN_bit hk]
    by_cases hc : p.1 < r
    · rw [if_pos hc, show (withN p r).1 = r by omega]
      simp only [Bool.or_eq_true, Bool.and_eq_true, decide_eq_true_eq]
      constructor
      · rintro (rfl | ⟨a, b⟩)
        · exact ⟨by omega, .inr (by omega)⟩
        · obtain ⟨c, d⟩ := (h4 _ (by omega)).1 b
          rw [show p.1 - (k - (r - p.1)) = r - k by omega] at d
          exact ⟨by omega, .inl d⟩
      · rintro ⟨a, b | b⟩
        · have := h1 _ b
          refine .inr ⟨by omega, (h4 _ (by omega)).2 ⟨by omega, ?_⟩⟩
          rw [show p.1 - (k - (r - p.1)) = r - k by omega]
          exact b
        · exact .inl (by omega)
    · rw [if_neg hc, show (withN p r).1 = p.1 by omega]
      simp only [Bool.or_eq_true, decide_eq_true_eq]
      rw [h4 k hk]
      constructor
      · rintro (⟨a, b⟩ | a)
        · exact ⟨a, .inl b⟩
        · exact ⟨by omega, .inr (by omega)⟩
      · rintro ⟨a, b | b⟩
        · exact .inl ⟨a, b⟩
        · exact .inr (by omega)
theorem inv_uniq {p q : Cl} {P : Nat → Prop} (h : Inv p P) (k : Inv q P) : p = q := by
  obtain ⟨h1, h2, h3, h4⟩ := h
  obtain ⟨k1, k2, k3, k4⟩ := k
  have e : p.1 = q.1 := by
    rcases h2 with h2 | h2 <;> rcases k2 with k2 | k2
    · omega
    · have := h1 _ k2; omega
    · have := k1 _ h2; omega
    · have := h1 _ k2; have := k1 _ h2; omega
  refine Prod.ext e (bits_ext h3.2 k3.2 fun k hk => ?_)
  rw [Bool.eq_iff_iff, h4 k hk, k4 k hk, e]
theorem inv_told {p : Cl} {P : Nat → Prop} (h : Inv p P) {r : Nat} (hr : P r) : hasN p r = true ∨ oldN p.1 r = true := by
  obtain ⟨h1, h2, h3, h4⟩ := h
  have := h1 r hr
  by_cases hc : 16 ≤ p.1 - r
  · right
    simp only [oldN, Bool.or_eq_true, Bool.and_eq_true, decide_eq_true_eq]
    exact .inr ⟨this.1, hc⟩
  · left
    simp only [hasN, Bool.and_eq_true, decide_eq_true_eq]
    refine ⟨this.2, this.1, (h4 _ (by omega)).2 ⟨by omega, ?_⟩⟩
    rw [show p.1 - (p.1 - r) = r by omega]
    exact hr

end Go.Proofs.YtgejmeankppmhaaDoor

namespace Go.Proofs.YtgejmeankppmhaaDoor
open Go.RowKit

theorem below1 (w : World) (o : Obj) : Below w.heap.size w (w.alloc o) := (Below.refl _ _).alloc (Nat.le_refl _) _
theorem below2 (w : World) (o p : Obj) : Below w.heap.size w ((w.alloc o).alloc p) := (below1 w o).alloc (by simp) _
/-- A client's cells. -/
def clv (p : Cl) : Value := .agg #[.int .u64 (p.1 : Int), .int .u16 (p.2 : Int)]

theorem shr16_op (b n : Nat) (z : Int) (hz : z = (n : Int)) {yk : IntKind} : Op.shift .shr .u16 (b : Int) yk z = pure (.int .u16 ((b / 2 ^ min n 16 : Nat) : Int)) := by
  subst hz
  have h1 : ¬ ((n : Int) < 0) := by omega
  have h2 : (0 : Int) ≤ 2 ^ min n 16 := Int.pow_nonneg (by decide)
  have e : ((2 : Int) ^ min n 16) = ((2 ^ min n 16 : Nat) : Int) := by simp
  simp only [Op.shift, IntKind.bits, h1, if_false, Int.toNat_natCast]
  rw [Int.fdiv_eq_ediv_of_nonneg _ h2, e]
  rfl
theorem shl16_op (b n : Nat) (z : Int) (hz : z = (n : Int)) {yk : IntKind} : Op.shift .shl .u16 (b : Int) yk z = pure (.int .u16 ((b * 2 ^ min n 16 % 65536 : Nat) : Int)) := by
  subst hz
  have h1 : ¬ ((n : Int) < 0) := by omega
  have e : ((b : Int) * (2 : Int) ^ min n 16) = ((b * 2 ^ min n 16 : Nat) : Int) := by simp
  simp only [Op.shift, IntKind.bits, h1, if_false, Int.toNat_natCast, e, IntKind.wrap_u16]
  generalize b * 2 ^ min n 16 = X
  congr 2
theorem ofInt16 (a : Nat) (ha : a < 65536) : (BitVec.ofInt 16 (a : Int)).toNat = a := by
  rw [BitVec.ofInt_natCast, BitVec.toNat_ofNat]; exact Nat.mod_eq_of_lt (by omega)
theorem or16_run (a b : Nat) (ha : a < 65536) (hb : b < 65536) : bits .or .u16 (a : Int) (b : Int) = ((a ||| b : Nat) : Int) := by
  have hx : a ||| b < 2 ^ 16 := Nat.or_lt_two_pow ha hb
  show IntKind.u16.wrap ((BitVec.ofInt 16 (a : Int) ||| BitVec.ofInt 16 (b : Int)).toNat : Int) = _
  rw [BitVec.toNat_or, ofInt16 a ha, ofInt16 b hb, IntKind.wrap_u16]
  omega
theorem and16_one (a : Nat) (ha : a < 65536) : bits .and .u16 (a : Int) 1 = if a.testBit 0 then 1 else 0 := by
  have e1 : (BitVec.ofInt 16 1).toNat = 1 := by decide
  have hx : a &&& 1 ≤ 1 := Nat.and_le_right
  show IntKind.u16.wrap ((BitVec.ofInt 16 (a : Int) &&& BitVec.ofInt 16 1).toNat : Int) = _
  rw [BitVec.toNat_and, ofInt16 a ha, e1, IntKind.wrap_u16, Nat.and_one_is_mod, Nat.testBit_zero]
  rcases Nat.mod_two_eq_zero_or_one a with h | h <;> simp [h]

theorem old_any (p : Cl) (r : Nat) (w : World) (hp : p.ok) :
    Calls Tryd.prog 49 #[clv p, .int .u64 (r : Int)] w fun e w' => e = .returned (.bool (oldN p.1 r)) ∧ Below w.heap.size w w' := by
  obtain ⟨t, b⟩ := p
  have ht := hp.1
  clear hp
  unfold clv oldN
  dsimp only at ht ⊢
  by_cases h0 : r = 0
  · subst h0
    go_enter Tryd.func49, Tryd.ntmps49
    go_wp2
    go_ret
    exact ⟨rfl, (Below.refl _ _).alloc (Nat.le_refl _) _⟩
  · have d0 : ((r : Int) == 0) = false := by simpa using h0
    simp only [h0, decide_false, Bool.false_or]
    by_cases h1 : r ≤ t
    · by_cases h2 : 16 ≤ t - r
      · have d2 : decide ((16 : Int) ≤ (t : Int) - (r : Int)) = true := by simp; omega
        have hfin : (decide (r ≤ t) && decide (16 ≤ t - r)) = true := by simp [h1, h2]
        rw [hfin]
        clear hfin h0
        go_enter Tryd.func49, Tryd.ntmps49
        go_wp2
        go_ret
        exact ⟨rfl, (Below.refl _ _).alloc (Nat.le_refl _) _⟩
      · have d2 : decide ((16 : Int) ≤ (t : Int) - (r : Int)) = false := by simp; omega
        have hfin : (decide (r ≤ t) && decide (16 ≤ t - r)) = false := by simp [h2]
        rw [hfin]
        clear hfin h0
        go_enter Tryd.func49, Tryd.ntmps49
        go_wp2
        go_ret
        exact ⟨rfl, (Below.refl _ _).alloc (Nat.le_refl _) _⟩
    · have d1 : decide (r ≤ t) = false := by simpa using h1
      rw [d1, Bool.false_and]
      clear h0
      go_enter Tryd.func49, Tryd.ntmps49
      go_wp2
      go_ret
      exact ⟨rfl, (Below.refl _ _).alloc (Nat.le_refl _) _⟩

theorem bit_min {b n : Nat} (hb : b < 65536) : (b / 2 ^ min n 16).testBit 0 = b.testBit n := by
  rw [← Nat.shiftRight_eq_div_pow, Nat.testBit_shiftRight, Nat.add_zero]
  by_cases h : n ≤ 16
  · rw [Nat.min_eq_left h]
  · rw [Nat.min_eq_right (by omega), Nat.testBit_lt_two_pow hb, Nat.testBit_lt_two_pow (Nat.lt_of_lt_of_le hb (Nat.pow_le_pow_right (n := 2) (by decide) (show 16 ≤ n by omega)))]
theorem with_any (p : Cl) (r : Nat) (w : World) (hp : p.ok) (hr : r < 18446744073709551616) (ho : oldN p.1 r = false) :
    Calls Tryd.prog 50 #[clv p, .int .u64 (r : Int)] w fun e w' => e = .returned (clv (withN p r)) ∧ Below w.heap.size w w' := by
  obtain ⟨t, b⟩ := p
  obtain ⟨ht, hb⟩ := hp
  obtain ⟨h0, hl⟩ := oldN_no ho
  unfold clv withN
  dsimp only at ht hb hl ⊢
  clear ho
  by_cases h1 : t < r
  · rw [if_pos h1]
    have e1 := shl16_op (yk := .u64) b (r - t) ((r : Int) - (t : Int)) (by omega)
    have e2 := shl16_op (yk := .u64) 1 0 ((r : Int) - (r : Int)) (by omega)
    have hx : b * 2 ^ min (r - t) 16 % 65536 < 65536 := Nat.mod_lt _ (by decide)
    generalize b * 2 ^ min (r - t) 16 % 65536 = X at *
    have e3 := or16_run X 1 hx (by decide)
    simp at e2 e3
    clear hl
    go_enter Tryd.func50, Tryd.ntmps50
    go_wp2
    exact bodyPost_ret (v := .agg #[.int .u64 (r : Int), .int .u16 ((X ||| 1 : Nat) : Int)]) (by simp [results, Tryd.results50, go_sem]) rfl ⟨rfl, below2 _ _ _⟩
  · rw [if_neg h1]
    have hl := hl (by omega)
    have hq := p16 hl
    have e1 := shl16_op (yk := .u64) 1 (t - r) ((t : Int) - (r : Int)) (by omega)
    rw [Nat.min_eq_left (by omega), Nat.one_mul, Nat.mod_eq_of_lt (by omega)] at e1
    generalize 2 ^ (t - r) = X at *
    have e3 := or16_run b X hb (by omega)
    have h1' : decide (t < r) = false := by simpa using h1
    simp at e1
    go_enter Tryd.func50, Tryd.ntmps50
    go_wp2
    exact bodyPost_ret (v := .agg #[.int .u64 (t : Int), .int .u16 ((b ||| X : Nat) : Int)]) (by simp [results, Tryd.results50, go_sem]) rfl ⟨rfl, below2 _ _ _⟩

end Go.Proofs.YtgejmeankppmhaaDoor
