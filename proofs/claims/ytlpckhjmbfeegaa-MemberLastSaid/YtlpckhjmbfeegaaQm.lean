/- Sets of nodes as numbers: who is in them, how many, majorities. -/
import Derived.Test.YtlpckhjmbfeegaaPop
namespace Go.Proofs.Ytlpckhjmbfeegaa.Qu

/-- Who is in a set. -/
def inB (s : Nat) (n : Int) : Bool := decide (0 ≤ n) && (decide (n < 64) && s.testBit n.toNat)
theorem inB_nat (s i : Nat) (h : i < 64) : inB s (i : Int) = s.testBit i := by
  unfold inB
  have h1 : (0 : Int) ≤ (i : Int) := by omega
  have h2 : (i : Int) < 64 := by omega
  simp [h2]
/-- A set with a node more. -/
def with1 (s : Nat) (n : Int) : Nat := if 0 ≤ n ∧ n < 64 then s ||| 2 ^ n.toNat else s
def withN (s : Nat) (l : List Int) : Nat := l.foldl with1 s
theorem pow_lt64 {k : Nat} (h : k < 64) : 2 ^ k < 18446744073709551616 := Nat.lt_of_le_of_lt (Nat.pow_le_pow_right (n := 2) (by decide) (show k ≤ 63 by omega)) (by decide)
theorem or_lt64 {a b : Nat} (ha : a < 18446744073709551616) (hb : b < 18446744073709551616) : a ||| b < 18446744073709551616 := Nat.or_lt_two_pow (n := 64) ha hb
theorem and_lt64 {a : Nat} (b : Nat) (ha : a < 18446744073709551616) : a &&& b < 18446744073709551616 := Nat.lt_of_le_of_lt Nat.and_le_left ha
theorem with1_lt {s : Nat} (n : Int) (h : s < 18446744073709551616) : with1 s n < 18446744073709551616 := by
  unfold with1
  split
  · exact or_lt64 h (pow_lt64 (by omega))
  · exact h
theorem withN_lt {s : Nat} (l : List Int) (h : s < 18446744073709551616) : withN s l < 18446744073709551616 := by
  induction l generalizing s with
  | nil => exact h
  | cons n l ih => exact ih (with1_lt n h)
theorem with1_bit (s : Nat) (n : Int) (i : Nat) (h : i < 64) : (with1 s n).testBit i = (s.testBit i || decide (n = (i : Int))) := by
  unfold with1
  split
  · rw [Nat.testBit_or, Nat.testBit_two_pow]
    congr 1
    rw [decide_eq_decide]
    omega
  · have : ¬ n = (i : Int) := by omega
    simp [this]
theorem withN_bit (s : Nat) (l : List Int) (i : Nat) (h : i < 64) : (withN s l).testBit i = (s.testBit i || l.any fun n => decide (n = (i : Int))) := by
  induction l generalizing s with
  | nil => simp [withN]
  | cons n l ih =>
    show (withN (with1 s n) l).testBit i = _
    rw [ih, with1_bit s n i h, List.any_cons, Bool.or_assoc]
/-- The nodes of a set. -/
def memb (s : Nat) : List Nat := (List.range 64).filter s.testBit
theorem memb_lt {s i : Nat} (h : i ∈ memb s) : i < 64 := List.mem_range.1 (List.mem_filter.1 h).1
theorem memb_len (s : Nat) : (memb s).length = pop 64 s := by
  rw [pop_count, List.countP_eq_length_filter]; rfl
theorem pop_and (a b : Nat) : pop 64 (a &&& b) = (memb b).countP a.testBit := by
  rw [pop_count]
  unfold memb
  rw [List.countP_filter]
  apply List.countP_congr
  intro i _
  rw [Nat.testBit_and]
/-- Has a set more than half of another one's nodes? -/
def majB (a b : Nat) : Bool := decide (pop 64 b < 2 * pop 64 (a &&& b))
theorem pop64_le (x : Nat) : pop 64 x ≤ 64 := pop_le 64 x
theorem count_or (l : List Nat) (p q r : Nat → Bool) (h : ∀ i ∈ l, (p i = true → r i = true) ∧ (q i = true → r i = true) ∧ ¬ (p i = true ∧ q i = true)) : l.countP p + l.countP q ≤ l.countP r := by
  induction l with
  | nil => simp
  | cons i l ih =>
    have h0 := h i List.mem_cons_self
    have ih := ih fun j hj => h j (List.mem_cons_of_mem _ hj)
    rw [List.countP_cons, List.countP_cons, List.countP_cons]
    obtain ⟨h1, h2, h3⟩ := h0
    cases hp : p i <;> cases hq : q i <;> cases hr : r i <;> simp_all <;> omega
theorem pop_disjoint (a b o m : Nat) (hom : ∀ i, i < 64 → o.testBit i = true → m.testBit i = true) (h : a &&& b &&& m = 0) : pop 64 (a &&& o) + pop 64 (b &&& m) ≤ pop 64 m := by
  rw [pop_count, pop_count, pop_count]
  refine count_or _ _ _ _ fun i hi => ?_
  have hi := List.mem_range.1 hi
  have hz : (a &&& b &&& m).testBit i = false := by rw [h]; exact Nat.zero_testBit i
  rw [Nat.testBit_and, Nat.testBit_and] at hz
  rw [Nat.testBit_and, Nat.testBit_and]
  have := hom i hi
  refine ⟨?_, ?_, ?_⟩
  · intro e; simp at e; exact this e.2
  · intro e; simp at e; exact e.2
  · rintro ⟨e1, e2⟩
    simp at e1 e2
    rw [e1.1, e2.1, e2.2] at hz
    cases hz
theorem maj_meet (a b o : Nat) (h1 : majB a o = true) (h2 : majB b o = true) : a &&& b &&& o ≠ 0 := by
  intro h
  have := pop_disjoint a b o o (fun _ _ h => h) h
  unfold majB at h1 h2
  simp at h1 h2
  omega
theorem count_more (l : List Nat) (hl : l.Nodup) (s : Nat → Bool) (k : Nat) : l.countP (fun i => s i || decide (k = i)) ≤ l.countP s + 1 := by
  induction l with
  | nil => simp
  | cons i l ih =>
    rw [List.countP_cons, List.countP_cons]
    by_cases hk : k = i
    · have hn : l.countP (fun i => s i || decide (k = i)) = l.countP s := by
        apply List.countP_congr
        intro j hj
        have : ¬ k = j := by rintro rfl; subst hk; exact (List.nodup_cons.1 hl).1 hj
        simp [this]
      rw [hn]
      split <;> split <;> omega
    · have := ih (List.nodup_cons.1 hl).2
      simp only [hk, decide_false, Bool.or_false]
      omega
theorem pop_with1 (s : Nat) (n : Int) : pop 64 (with1 s n) ≤ pop 64 s + 1 := by
  by_cases h : 0 ≤ n ∧ n < 64
  · rw [pop_count, pop_count]
    have e : (List.range 64).countP (with1 s n).testBit = (List.range 64).countP (fun i => s.testBit i || decide (n.toNat = i)) := by
      apply List.countP_congr
      intro i hi
      have hi := List.mem_range.1 hi
      rw [with1_bit s n i hi]
      have : decide (n = (i : Int)) = decide (n.toNat = i) := by rw [decide_eq_decide]; omega
      rw [this]
    rw [e]
    exact count_more _ List.nodup_range _ _
  · unfold with1
    rw [if_neg h]
    omega
theorem maj_more (a b o : Nat) (n : Int) (h1 : majB a o = true) (h2 : majB b (with1 o n) = true) : a &&& b &&& (with1 o n) ≠ 0 := by
  intro h
  have := pop_disjoint a b o (with1 o n) (fun i hi e => by rw [with1_bit o n i hi, e]; rfl) h
  have := pop_with1 o n
  unfold majB at h1 h2
  simp at h1 h2
  omega
/-- What the reference counts. -/
theorem ref_maj (a b : Nat) : decide ((memb b).length < 2 * (memb b).countP a.testBit) = majB a b := by
  unfold majB
  rw [memb_len, pop_and]
/-- Of bytes. -/
def cnt (l : List UInt8) (x : Nat) : Nat := l.countP fun y => y.toNat == x
theorem count_lt (l : List UInt8) (k : Nat) : (l.countP fun y => decide (y.toNat < k + 1)) = (l.countP fun y => decide (y.toNat < k)) + cnt l k := by
  unfold cnt
  induction l with
  | nil => rfl
  | cons y l ih =>
    rw [List.countP_cons, List.countP_cons, List.countP_cons, ih]
    by_cases h1 : y.toNat < k
    · have h2 : (y.toNat == k) = false := by simp; omega
      have h3 : y.toNat < k + 1 := by omega
      simp [h1, h2, h3]
      omega
    · by_cases h2 : y.toNat = k
      · have h3 : y.toNat < k + 1 := by omega
        simp [h2]
        omega
      · have h3 : ¬ y.toNat < k + 1 := by omega
        have h4 : (y.toNat == k) = false := by simpa using h2
        simp [h1, h3, h4]
theorem count_256 (l : List UInt8) : (l.countP fun y => decide (y.toNat < 256)) = l.length := by
  rw [List.countP_eq_length]
  intro y _
  have := y.toNat_lt
  simp
  omega
end Go.Proofs.Ytlpckhjmbfeegaa.Qu
