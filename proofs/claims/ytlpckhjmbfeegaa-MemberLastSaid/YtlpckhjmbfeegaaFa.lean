/- Sets of nodes as words: what may follow, majorities that meet. -/
import Derived.Test.YtlpckhjmbfeegaaQa
namespace Go.Proofs.Ytlpckhjmbfeegaa.Qu
open Go.RowKit
set_option maxRecDepth 20000

def told (s : Nat) : Bool := decide (1 ≤ s) && decide (s ≤ 127)
def mayB (o s : Nat) : Bool := told s && decide (pop 64 (o ^^^ s) = 1)
def flip1 (o : Nat) (n : Int) : Nat := o ^^^ with1 0 n
theorem xor_lt64 {a b : Nat} (ha : a < 18446744073709551616) (hb : b < 18446744073709551616) : a ^^^ b < 18446744073709551616 := Nat.xor_lt_two_pow (n := 64) ha hb
theorem flip1_lt {o : Nat} (n : Int) (h : o < 18446744073709551616) : flip1 o n < 18446744073709551616 := xor_lt64 h (with1_lt n (by decide))
theorem count_split (l : List Nat) (p q r s : Nat → Bool) (h : ∀ i ∈ l, ((if p i then 1 else 0) + (if q i then 1 else 0) : Nat) = (if r i then 1 else 0) + (if s i then 1 else 0)) : l.countP p + l.countP q = l.countP r + l.countP s := by
  induction l with
  | nil => rfl
  | cons x l ih =>
    have h1 := ih (fun i hi => h i (List.mem_cons_of_mem _ hi))
    have h2 := h x List.mem_cons_self
    simp only [List.countP_cons]
    omega
theorem pop_or_and (a b : Nat) : pop 64 a + pop 64 b = pop 64 (a ||| b) + pop 64 (a &&& b) := by
  simp only [pop_count]
  refine count_split _ _ _ _ _ fun i _ => ?_
  rw [Nat.testBit_or, Nat.testBit_and]
  cases a.testBit i <;> cases b.testBit i <;> rfl
theorem pop_xor (a b : Nat) : pop 64 (a ^^^ b) + pop 64 (a &&& b) = pop 64 (a ||| b) + pop 64 0 := by
  simp only [pop_count]
  refine count_split _ _ _ _ _ fun i _ => ?_
  rw [Nat.testBit_or, Nat.testBit_and, Nat.testBit_xor, Nat.zero_testBit]
  cases a.testBit i <;> cases b.testBit i <;> rfl
theorem pop_zero (k : Nat) : pop k 0 = 0 := by
  induction k with
  | zero => rfl
  | succ k ih => rw [pop, Nat.zero_div, ih]
theorem pop_apart (a b o m : Nat) (h : a &&& b &&& (o ||| m) = 0) : pop 64 (a &&& o) + pop 64 (b &&& m) ≤ pop 64 (o ||| m) := by
  simp only [pop_count]
  refine count_or _ _ _ _ fun i _ => ⟨?_, ?_, ?_⟩
  · rw [Nat.testBit_and, Nat.testBit_or]; simp; intro _ h; exact .inl h
  · rw [Nat.testBit_and, Nat.testBit_or]; simp; intro _ h; exact .inr h
  · have e : (a &&& b &&& (o ||| m)).testBit i = false := by rw [h, Nat.zero_testBit]
    simp only [Nat.testBit_and, Nat.testBit_or] at e ⊢
    cases ha : a.testBit i <;> cases hb : b.testBit i <;> cases ho : o.testBit i <;> cases hm : m.testBit i <;> simp_all
/-- Majorities of two sets that differ in one node meet. -/
theorem maj_near (a b o m : Nat) (h1 : mayB o m = true) (h2 : majB a o = true) (h3 : majB b m = true) : a &&& b &&& (o ||| m) ≠ 0 := by
  intro h
  have e1 := pop_apart a b o m h
  have e2 := pop_or_and o m
  have e3 := pop_xor o m
  rw [pop_zero] at e3
  unfold mayB at h1
  unfold majB at h2 h3
  simp only [Bool.and_eq_true, decide_eq_true_eq] at h1 h2 h3
  have e4 := h1.2
  omega
theorem with1_none {n : Int} (h : ¬ (0 ≤ n ∧ n < 64)) : with1 0 n = 0 := by unfold with1; rw [if_neg h]
theorem may_ne {o s : Nat} (h : mayB o s = true) : s ≠ o := by
  rintro rfl
  unfold mayB at h
  rw [Nat.xor_self, pop_zero] at h
  simp at h
theorem told_any (s : Nat) (w : World) (hs : s < 18446744073709551616) :
    Calls Try.prog 54 #[.int .u64 (s : Int)] w fun e w' => e = .returned (.bool (told s)) ∧ w = w' := by
  unfold told
  by_cases h0 : s = 0
  · subst h0
    go_enter Try.func54, Try.ntmps54
    go_wp2
    go_ret
    exact ⟨rfl, rfl⟩
  · have d0 : decide ((s : Int) = 0) = false := by simpa using h0
    have d1 : decide (1 ≤ s) = true := by simp; omega
    rw [d1, Bool.true_and]
    by_cases h1 : s ≤ 127
    · have d2 : decide (s ≤ 127) = true := by simpa using h1
      have e1 : (s : Int) / 128 = 0 := by omega
      go_enter Try.func54, Try.ntmps54
      go_wp2
      go_ret
      refine ⟨?_, rfl⟩
      simp [h0, d2, e1]
    · have d2 : decide (s ≤ 127) = false := by simpa using h1
      have e1 : ¬ (s : Int) / 128 = 0 := by omega
      go_enter Try.func54, Try.ntmps54
      go_wp2
      go_ret
      refine ⟨?_, rfl⟩
      simp [h0, d2, e1]
theorem may_any (o s : Nat) (w : World) (ho : o < 18446744073709551616) (hs : s < 18446744073709551616) :
    Calls Try.prog 33 #[.int .u64 (o : Int), .int .u64 (s : Int)] w fun e w' => e = .returned (.bool (mayB o s)) ∧ w = w' := by
  have e1 := bits_xor_u64_nat o s ho hs
  have hT := fun W => told_any s W hs
  have hZ := fun W => size_any (o ^^^ s) W (xor_lt64 ho hs)
  unfold mayB
  clear ho hs
  generalize o ^^^ s = x at *
  generalize pop 64 x = p at *
  cases ht : told s
  all_goals
    rw [ht] at hT
    go_enter Try.func33, Try.ntmps33
    go_wp2_with (first
      | (go_at_call 54; (with_reducible refine (hT _).mono ?_); rintro e w3 ⟨rfl, rfl⟩)
      | (go_at_call 57; (with_reducible refine (hZ _).mono ?_); rintro e w3 ⟨rfl, rfl⟩)
      | fail)
    go_ret
    refine ⟨?_, rfl⟩
    simp
  by_cases h : p = 1
  · simp [h]
  · have : ¬ (p : Int) = 1 := by omega
    simp [h, this]
theorem rd_lit (w : World) {cs : Array Value} {l : List Value} {n sz : Nat} (hc : l = cs.toList) (hl : l.length = n * sz) (hn : n ≤ 1000000) (ty : TypeId) : Rd (w.alloc (.cells cs ty)) (w.alloc (.cells cs ty)).heap.size sz (some ⟨w.heap.size, 0, none⟩) n n l := by
  refine ⟨Nat.le_refl _, by unfold maxLen; omega, hl, fun _ => ⟨w.heap.size, 0, rfl, by simp, fun j u hu => ?_⟩⟩
  rw [cell_of_row _ w.heap.size (0 + j) cs ty (0, 0) (heap_alloc_new w _)]
  rw [hc] at hu
  simpa using hu
def turnO (o : Nat) (n : Int) : Nat × Bool := if told o = true ∧ mayB o (flip1 o n) = true then (flip1 o n, true) else (0, false)
/-- What Turn tells. -/
theorem turn_any (o : Nat) (n : Int) (w : World) (ho : o < 18446744073709551616) :
    Calls Try.prog 31 #[.int .u64 (o : Int), .int .i64 n] w fun e w' => e = .returned (.tuple #[.int .u64 ((turnO o n).1 : Int), .bool (turnO o n).2]) ∧ Below w.heap.size w w' := by
  have hb : Below w.heap.size w (w.alloc (.cells #[.int .i64 n] 3)) := (Below.refl _ _).alloc (Nat.le_refl _) _
  have hW := with_any (l := [n]) 0 (by decide) (rd_lit w (cs := #[.int .i64 n]) rfl rfl (by decide) 3) (by decide)
  rw [show withN 0 [n] = with1 0 n from rfl] at hW
  have e1 := bits_xor_u64_nat o (with1 0 n) ho (with1_lt n (by decide))
  have hT := fun W => told_any o W ho
  have hM := fun W => may_any o (flip1 o n) W ho (flip1_lt n ho)
  unfold turnO
  rw [show o ^^^ with1 0 n = flip1 o n from rfl] at e1
  have HW := Lib.hid hW
  clear hW ho
  generalize flip1 o n = f at *
  generalize with1 0 n = x at *
  cases ht : told o
  · rw [ht] at hT
    rw [if_neg (by simp)]
    dsimp only
    go_enter Try.func31, Try.ntmps31
    go_wp2_with (first
      | (go_at_call 54; (with_reducible refine (hT _).mono ?_); rintro e w3 ⟨rfl, rfl⟩)
      | (go_at_call 56; (refine (HW.out).mono ?_); rintro e w3 ⟨rfl, rfl⟩)
      | fail)
    go_ret2
    exact ⟨rfl, hb⟩
  · rw [ht] at hT
    cases hm : mayB o f
    all_goals
      rw [hm] at hM
      simp only [and_self, and_false, Bool.false_eq_true, if_true, if_false]
      go_enter Try.func31, Try.ntmps31
      go_wp2_with (first
        | (go_at_call 54; (with_reducible refine (hT _).mono ?_); rintro e w3 ⟨rfl, rfl⟩)
        | (go_at_call 33; (refine (hM _).mono ?_); rintro e w3 ⟨rfl, rfl⟩)
        | (go_at_call 56; (refine (HW.out).mono ?_); rintro e w3 ⟨rfl, rfl⟩)
        | fail)
      go_ret2
      exact ⟨rfl, hb⟩
end Go.Proofs.Ytlpckhjmbfeegaa.Qu
