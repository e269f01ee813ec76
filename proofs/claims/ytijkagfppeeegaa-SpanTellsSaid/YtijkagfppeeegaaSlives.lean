/- The chapter's example of layer 3, and what Without has. -/
import Derived.Test.YtijkagfppeeegaaWo
namespace Go.Proofs.Ytijkagfppeeegaa
open Go.RowKit

theorem wo_live : wo 2 4 3 1 = [(2, 1), (4, 2)] := by
  rw [← wo_eq 2 4 3 1 (by decide) (by decide) (by decide) (by decide)]
  decide

theorem lives3 (w : World) : Calls Try.prog 15 #[] w fun e w' => e = .returned (.bool true) ∧ Below w.heap.size w w' := by
  have hcon := fun W => without_any 2 4 3 1 W (by decide) (by decide) (by decide) (by decide)
  rw [wo_live] at hcon
  go_enter Try.func15, Try.ntmps15
  go_wp2_with fail
  refine (hcon _).mono ?_
  rintro e w1 ⟨v, rfl, hown, hb⟩
  obtain ⟨g, cap, rfl, _, _, h2, h3⟩ := owns_some hown (by decide)
  have c0 := hown.cellAt 0 (by decide)
  have c1 := hown.cellAt 1 (by decide)
  have c2 := hown.cellAt 2 (by decide)
  have c3 := hown.cellAt 3 (by decide)
  simp [sps] at c0 c1 c2 c3
  clear hown hcon
  go_wp2
  go_ret
  exact ⟨rfl, hb⟩

/-- Has some of these the block? -/
def anyHas (L : List (Nat × Nat)) (x : Nat) : Bool := L.any fun p => decide (p.1 ≤ x ∧ x < p.1 + p.2)
theorem any_two (p q : Nat × Nat) (x : Nat) : anyHas (two p q) x = (decide (p.1 ≤ x ∧ x < p.1 + p.2) || decide (q.1 ≤ x ∧ x < q.1 + q.2)) := by
  unfold anyHas two
  by_cases hp : p.2 = 0 <;> by_cases hq : q.2 = 0
  · have e1 : decide (p.1 ≤ x ∧ x < p.1 + p.2) = false := by simp; omega
    have e2 : decide (q.1 ≤ x ∧ x < q.1 + q.2) = false := by simp; omega
    rw [if_pos hp, if_pos hq, e1, e2]; rfl
  · have e1 : decide (p.1 ≤ x ∧ x < p.1 + p.2) = false := by simp; omega
    rw [if_pos hp, if_neg hq, e1]; simp
  · have e2 : decide (q.1 ≤ x ∧ x < q.1 + q.2) = false := by simp; omega
    rw [if_neg hp, if_pos hq, e2]; simp
  · rw [if_neg hp, if_neg hq]; simp
theorem upt_has (m t x : Nat) (ht : t ≤ 4294967296) (h : t < m + 4294967296) : decide ((upt m t).1 ≤ x ∧ x < (upt m t).1 + (upt m t).2) = decide (m ≤ x ∧ x < t) := by
  by_cases hmt : t ≤ m
  · rw [upt_no m t hmt]; apply decide_eq_decide.2; simp only; omega
  · rw [upt_in m t (by omega) h]; apply decide_eq_decide.2; simp only; omega
theorem cm_has (a b c d x : Nat) (ha : a < 4294967296) (hb : b < 4294967296) (hx : x < 4294967296) :
    decide ((cm a b c d).1 ≤ x ∧ x < (cm a b c d).1 + (cm a b c d).2) = (decide (a ≤ x ∧ x < a + b) && decide (c ≤ x ∧ x < c + d)) := by
  unfold cm
  rw [upt_has _ _ _ (by omega) (by omega), ← Bool.decide_and]
  apply decide_eq_decide.2
  omega
theorem cm_comm (a b c d : Nat) : cm a b c d = cm c d a b := by
  unfold cm
  congr 1 <;> omega
theorem wo_has (a b c d x : Nat) (ha : a < 4294967296) (hb : b < 4294967296) (hc : c < 4294967296) (hd : d < 4294967296) (hx : x < 4294967296) :
    anyHas (wo a b c d) x = (decide (a ≤ x ∧ x < a + b) && !decide (c ≤ x ∧ x < c + d)) := by
  rw [← wo_eq a b c d ha hb hc hd, any_two]
  have hY : en a b = min (a + b) 4294967296 := rfl
  have hU : en c d = min (c + d) 4294967296 := rfl
  rw [upt_has _ _ _ (by omega) (by omega), upt_has _ _ _ (by omega) (by omega), ← decide_not, ← Bool.decide_and, ← Bool.decide_or]
  apply decide_eq_decide.2
  by_cases hUc : en c d ≤ c
  · rw [if_pos hUc, if_pos hUc]; omega
  · rw [if_neg hUc, if_neg hUc]; omega

end Go.Proofs.Ytijkagfppeeegaa
