/- Terms never fall along a chain. -/
import Derived.Test.YtlpckhjmbfeegaaCs
import Derived.Test.YtlpckhjmbfeegaaCr
namespace Go.Proofs.Ytlpckhjmbfeegaa
open Go.RowKit
set_option maxRecDepth 20000
/-- The term of the last one. -/
def lastT : Nat → List It → Nat
  | a, [] => a
  | _, x :: l => lastT x.tm l
theorem up_app (a : Nat) (x y : List It) : up a (x ++ y) = (up a x && up (lastT a x) y) := by
  induction x generalizing a with
  | nil => simp [up, lastT]
  | cons z x ih => simp [up, lastT, ih, Bool.and_assoc]
theorem lastT_snoc (a : Nat) (x : List It) (z : It) : lastT a (x ++ [z]) = z.tm := by
  induction x generalizing a with
  | nil => rfl
  | cons y x ih => exact ih y.tm
theorem up_take {a : Nat} {l : List It} (h : up a l = true) (k : Nat) : up a (l.take k) = true := by
  have := up_app a (l.take k) (l.drop k)
  rw [List.take_append_drop, h] at this
  have h2 := this.symm
  rw [Bool.and_eq_true] at h2
  exact h2.1
theorem term_last {t : Cv} {k : Nat} (h1 : t.base ≤ k) (h2 : k ≤ t.last) : t.term k = lastT t.old (t.l.take (k - t.base)) := by
  unfold Cv.term Cv.tm
  by_cases hb : k = t.base
  · rw [if_pos hb, hb, Nat.sub_self]
    rfl
  · rw [if_neg hb]
    obtain ⟨x, hx, hx2⟩ := at_in (t := t) (i := k) (by omega) h2
    rw [hx]
    have hs : k - t.base = (k - t.base - 1) + 1 := by omega
    rw [hs, List.take_add_one, hx2]
    simp [lastT_snoc]
/-- Terms do not fall. -/
def Cv.rises (t : Cv) : Prop := up t.old t.l = true
theorem put_rises {t : Cv} {k : Nat} {l : List It} (h : t.rises) (h1 : t.base ≤ k) (h2 : k ≤ t.last) : (t.put k l).rises := by
  unfold Cv.put
  split
  · next hs =>
    unfold Cv.rises Cv.set
    show up t.old (t.l.take (k - t.base) ++ l) = true
    rw [up_app, up_take h, Bool.true_and, ← term_last h1 h2]
    unfold Cv.stop at hs
    split at hs
    · cases hs
    · split at hs
      · assumption
      · cases hs
  · exact h
theorem differ_le {t : Cv} {l : List It} : ∀ {k k' : Nat} {m : List It}, t.base ≤ k → k ≤ t.last → t.differ k l = some (k', m) → t.base ≤ k' ∧ k' ≤ t.last ∧ m.length ≤ l.length ∧ k' + m.length = k + l.length := by
  induction l with
  | nil => intro k k' m _ _ h; cases h
  | cons x l ih =>
    intro k k' m h1 h2 h
    unfold Cv.differ at h
    split at h
    · next hs =>
      obtain ⟨a, b, c, d⟩ := ih (by omega) (tm_le hs).2 h
      exact ⟨a, b, by simp only [List.length_cons]; omega, by simp only [List.length_cons]; omega⟩
    · cases h
      exact ⟨h1, h2, Nat.le_refl _, rfl⟩
theorem left_le {t : Cv} {prev term k : Nat} {l m : List It} (hm : t.meets prev term = true) (h : t.left prev l = some (k, m)) : t.base ≤ k ∧ k ≤ t.last ∧ k + m.length ≤ prev + l.length := by
  unfold Cv.left at h
  have hb : t.base ≤ t.last := by unfold Cv.last; omega
  have hp := meets_le hm
  obtain ⟨a, b, _, d⟩ := differ_le (by omega) (by omega) h
  refine ⟨a, b, ?_⟩
  rw [d, List.length_drop]
  have hne : l.drop (max prev t.base - prev) ≠ [] := by
    intro e
    rw [e] at h
    cases h
  have hlen : max prev t.base - prev < l.length := by
    rcases Nat.lt_or_ge (max prev t.base - prev) l.length with h1 | h1
    · exact h1
    · exact absurd (List.drop_eq_nil_of_le h1) hne
  omega
theorem take_rises {t : Cv} {prev term : Nat} {l : List It} (h : t.rises) : (t.take prev term l).rises := by
  unfold Cv.take
  split
  · next hm =>
    cases hl : t.left prev l with
    | none => exact h
    | some p =>
      obtain ⟨k, m⟩ := p
      obtain ⟨a, b, _⟩ := left_le hm hl
      exact put_rises h a b
  · exact h
theorem put_last {t : Cv} {k : Nat} {l : List It} (h1 : t.base ≤ k) (h2 : k ≤ t.last) : (t.put k l).last ≤ max t.last (k + l.length) := by
  unfold Cv.put
  split
  · unfold Cv.set Cv.last at *
    simp only [List.length_append, List.length_take]
    omega
  · omega
theorem take_last {t : Cv} {prev term : Nat} {l : List It} : (t.take prev term l).last ≤ t.last + l.length := by
  unfold Cv.take
  split
  · next hm =>
    cases hl : t.left prev l with
    | none => simp
    | some p =>
      obtain ⟨k, m⟩ := p
      obtain ⟨a, b, d⟩ := left_le hm hl
      have := put_last (l := m) a b
      have := meets_le hm
      simp only
      omega
  · omega
theorem add_last {t : Cv} {l : List It} : (t.put t.last l).last ≤ t.last + l.length := by
  have := put_last (t := t) (k := t.last) (l := l) (by unfold Cv.last; omega) (Nat.le_refl _)
  omega
end Go.Proofs.Ytlpckhjmbfeegaa
