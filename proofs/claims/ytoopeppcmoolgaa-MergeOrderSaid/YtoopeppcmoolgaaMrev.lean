/- The best one, whatever the order of the lists. -/
import Derived.Test.YtoopeppcmoolgaaMkeep
namespace Go.Proofs.Ytoopeppcmoolgaa
open Go.RowKit
set_option maxRecDepth 20000

theorem fold_max {V : En → Bool} {ix : Nat} : ∀ (l : List En) (o : Option En), (∀ b, o = some b → ∃ b', l.foldl (bstep V ix) o = some b' ∧ b.tm ≤ b'.tm) ∧ (∀ e ∈ l, e.ix = ix → V e = false → ∃ b, l.foldl (bstep V ix) o = some b ∧ e.tm ≤ b.tm) := by
  intro l
  induction l with
  | nil => intro o; exact ⟨fun b hb => ⟨b, hb, Nat.le_refl _⟩, fun e he => by cases he⟩
  | cons x l ih =>
    intro o
    obtain ⟨h1, h2⟩ := ih (bstep V ix o x)
    have hstep : ∀ b, o = some b → ∃ b', bstep V ix o x = some b' ∧ b.tm ≤ b'.tm := fun b hb => by
      subst hb
      unfold bstep
      by_cases hc : btr V ix (some b) x = true
      · rw [if_pos hc]
        unfold btr at hc
        simp only [Bool.and_eq_true, decide_eq_true_eq] at hc
        exact ⟨x, rfl, Nat.le_of_lt hc.2.1⟩
      · rw [if_neg hc]
        exact ⟨b, rfl, Nat.le_refl _⟩
    refine ⟨fun b hb => ?_, fun e he hi hv => ?_⟩
    · obtain ⟨b', hb', hle⟩ := hstep b hb
      obtain ⟨b2, hb2, hle2⟩ := h1 b' hb'
      exact ⟨b2, hb2, Nat.le_trans hle hle2⟩
    · rcases List.mem_cons.1 he with rfl | he
      · have : ∃ b', bstep V ix o e = some b' ∧ e.tm ≤ b'.tm := by
          cases ho : o with
          | none =>
            refine ⟨e, ?_, Nat.le_refl _⟩
            unfold bstep btr
            simp [hi, hv]
          | some b =>
            unfold bstep
            by_cases hc : btr V ix (some b) e = true
            · rw [if_pos hc]; exact ⟨e, rfl, Nat.le_refl _⟩
            · rw [if_neg hc]
              refine ⟨b, rfl, ?_⟩
              unfold btr at hc
              simp [hi, hv] at hc
              exact hc
        obtain ⟨b', hb', hle⟩ := this
        obtain ⟨b2, hb2, hle2⟩ := h1 b' hb'
        exact ⟨b2, hb2, Nat.le_trans hle hle2⟩
      · exact h2 e he hi hv
theorem flat_rev (Ls : List Li) (e : En) : e ∈ flat Ls.reverse ↔ e ∈ flat Ls := by
  unfold flat
  simp only [List.mem_flatMap, List.mem_reverse]
theorem vd_rev (Ls : List Li) : vd (flat Ls.reverse) = vd (flat Ls) := by
  funext x
  unfold vd
  rw [Bool.eq_iff_iff]
  simp only [List.any_eq_true, flat_rev]
/-- Two that are of one index and one term are alike. -/
def Agree (Ls : List Li) : Prop := ∀ e ∈ flat Ls, ∀ x ∈ flat Ls, e.ix = x.ix → e.tm = x.tm → e.alike x = true
theorem rev_none {Ls : List Li} {ix : Nat} : bst Ls.reverse ix = none ↔ bst Ls ix = none := by
  have main : ∀ K M : List Li, (∀ e, e ∈ flat M → e ∈ flat K) → vd (flat K) = vd (flat M) → bst K ix = none → bst M ix = none := by
    intro K M hm hv hn
    cases h : bst M ix with
    | none => rfl
    | some e =>
      obtain ⟨h1, h2⟩ := bestOf_ix h
      obtain ⟨b, hb, _⟩ := (fold_max (V := vd (flat K)) (ix := ix) (flat K) none).2 e (hm e (bestOf_mem h)) h1 (by rw [hv]; exact h2)
      unfold bst bestOf at hn
      rw [hn] at hb
      cases hb
  exact ⟨main _ _ (fun e he => (flat_rev Ls e).2 he) (vd_rev Ls), main _ _ (fun e he => (flat_rev Ls e).1 he) (vd_rev Ls).symm⟩
theorem rev_some {Ls : List Li} (ha : Agree Ls) {ix : Nat} {a b : En} (h1 : bst Ls ix = some a) (h2 : bst Ls.reverse ix = some b) : a.alike b = true := by
  obtain ⟨i1, v1⟩ := bestOf_ix h1
  obtain ⟨i2, v2⟩ := bestOf_ix h2
  rw [vd_rev] at v2
  have m2 := (flat_rev Ls b).1 (bestOf_mem h2)
  obtain ⟨a', ha', t1⟩ := (fold_max (V := vd (flat Ls)) (ix := ix) (flat Ls) none).2 b m2 i2 v2
  obtain ⟨b', hb', t2⟩ := (fold_max (V := vd (flat Ls.reverse)) (ix := ix) (flat Ls.reverse) none).2 a ((flat_rev Ls a).2 (bestOf_mem h1)) i1 (by rw [vd_rev]; exact v1)
  have e1 : a' = a := by have := ha'.symm.trans h1; exact Option.some.inj this
  have e2 : b' = b := by have := hb'.symm.trans h2; exact Option.some.inj this
  subst e1 e2
  exact ha _ (bestOf_mem h1) _ m2 (by rw [i1, i2]) (by omega)
theorem rev_has {Ls : List Li} {base : Nat} : hasE Ls.reverse base = hasE Ls base := by
  funext j
  unfold hasE
  have h := rev_none (Ls := Ls) (ix := base + 1 + j)
  cases h1 : bst Ls (base + 1 + j) with
  | none => rw [h.2 h1]
  | some a =>
    cases h2 : bst Ls.reverse (base + 1 + j) with
    | none => rw [h.1 h2] at h1; cases h1
    | some b => rfl
theorem alike_refl (e : En) : e.alike e = true := by unfold En.alike; simp
theorem rev_src {Ls : List Li} (ha : Agree Ls) (base j : Nat) : (srcE Ls base j).alike (srcE Ls.reverse base j) = true := by
  unfold srcE
  cases h1 : bst Ls (base + 1 + j) with
  | none => rw [rev_none.2 h1]; exact alike_refl _
  | some a =>
    cases h2 : bst Ls.reverse (base + 1 + j) with
    | none => rw [rev_none.1 h2] at h1; cases h1
    | some b => exact rev_some ha h1 h2
theorem rev_goes {Ls : List Li} (ha : Agree Ls) (base term : Nat) (m : Int) (H j : Nat) (A A' : Option Addr) (c c' : Nat) : ((goes base term m Ls H j).put A c).alike ((goes base term m Ls.reverse H j).put A' c') = true := by
  have h := rev_src ha base j
  unfold En.alike at h ⊢
  simp only [Bool.and_eq_true, decide_eq_true_eq] at h ⊢
  obtain ⟨h1, h2, h3⟩ := h
  exact ⟨h1, by unfold En.look at h2 ⊢; exact h2, h3⟩
end Go.Proofs.Ytoopeppcmoolgaa
