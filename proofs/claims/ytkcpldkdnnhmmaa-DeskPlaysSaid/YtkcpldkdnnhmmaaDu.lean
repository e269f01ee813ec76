/- How many wait behind a call; no read of a request waits twice. -/
import Derived.Test.YtkcpldkdnnhmmaaDb
namespace Go.Proofs.Ytkcpldkdnnhmmaa
open Go.RowKit

/-- No read of a request waits twice. -/
def Uq (l : List Wt) : Prop := ∀ c r, (l.filter (Wt.rdr c r)).length ≤ 1
theorem Uq.nil : Uq [] := fun _ _ => Nat.zero_le _
theorem Uq.filter {l : List Wt} (h : Uq l) (p : Wt → Bool) : Uq (l.filter p) := fun c r => by
  rw [List.filter_filter]
  refine Nat.le_trans ?_ (h c r)
  rw [← List.countP_eq_length_filter, ← List.countP_eq_length_filter]
  exact List.countP_mono_left (fun x _ hx => by simp only [Bool.and_eq_true] at hx; exact hx.1)
theorem part_len (l : List Wt) (p : Wt → Bool) : (l.filter p).length + (l.filter fun x => !p x).length = l.length := by
  induction l with
  | nil => rfl
  | cons x l ih =>
    cases hp : p x <;> simp [hp] <;> omega
theorem Uq.app {l : List Wt} {x : Wt} (h : Uq l) (hx : ∀ c r, x.rdr c r = true → l.filter (Wt.rdr c r) = []) : Uq (l ++ [x]) := fun c r => by
  rw [List.filter_append]
  cases hc : x.rdr c r with
  | false => simp only [List.filter_cons, hc, List.filter_nil, Bool.false_eq_true, if_false, List.append_nil]; exact h c r
  | true => rw [hx c r hc]; simp [hc]
theorem write_uq {t : Dk} (h : Uq t.l) (c r i : Nat) : Uq (t.write c r i).l := by
  unfold Dk.write
  by_cases h0 : i = 0
  · rw [if_pos h0]; exact h
  · rw [if_neg h0]
    split
    · exact h
    · split
      · exact h
      · refine h.app fun c' r' hx => ?_
        unfold Wt.rdr Wt.isRead at hx
        simp [h0] at hx
theorem write_len (t : Dk) (c r i : Nat) : t.l.length ≤ (t.write c r i).l.length ∧ (t.write c r i).l.length ≤ t.l.length + 1 := by
  unfold Dk.write
  split
  · exact ⟨Nat.le_refl _, by omega⟩
  · split
    · exact ⟨Nat.le_refl _, by omega⟩
    · split
      · exact ⟨Nat.le_refl _, by omega⟩
      · show t.l.length ≤ (t.l ++ _).length ∧ (t.l ++ _).length ≤ _
        rw [List.length_append]
        simp
theorem without_len {t : Dk} (h : Uq t.l) (c r : Nat) : t.l.length ≤ (t.without c r).l.length + 1 ∧ (t.without c r).l.length ≤ t.l.length := by
  have h1 := part_len t.l (Wt.rdr c r)
  have h2 := h c r
  have e : (t.without c r).l = t.l.filter fun x => !x.rdr c r := rfl
  rw [e]
  omega
theorem rdr_same {x : Wt} {c r c' r' : Nat} (h : x.rdr c r = true) (h' : x.rdr c' r' = true) : c = c' ∧ r = r' := by
  unfold Wt.rdr Wt.isOf at h h'
  simp only [Bool.and_eq_true, decide_eq_true_eq] at h h'
  omega
theorem read_uq {t : Dk} (h : Uq t.l) (c r f k : Nat) : Uq (t.read c r f k).l := by
  unfold Dk.read
  have hw : Uq (t.without c r).l := h.filter _
  split
  · exact hw
  · refine Uq.app hw fun c' r' hx => ?_
    have hx0 : Wt.rdr c r ⟨c, r, 0, f, k, t.round + 1⟩ = true := by unfold Wt.rdr Wt.isRead Wt.isOf; simp
    obtain ⟨rfl, rfl⟩ := rdr_same hx0 hx
    show (t.l.filter fun x => !x.rdr c r).filter (Wt.rdr c r) = []
    rw [List.filter_filter, List.filter_eq_nil_iff]
    intro x _ hx
    simp at hx
theorem read_len {t : Dk} (h : Uq t.l) (c r f k : Nat) : t.l.length ≤ (t.read c r f k).l.length + 1 ∧ (t.read c r f k).l.length ≤ t.l.length + 1 := by
  have hw := without_len h c r
  unfold Dk.read
  split
  · omega
  · show t.l.length ≤ ((t.without c r).l ++ _).length + 1 ∧ ((t.without c r).l ++ _).length ≤ _
    rw [List.length_append]
    simp
    omega
theorem read_round (t : Dk) (c r f k : Nat) : t.round ≤ (t.read c r f k).round ∧ (t.read c r f k).round ≤ t.round + 1 := by
  unfold Dk.read
  split
  · exact ⟨Nat.le_refl _, Nat.le_succ _⟩
  · exact ⟨Nat.le_succ _, Nat.le_refl _⟩
theorem write_round (t : Dk) (c r i : Nat) : (t.write c r i).round = t.round := by unfold Dk.write; split <;> (try split) <;> (try split) <;> rfl
theorem hearN_l (t : Dk) (node : Int) (r : Nat) : (t.hearN node r).l = t.l ∧ (t.hearN node r).round = t.round ∧ (t.hearN node r).n = t.n ∧ (t.hearN node r).self = t.self := by
  unfold Dk.hearN
  split <;> exact ⟨rfl, rfl, rfl, rfl⟩
end Go.Proofs.Ytkcpldkdnnhmmaa
