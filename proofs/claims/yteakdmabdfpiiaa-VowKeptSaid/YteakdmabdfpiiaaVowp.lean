/- A round of calls of a vow, by numbers alone. -/
import Derived.Test.YteakdmabdfpiiaaVownext
namespace Go.Proofs.Yteakdmabdfpiiaa
set_option maxRecDepth 20000
open Go.RowKit

theorem and1_i64 (k : Int) : bits .and .i64 k 1 = 0 ∨ bits .and .i64 k 1 = 1 := by
  show IntKind.i64.wrap ((BitVec.ofInt 64 k &&& BitVec.ofInt 64 1).toNat : Int) = 0 ∨ IntKind.i64.wrap ((BitVec.ofInt 64 k &&& BitVec.ofInt 64 1).toNat : Int) = 1
  rw [BitVec.toNat_and, show (BitVec.ofInt 64 1).toNat = 1 from by decide, Nat.and_one_is_mod]
  rcases Nat.mod_two_eq_zero_or_one (BitVec.ofInt 64 k).toNat with h | h
  · rw [h]; left; decide
  · rw [h]; right; decide
/-- What a call comes to while no power is lost. -/
def res (p : Vv) : Sum Int Vv → Vv × Int
  | .inl e => (p, e)
  | .inr q => (q, 0)
/-- What may be saved. -/
def Small : Sum Int Vv → Prop
  | .inl _ => True
  | .inr q => q.vote ≤ 7 ∧ q.term < 18446744073709551616
theorem raised_small (p : Vv) (x : Nat) : Small (p.raised x) := by
  unfold Vv.raised
  split
  · trivial
  · split
    · trivial
    · split
      · trivial
      · exact ⟨Nat.zero_le _, by show x < _; omega⟩
theorem casted_small (p : Vv) (x : Nat) (n : Int) : Small (p.casted x n) := by
  unfold Vv.casted
  split
  · trivial
  · split
    · trivial
    · split
      · trivial
      · split
        · trivial
        · exact ⟨by show n.toNat + 1 ≤ 7; omega, by show x < _; omega⟩
theorem good_step {base : Int} {d : Dv} {t : Tv} {p : Vv} (h : Good base d t p) (hf : d.fuse = 0) (hx : t.next < 255) (o : Sum Int Vv) (ho : Small o) :
    Good base (vstep d t p o).1 (vstep d t p o).2.1 (res p o).1 ∧ (vstep d t p o).1.fuse = 0 ∧ (vstep d t p o).2.2.1 = (res p o).1 ∧ (vstep d t p o).2.2.2 = (res p o).2 ∧ (vstep d t p o).2.1.next ≤ t.next + 1 ∧ (vstep d t p o).1.n = d.n := by
  cases o with
  | inl e => exact ⟨h, hf, rfl, rfl, Nat.le_succ _, rfl⟩
  | inr q =>
    obtain ⟨g1, g2, g3, g4, g5, g6⟩ := good_calm h hf hx ho.1 ho.2
    exact ⟨g1, g2, g4, g3, Nat.le_of_eq g5, g6⟩
theorem node_zero (x : Nat) : (⟨x, 0⟩ : Vv).node = -1 := rfl
theorem node_succ (x m : Nat) : (⟨x, m + 1⟩ : Vv).node = (m : Int) := by
  unfold Vv.node
  rw [if_neg (by simp)]
  show ((m + 1 : Nat) : Int) - 1 = _
  omega
/-- Raise alone. -/
theorem plays_raise (p : Vv) (x : Nat) (nd : Int) : nextP p.term p.node 0 x nd = ((res p (p.raised x)).1.term, (res p (p.raised x)).1.node, (res p (p.raised x)).2) := by
  unfold nextP Vv.raised
  by_cases h1 : 4611686018427387904 < x
  · rw [if_pos (.inl h1), if_pos h1]; rfl
  · rw [if_neg (by omega), if_neg h1]
    by_cases h2 : x < p.term
    · rw [if_pos h2, if_pos h2]; rfl
    · rw [if_neg h2, if_neg h2, if_neg (by omega), if_neg (by decide)]
      by_cases h3 : x = p.term
      · rw [if_neg (by omega), if_pos h3]; rfl
      · rw [if_pos (by omega), if_neg h3]; rfl
/-- A vote behind it. -/
theorem plays_cast (p : Vv) (x : Nat) (nd : Int) : (if p.term < x ∧ x ≤ 4611686018427387904 then nextP x (-1) 1 x nd else nextP p.term p.node 1 x nd) =
    ((res (res p (p.raised x)).1 ((res p (p.raised x)).1.casted x nd)).1.term, (res (res p (p.raised x)).1 ((res p (p.raised x)).1.casted x nd)).1.node, (res (res p (p.raised x)).1 ((res p (p.raised x)).1.casted x nd)).2) := by
  by_cases h1 : 4611686018427387904 < x
  · have e : res p (p.raised x) = (p, 30) := by unfold Vv.raised; rw [if_pos h1]; rfl
    rw [if_neg (by omega), e]
    unfold nextP Vv.casted
    rw [if_pos (.inl h1), if_pos (.inl h1)]; rfl
  · by_cases h2 : p.term < x
    · have e : res p (p.raised x) = (⟨x, 0⟩, 0) := by unfold Vv.raised; rw [if_neg h1, if_neg (by omega), if_neg (by omega)]; rfl
      rw [if_pos (by omega), e]
      unfold nextP Vv.casted
      dsimp only
      by_cases h3 : nd < 0 ∨ 7 ≤ nd
      · rw [if_pos (.inr ⟨rfl, h3⟩), if_pos (.inr h3)]; rfl
      · rw [if_neg (by omega), if_neg (Nat.lt_irrefl _), if_neg (by omega), if_pos rfl, if_neg (by omega), if_neg (Nat.lt_irrefl _), if_neg (by omega), if_neg (by simp)]
        show (x, nd, (0 : Int)) = (x, (⟨x, nd.toNat + 1⟩ : Vv).node, 0)
        rw [node_succ, Int.toNat_of_nonneg (by omega)]
    · have e : (res p (p.raised x)).1 = p := by
        unfold Vv.raised
        rw [if_neg h1]
        by_cases h4 : x < p.term
        · rw [if_pos h4]; rfl
        · rw [if_neg h4, if_pos (by omega)]; rfl
      rw [if_neg (by omega), e]
      unfold nextP Vv.casted
      by_cases h3 : nd < 0 ∨ 7 ≤ nd
      · rw [if_pos (.inr ⟨rfl, h3⟩), if_pos (.inr h3)]; rfl
      · rw [if_neg (by omega), if_neg (by omega : ¬ (4611686018427387904 < x ∨ nd < 0 ∨ 7 ≤ nd))]
        by_cases h4 : x < p.term
        · rw [if_pos h4, if_pos h4]; rfl
        · rw [if_neg h4, if_neg h4]
          have hxe : x = p.term := by omega
          have hnd := Int.toNat_of_nonneg (show 0 ≤ nd by omega)
          by_cases h5 : p.vote = 0
          · have hn : p.node = -1 := by unfold Vv.node; rw [if_pos h5]
            rw [hn, if_neg (by omega), if_pos rfl, if_neg (by omega), if_neg (by omega)]
            show (x, nd, (0 : Int)) = (x, (⟨x, nd.toNat + 1⟩ : Vv).node, 0)
            rw [node_succ, hnd]
          · have hn : p.node = (p.vote : Int) - 1 := by unfold Vv.node; rw [if_neg h5]
            by_cases h6 : nd.toNat + 1 = p.vote
            · have hne : p.node = nd := by omega
              rw [if_neg (by omega), if_pos rfl, if_pos ⟨hxe, h6⟩]
              show (x, nd, (0 : Int)) = (p.term, p.node, 0)
              rw [hne, hxe]
            · rw [if_pos ⟨rfl, hxe, by omega, by omega⟩, if_neg (by omega), if_pos ⟨hxe, h5⟩]; rfl
end Go.Proofs.Yteakdmabdfpiiaa
