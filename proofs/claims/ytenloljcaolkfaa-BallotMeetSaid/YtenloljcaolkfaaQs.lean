/- The sort's row of numbers; cmp.Less. -/
import Derived.Test.YtenloljcaolkfaaQa
import Derived.Sort.Defs
import Derived.BigRegion
import Derived.OwnWalk
import Derived.LoopN
namespace Go.Proofs.Ytenloljcaolkfaa.Qu
open Go.RowKit

def ltN (x y : Nat) : Bool := decide (x < y)
theorem nan_any (x : Int) (w : World) : Calls Try.prog 79 #[.int .i64 x] w fun e w' => e = .returned (.bool false) ∧ w = w' := by
  go_enter Try.func79, Try.ntmps79
  go_wp2
  go_ret
  exact ⟨by simp, rfl⟩
theorem less_any (x y : Nat) (w : World) : Calls Try.prog 61 #[.int .i64 (x : Int), .int .i64 (y : Int)] w fun e w' => e = .returned (.bool (ltN x y)) ∧ w = w' := by
  have hN := fun W x => nan_any x W
  unfold ltN
  by_cases h : x < y
  · have d : decide (x < y) = true := by simpa using h
    rw [d]
    go_enter Try.func61, Try.ntmps61
    go_wp2_with (go_at_call 79; (with_reducible refine (hN _ _).mono ?_); rintro e w3 ⟨rfl, rfl⟩)
    go_ret
    exact ⟨rfl, rfl⟩
  · have d : decide (x < y) = false := by simpa using h
    rw [d]
    go_enter Try.func61, Try.ntmps61
    go_wp2_with (go_at_call 79; (with_reducible refine (hN _ _).mono ?_); rintro e w3 ⟨rfl, rfl⟩)
    go_ret
    exact ⟨rfl, rfl⟩
/-- A row's beginning holds the numbers d. -/
structure Arr (w : World) (g : Nat) (d : Array Nat) : Prop where
  here : g < w.heap.size
  cell : ∀ i, i < d.size → w.cell? ⟨g, i, none⟩ = some (.int .i64 ((d[i]! : Nat) : Int))
  free : ∀ i, i < d.size → w.frozen? ⟨g, i, none⟩ = false
/-- The world behind a sort's part: row g alone has turned. -/
def Trn (w : World) (g : Nat) (w' : World) : Prop := w.grownBy w' (some g)
section
variable {w w1 w2 : World} {g : Nat} {d : Array Nat}
theorem Trn.refl (w : World) (g : Nat) : Trn w g w := World.grownBy.refl _ _
theorem Trn.trans (h : Trn w g w1) (k : Trn w1 g w2) : Trn w g w2 := by
  refine ⟨k.os.trans h.os, k.tape.trans h.tape, k.output.trans h.output, Nat.le_trans h.size k.size, fun i hi hne => ?_⟩
  exact (k.block i (Nat.lt_of_lt_of_le hi h.size) hne).trans (h.block i hi hne)
theorem Arr.drewN (h : Arr w g d) (n : Nat) : Arr (w.drewN n) g d := ⟨h.here, h.cell, h.free⟩
theorem Trn.drewN (h : Trn w g w1) (n : Nat) : Trn w g (w1.drewN n) := ⟨h.os, h.tape, h.output, h.size, h.block⟩
theorem Arr.below (h : Arr w g d) (hb : Below w.heap.size w w1) : Arr w1 g d :=
  ⟨Nat.lt_of_lt_of_le h.here hb.size, fun i hi => (hb.cell (p := ⟨g, i, none⟩) h.here).trans (h.cell i hi), fun i hi => (hb.frozen (p := ⟨g, i, none⟩) h.here).trans (h.free i hi)⟩
theorem Trn.below (h : Trn w g w1) (hb : Below w1.heap.size w1 w2) : Trn w g w2 :=
  ⟨hb.os.trans h.os, hb.tape.trans h.tape, hb.output.trans h.output, Nat.le_trans h.size hb.size, fun i hi hne => (hb.block i (Nat.lt_of_lt_of_le hi h.size)).trans (h.block i hi hne)⟩
theorem Arr.set (h : Arr w g d) {i : Nat} (hi : i < d.size) (x : Nat) : Arr (w.setCell ⟨g, i, none⟩ (.int .i64 (x : Int))) g (d.setIfInBounds i x) := by
  refine ⟨by simpa [World.setCell] using h.here, fun j hj => ?_, fun j hj => ?_⟩
  · rw [Array.size_setIfInBounds] at hj
    by_cases e : i = j
    · subst e
      rw [World.cell?_setCell_same w _ _ (h.cell i hi)]
      simp [hi]
    · rw [World.cell?_setCell_other w _ ⟨g, j, none⟩ _ (fun q => e (by cases q; rfl)), h.cell j hj]
      simp [Array.getElem!_eq_getD, Array.getD_eq_getD_getElem?, e]
  · rw [Array.size_setIfInBounds] at hj
    rw [World.frozen?_setCell]
    exact h.free j hj
theorem Trn.set (h : Trn w g w1) (i : Nat) (u : Value) : Trn w g (w1.setCell ⟨g, i, none⟩ u) :=
  ⟨h.os, h.tape, h.output, by simpa [World.setCell] using h.size, fun j hj hne => (Below.heap_setCell w1 ⟨g, i, none⟩ u j (fun e => hne (by rw [e]))).trans (h.block j hj hne)⟩
end
theorem swp_size (d : Array Nat) (i j : Nat) : (Go.Sort.swp d i j).size = d.size := by simp [Go.Sort.swp]
theorem Arr.swp {w : World} {g : Nat} {d : Array Nat} (h : Arr w g d) {i j : Nat} (hi : i < d.size) (hj : j < d.size) :
    Arr ((w.setCell ⟨g, i, none⟩ (.int .i64 ((d[j]! : Nat) : Int))).setCell ⟨g, j, none⟩ (.int .i64 ((d[i]! : Nat) : Int))) g (Go.Sort.swp d i j) :=
  (h.set hi _).set (by simpa using hj) _
end Go.Proofs.Ytenloljcaolkfaa.Qu
