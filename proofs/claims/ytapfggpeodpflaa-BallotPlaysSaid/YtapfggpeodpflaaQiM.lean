/- The sort's row of numbers; cmp.Less. slices.insertionSortOrdered. -/
import Derived.Test.YtapfggpeodpflaaQaM
import Derived.Sort.Defs
import Derived.BigRegion
import Derived.OwnWalk
import Derived.LoopN
namespace Go.Proofs.Ytapfggpeodpflaa.Qu
open Go.RowKit

def ltN (x y : Nat) : Bool := decide (x < y)
theorem nan_any (x : Int) (w : World) : Calls Try.prog 79 #[.int .i64 x] w fun e w' => e = .returned (.bool false) ∧ w = w' := by
  go_enter Try.func79, Try.ntmps79
  go_wp2
  go_ret
  exact ⟨by simp, rfl⟩
theorem less_any (x y : Nat) (w : World) : Calls Try.prog 61 #[.int .i64 (x : Int), .int .i64 (y : Int)] w fun e w' => e = .returned (.bool (ltN x y)) ∧ w = w' := by
  have hN := fun W x => nan_any x W
  unfold ltN
  by_cases h : x < y
  · have d : decide (x < y) = true := by simpa using h
    rw [d]
    go_enter Try.func61, Try.ntmps61
    go_wp2_with (go_at_call 79; (with_reducible refine (hN _ _).mono ?_); rintro e w3 ⟨rfl, rfl⟩)
    go_ret
    exact ⟨rfl, rfl⟩
  · have d : decide (x < y) = false := by simpa using h
    rw [d]
    go_enter Try.func61, Try.ntmps61
    go_wp2_with (go_at_call 79; (with_reducible refine (hN _ _).mono ?_); rintro e w3 ⟨rfl, rfl⟩)
    go_ret
    exact ⟨rfl, rfl⟩
/-- A row's beginning holds the numbers d. -/
structure Arr (w : World) (g : Nat) (d : Array Nat) : Prop where
  here : g < w.heap.size
  cell : ∀ i, i < d.size → w.cell? ⟨g, i, none⟩ = some (.int .i64 ((d[i]! : Nat) : Int))
  free : ∀ i, i < d.size → w.frozen? ⟨g, i, none⟩ = false
/-- The world behind a sort's part: row g alone has turned. -/
def Trn (w : World) (g : Nat) (w' : World) : Prop := w.grownBy w' (some g)
section
variable {w w1 w2 : World} {g : Nat} {d : Array Nat}
theorem Trn.refl (w : World) (g : Nat) : Trn w g w := World.grownBy.refl _ _
theorem Trn.trans (h : Trn w g w1) (k : Trn w1 g w2) : Trn w g w2 := by
  refine ⟨k.os.trans h.os, k.tape.trans h.tape, k.output.trans h.output, Nat.le_trans h.size k.size, fun i hi hne => ?_⟩
  exact (k.block i (Nat.lt_of_lt_of_le hi h.size) hne).trans (h.block i hi hne)
theorem Arr.drewN (h : Arr w g d) (n : Nat) : Arr (w.drewN n) g d := ⟨h.here, h.cell, h.free⟩
theorem Trn.drewN (h : Trn w g w1) (n : Nat) : Trn w g (w1.drewN n) := ⟨h.os, h.tape, h.output, h.size, h.block⟩
theorem Arr.below (h : Arr w g d) (hb : Below w.heap.size w w1) : Arr w1 g d :=
  ⟨Nat.lt_of_lt_of_le h.here hb.size, fun i hi => (hb.cell (p := ⟨g, i, none⟩) h.here).trans (h.cell i hi), fun i hi => (hb.frozen (p := ⟨g, i, none⟩) h.here).trans (h.free i hi)⟩
theorem Trn.below (h : Trn w g w1) (hb : Below w1.heap.size w1 w2) : Trn w g w2 :=
  ⟨hb.os.trans h.os, hb.tape.trans h.tape, hb.output.trans h.output, Nat.le_trans h.size hb.size, fun i hi hne => (hb.block i (Nat.lt_of_lt_of_le hi h.size)).trans (h.block i hi hne)⟩
theorem Arr.set (h : Arr w g d) {i : Nat} (hi : i < d.size) (x : Nat) : Arr (w.setCell ⟨g, i, none⟩ (.int .i64 (x : Int))) g (d.setIfInBounds i x) := by
  refine ⟨by simpa [World.setCell] using h.here, fun j hj => ?_, fun j hj => ?_⟩
  · rw [Array.size_setIfInBounds] at hj
    by_cases e : i = j
    · subst e
      rw [World.cell?_setCell_same w _ _ (h.cell i hi)]
      simp [hi]
    · rw [World.cell?_setCell_other w _ ⟨g, j, none⟩ _ (fun q => e (by cases q; rfl)), h.cell j hj]
      simp [Array.getElem!_eq_getD, Array.getD_eq_getD_getElem?, e]
  · rw [Array.size_setIfInBounds] at hj
    rw [World.frozen?_setCell]
    exact h.free j hj
theorem Trn.set (h : Trn w g w1) (i : Nat) (u : Value) : Trn w g (w1.setCell ⟨g, i, none⟩ u) :=
  ⟨h.os, h.tape, h.output, by simpa [World.setCell] using h.size, fun j hj hne => (Below.heap_setCell w1 ⟨g, i, none⟩ u j (fun e => hne (by rw [e]))).trans (h.block j hj hne)⟩
end
theorem swp_size (d : Array Nat) (i j : Nat) : (Go.Sort.swp d i j).size = d.size := by simp [Go.Sort.swp]
theorem Arr.swp {w : World} {g : Nat} {d : Array Nat} (h : Arr w g d) {i j : Nat} (hi : i < d.size) (hj : j < d.size) :
    Arr ((w.setCell ⟨g, i, none⟩ (.int .i64 ((d[j]! : Nat) : Int))).setCell ⟨g, j, none⟩ (.int .i64 ((d[i]! : Nat) : Int))) g (Go.Sort.swp d i j) :=
  (h.set hi _).set (by simpa using hj) _
end Go.Proofs.Ytapfggpeodpflaa.Qu

namespace Go.Proofs.Ytapfggpeodpflaa.Qu
open Go.RowKit
open Go.Sort (insInner insOuter insertionSort swp)

theorem inner_size (lt : Nat → Nat → Bool) (a : Nat) : ∀ (j : Nat) (d : Array Nat), (insInner lt a j d).size = d.size
  | 0, _ => rfl
  | j + 1, d => by
    unfold insInner
    split
    · rw [inner_size lt a j, swp_size]
    · rfl
theorem outer_step {lt : Nat → Nat → Bool} {a b i : Nat} {d : Array Nat} (h : i < b) : insOuter lt a b i d = insOuter lt a b (i + 1) (insInner lt a i d) := by
  rw [insOuter, if_pos h]
theorem outer_end {lt : Nat → Nat → Bool} {a b i : Nat} {d : Array Nat} (h : ¬ i < b) : insOuter lt a b i d = d := by
  rw [insOuter, if_neg h]
/-- What is left to be done in the inner loop. -/
def InnL (w : World) (g n a : Nat) (D : Array Nat) (j : Nat) (wr : World) : Prop := ∃ d, Arr wr g d ∧ d.size = n ∧ Trn w g wr ∧ insInner ltN a j d = D
def OutL (w : World) (g n a b : Nat) (D : Array Nat) (i : Nat) (wr : World) : Prop := ∃ d, Arr wr g d ∧ d.size = n ∧ Trn w g wr ∧ insOuter ltN a b i d = D
set_option maxHeartbeats 2000000 in
theorem ins_any {w : World} {g n c : Nat} {d : Array Nat} (a b : Nat) (h : Arr w g d) (hd : d.size = n) (hab : a ≤ b) (hb : b ≤ n) (hn : n ≤ 1000000) :
    Calls Try.prog 55 #[.slice (some ⟨g, 0, none⟩) n c, .int .i64 (a : Int), .int .i64 (b : Int)] w fun e w' => e = .returned (.tuple #[]) ∧ Arr w' g (insertionSort ltN d a b) ∧ Trn w g w' := by
  have hL := fun W x y => less_any x y W
  have H0 := Lib.hid (show OutL w g n a b (insertionSort ltN d a b) (a + 1) w from ⟨d, h, hd, Trn.refl w g, rfl⟩)
  generalize insertionSort ltN d a b = D at *
  clear h hd
  go_enter Try.func55, Try.ntmps55
  go_wp2_with (fail)
  go_loopw [6] (fun ir wr => ∃ i : Nat, i ≤ n + 1 ∧ a < i ∧ ir = .int .i64 (i : Int) ∧ Hid (OutL w g n a b D i wr)) (fun ir _ => n + 1 - (intOf ir).toNat)
  case atStart => exact ⟨a + 1, by omega, by omega, by go_num, H0⟩
  case round =>
    clear H0
    obtain ⟨i, hi, hai, rfl, HO⟩ := hrel
    by_cases hlt : i < b
    · obtain ⟨d0, ha0, hs0, ht0, he0⟩ := HO.out
      have hI : Hid (InnL w g n a (insInner ltN a i d0) i wr) := Lib.hid ⟨d0, ha0, hs0, ht0, rfl⟩
      have HE := Lib.hid (show insOuter ltN a b (i + 1) (insInner ltN a i d0) = D by rw [← outer_step hlt]; exact he0)
      generalize insInner ltN a i d0 = D1 at *
      have d1 : decide (i < b) = true := by simpa using hlt
      have HLT := Lib.hid hlt
      clear ha0 hs0 ht0 he0 HO hlt d0
      obtain ⟨wo, rfl⟩ : ∃ wo : World, wo = wr := ⟨_, rfl⟩
      go_wp2_with (fail)
      go_loopw [7] (fun jr wr => ∃ j : Nat, j ≤ i ∧ jr = .int .i64 (j : Int) ∧ Hid (InnL w g n a D1 j wr)) (fun jr _ => (intOf jr).toNat)
      case atStart => exact ⟨i, Nat.le_refl _, rfl, hI⟩
      case round =>
        obtain ⟨j, hj, rfl, HI⟩ := hrel
        obtain ⟨d2, ha2, hs2, ht2, he2⟩ := HI.out
        clear HI
        have hjn : j < n := by have := HLT.out; omega
        by_cases hja : a < j
        · obtain ⟨k, rfl⟩ : ∃ k, j = k + 1 := ⟨j - 1, by omega⟩
          have c0 := ha2.cell (k + 1) (by omega)
          have c1 := ha2.cell k (by omega)
          have z0 := ha2.free (k + 1) (by omega)
          have z1 := ha2.free k (by omega)
          have e3 : (0 : Int) ≤ (k : Int) := by omega
          have e6 : (k : Int) ≤ 1000000 := by omega
          have d2' : decide ((a : Int) < (k : Int) + 1) = true := by simp; omega
          have d3' : decide (a < k + 1) = true := by simp; omega
          have e4 : (k : Int) < (n : Int) := by omega
          have e5 : (k : Int) + 1 < (n : Int) := by omega
          have e7 : k + 1 < n := hjn
          have e8 : k < n := by omega
          have hstep : insInner ltN a (k + 1) d2 = if ltN d2[k + 1]! d2[k]! = true then insInner ltN a k (swp d2 (k + 1) k) else d2 := by
            rw [insInner]
            simp [hja]
          have HA2 := Lib.hid ha2
          have HT2 := Lib.hid ht2
          have HE2 := Lib.hid he2
          have HS2 := Lib.hid hs2
          have HST := Lib.hid hstep
          have HSW := Lib.hid (fun m => (ha2.drewN m).swp (i := k + 1) (j := k) (by omega) (by omega))
          have hq := fun W => less_any d2[k + 1]! d2[k]! W
          have HJA := Lib.hid hja
          have HJ := Lib.hid hj
          clear ha2 ht2 he2 hs2 hstep hja hj hjn
          generalize d2[k + 1]! = x at *
          generalize d2[k]! = y at *
          cases hb : ltN x y with
          | false =>
            rw [hb] at hq HST
            clear hb
            have hq := fun W => (hq W).mono (fun e w' h => (⟨h.1, h.2.symm⟩ : e = _ ∧ w' = W))
            go_wp2_with (fail)
            go_quiet ((go_at_call 61; exact Calls.quiet_of_same (hq _)))
            go_wp2
            go_roundw
            case rel => exact ⟨i + 1, by have := HLT.out; omega, by omega, by go_num, Lib.hid ⟨d2, HA2.out.drewN _, HS2.out, HT2.out.drewN _, by rw [← HE.out, ← HE2.out, HST.out]; rfl⟩⟩
            case measure => have := HLT.out; simp [intOf]; omega
          | true =>
            rw [hb] at hq HST
            clear hb
            have hq := fun W => (hq W).mono (fun e w' h => (⟨h.1, h.2.symm⟩ : e = _ ∧ w' = W))
            go_wp2_with (fail)
            go_quiet ((go_at_call 61; exact Calls.quiet_of_same (hq _)))
            go_wp2
            go_big_region
            all_goals go_wp2
            all_goals go_roundw
            case rel => exact ⟨k, by have := HJ.out; omega, rfl, Lib.hid ⟨_, HSW.out _, by rw [swp_size]; exact HS2.out, ((HT2.out.drewN _).set _ _).set _ _, by rw [← HE2.out, HST.out]; rfl⟩⟩
            case measure => simp [intOf]
        · have hna : decide ((a : Int) < (j : Int)) = false := by simp; omega
          have hna2 : decide (a < j) = false := by simp; omega
          have hna3 : insInner ltN a j d2 = d2 := by
            cases j with
            | zero => rfl
            | succ k => rw [insInner]; simp; omega
          have HNA := Lib.hid hna3
          have HA2 := Lib.hid ha2
          have HT2 := Lib.hid ht2
          have HE2 := Lib.hid he2
          have HS2 := Lib.hid hs2
          clear ha2 ht2 he2 hs2 hja hj hjn hna3
          go_wp2_with (fail)
          go_quiet (fail)
          go_wp2
          go_roundw
          case rel => exact ⟨i + 1, by have := HLT.out; omega, by omega, by go_num, Lib.hid ⟨d2, HA2.out.drewN _, HS2.out, HT2.out.drewN _, by rw [← HE.out, ← HE2.out, HNA.out]⟩⟩
          case measure => have := HLT.out; simp [intOf]; omega
    · obtain ⟨d0, ha0, hs0, ht0, he0⟩ := HO.out
      have hD : d0 = D := by rw [← he0, outer_end hlt]
      subst hD
      have HA2 := Lib.hid ha0
      have HT2 := Lib.hid ht0
      have d1 : decide (i < b) = false := by simpa using hlt
      clear ha0 ht0 he0 hs0 HO hlt
      go_wp2_with (fail)
      go_end0
      exact ⟨rfl, HA2.out, HT2.out⟩
end Go.Proofs.Ytapfggpeodpflaa.Qu
