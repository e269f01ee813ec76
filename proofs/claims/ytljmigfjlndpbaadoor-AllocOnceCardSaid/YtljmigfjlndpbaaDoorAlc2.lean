/- Contracts of package alloc: Len, Has, Hold, Give; and of nil. -/
import Derived.Test.YtljmigfjlndpbaaDoorAlc
namespace Go.Proofs.YtljmigfjlndpbaaDoor
open Go.RowKit

def inA (a : Av) (i : Int) : Bool := decide (0 ≤ i ∧ i < a.n)
def Av.has (a : Av) (i : Int) : Bool := inA a i && !bitAt a.ws i.toNat
def Av.hold (a : Av) (i : Int) : Int × Av := if inA a i = false then (30, a) else if bitAt a.ws i.toNat = false then (41, a) else (0, a.flip i.toNat)
def Av.give (a : Av) (i : Int) : Int × Av := if inA a i = false then (30, a) else if bitAt a.ws i.toNat = true then (40, a) else (0, a.flip i.toNat)
theorem inA_nat {a : Av} {i : Int} (h : inA a i = true) : ∃ j : Nat, i = (j : Int) ∧ j < a.n := by
  simp only [inA, decide_eq_true_eq] at h
  exact ⟨i.toNat, by omega, by omega⟩
theorem grown_refl (w : World) (r : Option Nat) : w.grownBy w r := World.grownBy.refl w r
theorem grown_below {a w w' : World} {r : Option Nat} (h : Below a.heap.size a w) (k : w.grownBy w' r) (_ : ∀ q, r = some q → q < a.heap.size ∨ True) : a.grownBy w' r :=
  ⟨k.os.trans h.os, k.tape.trans h.tape, k.output.trans h.output, Nat.le_trans h.size k.size, fun i hi hne => (k.block i (Nat.lt_of_lt_of_le hi h.size) hne).trans (h.block i hi)⟩
theorem atake_nil (w : World) : Calls Tryd.prog 9 #[.pointer none] w fun e w' => e = .returned (.tuple #[.int .i64 0, .int .i64 1]) ∧ w = w' := by
  go_enter Tryd.func9, Tryd.ntmps9
  go_wp2
  go_ret2
  exact ⟨rfl, rfl⟩
theorem asome_nil (i : Int) (w : World) : Calls Tryd.prog 11 #[.pointer none, .int .i64 i] w fun e w' => e = .returned (.tuple #[.slice none 0 0, .int .i64 1]) ∧ w = w' := by
  go_enter Tryd.func11, Tryd.ntmps11
  go_wp2
  go_ret2
  exact ⟨rfl, rfl⟩
theorem ahold_nil (i : Int) (w : World) : Calls Tryd.prog 14 #[.pointer none, .int .i64 i] w fun e w' => e = .returned (.int .i64 1) ∧ w = w' := by
  go_enter Tryd.func14, Tryd.ntmps14
  go_wp2
  go_ret
  exact ⟨rfl, rfl⟩
theorem agive_nil (i : Int) (w : World) : Calls Tryd.prog 16 #[.pointer none, .int .i64 i] w fun e w' => e = .returned (.int .i64 1) ∧ w = w' := by
  go_enter Tryd.func16, Tryd.ntmps16
  go_wp2
  go_ret
  exact ⟨rfl, rfl⟩
theorem ahas_nil (i : Int) (w : World) : Calls Tryd.prog 22 #[.pointer none, .int .i64 i] w fun e w' => e = .returned (.bool false) ∧ w = w' := by
  go_enter Tryd.func22, Tryd.ntmps22
  go_wp2
  go_ret
  exact ⟨rfl, rfl⟩
theorem afree_nil (w : World) : Calls Tryd.prog 19 #[.pointer none] w fun e w' => e = .returned (.int .i64 0) ∧ w = w' := by
  go_enter Tryd.func19, Tryd.ntmps19
  go_wp2
  go_ret
  exact ⟨rfl, rfl⟩
theorem alen_nil (w : World) : Calls Tryd.prog 21 #[.pointer none] w fun e w' => e = .returned (.int .i64 0) ∧ w = w' := by
  go_enter Tryd.func21, Tryd.ntmps21
  go_wp2
  go_ret
  exact ⟨rfl, rfl⟩
theorem aclone_nil (w : World) : Calls Tryd.prog 18 #[.pointer none] w fun e w' => e = .returned (.pointer none) ∧ w = w' := by
  go_enter Tryd.func18, Tryd.ntmps18
  go_wp2
  go_ret
  exact ⟨rfl, rfl⟩
section
variable {w w' : World} {g R k : Nat} {a : Av}
theorem alen_any (h : Alw w g R k a) : Calls Tryd.prog 21 #[.pointer (some ⟨g, 0, none⟩)] w fun e w' => e = .returned (.int .i64 (a.n : Int)) ∧ w = w' := by
  have c0 := h.c0
  clear h
  go_enter Tryd.func21, Tryd.ntmps21
  go_wp2
  go_ret
  exact ⟨rfl, rfl⟩
theorem ahas_any (h : Alw w g R k a) (i : Int) (hi1 : -9223372036854775808 ≤ i) (hi2 : i ≤ 9223372036854775807) :
    Calls Tryd.prog 22 #[.pointer (some ⟨g, 0, none⟩), .int .i64 i] w fun e w' => e = .returned (.bool (a.has i)) ∧ Below w.heap.size w w' := by
  have hw := within_any h i hi1 hi2
  unfold Av.has
  cases hin : inA a i
  · rw [show decide (0 ≤ i ∧ i < a.n) = false from hin] at hw
    have HW := Lib.hid hw
    clear h hw hin hi1 hi2
    go_enter Tryd.func22, Tryd.ntmps22
    go_wp2_with (first
      | (go_at_call 26; refine HW.out.mono ?_; rintro e w1 ⟨rfl, rfl⟩)
      | fail)
    go_ret
    exact ⟨rfl, Below.refl _ _⟩
  · rw [show decide (0 ≤ i ∧ i < a.n) = true from hin] at hw
    obtain ⟨j, rfl, hj⟩ := inA_nat hin
    have hf := free_any h j hj
    rw [Int.toNat_natCast]
    have HW := Lib.hid hw
    have HF := Lib.hid hf
    generalize bitAt a.ws j = b at *
    clear h hw hin hi1 hi2 hf hj
    go_enter Tryd.func22, Tryd.ntmps22
    go_wp2_with (first
      | (go_at_call 26; refine HW.out.mono ?_; rintro e w1 ⟨rfl, rfl⟩)
      | (go_at_call 27; refine HF.out.mono ?_; rintro e w2 ⟨rfl, hb2⟩)
      | fail)
    go_ret
    exact ⟨rfl, hb2⟩

theorem ahold_any (h : Alw w g R k a) (i : Int) (hi1 : -9223372036854775808 ≤ i) (hi2 : i ≤ 9223372036854775807) :
    Calls Tryd.prog 14 #[.pointer (some ⟨g, 0, none⟩), .int .i64 i] w fun e w' => e = .returned (.int .i64 (a.hold i).1) ∧ Alw w' g R k (a.hold i).2 ∧ w.grownBy w' (some R) := by
  have hw := within_any h i hi1 hi2
  unfold Av.hold
  cases hin : inA a i
  · rw [show decide (0 ≤ i ∧ i < a.n) = false from hin] at hw
    simp only [if_true]
    have HW := Lib.hid hw
    have HH := Lib.hid h
    clear h hw hin hi1 hi2
    go_enter Tryd.func14, Tryd.ntmps14
    go_wp2_with (first
      | (go_at_call 26; refine HW.out.mono ?_; rintro e w1 ⟨rfl, rfl⟩)
      | fail)
    go_ret
    exact ⟨rfl, HH.out, grown_refl _ _⟩
  · rw [show decide (0 ≤ i ∧ i < a.n) = true from hin] at hw
    obtain ⟨j, rfl, hj⟩ := inA_nat hin
    have hf := free_any h j hj
    have ht := fun (W : World) (hb : Below w.heap.size w W) => turn_any (h.below hb) j hj
    have hh := fun (W : World) (hb : Below w.heap.size w W) => h.below hb
    simp only [Bool.true_eq_false, if_false, Int.toNat_natCast]
    cases hbit : bitAt a.ws j
    · rw [hbit] at hf
      simp only [if_true]
      have HW := Lib.hid hw
      have HF := Lib.hid hf
      have HT := Lib.hid ht
      have HH := Lib.hid hh
      clear h hw hin hi1 hi2 hf hj ht hbit hh
      go_enter Tryd.func14, Tryd.ntmps14
      go_wp2_with (first
        | (go_at_call 26; refine HW.out.mono ?_; rintro e w1 ⟨rfl, rfl⟩)
        | (go_at_call 27; refine HF.out.mono ?_; rintro e w2 ⟨rfl, hb2⟩)
        | (go_at_call 24; refine (HT.out _ hb2).mono ?_; rintro e w3 ⟨rfl, hA3, hg3⟩)
        | fail)
      go_ret
      exact ⟨rfl, HH.out _ hb2, grown_below hb2 (grown_refl _ _) (fun _ _ => .inr trivial)⟩
    · rw [hbit] at hf
      simp only [Bool.true_eq_false, if_false]
      have HW := Lib.hid hw
      have HF := Lib.hid hf
      have HT := Lib.hid ht
      have HH := Lib.hid hh
      clear h hw hin hi1 hi2 hf hj ht hbit hh
      go_enter Tryd.func14, Tryd.ntmps14
      go_wp2_with (first
        | (go_at_call 26; refine HW.out.mono ?_; rintro e w1 ⟨rfl, rfl⟩)
        | (go_at_call 27; refine HF.out.mono ?_; rintro e w2 ⟨rfl, hb2⟩)
        | (go_at_call 24; refine (HT.out _ hb2).mono ?_; rintro e w3 ⟨rfl, hA3, hg3⟩)
        | fail)
      go_ret
      exact ⟨rfl, hA3, grown_below hb2 hg3 (fun _ _ => .inr trivial)⟩

theorem agive_any (h : Alw w g R k a) (i : Int) (hi1 : -9223372036854775808 ≤ i) (hi2 : i ≤ 9223372036854775807) :
    Calls Tryd.prog 16 #[.pointer (some ⟨g, 0, none⟩), .int .i64 i] w fun e w' => e = .returned (.int .i64 (a.give i).1) ∧ Alw w' g R k (a.give i).2 ∧ w.grownBy w' (some R) := by
  have hw := within_any h i hi1 hi2
  unfold Av.give
  cases hin : inA a i
  · rw [show decide (0 ≤ i ∧ i < a.n) = false from hin] at hw
    simp only [if_true]
    have HW := Lib.hid hw
    have HH := Lib.hid h
    clear h hw hin hi1 hi2
    go_enter Tryd.func16, Tryd.ntmps16
    go_wp2_with (first
      | (go_at_call 26; refine HW.out.mono ?_; rintro e w1 ⟨rfl, rfl⟩)
      | fail)
    go_ret
    exact ⟨rfl, HH.out, grown_refl _ _⟩
  · rw [show decide (0 ≤ i ∧ i < a.n) = true from hin] at hw
    obtain ⟨j, rfl, hj⟩ := inA_nat hin
    have hf := free_any h j hj
    have ht := fun (W : World) (hb : Below w.heap.size w W) => turn_any (h.below hb) j hj
    have hh := fun (W : World) (hb : Below w.heap.size w W) => h.below hb
    simp only [Bool.true_eq_false, if_false, Int.toNat_natCast]
    cases hbit : bitAt a.ws j
    · rw [hbit] at hf
      simp only [Bool.false_eq_true, if_false]
      have HW := Lib.hid hw
      have HF := Lib.hid hf
      have HT := Lib.hid ht
      have HH := Lib.hid hh
      clear h hw hin hi1 hi2 hf hj ht hbit hh
      go_enter Tryd.func16, Tryd.ntmps16
      go_wp2_with (first
        | (go_at_call 26; refine HW.out.mono ?_; rintro e w1 ⟨rfl, rfl⟩)
        | (go_at_call 27; refine HF.out.mono ?_; rintro e w2 ⟨rfl, hb2⟩)
        | (go_at_call 24; refine (HT.out _ hb2).mono ?_; rintro e w3 ⟨rfl, hA3, hg3⟩)
        | fail)
      go_ret
      exact ⟨rfl, hA3, grown_below hb2 hg3 (fun _ _ => .inr trivial)⟩
    · rw [hbit] at hf
      simp only [if_true]
      have HW := Lib.hid hw
      have HF := Lib.hid hf
      have HT := Lib.hid ht
      have HH := Lib.hid hh
      clear h hw hin hi1 hi2 hf hj ht hbit hh
      go_enter Tryd.func16, Tryd.ntmps16
      go_wp2_with (first
        | (go_at_call 26; refine HW.out.mono ?_; rintro e w1 ⟨rfl, rfl⟩)
        | (go_at_call 27; refine HF.out.mono ?_; rintro e w2 ⟨rfl, hb2⟩)
        | (go_at_call 24; refine (HT.out _ hb2).mono ?_; rintro e w3 ⟨rfl, hA3, hg3⟩)
        | fail)
      go_ret
      exact ⟨rfl, HH.out _ hb2, grown_below hb2 (grown_refl _ _) (fun _ _ => .inr trivial)⟩
end

end Go.Proofs.YtljmigfjlndpbaaDoor
