/- The reference's places. -/
import Derived.Test.YtljmigfjlndpbaaDoorAclone
namespace Go.Proofs.YtljmigfjlndpbaaDoor
open Go.RowKit

/-- Of each place whether it is taken. -/
def tk (a : Av) : List Bool := (List.range a.n).map fun i => !bitAt a.ws i
theorem tk_len (a : Av) : (tk a).length = a.n := by unfold tk; rw [List.length_map, List.length_range]
theorem tk_at {a : Av} {i : Nat} (h : i < a.n) : (tk a)[i]? = some (!bitAt a.ws i) := by
  unfold tk
  rw [List.getElem?_map, List.getElem?_range h]
  rfl
theorem tk_flip {a : Av} {k i : Nat} (h : a.Ok k) (hi : i < a.n) : tk (a.flip i) = (tk a).set i (bitAt a.ws i) := by
  apply List.ext_getElem?
  intro j
  rw [List.getElem?_set]
  have hl := h.len
  have hr := h.room
  by_cases hj : j < a.n
  · rw [tk_at (a := a.flip i) hj, tk_at hj]
    show some (!bitAt (flipAt a.ws i) j) = _
    rw [flip_bit _ _ _ (by omega)]
    by_cases hij : i = j
    · subst hij
      rw [if_pos rfl, if_pos rfl, if_pos (by rw [tk_len]; exact hi), Bool.not_not]
    · rw [if_neg hij, if_neg hij]
  · have e1 : (tk (a.flip i))[j]? = none := List.getElem?_eq_none (by rw [tk_len]; exact Nat.le_of_not_lt hj)
    have e2 : (tk a)[j]? = none := List.getElem?_eq_none (by rw [tk_len]; exact Nat.le_of_not_lt hj)
    rw [e1, e2, if_neg (by omega)]
def bs (l : List Bool) : List Value := l.map .bool
theorem bs_len (l : List Bool) : (bs l).length = l.length := by unfold bs; rw [List.length_map]
/-- The reference's places in memory. -/
structure Alr (w : World) (r b : Nat) (a : Av) : Prop where
  row : w.heap[r]? = some (.cells #[.slice (some ⟨b, 0, none⟩) a.n a.n] 56 (0, 0))
  rows : w.heap[b]? = some (.cells (bs (tk a)).toArray 4 (0, 0))
  ne : r ≠ b
  ok : ∃ k, a.Ok k
  pos : 0 < r ∧ 0 < b
section
variable {w w' : World} {r b : Nat} {a : Av}
theorem Alr.c0 (h : Alr w r b a) : w.cell? ⟨r, 0, none⟩ = some (.slice (some ⟨b, 0, none⟩) a.n a.n) := cell_of_row w r 0 _ _ _ h.row
theorem Alr.at_ (h : Alr w r b a) {i : Nat} (hi : i < a.n) : w.cell? ⟨b, i, none⟩ = some (.bool (!bitAt a.ws i)) := by
  rw [cell_of_row w b i _ _ _ h.rows, List.getElem?_toArray, bs, List.getElem?_map, tk_at hi]
  rfl
theorem Alr.fz (h : Alr w r b a) (i : Nat) : w.frozen? ⟨b, i, none⟩ = false := frozen_of_row w b i _ _ h.rows
theorem Alr.below (h : Alr w r b a) (hb : Below w.heap.size w w') : Alr w' r b a :=
  ⟨row_below h.row hb, row_below h.rows hb, h.ne, h.ok, h.pos⟩
theorem Alr.far (h : Alr w r b a) {L : Nat} (hg : w.grownBy w' (some L)) (h1 : L ≠ r) (h2 : L ≠ b) : Alr w' r b a :=
  ⟨row_far h.row hg (fun e => h1 (by injection e with e; exact e.symm)), row_far h.rows hg (fun e => h2 (by injection e with e; exact e.symm)), h.ne, h.ok, h.pos⟩
theorem Alr.lt (h : Alr w r b a) : r < w.heap.size ∧ b < w.heap.size := ⟨(Array.getElem?_eq_some_iff.1 h.row).1, (Array.getElem?_eq_some_iff.1 h.rows).1⟩
theorem Alr.small (h : Alr w r b a) : a.n ≤ 102400 := by obtain ⟨k, h⟩ := h.ok; have := h.room; have := h.small; omega
/-- A place turned over. -/
def Alr.Set (w : World) (r b : Nat) (a : Av) (i : Nat) : Prop := Alr (w.setCell ⟨b, i, none⟩ (.bool (bitAt a.ws i))) r b (a.flip i) ∧ w.grownBy (w.setCell ⟨b, i, none⟩ (.bool (bitAt a.ws i))) (some b)
theorem Alr.set (h : Alr w r b a) {i : Nat} (hi : i < a.n) : Alr.Set w r b a i := by
  obtain ⟨k, hk⟩ := h.ok
  have hg : w.grownBy (w.setCell ⟨b, i, none⟩ (.bool (bitAt a.ws i))) (some b) := setCell_by (p := ⟨b, i, none⟩) (grown_refl _ _) rfl _
  refine ⟨⟨row_far h.row hg (fun e => h.ne (by injection e)), ?_, h.ne, ⟨k, hk.flip hi⟩, h.pos⟩, hg⟩
  rw [heap_setCell_same _ b i _ _ _ h.rows, tk_flip hk hi]
  unfold bs
  rw [List.map_set]
  simp

theorem rhas_any (h : Alr w r b a) (i : Int) (hi1 : -9223372036854775808 ≤ i) (hi2 : i ≤ 9223372036854775807) :
    Calls Tryd.prog 23 #[.pointer (some ⟨r, 0, none⟩), .int .i64 i] w fun e w' => e = .returned (.bool (a.has i)) ∧ w = w' := by
  have c0 := h.c0
  by_cases h0 : 0 ≤ i
  · obtain ⟨j, rfl⟩ : ∃ j : Nat, i = (j : Int) := ⟨i.toNat, by omega⟩
    have q1 : decide ((0 : Int) ≤ (j : Int)) = true := by simp
    by_cases h1 : j < a.n
    · have hin : inA a (j : Int) = true := by simp [inA, h1]
      have ca := h.at_ h1
      have HB := Lib.hid (show (!bitAt a.ws j) = a.has (j : Int) by unfold Av.has; rw [hin, Int.toNat_natCast]; rfl)
      have q2 : decide ((j : Int) < (a.n : Int)) = true := by simpa using h1
      have q3 : decide (j < a.n) = true := by simpa using h1
      generalize (!bitAt a.ws j) = bb at *
      clear h hin h0
      generalize a.n = n at *
      go_enter Tryd.func23, Tryd.ntmps23
      go_wp2
      go_ret
      exact ⟨ret_bool HB.out, rfl⟩
    · have HB := Lib.hid (show a.has (j : Int) = false by unfold Av.has inA; simp; omega)
      have q2 : decide ((j : Int) < (a.n : Int)) = false := by simpa using h1
      have q3 : decide (j < a.n) = false := by simpa using h1
      rw [HB.out]
      clear h h0
      generalize a.n = n at *
      go_enter Tryd.func23, Tryd.ntmps23
      go_wp2
      go_ret
      exact ⟨rfl, rfl⟩
  · have HB := Lib.hid (show a.has i = false by unfold Av.has inA; simp; omega)
    have q1 : decide (0 ≤ i) = false := by simpa using h0
    rw [HB.out]
    clear h
    go_enter Tryd.func23, Tryd.ntmps23
    go_wp2
    go_ret
    exact ⟨rfl, rfl⟩
/-- What Hold and Give of the reference do. -/
def RHeld (w : World) (r b : Nat) (p : Int × Av) (e : Ending) (w' : World) : Prop := e = .returned (.int .i64 p.1) ∧ Alr w' r b p.2 ∧ w.grownBy w' (some b)
theorem rhold_any (h : Alr w r b a) (i : Int) (hi1 : -9223372036854775808 ≤ i) (hi2 : i ≤ 9223372036854775807) :
    Calls Tryd.prog 15 #[.pointer (some ⟨r, 0, none⟩), .int .i64 i] w (RHeld w r b (a.hold i)) := by
  have c0 := h.c0
  have HH := Lib.hid h
  by_cases h0 : 0 ≤ i
  · obtain ⟨j, rfl⟩ : ∃ j : Nat, i = (j : Int) := ⟨i.toNat, by omega⟩
    have q1 : decide ((j : Int) < 0) = false := by simp
    by_cases h1 : j < a.n
    · have hin : inA a (j : Int) = true := by simp [inA, h1]
      have ca := h.at_ h1
      have fz := h.fz j
      have HS := Lib.hid (h.set h1)
      have q2 : decide ((a.n : Int) ≤ (j : Int)) = false := by simp; omega
      have q3 : decide (a.n ≤ j) = false := by simp; omega
      have q4 : ¬ a.n ≤ j := by omega
      unfold Av.hold
      rw [hin, Int.toNat_natCast]
      simp only [Bool.true_eq_false, if_false]
      unfold Alr.Set at HS
      generalize a.flip j = af at *
      cases hb : bitAt a.ws j
      · rw [hb] at ca HS
        simp only [if_true]
        clear h hin h0 hb
        generalize a.n = n at *
        go_enter Tryd.func15, Tryd.ntmps15
        go_wp2
        go_ret
        exact ⟨rfl, HH.out, grown_refl _ _⟩
      · rw [hb] at ca HS
        simp only [Bool.true_eq_false, if_false]
        clear h hin h0 hb
        generalize a.n = n at *
        go_enter Tryd.func15, Tryd.ntmps15
        go_wp2
        go_ret
        exact ⟨rfl, HS.out.1, HS.out.2⟩
    · have HB := Lib.hid (show a.hold (j : Int) = (30, a) by unfold Av.hold; rw [if_pos (by simp [inA]; omega)])
      have q2 : decide ((a.n : Int) ≤ (j : Int)) = true := by simp; omega
      have q3 : decide (a.n ≤ j) = true := by simp; omega
      have q4 : a.n ≤ j := by omega
      rw [HB.out]
      clear h h0
      generalize hn : a.n = n at *
      clear hn
      go_enter Tryd.func15, Tryd.ntmps15
      go_wp2
      go_ret
      exact ⟨rfl, HH.out, grown_refl _ _⟩
  · have HB := Lib.hid (show a.hold i = (30, a) by unfold Av.hold; rw [if_pos (by simp [inA]; omega)])
    have q1 : decide (i < 0) = true := by simp; omega
    rw [HB.out]
    clear h
    go_enter Tryd.func15, Tryd.ntmps15
    go_wp2
    go_ret
    exact ⟨rfl, HH.out, grown_refl _ _⟩
theorem rgive_any (h : Alr w r b a) (i : Int) (hi1 : -9223372036854775808 ≤ i) (hi2 : i ≤ 9223372036854775807) :
    Calls Tryd.prog 17 #[.pointer (some ⟨r, 0, none⟩), .int .i64 i] w (RHeld w r b (a.give i)) := by
  have c0 := h.c0
  have HH := Lib.hid h
  by_cases h0 : 0 ≤ i
  · obtain ⟨j, rfl⟩ : ∃ j : Nat, i = (j : Int) := ⟨i.toNat, by omega⟩
    have q1 : decide ((j : Int) < 0) = false := by simp
    by_cases h1 : j < a.n
    · have hin : inA a (j : Int) = true := by simp [inA, h1]
      have ca := h.at_ h1
      have fz := h.fz j
      have HS := Lib.hid (h.set h1)
      have q2 : decide ((a.n : Int) ≤ (j : Int)) = false := by simp; omega
      have q3 : decide (a.n ≤ j) = false := by simp; omega
      have q4 : ¬ a.n ≤ j := by omega
      unfold Av.give
      rw [hin, Int.toNat_natCast]
      simp only [Bool.true_eq_false, if_false]
      unfold Alr.Set at HS
      generalize a.flip j = af at *
      cases hb : bitAt a.ws j
      · rw [hb] at ca HS
        simp only [Bool.false_eq_true, if_false]
        clear h hin h0 hb
        generalize a.n = n at *
        go_enter Tryd.func17, Tryd.ntmps17
        go_wp2
        go_ret
        exact ⟨rfl, HS.out.1, HS.out.2⟩
      · rw [hb] at ca HS
        simp only [if_true]
        clear h hin h0 hb
        generalize a.n = n at *
        go_enter Tryd.func17, Tryd.ntmps17
        go_wp2
        go_ret
        exact ⟨rfl, HH.out, grown_refl _ _⟩
    · have HB := Lib.hid (show a.give (j : Int) = (30, a) by unfold Av.give; rw [if_pos (by simp [inA]; omega)])
      have q2 : decide ((a.n : Int) ≤ (j : Int)) = true := by simp; omega
      have q3 : decide (a.n ≤ j) = true := by simp; omega
      have q4 : a.n ≤ j := by omega
      rw [HB.out]
      clear h h0
      generalize hn : a.n = n at *
      clear hn
      go_enter Tryd.func17, Tryd.ntmps17
      go_wp2
      go_ret
      exact ⟨rfl, HH.out, grown_refl _ _⟩
  · have HB := Lib.hid (show a.give i = (30, a) by unfold Av.give; rw [if_pos (by simp [inA]; omega)])
    have q1 : decide (i < 0) = true := by simp; omega
    rw [HB.out]
    clear h
    go_enter Tryd.func17, Tryd.ntmps17
    go_wp2
    go_ret
    exact ⟨rfl, HH.out, grown_refl _ _⟩
end
end Go.Proofs.YtljmigfjlndpbaaDoor
