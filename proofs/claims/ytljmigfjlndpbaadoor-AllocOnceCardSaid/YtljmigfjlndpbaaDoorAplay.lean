/- Places of the program and of the reference, side by side. -/
import Derived.Test.YtljmigfjlndpbaaDoorAlives
import Derived.Test.YtljmigfjlndpbaaDoorRowkitb
namespace Go.Proofs.YtljmigfjlndpbaaDoor
open Go.RowKit

structure One (w wr : World) (g R k r b : Nat) (a a2 : Av) : Prop where
  A : Alw wr g R k a
  Q : Alr wr r b a2
  sep : R ≠ r ∧ R ≠ b ∧ b ≠ g ∧ b ≠ R
  lo : w.heap.size ≤ R ∧ w.heap.size ≤ b
  bel : Below w.heap.size w wr
section
variable {w wr w1 w' : World} {g R k r b : Nat} {a a2 a' : Av}
theorem One.below (h : One w wr g R k r b a a2) (hb : Below wr.heap.size wr w1) : One w w1 g R k r b a a2 :=
  ⟨h.A.below hb, h.Q.below hb, h.sep, h.lo, h.bel.trans (hb.mono h.bel.size)⟩
theorem One.drew (h : One w wr g R k r b a a2) : One w wr.drew g R k r b a a2 := h.below (Below.refl _ _).drew
theorem One.prog (h : One w wr g R k r b a a2) (hA : Alw w1 g R k a') (hg : wr.grownBy w1 (some R)) : One w w1 g R k r b a' a2 :=
  ⟨hA, h.Q.far hg h.sep.1 h.sep.2.1, h.sep, h.lo, h.bel.grown hg h.bel.size (fun j e => by injection e with e; rw [← e]; exact h.lo.1)⟩
theorem One.ref (h : One w wr g R k r b a a2) (hQ : Alr w1 r b a') (hg : wr.grownBy w1 (some b)) : One w w1 g R k r b a a' :=
  ⟨h.A.far hg h.sep.2.2.1 h.sep.2.2.2, hQ, h.sep, h.lo, h.bel.grown hg h.bel.size (fun j e => by injection e with e; rw [← e]; exact h.lo.2)⟩
theorem One.tab (h : One w wr g R k r b a a2) (hT : Tab w) : Tab wr := hT.below h.bel
/-- The box of a call. -/
def Bx (w : World) (p : Nat) (x y : Int) : Prop := w.heap[p]? = some (.cells #[.int .i64 x, .int .i64 y] 30 (0, 0))
theorem Bx.far {p : Nat} {x y : Int} (h : Bx wr p x y) {q : Nat} (hg : wr.grownBy w1 (some q)) (hq : p ≠ q) : Bx w1 p x y := row_far h hg (fun e => hq (by injection e))
theorem Bx.below {p : Nat} {x y : Int} (h : Bx wr p x y) (hb : Below wr.heap.size wr w1) : Bx w1 p x y := row_below h hb
theorem Bx.c0 {p : Nat} {x y : Int} (h : Bx wr p x y) : wr.cell? ⟨p, 0, none⟩ = some (.int .i64 x) := cell_of_row wr p 0 _ _ _ h
theorem Bx.c1 {p : Nat} {x y : Int} (h : Bx wr p x y) : wr.cell? ⟨p, 1, none⟩ = some (.int .i64 y) := cell_of_row wr p 1 _ _ _ h
/-- Both, alike, and a call's box beside them. -/
structure Two (w wr : World) (g R k r b : Nat) (a a2 : Av) (p : Nat) (x y : Int) : Prop where
  one : One w wr g R k r b a a2
  box : Bx wr p x y
  ne : p ≠ R ∧ p ≠ b
variable {p : Nat} {x y : Int}
theorem Two.below (h : Two w wr g R k r b a a2 p x y) (hb : Below wr.heap.size wr w1) : Two w w1 g R k r b a a2 p x y := ⟨h.one.below hb, h.box.below hb, h.ne⟩
theorem Two.drew (h : Two w wr g R k r b a a2 p x y) : Two w wr.drew g R k r b a a2 p x y := h.below (Below.refl _ _).drew
theorem Two.prog (h : Two w wr g R k r b a a2 p x y) (hA : Alw w1 g R k a') (hg : wr.grownBy w1 (some R)) : Two w w1 g R k r b a' a2 p x y := ⟨h.one.prog hA hg, h.box.far hg h.ne.1, h.ne⟩
theorem Two.ref (h : Two w wr g R k r b a a2 p x y) (hQ : Alr w1 r b a') (hg : wr.grownBy w1 (some b)) : Two w w1 g R k r b a a' p x y := ⟨h.one.ref hQ hg, h.box.far hg h.ne.2, h.ne⟩
theorem One.box (h : One w wr g R k r b a a2) (x y : Int) {W : World} (hW : W = wr.alloc (.cells #[.int .i64 x, .int .i64 y] 30)) : Two w W g R k r b a a2 wr.heap.size x y := by
  subst hW
  exact ⟨h.below ((Below.refl _ _).alloc (Nat.le_refl _) _), heap_alloc_new wr _, by have := h.A.lt; have := h.Q.lt; omega⟩
theorem Two.quit (h : Two w wr g R k r b a a2 p x y) : One w wr g R k r b a a2 := h.one

theorem hold_n (a : Av) (i : Int) : (a.hold i).2.n = a.n := by
  unfold Av.hold
  split
  · rfl
  · split <;> rfl
theorem give_n (a : Av) (i : Int) : (a.give i).2.n = a.n := by
  unfold Av.give
  split
  · rfl
  · split <;> rfl
theorem has_same {a b : Av} (hn : a.n = b.n) (hw : a.ws = b.ws) (i : Int) : a.has i = b.has i := by
  unfold Av.has inA
  rw [hn, hw]
theorem free_same {a b : Av} (hw : a.ws = b.ws) : a.free = b.free := by unfold Av.free; rw [hw]
theorem tk_same {a b : Av} (hn : a.n = b.n) (hw : a.ws = b.ws) : tk a = tk b := by unfold tk; rw [hn, hw]
/-- The reference's places are what they are of any places alike. -/
theorem Alr.same (h : Alr w r b a) (hn : a'.n = a.n) (hw : a'.ws = a.ws) (ho : ∃ k, a'.Ok k) : Alr w r b a' :=
  ⟨by rw [hn]; exact h.row, by rw [tk_same hn hw]; exact h.rows, h.ne, ho, h.pos⟩
/-- A clone goes its own way. -/
theorem Two.swap {g' R' : Nat} (h : Two w wr g R k r b a a p x y) (hA : Alw w1 g' R' k a') (hn : a'.n = a.n) (hw : a'.ws = a.ws) (hb : Below wr.heap.size wr w1) (hR : wr.heap.size ≤ R') (hg : wr.heap.size ≤ g') (hg2 : w1.grownBy w' (some R)) : Two w w' g' R' k r b a' a' p x y := by
  have l1 := h.one.A.lt
  have l2 := h.one.Q.lt
  have l3 := h.one.bel.size
  have l4 : p < wr.heap.size := (Array.getElem?_eq_some_iff.1 h.box).1
  have h1 := h.below hb
  refine ⟨⟨hA.far hg2 (by omega) (by omega), ((h1.one.Q.far hg2 h.one.sep.1 h.one.sep.2.1).same hn hw ⟨k, hA.ok⟩), by omega, ⟨by omega, h.one.lo.2⟩, ?_⟩, h1.box.far hg2 h.ne.1, by have := h.ne.2; omega⟩
  exact h1.one.bel.grown hg2 h1.one.bel.size (fun j e => by injection e with e; rw [← e]; exact h.one.lo.1)
end
end Go.Proofs.YtljmigfjlndpbaaDoor
