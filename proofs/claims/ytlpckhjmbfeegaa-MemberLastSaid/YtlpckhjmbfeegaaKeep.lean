/- What turns, and what does not. -/
import Derived.Test.YtlpckhjmbfeegaaSegs
import Derived.Test.YtlpckhjmbfeegaaFar
namespace Go.Proofs.Ytlpckhjmbfeegaa
open Go.RowKit

/-- No block but those of F turns. -/
structure Keeps (F : Nat → Prop) (w w' : World) : Prop where
  os : w'.os = w.os
  tape : w'.tape = w.tape
  output : w'.output = w.output
  size : w.heap.size ≤ w'.heap.size
  block : ∀ i, i < w.heap.size → ¬ F i → w'.heap[i]? = w.heap[i]?
section
variable {F F' : Nat → Prop} {w w1 w2 : World}
theorem Keeps.refl (F : Nat → Prop) (w : World) : Keeps F w w := ⟨rfl, rfl, rfl, Nat.le_refl _, fun _ _ _ => rfl⟩
theorem Keeps.trans (h : Keeps F w w1) (k : Keeps F' w1 w2) (hF : ∀ i, F' i → F i ∨ w.heap.size ≤ i) : Keeps F w w2 :=
  ⟨k.os.trans h.os, k.tape.trans h.tape, k.output.trans h.output, Nat.le_trans h.size k.size, fun i hi hn => (k.block i (Nat.lt_of_lt_of_le hi h.size) (fun hf => (hF i hf).elim hn (fun hh => by omega))).trans (h.block i hi hn)⟩
theorem Keeps.grown {row : Option Nat} (h : Keeps F w w1) (hg : w1.grownBy w2 row) (hr : ∀ k, row = some k → F k ∨ w.heap.size ≤ k) : Keeps F w w2 :=
  ⟨hg.os.trans h.os, hg.tape.trans h.tape, hg.output.trans h.output, Nat.le_trans h.size hg.size, fun i hi hn => (hg.block i (Nat.lt_of_lt_of_le hi h.size) (fun e => (hr i e.symm).elim hn (fun hh => by omega))).trans (h.block i hi hn)⟩
theorem Keeps.alloc (h : Keeps F w w1) (o : Obj) : Keeps F w (w1.alloc o) := h.grown (World.grownBy_alloc w1 o none) (fun k e => by cases e)
theorem Keeps.drew (h : Keeps F w w1) : Keeps F w w1.drew := ⟨h.os, h.tape, h.output, h.size, h.block⟩
theorem Keeps.drewN (h : Keeps F w w1) (n : Nat) : Keeps F w (w1.drewN n) := ⟨h.os, h.tape, h.output, h.size, h.block⟩
theorem Keeps.below {B : Nat} (h : Keeps F w w1) (hB : B ≤ w.heap.size) (hF : ∀ i, F i → B ≤ i) : Below B w w1 := ⟨h.os, h.tape, h.output, h.size, fun i hi => h.block i (by omega) (fun hf => by have := hF i hf; omega)⟩
theorem Keeps.of_below (h : Below w.heap.size w w1) : Keeps F w w1 := ⟨h.os, h.tape, h.output, h.size, fun i hi _ => h.block i hi⟩
theorem Keeps.wide (h : Keeps F w w1) (hF : ∀ i, F i → F' i) : Keeps F' w w1 := ⟨h.os, h.tape, h.output, h.size, fun i hi hn => h.block i hi (fun hf => hn (hF i hf))⟩
theorem Keeps.row (h : Keeps F w w1) {b : Nat} {o : Obj} (hc : w.heap[b]? = some o) (hF : ¬ F b) : w1.heap[b]? = some o := (h.block b (Array.getElem?_eq_some_iff.1 hc).1 hF).trans hc
theorem Keeps.own {B n sz : Nat} {e : TypeId} {v : Value} {xs : List Value} (h : Keeps F w w1) (ho : w.ownsRow B e sz v n xs) (hF : ∀ q, v.ownBlock = some q → ¬ F q) : w1.ownsRow B e sz v n xs := by
  obtain ⟨h1, h2⟩ := ho
  rcases h2 with h2 | ⟨g, cap, cur, rfl, hbg, hg, r⟩
  · exact ⟨h1, .inl h2⟩
  · exact ⟨h1, .inr ⟨g, cap, cur, rfl, hbg, h.row hg (hF g rfl), r⟩⟩
theorem Keeps.set (w : World) (b i : Nat) (u : Value) : Keeps (fun j => j = b) w (w.setCell ⟨b, i, none⟩ u) :=
  (Keeps.refl _ _).grown (setCell_by (World.grownBy.refl w (some b)) (p := ⟨b, i, none⟩) rfl u) (fun _ e => .inl (Option.some.inj e).symm)
/-- Where a slice's row is a row of cells, it is no map. -/
theorem own_ne_map {B n sz b c : Nat} {e : TypeId} {v : Value} {xs : List Value} {es : Array MapEntry} (ho : w.ownsRow B e sz v n xs) (hb : w.heap[b]? = some (.map es c)) : ∀ q, v.ownBlock = some q → q ≠ b := by
  intro q hq e
  subst e
  rcases ho.2 with ⟨rfl, _⟩ | ⟨g, cap, cur, rfl, _, hg, _⟩
  · cases hq
  · cases hq
    rw [hb] at hg
    cases hg
theorem own_ne_row {B n sz b : Nat} {e e' : TypeId} {v : Value} {xs : List Value} {cs : Array Value} {fr : Nat × Nat} (ho : w.ownsRow B e sz v n xs) (hb : w.heap[b]? = some (.cells cs e' fr)) (hne : e ≠ e') : ∀ q, v.ownBlock = some q → q ≠ b := by
  intro q hq h
  subst h
  rcases ho.2 with ⟨rfl, _⟩ | ⟨g, cap, cur, rfl, _, hg, _⟩
  · cases hq
  · cases hq
    rw [hb] at hg
    cases hg
    exact hne rfl
end
end Go.Proofs.Ytlpckhjmbfeegaa
