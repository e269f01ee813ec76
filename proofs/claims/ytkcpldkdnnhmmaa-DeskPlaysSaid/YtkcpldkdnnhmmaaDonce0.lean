/- What the laws' loops share. -/
import Derived.Test.YtkcpldkdnnhmmaaDu
import Derived.Test.YtkcpldkdnnhmmaaDo
import Derived.Test.YtkcpldkdnnhmmaaRowkitb
namespace Go.Proofs.Ytkcpldkdnnhmmaa
open Go.RowKit
set_option maxRecDepth 20000

def BadN (n s : Int) : Prop := n < 1 ∨ 7 < n ∨ s < 0 ∨ n ≤ s
theorem good_nat {n s : Int} (h : ¬ BadN n s) : ∃ N S : Nat, n = (N : Int) ∧ s = (S : Int) ∧ 1 ≤ N ∧ N ≤ 7 ∧ S < N := by
  unfold BadN at h
  exact ⟨n.toNat, s.toNat, by omega, by omega, by omega, by omega, by omega⟩
theorem Mv.bel {w w1 w' : World} {B g : Nat} {v v0 : Value} {t t0 : Dk} (m : Mv w1 B g v t w') (h : Dg w1 B g v0 t0) (hv : v0 = v) (hB : w.heap.size ≤ B) (hb : Below w.heap.size w w1) : Below w.heap.size w w' := by
  subst hv
  obtain ⟨v', _, k, _⟩ := m
  exact hb.trans (k.below hb.size (fun i hi => Nat.le_trans hB (h.foot hi).1))
/-- A law's desk and what it has been told. -/
structure At (w : World) (B g : Nat) (t : Dk) (k : Nat) (wr : World) : Prop where
  desk : ∃ v, Dg wr B g v t
  uq : Uq t.l
  round : t.round ≤ k
  lo : w.heap.size ≤ B
  bl : B ≤ wr.heap.size
  bel : Below w.heap.size w wr
theorem At.next {w w1 w2 : World} {B g k k' : Nat} {v : Value} {t t2 : Dk} (h : At w B g t k w1) (hd : Dg w1 B g v t) (m : Mv w1 B g v t2 w2) (hu : Uq t2.l) (hr : t2.round ≤ k') : At w B g t2 k' w2 := by
  have hb := m.bel hd rfl h.lo h.bel
  obtain ⟨v', h1, h2, _⟩ := m
  exact ⟨⟨v', h1⟩, hu, hr, h.lo, Nat.le_trans h.bl h2.size, hb⟩
theorem At.below {w w1 w2 : World} {B g k : Nat} {t : Dk} (h : At w B g t k w1) (hb : Below w1.heap.size w1 w2) : At w B g t k w2 := by
  obtain ⟨v, hv⟩ := h.desk
  exact ⟨⟨v, hv.below hb⟩, h.uq, h.round, h.lo, Nat.le_trans h.bl hb.size, h.bel.trans (hb.mono h.bel.size)⟩
/-- A row that lies above the desk's stays through a call of the desk. -/
theorem keep_row {w1 w2 : World} {B g b : Nat} {v : Value} {t : Dk} {o : Obj} (_ : Dg w1 B g v t) (k : Keeps (Foot g v) w1 w2) (hb : ∀ i, Foot g v i → i < b) (hc : w1.heap[b]? = some o) : w2.heap[b]? = some o :=
  k.row hc (fun hf => Nat.lt_irrefl _ (hb b hf))
end Go.Proofs.Ytkcpldkdnnhmmaa
