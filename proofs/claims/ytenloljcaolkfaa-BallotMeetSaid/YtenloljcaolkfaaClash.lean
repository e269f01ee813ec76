/- What waits, what is told of, and what is void: the program's and the reference's. -/
import Derived.Test.YtenloljcaolkfaaBehr
namespace Go.Proofs.Ytenloljcaolkfaa
open Go.RowKit

def En.tells (e x : En) : Bool := decide (e.at x.ix = some x.look)
def En.again (e x : En) : Bool := decide (e.kd = 1) && (decide (x.kd = 1) && (decide (e.cl = x.cl) && (decide (e.rq = x.rq) && decide (e.ix ≠ x.ix))))
def En.other (e x : En) : Bool := (e.at x.ix).isSome && !e.tells x
def En.voids (e x : En) : Bool := decide (x.tm < e.tm) && (decide (e.st ≤ x.ix) || (e.other x || e.again x))
theorem En.at_ok {e : En} {w : World} (h : e.Reads w) {i : Nat} {l : Lk} (hl : e.at i = some l) : l.Ok := by
  unfold En.at at hl
  split at hl
  · exact h.oks l (List.mem_of_getElem? hl)
  · cases hl
theorem row1 (w : World) (cs : Array Value) (t : TypeId) : ∃ W, W = w.alloc (.cells cs t) ∧ W.heap.size = w.heap.size + 1 ∧ W.heap[w.heap.size]? = some (.cells cs t (0, 0)) ∧ Below w.heap.size w W :=
  ⟨_, rfl, by simp, heap_alloc_new w _, (Below.refl _ _).alloc (Nat.le_refl _) _⟩

end Go.Proofs.Ytenloljcaolkfaa
