/- Small words on cells and rows. -/
import Derived.Test.YtlpckhjmbfeegaaWords
import Derived.Test.YtlpckhjmbfeegaaSegs
import Derived.Lib.TrailingZeros
import Derived.Lib.BitFns
import Derived.Lib.ItoaNum
import Derived.Laws.Bits64b
import Derived.Lib.Walk
import Derived.Lib.Small
namespace Go.Proofs.Ytlpckhjmbfeegaa.Qu
open Go.RowKit

section
variable {N : Nat} {W wd : World}
theorem kept (h : Below N W wd) {b o : Nat} {u : Value} (hc : W.cell? ⟨b, o, none⟩ = some u) (hb : b < N := by first | omega | (simp <;> omega)) : wd.cell? ⟨b, o, none⟩ = some u := (h.cell (p := ⟨b, o, none⟩) hb).trans hc
theorem row_here (w : World) (o : Obj) {n : Nat} (hn : n = w.heap.size) : (w.alloc o).heap[n]? = some o := by subst hn; exact heap_alloc_new w o
theorem row_old {w : World} {o' : Obj} (o : Obj) {n : Nat} (h : w.heap[n]? = some o') : (w.alloc o).heap[n]? = some o' := (heap_alloc_old w o (Array.getElem?_eq_some_iff.1 h).1).trans h
theorem row_new {w Y : World} {o o' : Obj} {b : Nat} (hY : Y = w.alloc o) (h : w.heap[b]? = some o') : Y.heap[b]? = some o' := by rw [hY]; exact row_old o h
theorem cellz (h : Below N W wd) {b j : Nat} {cs : Array Value} {t : TypeId} {fr : Nat × Nat} {u : Value} (hr : W.heap[b]? = some (.cells cs t fr)) (hj : cs[j]? = some u) (hb : b < N := by first | omega | (simp <;> omega)) : wd.cell? ⟨b, j, none⟩ = some u := by
  rw [cell_of_row wd b j cs t fr ((h.block b hb).trans hr)]
  exact hj
theorem frozenz (h : Below N W wd) {b : Nat} (j : Nat) {cs : Array Value} {t : TypeId} (hr : W.heap[b]? = some (.cells cs t (0, 0))) (hb : b < N := by first | omega | (simp <;> omega)) : wd.frozen? ⟨b, j, none⟩ = false :=
  frozen_of_row wd b j cs t ((h.block b hb).trans hr)
theorem unalloc {o : Obj} (h : Below N (W.alloc o) wd) (hN : N ≤ W.heap.size) : Below N W wd := ((Below.refl W.heap.size W).alloc (Nat.le_refl _) o).mono hN |>.trans h
end
theorem unal {w w' : World} {o : Obj} (h : Below (w.alloc o).heap.size (w.alloc o) w') : Below w.heap.size w w' := unalloc (h.mono (by simp)) (Nat.le_refl _)
theorem cell_old {w : World} {b j : Nat} {u : Value} (o : Obj) (h : w.cell? ⟨b, j, none⟩ = some u) : (w.alloc o).cell? ⟨b, j, none⟩ = some u :=
  (((Below.refl w.heap.size w).alloc (Nat.le_refl _) o).cell (p := ⟨b, j, none⟩) (World.block_lt_of_cell? w _ h)).trans h
/-- Two and three new blocks. -/
theorem boxes1 (w : World) (p : Array Value) (s : TypeId) : ∃ W, W = w.alloc (.cells p s) ∧ W.heap.size = w.heap.size + 1 ∧ W.heap[w.heap.size]? = some (.cells p s (0, 0)) ∧ Below w.heap.size w W :=
  ⟨_, rfl, by simp, (by first | exact row_here _ _ (by simp) | exact row_old _ (row_here _ _ (by simp)) | exact row_old _ (row_old _ (row_here _ _ (by simp))) | exact row_old _ (row_old _ (row_old _ (row_here _ _ (by simp))))), (Below.refl _ _).alloc (Nat.le_refl _) _⟩
theorem boxes2 (w : World) (p q : Array Value) (s t : TypeId) : ∃ W, W = (w.alloc (.cells p s)).alloc (.cells q t) ∧ W.heap.size = w.heap.size + 2 ∧ W.heap[w.heap.size]? = some (.cells p s (0, 0)) ∧ W.heap[w.heap.size + 1]? = some (.cells q t (0, 0)) ∧ Below w.heap.size w W :=
  ⟨_, rfl, by simp, (by first | exact row_here _ _ (by simp) | exact row_old _ (row_here _ _ (by simp)) | exact row_old _ (row_old _ (row_here _ _ (by simp))) | exact row_old _ (row_old _ (row_old _ (row_here _ _ (by simp))))), (by first | exact row_here _ _ (by simp) | exact row_old _ (row_here _ _ (by simp)) | exact row_old _ (row_old _ (row_here _ _ (by simp))) | exact row_old _ (row_old _ (row_old _ (row_here _ _ (by simp))))), ((Below.refl _ _).alloc (Nat.le_refl _) _).alloc (by simp) _⟩
theorem boxes3 (w : World) (p q r : Array Value) (s t u : TypeId) : ∃ W, W = ((w.alloc (.cells p s)).alloc (.cells q t)).alloc (.cells r u) ∧ W.heap.size = w.heap.size + 3 ∧ W.heap[w.heap.size]? = some (.cells p s (0, 0)) ∧ W.heap[w.heap.size + 1]? = some (.cells q t (0, 0)) ∧ W.heap[w.heap.size + 2]? = some (.cells r u (0, 0)) ∧ Below w.heap.size w W :=
  ⟨_, rfl, by simp, (by first | exact row_here _ _ (by simp) | exact row_old _ (row_here _ _ (by simp)) | exact row_old _ (row_old _ (row_here _ _ (by simp))) | exact row_old _ (row_old _ (row_old _ (row_here _ _ (by simp))))), (by first | exact row_here _ _ (by simp) | exact row_old _ (row_here _ _ (by simp)) | exact row_old _ (row_old _ (row_here _ _ (by simp))) | exact row_old _ (row_old _ (row_old _ (row_here _ _ (by simp))))), (by first | exact row_here _ _ (by simp) | exact row_old _ (row_here _ _ (by simp)) | exact row_old _ (row_old _ (row_here _ _ (by simp))) | exact row_old _ (row_old _ (row_old _ (row_here _ _ (by simp))))), (((Below.refl _ _).alloc (Nat.le_refl _) _).alloc (by simp) _).alloc (by simp; omega) _⟩
theorem ret_u64 {a b : Int} (h : a = b) : Ending.returned (.int .u64 a) = .returned (.int .u64 b) := by rw [h]
theorem ret_bool {a b : Bool} (h : a = b) : Ending.returned (.bool a) = .returned (.bool b) := by rw [h]
theorem u64w (x : Int) (h : 0 ≤ x) (h2 : x < 18446744073709551616) : IntKind.u64.wrap x = x := by
  simp only [IntKind.wrap_u64]; omega

end Go.Proofs.Ytlpckhjmbfeegaa.Qu
