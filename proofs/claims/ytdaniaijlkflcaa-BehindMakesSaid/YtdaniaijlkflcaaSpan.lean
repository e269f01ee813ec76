/- Contracts of package span, its first half: ends, runs, and what lies up to where the first of some ends. -/
import Derived.Test.YtdaniaijlkflcaaWords
import Derived.Test.YtdaniaijlkflcaaSegs
namespace Go.Proofs.Ytdaniaijlkflcaa
open Go.RowKit

section
variable {N : Nat} {W wd : World}
theorem kept (h : Below N W wd) {b o : Nat} {u : Value} (hc : W.cell? ⟨b, o, none⟩ = some u) (hb : b < N := by first | omega | (simp <;> omega)) : wd.cell? ⟨b, o, none⟩ = some u := (h.cell (p := ⟨b, o, none⟩) hb).trans hc
theorem keptz (h : Below N W wd) {b o : Nat} {t : Bool} (hc : W.frozen? ⟨b, o, none⟩ = t) (hb : b < N := by first | omega | (simp <;> omega)) : wd.frozen? ⟨b, o, none⟩ = t := (h.frozen (p := ⟨b, o, none⟩) hb).trans hc
theorem row_here (w : World) (o : Obj) {n : Nat} (hn : n = w.heap.size) : (w.alloc o).heap[n]? = some o := by subst hn; exact heap_alloc_new w o
theorem row_old {w : World} {o' : Obj} (o : Obj) {n : Nat} (h : w.heap[n]? = some o') : (w.alloc o).heap[n]? = some o' := (heap_alloc_old w o (Array.getElem?_eq_some_iff.1 h).1).trans h
theorem cellz (h : Below N W wd) {b j : Nat} {cs : Array Value} {t : TypeId} {fr : Nat × Nat} {u : Value} (hr : W.heap[b]? = some (.cells cs t fr)) (hj : cs[j]? = some u) (hb : b < N := by first | omega | (simp <;> omega)) : wd.cell? ⟨b, j, none⟩ = some u := by
  rw [cell_of_row wd b j cs t fr ((h.block b hb).trans hr)]
  exact hj
theorem frozenz (h : Below N W wd) {b : Nat} (j : Nat) {cs : Array Value} {t : TypeId} (hr : W.heap[b]? = some (.cells cs t (0, 0))) (hb : b < N := by first | omega | (simp <;> omega)) : wd.frozen? ⟨b, j, none⟩ = false :=
  frozen_of_row wd b j cs t ((h.block b hb).trans hr)
theorem unalloc {o : Obj} (h : Below N (W.alloc o) wd) (hN : N ≤ W.heap.size) : Below N W wd := ((Below.refl W.heap.size W).alloc (Nat.le_refl _) o).mono hN |>.trans h
end
theorem unal {w w' : World} {o : Obj} (h : Below (w.alloc o).heap.size (w.alloc o) w') : Below w.heap.size w w' := unalloc (h.mono (by simp)) (Nat.le_refl _)
/-- Two and three new blocks. -/
theorem boxes2 (w : World) (p q : Array Value) (s t : TypeId) : ∃ W, W = (w.alloc (.cells p s)).alloc (.cells q t) ∧ W.heap.size = w.heap.size + 2 ∧ W.heap[w.heap.size]? = some (.cells p s (0, 0)) ∧ W.heap[w.heap.size + 1]? = some (.cells q t (0, 0)) ∧ Below w.heap.size w W :=
  ⟨_, rfl, by simp, (by first | exact row_here _ _ (by simp) | exact row_old _ (row_here _ _ (by simp)) | exact row_old _ (row_old _ (row_here _ _ (by simp))) | exact row_old _ (row_old _ (row_old _ (row_here _ _ (by simp))))), (by first | exact row_here _ _ (by simp) | exact row_old _ (row_here _ _ (by simp)) | exact row_old _ (row_old _ (row_here _ _ (by simp))) | exact row_old _ (row_old _ (row_old _ (row_here _ _ (by simp))))), ((Below.refl _ _).alloc (Nat.le_refl _) _).alloc (by simp) _⟩
theorem boxes3 (w : World) (p q r : Array Value) (s t u : TypeId) : ∃ W, W = ((w.alloc (.cells p s)).alloc (.cells q t)).alloc (.cells r u) ∧ W.heap.size = w.heap.size + 3 ∧ W.heap[w.heap.size]? = some (.cells p s (0, 0)) ∧ W.heap[w.heap.size + 1]? = some (.cells q t (0, 0)) ∧ W.heap[w.heap.size + 2]? = some (.cells r u (0, 0)) ∧ Below w.heap.size w W :=
  ⟨_, rfl, by simp, (by first | exact row_here _ _ (by simp) | exact row_old _ (row_here _ _ (by simp)) | exact row_old _ (row_old _ (row_here _ _ (by simp))) | exact row_old _ (row_old _ (row_old _ (row_here _ _ (by simp))))), (by first | exact row_here _ _ (by simp) | exact row_old _ (row_here _ _ (by simp)) | exact row_old _ (row_old _ (row_here _ _ (by simp))) | exact row_old _ (row_old _ (row_old _ (row_here _ _ (by simp))))), (by first | exact row_here _ _ (by simp) | exact row_old _ (row_here _ _ (by simp)) | exact row_old _ (row_old _ (row_here _ _ (by simp))) | exact row_old _ (row_old _ (row_old _ (row_here _ _ (by simp))))), (((Below.refl _ _).alloc (Nat.le_refl _) _).alloc (by simp) _).alloc (by simp; omega) _⟩
theorem ret_u64 {a b : Int} (h : a = b) : Ending.returned (.int .u64 a) = .returned (.int .u64 b) := by rw [h]
theorem ret_bool {a b : Bool} (h : a = b) : Ending.returned (.bool a) = .returned (.bool b) := by rw [h]

theorem end_any (f c : Nat) (w : World) (hf : f < 4294967296) (hc : c < 4294967296) :
    Calls Try.prog 33 #[.agg #[.int .u32 (f : Int), .int .u32 (c : Int)]] w fun e w' => e = .returned (.int .u64 ((f + c : Nat) : Int)) ∧ Below w.heap.size w w' := by
  go_enter Try.func33, Try.ntmps33
  go_wp2
  go_ret
  exact ⟨ret_u64 (by omega), (Below.refl _ _).alloc (Nat.le_refl _) _⟩

theorem runOf_any (f c : Nat) (w : World) (hf : f < 4294967296) (hc : c < 4294967296) :
    Calls Try.prog 31 #[.agg #[.int .u32 (f : Int), .int .u32 (c : Int)]] w fun e w' => e = .returned (.agg #[.int .u64 (f : Int), .int .u64 ((f + c : Nat) : Int)]) ∧ Below w.heap.size w w' := by
  go_enter Try.func31, Try.ntmps31
  go_wp2
  refine wp_low (w.heap.size + 1) [([0, 1, 2, 3], 4), ([5], 6)] [] (by kernel_rfl) (by kernel_rfl) (fun d _ _ _ _ h => by cases d <;> exact h) (by simp <;> omega) fun wd hbd => ?_
  intro g hg
  have d0 : ∀ z, (g z).cell? ⟨w.heap.size, 0, none⟩ = some (.int .u32 (f : Int)) := fun z => kept (hg z) (by simp)
  have d1 : ∀ z, (g z).cell? ⟨w.heap.size, 1, none⟩ = some (.int .u32 (c : Int)) := fun z => kept (hg z) (by simp)
  simp only [pickI, Option.toList_some, List.cons_append, List.nil_append, List.getElem?_toArray, List.getElem?_cons_succ, List.getElem?_cons_zero]
  repeat (go_big_quiet_step (fail))
  refine wpQuiet_nil ?_
  clear d0 d1 hg g
  refine seg_op (by simp only [List.getElem?_toArray, List.getElem?_cons_succ, List.getElem?_cons_zero]; rfl) fun K hK => ?_
  go_simp
  refine (end_any f c _ hf hc).mono ?_
  rintro e w1 ⟨rfl, hb1⟩
  have hz := hbd.trans (hb1.mono hbd.size)
  refine hK.out _ _ (seg_keep (hz.mono (by simp)) ?_)
  clear hK K
  intro g hg
  simp only [pickI, Option.toList_some, List.cons_append, List.nil_append, List.getElem?_toArray, List.getElem?_cons_succ, List.getElem?_cons_zero]
  repeat (go_big_quiet_step (fail))
  refine wpQuiet_nil ?_
  clear hg g
  refine seg_op (by simp only [List.getElem?_toArray, List.getElem?_cons_succ, List.getElem?_cons_zero]; rfl) fun K hK => ?_
  have e0 : w1.cell? ⟨w.heap.size + 1, 0, none⟩ = some (.int .u64 0) := kept hz (by simp)
  have e1 : w1.cell? ⟨w.heap.size + 1, 1, none⟩ = some (.int .u64 0) := kept hz (by simp)
  have z0 : w1.frozen? ⟨w.heap.size + 1, 0, none⟩ = false := keptz hz (by simp)
  have z1 : w1.frozen? ⟨w.heap.size + 1, 1, none⟩ = false := keptz hz (by simp)
  go_simp
  have hz2 := ((show Below (w.heap.size + 1) _ w1 from hz.mono (by simp)).setCell (p := ⟨w.heap.size + 1, 0, none⟩) (by simp) (.int .u64 (f : Int))).setCell (p := ⟨w.heap.size + 1, 1, none⟩) (by simp) (.int .u64 ((f : Int) + (c : Int)))
  refine hK.out _ _ (seg_keep hz2 ?_)
  clear hK K
  intro g hg
  refine wpQuiet_nil ?_
  clear hg g
  go_wp2
  exact bodyPost_ret (v := .agg #[.int .u64 (f : Int), .int .u64 ((f + c : Nat) : Int)]) (by simp [results, Try.results31, go_sem, e0, e1]) rfl ⟨rfl, unalloc (unalloc (hz2.mono (by simp)) (by simp)) (by simp)⟩

theorem rend_any (x y : Nat) (w : World) : Calls Try.prog 32 #[.agg #[.int .u64 (x : Int), .int .u64 (y : Int)]] w fun e w' => e = .returned (.int .u64 (y : Int)) ∧ Below w.heap.size w w' := by
  go_enter Try.func32, Try.ntmps32
  go_wp2
  go_ret
  exact ⟨rfl, (Below.refl _ _).alloc (Nat.le_refl _) _⟩
end Go.Proofs.Ytdaniaijlkflcaa
