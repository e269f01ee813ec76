/- What waits, what is told of, and what is void: the program's and the reference's. What is told of: the program's and the reference's. -/
import Derived.Test.YtapfggpeodpflaaBehrM
namespace Go.Proofs.Ytapfggpeodpflaa
open Go.RowKit

def En.tells (e x : En) : Bool := decide (e.at x.ix = some x.look)
def En.again (e x : En) : Bool := decide (e.kd = 1) && (decide (x.kd = 1) && (decide (e.cl = x.cl) && (decide (e.rq = x.rq) && decide (e.ix ≠ x.ix))))
def En.other (e x : En) : Bool := (e.at x.ix).isSome && !e.tells x
def En.voids (e x : En) : Bool := decide (x.tm < e.tm) && (decide (e.st ≤ x.ix) || (e.other x || e.again x))
theorem En.at_ok {e : En} {w : World} (h : e.Reads w) {i : Nat} {l : Lk} (hl : e.at i = some l) : l.Ok := by
  unfold En.at at hl
  split at hl
  · exact h.oks l (List.mem_of_getElem? hl)
  · cases hl
theorem row1 (w : World) (cs : Array Value) (t : TypeId) : ∃ W, W = w.alloc (.cells cs t) ∧ W.heap.size = w.heap.size + 1 ∧ W.heap[w.heap.size]? = some (.cells cs t (0, 0)) ∧ Below w.heap.size w W :=
  ⟨_, rfl, by simp, heap_alloc_new w _, (Below.refl _ _).alloc (Nat.le_refl _) _⟩

end Go.Proofs.Ytapfggpeodpflaa

namespace Go.Proofs.Ytapfggpeodpflaa
open Go.RowKit

theorem eq_look (a b c d a' b' c' d' : Nat) (w : World) : (binOp .eql 78 (.agg #[.int .u64 (a : Int), .int .u64 (b : Int), .int .u32 (c : Int), .int .u32 (d : Int)]) (.agg #[.int .u64 (a' : Int), .int .u64 (b' : Int), .int .u32 (c' : Int), .int .u32 (d' : Int)])).run Try.prog w = .ok (.bool (decide ((⟨a, b, c, d⟩ : Lk) = ⟨a', b', c', d'⟩))) w := by
  go_simp
  simp only [Int.ofNat_inj]
  by_cases h1 : a = a' <;> by_cases h2 : b = b' <;> by_cases h3 : c = c' <;> by_cases h4 : d = d' <;> simp [h1, h2, h3, h4]

set_option maxHeartbeats 2000000 in
theorem tells_any (e x : En) (w : World) (h : e.Reads w) (hx : x.Reads w) : Calls Try.prog 86 #[.agg e.cells, .agg x.cells] w fun r w' => r = .returned (.bool (e.tells x)) ∧ Below w.heap.size w w' := by
  obtain ⟨W, hW, hz, r0, r1, hb⟩ := boxes2 w e.cells x.cells 55 55
  have hAT := fun W' (hb' : Below W.heap.size W W') => at_any e x.ix W' ((h.below hb).below hb') hx.ix
  have hLK := fun W' => look_any x W'
  have HB := Lib.hid hb
  have HZ := Lib.hid hz
  cases hat : e.at x.ix with
  | none =>
    have hcl : e.tells x = false := by unfold En.tells; rw [hat]; simp
    rw [hcl]
    rw [hat] at hAT
    have HAT := Lib.hid hAT
    clear hcl hat hAT h hx hb hz hLK
    obtain ⟨ix, tm, st, kd, cl, rq, fr, ct, da, A, bn, bc, ls⟩ := e
    obtain ⟨ix2, tm2, st2, kd2, cl2, rq2, fr2, ct2, da2, A2, bn2, bc2, ls2⟩ := x
    unfold En.cells at *
    dsimp only at *

    go_enter Try.func86, Try.ntmps86
    go_wp2_with (first
      | (go_at_call 85; rw [← hW]; refine (HAT.out _ (Below.refl _ _)).mono ?_; unfold toldV Lk.zero Lk.val; dsimp only [Option.getD, Option.isSome]; rintro e w1 ⟨rfl, hb1⟩
         have hlt1 : w.heap.size + 1 < w1.heap.size := by have := HZ.out; have := hb1.size; omega
         have HB1 := Lib.hid hb1
         clear hb1)
      | fail)
    obtain ⟨Z, hZ, hZs, r2, hZb⟩ := row1 w1 #[.int .u64 0, .int .u64 0, .int .u32 0, .int .u32 0] 78
    rw [← hZ]
    have R1 := (hZb.block _ hlt1).trans ((HB1.out.block (w.heap.size + 1) (by have := HZ.out; omega)).trans r1)
    have HZW := Lib.hid (HB.out.trans ((HB1.out.trans (hZb.mono HB1.out.size)).mono HB.out.size))
    clear hZ hZb
    refine wp_low Z.heap.size [([0, 1, 2, 3], 4)] [5, 6, 7] (by kernel_rfl) (by kernel_rfl) (fun d _ _ _ _ h => by cases d <;> exact h) (Nat.le_refl _) fun wd hbd => ?_

    intro q hq
    simp only [pickI, Option.toList_some, List.cons_append, List.nil_append, List.getElem?_toArray, List.getElem?_cons_succ, List.getElem?_cons_zero]
    repeat (go_big_quiet_step (fail))
    refine wpQuiet_nil ?_
    clear hq q
    refine seg_op (by simp only [List.getElem?_toArray, List.getElem?_cons_succ, List.getElem?_cons_zero]; rfl) fun K hK => ?_
    go_simp
    refine hK.out _ _ (seg_keep hbd ?_)
    clear hK K
    intro q hq
    simp only [pickI, Option.toList_some, List.cons_append, List.nil_append, List.getElem?_toArray, List.getElem?_cons_succ, List.getElem?_cons_zero]
    repeat (go_big_quiet_step (fail))
    refine wpQuiet_nil ?_
    clear hq q
    go_wp2
    go_ret
    exact ⟨rfl, HZW.out.trans (hbd.mono HZW.out.size)⟩
  | some l =>
    have hcl : e.tells x = decide (l = x.look) := by unfold En.tells; rw [hat]; simp
    rw [hcl]
    rw [hat] at hAT
    have HAT := Lib.hid hAT
    have HLK := Lib.hid hLK
    clear hcl hat hAT h hx hb hz hLK
    obtain ⟨ix, tm, st, kd, cl, rq, fr, ct, da, A, bn, bc, ls⟩ := e
    obtain ⟨ix2, tm2, st2, kd2, cl2, rq2, fr2, ct2, da2, A2, bn2, bc2, ls2⟩ := x
    obtain ⟨l1, l2, l3, l4⟩ := l
    unfold En.cells En.look at *
    dsimp only at *
    have hEQ := fun W' => eq_look l1 l2 l3 l4 cl2 rq2 fr2 ct2 W'

    go_enter Try.func86, Try.ntmps86
    go_wp2_with (first
      | (go_at_call 85; rw [← hW]; refine (HAT.out _ (Below.refl _ _)).mono ?_; unfold toldV Lk.zero Lk.val; dsimp only [Option.getD, Option.isSome]; rintro e w1 ⟨rfl, hb1⟩
         have hlt1 : w.heap.size + 1 < w1.heap.size := by have := HZ.out; have := hb1.size; omega
         have HB1 := Lib.hid hb1
         clear hb1)
      | fail)
    obtain ⟨Z, hZ, hZs, r2, hZb⟩ := row1 w1 #[.int .u64 (l1 : Int), .int .u64 (l2 : Int), .int .u32 (l3 : Int), .int .u32 (l4 : Int)] 78
    rw [← hZ]
    have R1 := (hZb.block _ hlt1).trans ((HB1.out.block (w.heap.size + 1) (by have := HZ.out; omega)).trans r1)
    have HZW := Lib.hid (HB.out.trans ((HB1.out.trans (hZb.mono HB1.out.size)).mono HB.out.size))
    clear hZ hZb
    refine wp_low Z.heap.size [([0, 1, 2, 3], 4)] [5, 6, 7] (by kernel_rfl) (by kernel_rfl) (fun d _ _ _ _ h => by cases d <;> exact h) (Nat.le_refl _) fun wd hbd => ?_

    intro q hq
    have d0 := fun z => cellz (j := 0) (u := .int .u64 (ix2 : Int)) (hq z) R1 rfl (by have := HZ.out; omega)
    have d1 := fun z => cellz (j := 1) (u := .int .u64 (tm2 : Int)) (hq z) R1 rfl (by have := HZ.out; omega)
    have d2 := fun z => cellz (j := 2) (u := .int .u64 (st2 : Int)) (hq z) R1 rfl (by have := HZ.out; omega)
    have d3 := fun z => cellz (j := 3) (u := .int .i64 kd2) (hq z) R1 rfl (by have := HZ.out; omega)
    have d4 := fun z => cellz (j := 4) (u := .int .u64 (cl2 : Int)) (hq z) R1 rfl (by have := HZ.out; omega)
    have d5 := fun z => cellz (j := 5) (u := .int .u64 (rq2 : Int)) (hq z) R1 rfl (by have := HZ.out; omega)
    have d6 := fun z => cellz (j := 6) (u := .int .u32 (fr2 : Int)) (hq z) R1 rfl (by have := HZ.out; omega)
    have d7 := fun z => cellz (j := 7) (u := .int .u32 (ct2 : Int)) (hq z) R1 rfl (by have := HZ.out; omega)
    have d8 := fun z => cellz (j := 8) (u := .string (str da2)) (hq z) R1 rfl (by have := HZ.out; omega)
    have d9 := fun z => cellz (j := 9) (u := .slice A2 bn2 bc2) (hq z) R1 rfl (by have := HZ.out; omega)
    have f0 := fun z => cellz (j := 0) (hq z) r2 rfl
    have f1 := fun z => cellz (j := 1) (hq z) r2 rfl
    have f2 := fun z => cellz (j := 2) (hq z) r2 rfl
    have f3 := fun z => cellz (j := 3) (hq z) r2 rfl
    simp only [pickI, Option.toList_some, List.cons_append, List.nil_append, List.getElem?_toArray, List.getElem?_cons_succ, List.getElem?_cons_zero]
    repeat (go_big_quiet_step (fail))
    refine wpQuiet_nil ?_
    clear d0 d1 d2 d3 d4 d5 d6 d7 d8 d9 f0 f1 f2 f3 hq q
    refine seg_op (by simp only [List.getElem?_toArray, List.getElem?_cons_succ, List.getElem?_cons_zero]; rfl) fun K hK => ?_
    go_simp
    refine (HLK.out _).mono ?_
    rintro e v0 ⟨rfl, bv0⟩; unfold Lk.val
    have zv0 := hbd.trans (bv0.mono hbd.size)
    refine hK.out _ _ (seg_keep zv0 ?_)
    clear hK K
    intro q hq
    have d0 := fun z => cellz (j := 0) (u := .int .u64 (ix2 : Int)) (hq z) R1 rfl (by have := HZ.out; omega)
    have d1 := fun z => cellz (j := 1) (u := .int .u64 (tm2 : Int)) (hq z) R1 rfl (by have := HZ.out; omega)
    have d2 := fun z => cellz (j := 2) (u := .int .u64 (st2 : Int)) (hq z) R1 rfl (by have := HZ.out; omega)
    have d3 := fun z => cellz (j := 3) (u := .int .i64 kd2) (hq z) R1 rfl (by have := HZ.out; omega)
    have d4 := fun z => cellz (j := 4) (u := .int .u64 (cl2 : Int)) (hq z) R1 rfl (by have := HZ.out; omega)
    have d5 := fun z => cellz (j := 5) (u := .int .u64 (rq2 : Int)) (hq z) R1 rfl (by have := HZ.out; omega)
    have d6 := fun z => cellz (j := 6) (u := .int .u32 (fr2 : Int)) (hq z) R1 rfl (by have := HZ.out; omega)
    have d7 := fun z => cellz (j := 7) (u := .int .u32 (ct2 : Int)) (hq z) R1 rfl (by have := HZ.out; omega)
    have d8 := fun z => cellz (j := 8) (u := .string (str da2)) (hq z) R1 rfl (by have := HZ.out; omega)
    have d9 := fun z => cellz (j := 9) (u := .slice A2 bn2 bc2) (hq z) R1 rfl (by have := HZ.out; omega)
    have f0 := fun z => cellz (j := 0) (hq z) r2 rfl
    have f1 := fun z => cellz (j := 1) (hq z) r2 rfl
    have f2 := fun z => cellz (j := 2) (hq z) r2 rfl
    have f3 := fun z => cellz (j := 3) (hq z) r2 rfl
    simp only [pickI, Option.toList_some, List.cons_append, List.nil_append, List.getElem?_toArray, List.getElem?_cons_succ, List.getElem?_cons_zero]
    repeat (go_big_quiet_step (fail))
    refine wpQuiet_nil ?_
    clear d0 d1 d2 d3 d4 d5 d6 d7 d8 d9 f0 f1 f2 f3 hq q
    go_wp2
    go_ret
    exact ⟨show Ending.returned (.bool (decide (l1 = cl2) && (decide (l2 = rq2) && (decide (l3 = fr2) && decide (l4 = ct2))))) = _ from ret_bool (by simp), HZW.out.trans (zv0.mono HZW.out.size)⟩

set_option maxHeartbeats 2000000 in
theorem rtells_any (e x : En) (w : World) (h : e.Reads w) (hx : x.Reads w) : Calls Try.prog 72 #[.agg e.cells, .agg x.cells] w fun r w' => r = .returned (.bool (e.tells x)) ∧ Below w.heap.size w w' := by
  obtain ⟨W, hW, hz, r0, r1, hb⟩ := boxes2 w e.cells x.cells 55 55
  have hAT := fun W' (hb' : Below W.heap.size W W') => rat_any e x.ix W' ((h.below hb).below hb') hx.ix
  have hLK := fun W' => rlook_any x W'
  have HB := Lib.hid hb
  have HZ := Lib.hid hz
  cases hat : e.at x.ix with
  | none =>
    have hcl : e.tells x = false := by unfold En.tells; rw [hat]; simp
    rw [hcl]
    rw [hat] at hAT
    have HAT := Lib.hid hAT
    clear hcl hat hAT h hx hb hz hLK
    obtain ⟨ix, tm, st, kd, cl, rq, fr, ct, da, A, bn, bc, ls⟩ := e
    obtain ⟨ix2, tm2, st2, kd2, cl2, rq2, fr2, ct2, da2, A2, bn2, bc2, ls2⟩ := x
    unfold En.cells at *
    dsimp only at *

    go_enter Try.func72, Try.ntmps72
    go_wp2_with (first
      | (go_at_call 71; rw [← hW]; refine (HAT.out _ (Below.refl _ _)).mono ?_; unfold toldV Lk.zero Lk.val; dsimp only [Option.getD, Option.isSome]; rintro e w1 ⟨rfl, hb1⟩
         have hlt1 : w.heap.size + 1 < w1.heap.size := by have := HZ.out; have := hb1.size; omega
         have HB1 := Lib.hid hb1
         clear hb1)
      | fail)
    obtain ⟨Z, hZ, hZs, r2, hZb⟩ := row1 w1 #[.int .u64 0, .int .u64 0, .int .u32 0, .int .u32 0] 78
    rw [← hZ]
    have R1 := (hZb.block _ hlt1).trans ((HB1.out.block (w.heap.size + 1) (by have := HZ.out; omega)).trans r1)
    have HZW := Lib.hid (HB.out.trans ((HB1.out.trans (hZb.mono HB1.out.size)).mono HB.out.size))
    clear hZ hZb
    refine wp_low Z.heap.size [([0, 1, 2, 3], 4)] [5, 6, 7] (by kernel_rfl) (by kernel_rfl) (fun d _ _ _ _ h => by cases d <;> exact h) (Nat.le_refl _) fun wd hbd => ?_

    intro q hq
    simp only [pickI, Option.toList_some, List.cons_append, List.nil_append, List.getElem?_toArray, List.getElem?_cons_succ, List.getElem?_cons_zero]
    repeat (go_big_quiet_step (fail))
    refine wpQuiet_nil ?_
    clear hq q
    refine seg_op (by simp only [List.getElem?_toArray, List.getElem?_cons_succ, List.getElem?_cons_zero]; rfl) fun K hK => ?_
    go_simp
    refine hK.out _ _ (seg_keep hbd ?_)
    clear hK K
    intro q hq
    simp only [pickI, Option.toList_some, List.cons_append, List.nil_append, List.getElem?_toArray, List.getElem?_cons_succ, List.getElem?_cons_zero]
    repeat (go_big_quiet_step (fail))
    refine wpQuiet_nil ?_
    clear hq q
    go_wp2
    go_ret
    exact ⟨rfl, HZW.out.trans (hbd.mono HZW.out.size)⟩
  | some l =>
    have hcl : e.tells x = decide (l = x.look) := by unfold En.tells; rw [hat]; simp
    rw [hcl]
    rw [hat] at hAT
    have HAT := Lib.hid hAT
    have HLK := Lib.hid hLK
    clear hcl hat hAT h hx hb hz hLK
    obtain ⟨ix, tm, st, kd, cl, rq, fr, ct, da, A, bn, bc, ls⟩ := e
    obtain ⟨ix2, tm2, st2, kd2, cl2, rq2, fr2, ct2, da2, A2, bn2, bc2, ls2⟩ := x
    obtain ⟨l1, l2, l3, l4⟩ := l
    unfold En.cells En.look at *
    dsimp only at *
    have hEQ := fun W' => eq_look l1 l2 l3 l4 cl2 rq2 fr2 ct2 W'

    go_enter Try.func72, Try.ntmps72
    go_wp2_with (first
      | (go_at_call 71; rw [← hW]; refine (HAT.out _ (Below.refl _ _)).mono ?_; unfold toldV Lk.zero Lk.val; dsimp only [Option.getD, Option.isSome]; rintro e w1 ⟨rfl, hb1⟩
         have hlt1 : w.heap.size + 1 < w1.heap.size := by have := HZ.out; have := hb1.size; omega
         have HB1 := Lib.hid hb1
         clear hb1)
      | fail)
    obtain ⟨Z, hZ, hZs, r2, hZb⟩ := row1 w1 #[.int .u64 (l1 : Int), .int .u64 (l2 : Int), .int .u32 (l3 : Int), .int .u32 (l4 : Int)] 78
    rw [← hZ]
    have R1 := (hZb.block _ hlt1).trans ((HB1.out.block (w.heap.size + 1) (by have := HZ.out; omega)).trans r1)
    have HZW := Lib.hid (HB.out.trans ((HB1.out.trans (hZb.mono HB1.out.size)).mono HB.out.size))
    clear hZ hZb
    refine wp_low Z.heap.size [([0, 1, 2, 3], 4)] [5, 6, 7] (by kernel_rfl) (by kernel_rfl) (fun d _ _ _ _ h => by cases d <;> exact h) (Nat.le_refl _) fun wd hbd => ?_

    intro q hq
    have d0 := fun z => cellz (j := 0) (u := .int .u64 (ix2 : Int)) (hq z) R1 rfl (by have := HZ.out; omega)
    have d1 := fun z => cellz (j := 1) (u := .int .u64 (tm2 : Int)) (hq z) R1 rfl (by have := HZ.out; omega)
    have d2 := fun z => cellz (j := 2) (u := .int .u64 (st2 : Int)) (hq z) R1 rfl (by have := HZ.out; omega)
    have d3 := fun z => cellz (j := 3) (u := .int .i64 kd2) (hq z) R1 rfl (by have := HZ.out; omega)
    have d4 := fun z => cellz (j := 4) (u := .int .u64 (cl2 : Int)) (hq z) R1 rfl (by have := HZ.out; omega)
    have d5 := fun z => cellz (j := 5) (u := .int .u64 (rq2 : Int)) (hq z) R1 rfl (by have := HZ.out; omega)
    have d6 := fun z => cellz (j := 6) (u := .int .u32 (fr2 : Int)) (hq z) R1 rfl (by have := HZ.out; omega)
    have d7 := fun z => cellz (j := 7) (u := .int .u32 (ct2 : Int)) (hq z) R1 rfl (by have := HZ.out; omega)
    have d8 := fun z => cellz (j := 8) (u := .string (str da2)) (hq z) R1 rfl (by have := HZ.out; omega)
    have d9 := fun z => cellz (j := 9) (u := .slice A2 bn2 bc2) (hq z) R1 rfl (by have := HZ.out; omega)
    have f0 := fun z => cellz (j := 0) (hq z) r2 rfl
    have f1 := fun z => cellz (j := 1) (hq z) r2 rfl
    have f2 := fun z => cellz (j := 2) (hq z) r2 rfl
    have f3 := fun z => cellz (j := 3) (hq z) r2 rfl
    simp only [pickI, Option.toList_some, List.cons_append, List.nil_append, List.getElem?_toArray, List.getElem?_cons_succ, List.getElem?_cons_zero]
    repeat (go_big_quiet_step (fail))
    refine wpQuiet_nil ?_
    clear d0 d1 d2 d3 d4 d5 d6 d7 d8 d9 f0 f1 f2 f3 hq q
    refine seg_op (by simp only [List.getElem?_toArray, List.getElem?_cons_succ, List.getElem?_cons_zero]; rfl) fun K hK => ?_
    go_simp
    refine (HLK.out _).mono ?_
    rintro e v0 ⟨rfl, bv0⟩; unfold Lk.val
    have zv0 := hbd.trans (bv0.mono hbd.size)
    refine hK.out _ _ (seg_keep zv0 ?_)
    clear hK K
    intro q hq
    have d0 := fun z => cellz (j := 0) (u := .int .u64 (ix2 : Int)) (hq z) R1 rfl (by have := HZ.out; omega)
    have d1 := fun z => cellz (j := 1) (u := .int .u64 (tm2 : Int)) (hq z) R1 rfl (by have := HZ.out; omega)
    have d2 := fun z => cellz (j := 2) (u := .int .u64 (st2 : Int)) (hq z) R1 rfl (by have := HZ.out; omega)
    have d3 := fun z => cellz (j := 3) (u := .int .i64 kd2) (hq z) R1 rfl (by have := HZ.out; omega)
    have d4 := fun z => cellz (j := 4) (u := .int .u64 (cl2 : Int)) (hq z) R1 rfl (by have := HZ.out; omega)
    have d5 := fun z => cellz (j := 5) (u := .int .u64 (rq2 : Int)) (hq z) R1 rfl (by have := HZ.out; omega)
    have d6 := fun z => cellz (j := 6) (u := .int .u32 (fr2 : Int)) (hq z) R1 rfl (by have := HZ.out; omega)
    have d7 := fun z => cellz (j := 7) (u := .int .u32 (ct2 : Int)) (hq z) R1 rfl (by have := HZ.out; omega)
    have d8 := fun z => cellz (j := 8) (u := .string (str da2)) (hq z) R1 rfl (by have := HZ.out; omega)
    have d9 := fun z => cellz (j := 9) (u := .slice A2 bn2 bc2) (hq z) R1 rfl (by have := HZ.out; omega)
    have f0 := fun z => cellz (j := 0) (hq z) r2 rfl
    have f1 := fun z => cellz (j := 1) (hq z) r2 rfl
    have f2 := fun z => cellz (j := 2) (hq z) r2 rfl
    have f3 := fun z => cellz (j := 3) (hq z) r2 rfl
    simp only [pickI, Option.toList_some, List.cons_append, List.nil_append, List.getElem?_toArray, List.getElem?_cons_succ, List.getElem?_cons_zero]
    repeat (go_big_quiet_step (fail))
    refine wpQuiet_nil ?_
    clear d0 d1 d2 d3 d4 d5 d6 d7 d8 d9 f0 f1 f2 f3 hq q
    go_wp2
    go_ret
    exact ⟨show Ending.returned (.bool (decide (l1 = cl2) && (decide (l2 = rq2) && (decide (l3 = fr2) && decide (l4 = ct2))))) = _ from ret_bool (by simp), HZW.out.trans (zv0.mono HZW.out.size)⟩


end Go.Proofs.Ytapfggpeodpflaa
