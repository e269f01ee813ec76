/- What is told of: the program's and the reference's. What is void: the program's and the reference's. -/
import Derived.Test.YtapfggpeodpflaaClashM
namespace Go.Proofs.Ytapfggpeodpflaa
open Go.RowKit

theorem eq_look (a b c d a' b' c' d' : Nat) (w : World) : (binOp .eql 78 (.agg #[.int .u64 (a : Int), .int .u64 (b : Int), .int .u32 (c : Int), .int .u32 (d : Int)]) (.agg #[.int .u64 (a' : Int), .int .u64 (b' : Int), .int .u32 (c' : Int), .int .u32 (d' : Int)])).run Try.prog w = .ok (.bool (decide ((⟨a, b, c, d⟩ : Lk) = ⟨a', b', c', d'⟩))) w := by
  go_simp
  simp only [Int.ofNat_inj]
  by_cases h1 : a = a' <;> by_cases h2 : b = b' <;> by_cases h3 : c = c' <;> by_cases h4 : d = d' <;> simp [h1, h2, h3, h4]

set_option maxHeartbeats 2000000 in
theorem tells_any (e x : En) (w : World) (h : e.Reads w) (hx : x.Reads w) : Calls Try.prog 86 #[.agg e.cells, .agg x.cells] w fun r w' => r = .returned (.bool (e.tells x)) ∧ Below w.heap.size w w' := by
  obtain ⟨W, hW, hz, r0, r1, hb⟩ := boxes2 w e.cells x.cells 55 55
  have hAT := fun W' (hb' : Below W.heap.size W W') => at_any e x.ix W' ((h.below hb).below hb') hx.ix
  have hLK := fun W' => look_any x W'
  have HB := Lib.hid hb
  have HZ := Lib.hid hz
  cases hat : e.at x.ix with
  | none =>
    have hcl : e.tells x = false := by unfold En.tells; rw [hat]; simp
    rw [hcl]
    rw [hat] at hAT
    have HAT := Lib.hid hAT
    clear hcl hat hAT h hx hb hz hLK
    obtain ⟨ix, tm, st, kd, cl, rq, fr, ct, da, A, bn, bc, ls⟩ := e
    obtain ⟨ix2, tm2, st2, kd2, cl2, rq2, fr2, ct2, da2, A2, bn2, bc2, ls2⟩ := x
    unfold En.cells at *
    dsimp only at *

    go_enter Try.func86, Try.ntmps86
    go_wp2_with (first
      | (go_at_call 85; rw [← hW]; refine (HAT.out _ (Below.refl _ _)).mono ?_; unfold toldV Lk.zero Lk.val; dsimp only [Option.getD, Option.isSome]; rintro e w1 ⟨rfl, hb1⟩
         have hlt1 : w.heap.size + 1 < w1.heap.size := by have := HZ.out; have := hb1.size; omega
         have HB1 := Lib.hid hb1
         clear hb1)
      | fail)
    obtain ⟨Z, hZ, hZs, r2, hZb⟩ := row1 w1 #[.int .u64 0, .int .u64 0, .int .u32 0, .int .u32 0] 78
    rw [← hZ]
    have R1 := (hZb.block _ hlt1).trans ((HB1.out.block (w.heap.size + 1) (by have := HZ.out; omega)).trans r1)
    have HZW := Lib.hid (HB.out.trans ((HB1.out.trans (hZb.mono HB1.out.size)).mono HB.out.size))
    clear hZ hZb
    refine wp_low Z.heap.size [([0, 1, 2, 3], 4)] [5, 6, 7] (by kernel_rfl) (by kernel_rfl) (fun d _ _ _ _ h => by cases d <;> exact h) (Nat.le_refl _) fun wd hbd => ?_

    intro q hq
    simp only [pickI, Option.toList_some, List.cons_append, List.nil_append, List.getElem?_toArray, List.getElem?_cons_succ, List.getElem?_cons_zero]
    repeat (go_big_quiet_step (fail))
    refine wpQuiet_nil ?_
    clear hq q
    refine seg_op (by simp only [List.getElem?_toArray, List.getElem?_cons_succ, List.getElem?_cons_zero]; rfl) fun K hK => ?_
    go_simp
    refine hK.out _ _ (seg_keep hbd ?_)
    clear hK K
    intro q hq
    simp only [pickI, Option.toList_some, List.cons_append, List.nil_append, List.getElem?_toArray, List.getElem?_cons_succ, List.getElem?_cons_zero]
    repeat (go_big_quiet_step (fail))
    refine wpQuiet_nil ?_
    clear hq q
    go_wp2
    go_ret
    exact ⟨rfl, HZW.out.trans (hbd.mono HZW.out.size)⟩
  | some l =>
    have hcl : e.tells x = decide (l = x.look) := by unfold En.tells; rw [hat]; simp
    rw [hcl]
    rw [hat] at hAT
    have HAT := Lib.hid hAT
    have HLK := Lib.hid hLK
    clear hcl hat hAT h hx hb hz hLK
    obtain ⟨ix, tm, st, kd, cl, rq, fr, ct, da, A, bn, bc, ls⟩ := e
    obtain ⟨ix2, tm2, st2, kd2, cl2, rq2, fr2, ct2, da2, A2, bn2, bc2, ls2⟩ := x
    obtain ⟨l1, l2, l3, l4⟩ := l
    unfold En.cells En.look at *
    dsimp only at *
    have hEQ := fun W' => eq_look l1 l2 l3 l4 cl2 rq2 fr2 ct2 W'

    go_enter Try.func86, Try.ntmps86
    go_wp2_with (first
      | (go_at_call 85; rw [← hW]; refine (HAT.out _ (Below.refl _ _)).mono ?_; unfold toldV Lk.zero Lk.val; dsimp only [Option.getD, Option.isSome]; rintro e w1 ⟨rfl, hb1⟩
         have hlt1 : w.heap.size + 1 < w1.heap.size := by have := HZ.out; have := hb1.size; omega
         have HB1 := Lib.hid hb1
         clear hb1)
      | fail)
    obtain ⟨Z, hZ, hZs, r2, hZb⟩ := row1 w1 #[.int .u64 (l1 : Int), .int .u64 (l2 : Int), .int .u32 (l3 : Int), .int .u32 (l4 : Int)] 78
    rw [← hZ]
    have R1 := (hZb.block _ hlt1).trans ((HB1.out.block (w.heap.size + 1) (by have := HZ.out; omega)).trans r1)
    have HZW := Lib.hid (HB.out.trans ((HB1.out.trans (hZb.mono HB1.out.size)).mono HB.out.size))
    clear hZ hZb
    refine wp_low Z.heap.size [([0, 1, 2, 3], 4)] [5, 6, 7] (by kernel_rfl) (by kernel_rfl) (fun d _ _ _ _ h => by cases d <;> exact h) (Nat.le_refl _) fun wd hbd => ?_

    intro q hq
    have d0 := fun z => cellz (j := 0) (u := .int .u64 (ix2 : Int)) (hq z) R1 rfl (by have := HZ.out; omega)
    have d1 := fun z => cellz (j := 1) (u := .int .u64 (tm2 : Int)) (hq z) R1 rfl (by have := HZ.out; omega)
    have d2 := fun z => cellz (j := 2) (u := .int .u64 (st2 : Int)) (hq z) R1 rfl (by have := HZ.out; omega)
    have d3 := fun z => cellz (j := 3) (u := .int .i64 kd2) (hq z) R1 rfl (by have := HZ.out; omega)
    have d4 := fun z => cellz (j := 4) (u := .int .u64 (cl2 : Int)) (hq z) R1 rfl (by have := HZ.out; omega)
    have d5 := fun z => cellz (j := 5) (u := .int .u64 (rq2 : Int)) (hq z) R1 rfl (by have := HZ.out; omega)
    have d6 := fun z => cellz (j := 6) (u := .int .u32 (fr2 : Int)) (hq z) R1 rfl (by have := HZ.out; omega)
    have d7 := fun z => cellz (j := 7) (u := .int .u32 (ct2 : Int)) (hq z) R1 rfl (by have := HZ.out; omega)
    have d8 := fun z => cellz (j := 8) (u := .string (str da2)) (hq z) R1 rfl (by have := HZ.out; omega)
    have d9 := fun z => cellz (j := 9) (u := .slice A2 bn2 bc2) (hq z) R1 rfl (by have := HZ.out; omega)
    have f0 := fun z => cellz (j := 0) (hq z) r2 rfl
    have f1 := fun z => cellz (j := 1) (hq z) r2 rfl
    have f2 := fun z => cellz (j := 2) (hq z) r2 rfl
    have f3 := fun z => cellz (j := 3) (hq z) r2 rfl
    simp only [pickI, Option.toList_some, List.cons_append, List.nil_append, List.getElem?_toArray, List.getElem?_cons_succ, List.getElem?_cons_zero]
    repeat (go_big_quiet_step (fail))
    refine wpQuiet_nil ?_
    clear d0 d1 d2 d3 d4 d5 d6 d7 d8 d9 f0 f1 f2 f3 hq q
    refine seg_op (by simp only [List.getElem?_toArray, List.getElem?_cons_succ, List.getElem?_cons_zero]; rfl) fun K hK => ?_
    go_simp
    refine (HLK.out _).mono ?_
    rintro e v0 ⟨rfl, bv0⟩; unfold Lk.val
    have zv0 := hbd.trans (bv0.mono hbd.size)
    refine hK.out _ _ (seg_keep zv0 ?_)
    clear hK K
    intro q hq
    have d0 := fun z => cellz (j := 0) (u := .int .u64 (ix2 : Int)) (hq z) R1 rfl (by have := HZ.out; omega)
    have d1 := fun z => cellz (j := 1) (u := .int .u64 (tm2 : Int)) (hq z) R1 rfl (by have := HZ.out; omega)
    have d2 := fun z => cellz (j := 2) (u := .int .u64 (st2 : Int)) (hq z) R1 rfl (by have := HZ.out; omega)
    have d3 := fun z => cellz (j := 3) (u := .int .i64 kd2) (hq z) R1 rfl (by have := HZ.out; omega)
    have d4 := fun z => cellz (j := 4) (u := .int .u64 (cl2 : Int)) (hq z) R1 rfl (by have := HZ.out; omega)
    have d5 := fun z => cellz (j := 5) (u := .int .u64 (rq2 : Int)) (hq z) R1 rfl (by have := HZ.out; omega)
    have d6 := fun z => cellz (j := 6) (u := .int .u32 (fr2 : Int)) (hq z) R1 rfl (by have := HZ.out; omega)
    have d7 := fun z => cellz (j := 7) (u := .int .u32 (ct2 : Int)) (hq z) R1 rfl (by have := HZ.out; omega)
    have d8 := fun z => cellz (j := 8) (u := .string (str da2)) (hq z) R1 rfl (by have := HZ.out; omega)
    have d9 := fun z => cellz (j := 9) (u := .slice A2 bn2 bc2) (hq z) R1 rfl (by have := HZ.out; omega)
    have f0 := fun z => cellz (j := 0) (hq z) r2 rfl
    have f1 := fun z => cellz (j := 1) (hq z) r2 rfl
    have f2 := fun z => cellz (j := 2) (hq z) r2 rfl
    have f3 := fun z => cellz (j := 3) (hq z) r2 rfl
    simp only [pickI, Option.toList_some, List.cons_append, List.nil_append, List.getElem?_toArray, List.getElem?_cons_succ, List.getElem?_cons_zero]
    repeat (go_big_quiet_step (fail))
    refine wpQuiet_nil ?_
    clear d0 d1 d2 d3 d4 d5 d6 d7 d8 d9 f0 f1 f2 f3 hq q
    go_wp2
    go_ret
    exact ⟨show Ending.returned (.bool (decide (l1 = cl2) && (decide (l2 = rq2) && (decide (l3 = fr2) && decide (l4 = ct2))))) = _ from ret_bool (by simp), HZW.out.trans (zv0.mono HZW.out.size)⟩

set_option maxHeartbeats 2000000 in
theorem rtells_any (e x : En) (w : World) (h : e.Reads w) (hx : x.Reads w) : Calls Try.prog 72 #[.agg e.cells, .agg x.cells] w fun r w' => r = .returned (.bool (e.tells x)) ∧ Below w.heap.size w w' := by
  obtain ⟨W, hW, hz, r0, r1, hb⟩ := boxes2 w e.cells x.cells 55 55
  have hAT := fun W' (hb' : Below W.heap.size W W') => rat_any e x.ix W' ((h.below hb).below hb') hx.ix
  have hLK := fun W' => rlook_any x W'
  have HB := Lib.hid hb
  have HZ := Lib.hid hz
  cases hat : e.at x.ix with
  | none =>
    have hcl : e.tells x = false := by unfold En.tells; rw [hat]; simp
    rw [hcl]
    rw [hat] at hAT
    have HAT := Lib.hid hAT
    clear hcl hat hAT h hx hb hz hLK
    obtain ⟨ix, tm, st, kd, cl, rq, fr, ct, da, A, bn, bc, ls⟩ := e
    obtain ⟨ix2, tm2, st2, kd2, cl2, rq2, fr2, ct2, da2, A2, bn2, bc2, ls2⟩ := x
    unfold En.cells at *
    dsimp only at *

    go_enter Try.func72, Try.ntmps72
    go_wp2_with (first
      | (go_at_call 71; rw [← hW]; refine (HAT.out _ (Below.refl _ _)).mono ?_; unfold toldV Lk.zero Lk.val; dsimp only [Option.getD, Option.isSome]; rintro e w1 ⟨rfl, hb1⟩
         have hlt1 : w.heap.size + 1 < w1.heap.size := by have := HZ.out; have := hb1.size; omega
         have HB1 := Lib.hid hb1
         clear hb1)
      | fail)
    obtain ⟨Z, hZ, hZs, r2, hZb⟩ := row1 w1 #[.int .u64 0, .int .u64 0, .int .u32 0, .int .u32 0] 78
    rw [← hZ]
    have R1 := (hZb.block _ hlt1).trans ((HB1.out.block (w.heap.size + 1) (by have := HZ.out; omega)).trans r1)
    have HZW := Lib.hid (HB.out.trans ((HB1.out.trans (hZb.mono HB1.out.size)).mono HB.out.size))
    clear hZ hZb
    refine wp_low Z.heap.size [([0, 1, 2, 3], 4)] [5, 6, 7] (by kernel_rfl) (by kernel_rfl) (fun d _ _ _ _ h => by cases d <;> exact h) (Nat.le_refl _) fun wd hbd => ?_

    intro q hq
    simp only [pickI, Option.toList_some, List.cons_append, List.nil_append, List.getElem?_toArray, List.getElem?_cons_succ, List.getElem?_cons_zero]
    repeat (go_big_quiet_step (fail))
    refine wpQuiet_nil ?_
    clear hq q
    refine seg_op (by simp only [List.getElem?_toArray, List.getElem?_cons_succ, List.getElem?_cons_zero]; rfl) fun K hK => ?_
    go_simp
    refine hK.out _ _ (seg_keep hbd ?_)
    clear hK K
    intro q hq
    simp only [pickI, Option.toList_some, List.cons_append, List.nil_append, List.getElem?_toArray, List.getElem?_cons_succ, List.getElem?_cons_zero]
    repeat (go_big_quiet_step (fail))
    refine wpQuiet_nil ?_
    clear hq q
    go_wp2
    go_ret
    exact ⟨rfl, HZW.out.trans (hbd.mono HZW.out.size)⟩
  | some l =>
    have hcl : e.tells x = decide (l = x.look) := by unfold En.tells; rw [hat]; simp
    rw [hcl]
    rw [hat] at hAT
    have HAT := Lib.hid hAT
    have HLK := Lib.hid hLK
    clear hcl hat hAT h hx hb hz hLK
    obtain ⟨ix, tm, st, kd, cl, rq, fr, ct, da, A, bn, bc, ls⟩ := e
    obtain ⟨ix2, tm2, st2, kd2, cl2, rq2, fr2, ct2, da2, A2, bn2, bc2, ls2⟩ := x
    obtain ⟨l1, l2, l3, l4⟩ := l
    unfold En.cells En.look at *
    dsimp only at *
    have hEQ := fun W' => eq_look l1 l2 l3 l4 cl2 rq2 fr2 ct2 W'

    go_enter Try.func72, Try.ntmps72
    go_wp2_with (first
      | (go_at_call 71; rw [← hW]; refine (HAT.out _ (Below.refl _ _)).mono ?_; unfold toldV Lk.zero Lk.val; dsimp only [Option.getD, Option.isSome]; rintro e w1 ⟨rfl, hb1⟩
         have hlt1 : w.heap.size + 1 < w1.heap.size := by have := HZ.out; have := hb1.size; omega
         have HB1 := Lib.hid hb1
         clear hb1)
      | fail)
    obtain ⟨Z, hZ, hZs, r2, hZb⟩ := row1 w1 #[.int .u64 (l1 : Int), .int .u64 (l2 : Int), .int .u32 (l3 : Int), .int .u32 (l4 : Int)] 78
    rw [← hZ]
    have R1 := (hZb.block _ hlt1).trans ((HB1.out.block (w.heap.size + 1) (by have := HZ.out; omega)).trans r1)
    have HZW := Lib.hid (HB.out.trans ((HB1.out.trans (hZb.mono HB1.out.size)).mono HB.out.size))
    clear hZ hZb
    refine wp_low Z.heap.size [([0, 1, 2, 3], 4)] [5, 6, 7] (by kernel_rfl) (by kernel_rfl) (fun d _ _ _ _ h => by cases d <;> exact h) (Nat.le_refl _) fun wd hbd => ?_

    intro q hq
    have d0 := fun z => cellz (j := 0) (u := .int .u64 (ix2 : Int)) (hq z) R1 rfl (by have := HZ.out; omega)
    have d1 := fun z => cellz (j := 1) (u := .int .u64 (tm2 : Int)) (hq z) R1 rfl (by have := HZ.out; omega)
    have d2 := fun z => cellz (j := 2) (u := .int .u64 (st2 : Int)) (hq z) R1 rfl (by have := HZ.out; omega)
    have d3 := fun z => cellz (j := 3) (u := .int .i64 kd2) (hq z) R1 rfl (by have := HZ.out; omega)
    have d4 := fun z => cellz (j := 4) (u := .int .u64 (cl2 : Int)) (hq z) R1 rfl (by have := HZ.out; omega)
    have d5 := fun z => cellz (j := 5) (u := .int .u64 (rq2 : Int)) (hq z) R1 rfl (by have := HZ.out; omega)
    have d6 := fun z => cellz (j := 6) (u := .int .u32 (fr2 : Int)) (hq z) R1 rfl (by have := HZ.out; omega)
    have d7 := fun z => cellz (j := 7) (u := .int .u32 (ct2 : Int)) (hq z) R1 rfl (by have := HZ.out; omega)
    have d8 := fun z => cellz (j := 8) (u := .string (str da2)) (hq z) R1 rfl (by have := HZ.out; omega)
    have d9 := fun z => cellz (j := 9) (u := .slice A2 bn2 bc2) (hq z) R1 rfl (by have := HZ.out; omega)
    have f0 := fun z => cellz (j := 0) (hq z) r2 rfl
    have f1 := fun z => cellz (j := 1) (hq z) r2 rfl
    have f2 := fun z => cellz (j := 2) (hq z) r2 rfl
    have f3 := fun z => cellz (j := 3) (hq z) r2 rfl
    simp only [pickI, Option.toList_some, List.cons_append, List.nil_append, List.getElem?_toArray, List.getElem?_cons_succ, List.getElem?_cons_zero]
    repeat (go_big_quiet_step (fail))
    refine wpQuiet_nil ?_
    clear d0 d1 d2 d3 d4 d5 d6 d7 d8 d9 f0 f1 f2 f3 hq q
    refine seg_op (by simp only [List.getElem?_toArray, List.getElem?_cons_succ, List.getElem?_cons_zero]; rfl) fun K hK => ?_
    go_simp
    refine (HLK.out _).mono ?_
    rintro e v0 ⟨rfl, bv0⟩; unfold Lk.val
    have zv0 := hbd.trans (bv0.mono hbd.size)
    refine hK.out _ _ (seg_keep zv0 ?_)
    clear hK K
    intro q hq
    have d0 := fun z => cellz (j := 0) (u := .int .u64 (ix2 : Int)) (hq z) R1 rfl (by have := HZ.out; omega)
    have d1 := fun z => cellz (j := 1) (u := .int .u64 (tm2 : Int)) (hq z) R1 rfl (by have := HZ.out; omega)
    have d2 := fun z => cellz (j := 2) (u := .int .u64 (st2 : Int)) (hq z) R1 rfl (by have := HZ.out; omega)
    have d3 := fun z => cellz (j := 3) (u := .int .i64 kd2) (hq z) R1 rfl (by have := HZ.out; omega)
    have d4 := fun z => cellz (j := 4) (u := .int .u64 (cl2 : Int)) (hq z) R1 rfl (by have := HZ.out; omega)
    have d5 := fun z => cellz (j := 5) (u := .int .u64 (rq2 : Int)) (hq z) R1 rfl (by have := HZ.out; omega)
    have d6 := fun z => cellz (j := 6) (u := .int .u32 (fr2 : Int)) (hq z) R1 rfl (by have := HZ.out; omega)
    have d7 := fun z => cellz (j := 7) (u := .int .u32 (ct2 : Int)) (hq z) R1 rfl (by have := HZ.out; omega)
    have d8 := fun z => cellz (j := 8) (u := .string (str da2)) (hq z) R1 rfl (by have := HZ.out; omega)
    have d9 := fun z => cellz (j := 9) (u := .slice A2 bn2 bc2) (hq z) R1 rfl (by have := HZ.out; omega)
    have f0 := fun z => cellz (j := 0) (hq z) r2 rfl
    have f1 := fun z => cellz (j := 1) (hq z) r2 rfl
    have f2 := fun z => cellz (j := 2) (hq z) r2 rfl
    have f3 := fun z => cellz (j := 3) (hq z) r2 rfl
    simp only [pickI, Option.toList_some, List.cons_append, List.nil_append, List.getElem?_toArray, List.getElem?_cons_succ, List.getElem?_cons_zero]
    repeat (go_big_quiet_step (fail))
    refine wpQuiet_nil ?_
    clear d0 d1 d2 d3 d4 d5 d6 d7 d8 d9 f0 f1 f2 f3 hq q
    go_wp2
    go_ret
    exact ⟨show Ending.returned (.bool (decide (l1 = cl2) && (decide (l2 = rq2) && (decide (l3 = fr2) && decide (l4 = ct2))))) = _ from ret_bool (by simp), HZW.out.trans (zv0.mono HZW.out.size)⟩


end Go.Proofs.Ytapfggpeodpflaa

namespace Go.Proofs.Ytapfggpeodpflaa
open Go.RowKit


set_option maxHeartbeats 2000000 in
theorem again_any (e x : En) (w : World) : Calls Try.prog 81 #[.agg e.cells, .agg x.cells] w fun r w' => r = .returned (.bool (e.again x)) ∧ Below w.heap.size w w' := by
  obtain ⟨ix, tm, st, kd, cl, rq, fr, ct, da, A, bn, bc, ls⟩ := e
  obtain ⟨ix2, tm2, st2, kd2, cl2, rq2, fr2, ct2, da2, A2, bn2, bc2, ls2⟩ := x
  unfold En.cells
  have hg : En.again ⟨ix, tm, st, kd, cl, rq, fr, ct, da, A, bn, bc, ls⟩ ⟨ix2, tm2, st2, kd2, cl2, rq2, fr2, ct2, da2, A2, bn2, bc2, ls2⟩ = ((kd == 1) && ((kd2 == 1) && (((cl : Int) == (cl2 : Int)) && (((rq : Int) == (rq2 : Int)) && ((ix : Int) != (ix2 : Int)))))) := by
    unfold En.again
    have b1 : decide (kd = 1) = (kd == 1) := by by_cases h : kd = 1 <;> simp [h]
    have b2 : decide (kd2 = 1) = (kd2 == 1) := by by_cases h : kd2 = 1 <;> simp [h]
    have b3 : decide (cl = cl2) = ((cl : Int) == (cl2 : Int)) := by by_cases h : cl = cl2 <;> simp [h] <;> omega
    have b4 : decide (rq = rq2) = ((rq : Int) == (rq2 : Int)) := by by_cases h : rq = rq2 <;> simp [h] <;> omega
    have b5 : decide (ix ≠ ix2) = ((ix : Int) != (ix2 : Int)) := by by_cases h : ix = ix2 <;> simp [h] <;> omega
    dsimp only
    rw [b1, b2, b3, b4, b5]
  rw [hg]
  clear hg
  by_cases h1 : kd = 1
  · subst h1
    by_cases h2 : kd2 = 1
    · subst h2
      by_cases h3 : cl = cl2
      · subst h3
        by_cases h4 : rq = rq2
        · subst h4
          by_cases h5 : ix = ix2
          · subst h5
            go_enter Try.func81, Try.ntmps81
            go_wp2
            go_ret
            exact ⟨by simp [*], below2 _ _ _⟩
          · have q5 : ((ix : Int) == (ix2 : Int)) = false := by simp; omega
            have r5 : (ix == ix2) = false := by simpa using h5
            clear h5
            go_enter Try.func81, Try.ntmps81
            go_wp2
            go_ret
            exact ⟨by simp [*], below2 _ _ _⟩
        · have q4 : ((rq : Int) == (rq2 : Int)) = false := by simp; omega
          have r4 : (rq == rq2) = false := by simpa using h4
          clear h4
          go_enter Try.func81, Try.ntmps81
          go_wp2
          go_ret
          exact ⟨by simp [*], below2 _ _ _⟩
      · have q3 : ((cl : Int) == (cl2 : Int)) = false := by simp; omega
        have r3 : (cl == cl2) = false := by simpa using h3
        clear h3
        go_enter Try.func81, Try.ntmps81
        go_wp2
        go_ret
        exact ⟨by simp [*], below2 _ _ _⟩
    · have q2 : (kd2 == 1) = false := by simpa using h2
      clear h2
      go_enter Try.func81, Try.ntmps81
      go_wp2
      go_ret
      exact ⟨by simp [*], below2 _ _ _⟩
  · have q1 : (kd == 1) = false := by simpa using h1
    clear h1
    go_enter Try.func81, Try.ntmps81
    go_wp2
    go_ret
    exact ⟨by simp [*], below2 _ _ _⟩

set_option maxHeartbeats 2000000 in
theorem ragain_any (e x : En) (w : World) : Calls Try.prog 73 #[.agg e.cells, .agg x.cells] w fun r w' => r = .returned (.bool (e.again x)) ∧ Below w.heap.size w w' := by
  obtain ⟨ix, tm, st, kd, cl, rq, fr, ct, da, A, bn, bc, ls⟩ := e
  obtain ⟨ix2, tm2, st2, kd2, cl2, rq2, fr2, ct2, da2, A2, bn2, bc2, ls2⟩ := x
  unfold En.cells
  have hg : En.again ⟨ix, tm, st, kd, cl, rq, fr, ct, da, A, bn, bc, ls⟩ ⟨ix2, tm2, st2, kd2, cl2, rq2, fr2, ct2, da2, A2, bn2, bc2, ls2⟩ = ((kd == 1) && ((kd2 == 1) && (((cl : Int) == (cl2 : Int)) && (((rq : Int) == (rq2 : Int)) && ((ix : Int) != (ix2 : Int)))))) := by
    unfold En.again
    have b1 : decide (kd = 1) = (kd == 1) := by by_cases h : kd = 1 <;> simp [h]
    have b2 : decide (kd2 = 1) = (kd2 == 1) := by by_cases h : kd2 = 1 <;> simp [h]
    have b3 : decide (cl = cl2) = ((cl : Int) == (cl2 : Int)) := by by_cases h : cl = cl2 <;> simp [h] <;> omega
    have b4 : decide (rq = rq2) = ((rq : Int) == (rq2 : Int)) := by by_cases h : rq = rq2 <;> simp [h] <;> omega
    have b5 : decide (ix ≠ ix2) = ((ix : Int) != (ix2 : Int)) := by by_cases h : ix = ix2 <;> simp [h] <;> omega
    dsimp only
    rw [b1, b2, b3, b4, b5]
  rw [hg]
  clear hg
  by_cases h1 : kd = 1
  · subst h1
    by_cases h2 : kd2 = 1
    · subst h2
      by_cases h3 : cl = cl2
      · subst h3
        by_cases h4 : rq = rq2
        · subst h4
          by_cases h5 : ix = ix2
          · subst h5
            go_enter Try.func73, Try.ntmps73
            go_wp2
            go_ret
            exact ⟨by simp [*], below2 _ _ _⟩
          · have q5 : ((ix : Int) == (ix2 : Int)) = false := by simp; omega
            have r5 : (ix == ix2) = false := by simpa using h5
            clear h5
            go_enter Try.func73, Try.ntmps73
            go_wp2
            go_ret
            exact ⟨by simp [*], below2 _ _ _⟩
        · have q4 : ((rq : Int) == (rq2 : Int)) = false := by simp; omega
          have r4 : (rq == rq2) = false := by simpa using h4
          clear h4
          go_enter Try.func73, Try.ntmps73
          go_wp2
          go_ret
          exact ⟨by simp [*], below2 _ _ _⟩
      · have q3 : ((cl : Int) == (cl2 : Int)) = false := by simp; omega
        have r3 : (cl == cl2) = false := by simpa using h3
        clear h3
        go_enter Try.func73, Try.ntmps73
        go_wp2
        go_ret
        exact ⟨by simp [*], below2 _ _ _⟩
    · have q2 : (kd2 == 1) = false := by simpa using h2
      clear h2
      go_enter Try.func73, Try.ntmps73
      go_wp2
      go_ret
      exact ⟨by simp [*], below2 _ _ _⟩
  · have q1 : (kd == 1) = false := by simpa using h1
    clear h1
    go_enter Try.func73, Try.ntmps73
    go_wp2
    go_ret
    exact ⟨by simp [*], below2 _ _ _⟩


end Go.Proofs.Ytapfggpeodpflaa
