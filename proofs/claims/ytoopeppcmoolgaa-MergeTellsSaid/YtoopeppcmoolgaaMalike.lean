/- Whether two entries are of the same content. -/
import Derived.Test.YtoopeppcmoolgaaMkit
import Derived.Test.YtoopeppcmoolgaaTellsb
namespace Go.Proofs.Ytoopeppcmoolgaa
open Go.RowKit
set_option maxRecDepth 20000

def En.alike (e x : En) : Bool := decide (e.kd = x.kd) && (decide (e.look = x.look) && decide (e.da = x.da))
theorem str_beq (a b : List UInt8) : ((str a).toList == (str b).toList) = decide (a = b) := by
  have e : ∀ l : List UInt8, (str l).toList = l := fun l => ByteArray.toList_mk l
  rw [e, e]
  by_cases h : a = b <;> simp [h]
set_option maxHeartbeats 4000000 in
theorem alike_any (e x : En) (w : World) : Calls Try.prog 19 #[.agg e.cells, .agg x.cells] w fun r w' => r = .returned (.bool (e.alike x)) ∧ Below w.heap.size w w' := by
  obtain ⟨W, hW, hz, r0, r1, hb⟩ := boxes2 w e.cells x.cells 29 29
  have HL1 := Lib.hid (fun W' => rlook_any e W')
  have HL2 := Lib.hid (fun W' => rlook_any x W')
  have HB := Lib.hid hb
  have hp0 : w.heap.size < W.heap.size := by omega
  have hp1 : w.heap.size + 1 < W.heap.size := by omega
  obtain ⟨ix, tm, st, kd, cl, rq, fr, ct, da, A, bn, bc, ls⟩ := e
  obtain ⟨ix2, tm2, st2, kd2, cl2, rq2, fr2, ct2, da2, A2, bn2, bc2, ls2⟩ := x
  have hAL : En.alike ⟨ix, tm, st, kd, cl, rq, fr, ct, da, A, bn, bc, ls⟩ ⟨ix2, tm2, st2, kd2, cl2, rq2, fr2, ct2, da2, A2, bn2, bc2, ls2⟩ = (decide (kd = kd2) && (decide ((⟨cl, rq, fr, ct⟩ : Lk) = ⟨cl2, rq2, fr2, ct2⟩) && decide (da = da2))) := rfl
  rw [hAL]
  clear hAL hz hb
  have hEQ := fun W' => eq_look cl rq fr ct cl2 rq2 fr2 ct2 W'
  have hST := str_beq da da2
  unfold En.cells En.look Lk.val at *
  dsimp only at *
  have s0 := cell_of_row W (w.heap.size) 0 _ _ _ r0
  have s1 := cell_of_row W (w.heap.size) 1 _ _ _ r0
  have s2 := cell_of_row W (w.heap.size) 2 _ _ _ r0
  have s3 := cell_of_row W (w.heap.size) 3 _ _ _ r0
  have s4 := cell_of_row W (w.heap.size) 4 _ _ _ r0
  have s5 := cell_of_row W (w.heap.size) 5 _ _ _ r0
  have s6 := cell_of_row W (w.heap.size) 6 _ _ _ r0
  have s7 := cell_of_row W (w.heap.size) 7 _ _ _ r0
  have s8 := cell_of_row W (w.heap.size) 8 _ _ _ r0
  have s9 := cell_of_row W (w.heap.size) 9 _ _ _ r0
  have t0 := cell_of_row W (w.heap.size + 1) 0 _ _ _ r1
  have t1 := cell_of_row W (w.heap.size + 1) 1 _ _ _ r1
  have t2 := cell_of_row W (w.heap.size + 1) 2 _ _ _ r1
  have t3 := cell_of_row W (w.heap.size + 1) 3 _ _ _ r1
  have t4 := cell_of_row W (w.heap.size + 1) 4 _ _ _ r1
  have t5 := cell_of_row W (w.heap.size + 1) 5 _ _ _ r1
  have t6 := cell_of_row W (w.heap.size + 1) 6 _ _ _ r1
  have t7 := cell_of_row W (w.heap.size + 1) 7 _ _ _ r1
  have t8 := cell_of_row W (w.heap.size + 1) 8 _ _ _ r1
  have t9 := cell_of_row W (w.heap.size + 1) 9 _ _ _ r1
  clear r0 r1
  generalize decide ((⟨cl, rq, fr, ct⟩ : Lk) = ⟨cl2, rq2, fr2, ct2⟩) = B at *
  generalize decide (da = da2) = D at *
  by_cases hk : kd = kd2
  · subst hk
    cases B
    · go_enter Try.func19, Try.ntmps19
      go_wp2_with (fail)
      rw [← hW]
      refine wp_low W.heap.size [([0, 1, 2, 3, 4, 5, 6, 8], 7), ([], 9)] [10, 11, 12, 13, 14, 15, 16, 17, 18, 19] (by kernel_rfl) (by kernel_rfl) (fun d _ _ _ _ h => by cases d <;> exact h) (Nat.le_refl _) fun wd hbd => ?_
      intro q hq
      have a0 := fun z => kept (hq z) s0 hp0
      have a1 := fun z => kept (hq z) s1 hp0
      have a2 := fun z => kept (hq z) s2 hp0
      have a3 := fun z => kept (hq z) s3 hp0
      have a4 := fun z => kept (hq z) s4 hp0
      have a5 := fun z => kept (hq z) s5 hp0
      have a6 := fun z => kept (hq z) s6 hp0
      have a7 := fun z => kept (hq z) s7 hp0
      have a8 := fun z => kept (hq z) s8 hp0
      have a9 := fun z => kept (hq z) s9 hp0
      have b0 := fun z => kept (hq z) t0 hp1
      have b1 := fun z => kept (hq z) t1 hp1
      have b2 := fun z => kept (hq z) t2 hp1
      have b3 := fun z => kept (hq z) t3 hp1
      have b4 := fun z => kept (hq z) t4 hp1
      have b5 := fun z => kept (hq z) t5 hp1
      have b6 := fun z => kept (hq z) t6 hp1
      have b7 := fun z => kept (hq z) t7 hp1
      have b8 := fun z => kept (hq z) t8 hp1
      have b9 := fun z => kept (hq z) t9 hp1
      simp only [pickI, Option.toList_some, List.cons_append, List.nil_append, List.getElem?_toArray, List.getElem?_cons_succ, List.getElem?_cons_zero]
      try go_frame
      go_big_quiet_step (fail)
      go_big_quiet_step (fail)
      go_big_quiet_step (fail)
      go_big_quiet_step (fail)
      go_big_quiet_step (fail)
      go_big_quiet_step (fail)
      go_big_quiet_step (fail)
      go_big_quiet_step (fail)
      refine wpQuiet_nil ?_
      clear hq q a0 a1 a2 a3 a4 a5 a6 a7 a8 a9 b0 b1 b2 b3 b4 b5 b6 b7 b8 b9
      refine seg_op (by simp only [List.getElem?_toArray, List.getElem?_cons_succ, List.getElem?_cons_zero]; rfl) fun K hK => ?_
      go_simp
      refine (HL1.out _).mono ?_
      rintro e v0 ⟨rfl, bv0⟩
      have zv0 := hbd.trans (bv0.mono hbd.size)
      refine hK.out _ _ (seg_keep zv0 ?_)
      clear hK K
      intro q hq
      refine wpQuiet_nil ?_
      clear hq q
      refine seg_op (by simp only [List.getElem?_toArray, List.getElem?_cons_succ, List.getElem?_cons_zero]; rfl) fun K hK => ?_
      go_simp
      refine (HL2.out _).mono ?_
      rintro e v1 ⟨rfl, bv1⟩
      have zv1 := zv0.trans (bv1.mono zv0.size)
      refine hK.out _ _ (seg_keep zv1 ?_)
      clear hK K
      intro q hq
      have a0 := fun z => kept (hq z) s0 hp0
      have a1 := fun z => kept (hq z) s1 hp0
      have a2 := fun z => kept (hq z) s2 hp0
      have a3 := fun z => kept (hq z) s3 hp0
      have a4 := fun z => kept (hq z) s4 hp0
      have a5 := fun z => kept (hq z) s5 hp0
      have a6 := fun z => kept (hq z) s6 hp0
      have a7 := fun z => kept (hq z) s7 hp0
      have a8 := fun z => kept (hq z) s8 hp0
      have a9 := fun z => kept (hq z) s9 hp0
      have b0 := fun z => kept (hq z) t0 hp1
      have b1 := fun z => kept (hq z) t1 hp1
      have b2 := fun z => kept (hq z) t2 hp1
      have b3 := fun z => kept (hq z) t3 hp1
      have b4 := fun z => kept (hq z) t4 hp1
      have b5 := fun z => kept (hq z) t5 hp1
      have b6 := fun z => kept (hq z) t6 hp1
      have b7 := fun z => kept (hq z) t7 hp1
      have b8 := fun z => kept (hq z) t8 hp1
      have b9 := fun z => kept (hq z) t9 hp1
      simp only [pickI, Option.toList_some, List.cons_append, List.nil_append, List.getElem?_toArray, List.getElem?_cons_succ, List.getElem?_cons_zero]
      try go_frame
      go_big_quiet_step (fail)
      go_big_quiet_step (fail)
      go_big_quiet_step (fail)
      go_big_quiet_step (fail)
      go_big_quiet_step (fail)
      go_big_quiet_step (fail)
      go_big_quiet_step (fail)
      go_big_quiet_step (fail)
      go_big_quiet_step (fail)
      go_big_quiet_step (fail)
      refine wpQuiet_nil ?_
      clear hq q a0 a1 a2 a3 a4 a5 a6 a7 a8 a9 b0 b1 b2 b3 b4 b5 b6 b7 b8 b9
      go_wp2
      go_ret
      exact ⟨ret_bool (by simp), HB.out.trans (zv1.mono HB.out.size)⟩
    · go_enter Try.func19, Try.ntmps19
      go_wp2_with (fail)
      rw [← hW]
      refine wp_low W.heap.size [([0, 1, 2, 3, 4, 5, 6, 8], 7), ([], 9)] [10, 11, 12, 13, 14, 15, 16, 17, 18, 19] (by kernel_rfl) (by kernel_rfl) (fun d _ _ _ _ h => by cases d <;> exact h) (Nat.le_refl _) fun wd hbd => ?_
      intro q hq
      have a0 := fun z => kept (hq z) s0 hp0
      have a1 := fun z => kept (hq z) s1 hp0
      have a2 := fun z => kept (hq z) s2 hp0
      have a3 := fun z => kept (hq z) s3 hp0
      have a4 := fun z => kept (hq z) s4 hp0
      have a5 := fun z => kept (hq z) s5 hp0
      have a6 := fun z => kept (hq z) s6 hp0
      have a7 := fun z => kept (hq z) s7 hp0
      have a8 := fun z => kept (hq z) s8 hp0
      have a9 := fun z => kept (hq z) s9 hp0
      have b0 := fun z => kept (hq z) t0 hp1
      have b1 := fun z => kept (hq z) t1 hp1
      have b2 := fun z => kept (hq z) t2 hp1
      have b3 := fun z => kept (hq z) t3 hp1
      have b4 := fun z => kept (hq z) t4 hp1
      have b5 := fun z => kept (hq z) t5 hp1
      have b6 := fun z => kept (hq z) t6 hp1
      have b7 := fun z => kept (hq z) t7 hp1
      have b8 := fun z => kept (hq z) t8 hp1
      have b9 := fun z => kept (hq z) t9 hp1
      simp only [pickI, Option.toList_some, List.cons_append, List.nil_append, List.getElem?_toArray, List.getElem?_cons_succ, List.getElem?_cons_zero]
      try go_frame
      go_big_quiet_step (fail)
      go_big_quiet_step (fail)
      go_big_quiet_step (fail)
      go_big_quiet_step (fail)
      go_big_quiet_step (fail)
      go_big_quiet_step (fail)
      go_big_quiet_step (fail)
      go_big_quiet_step (fail)
      refine wpQuiet_nil ?_
      clear hq q a0 a1 a2 a3 a4 a5 a6 a7 a8 a9 b0 b1 b2 b3 b4 b5 b6 b7 b8 b9
      refine seg_op (by simp only [List.getElem?_toArray, List.getElem?_cons_succ, List.getElem?_cons_zero]; rfl) fun K hK => ?_
      go_simp
      refine (HL1.out _).mono ?_
      rintro e v0 ⟨rfl, bv0⟩
      have zv0 := hbd.trans (bv0.mono hbd.size)
      refine hK.out _ _ (seg_keep zv0 ?_)
      clear hK K
      intro q hq
      refine wpQuiet_nil ?_
      clear hq q
      refine seg_op (by simp only [List.getElem?_toArray, List.getElem?_cons_succ, List.getElem?_cons_zero]; rfl) fun K hK => ?_
      go_simp
      refine (HL2.out _).mono ?_
      rintro e v1 ⟨rfl, bv1⟩
      have zv1 := zv0.trans (bv1.mono zv0.size)
      refine hK.out _ _ (seg_keep zv1 ?_)
      clear hK K
      intro q hq
      have a0 := fun z => kept (hq z) s0 hp0
      have a1 := fun z => kept (hq z) s1 hp0
      have a2 := fun z => kept (hq z) s2 hp0
      have a3 := fun z => kept (hq z) s3 hp0
      have a4 := fun z => kept (hq z) s4 hp0
      have a5 := fun z => kept (hq z) s5 hp0
      have a6 := fun z => kept (hq z) s6 hp0
      have a7 := fun z => kept (hq z) s7 hp0
      have a8 := fun z => kept (hq z) s8 hp0
      have a9 := fun z => kept (hq z) s9 hp0
      have b0 := fun z => kept (hq z) t0 hp1
      have b1 := fun z => kept (hq z) t1 hp1
      have b2 := fun z => kept (hq z) t2 hp1
      have b3 := fun z => kept (hq z) t3 hp1
      have b4 := fun z => kept (hq z) t4 hp1
      have b5 := fun z => kept (hq z) t5 hp1
      have b6 := fun z => kept (hq z) t6 hp1
      have b7 := fun z => kept (hq z) t7 hp1
      have b8 := fun z => kept (hq z) t8 hp1
      have b9 := fun z => kept (hq z) t9 hp1
      simp only [pickI, Option.toList_some, List.cons_append, List.nil_append, List.getElem?_toArray, List.getElem?_cons_succ, List.getElem?_cons_zero]
      try go_frame
      go_big_quiet_step (fail)
      go_big_quiet_step (fail)
      go_big_quiet_step (fail)
      go_big_quiet_step (fail)
      go_big_quiet_step (fail)
      go_big_quiet_step (fail)
      go_big_quiet_step (fail)
      go_big_quiet_step (fail)
      go_big_quiet_step (fail)
      go_big_quiet_step (fail)
      refine wpQuiet_nil ?_
      clear hq q a0 a1 a2 a3 a4 a5 a6 a7 a8 a9 b0 b1 b2 b3 b4 b5 b6 b7 b8 b9
      go_wp2
      go_ret
      exact ⟨ret_bool (by simp), HB.out.trans (zv1.mono HB.out.size)⟩
  · have q : (kd == kd2) = false := by simpa using hk
    go_enter Try.func19, Try.ntmps19
    go_wp2_with (fail)
    rw [← hW]
    refine wp_low W.heap.size [([0, 1, 2, 3, 4, 5, 6, 8], 7), ([], 9)] [10, 11, 12, 13, 14, 15, 16, 17, 18, 19] (by kernel_rfl) (by kernel_rfl) (fun d _ _ _ _ h => by cases d <;> exact h) (Nat.le_refl _) fun wd hbd => ?_
    intro q hq
    have a0 := fun z => kept (hq z) s0 hp0
    have a1 := fun z => kept (hq z) s1 hp0
    have a2 := fun z => kept (hq z) s2 hp0
    have a3 := fun z => kept (hq z) s3 hp0
    have a4 := fun z => kept (hq z) s4 hp0
    have a5 := fun z => kept (hq z) s5 hp0
    have a6 := fun z => kept (hq z) s6 hp0
    have a7 := fun z => kept (hq z) s7 hp0
    have a8 := fun z => kept (hq z) s8 hp0
    have a9 := fun z => kept (hq z) s9 hp0
    have b0 := fun z => kept (hq z) t0 hp1
    have b1 := fun z => kept (hq z) t1 hp1
    have b2 := fun z => kept (hq z) t2 hp1
    have b3 := fun z => kept (hq z) t3 hp1
    have b4 := fun z => kept (hq z) t4 hp1
    have b5 := fun z => kept (hq z) t5 hp1
    have b6 := fun z => kept (hq z) t6 hp1
    have b7 := fun z => kept (hq z) t7 hp1
    have b8 := fun z => kept (hq z) t8 hp1
    have b9 := fun z => kept (hq z) t9 hp1
    simp only [pickI, Option.toList_some, List.cons_append, List.nil_append, List.getElem?_toArray, List.getElem?_cons_succ, List.getElem?_cons_zero]
    try go_frame
    go_big_quiet_step (fail)
    go_big_quiet_step (fail)
    go_big_quiet_step (fail)
    go_big_quiet_step (fail)
    go_big_quiet_step (fail)
    go_big_quiet_step (fail)
    go_big_quiet_step (fail)
    go_big_quiet_step (fail)
    refine wpQuiet_nil ?_
    clear hq q a0 a1 a2 a3 a4 a5 a6 a7 a8 a9 b0 b1 b2 b3 b4 b5 b6 b7 b8 b9
    refine seg_op (by simp only [List.getElem?_toArray, List.getElem?_cons_succ, List.getElem?_cons_zero]; rfl) fun K hK => ?_
    go_simp
    refine hK.out _ _ (seg_keep hbd ?_)
    clear hK K
    intro q hq
    refine wpQuiet_nil ?_
    clear hq q
    refine seg_op (by simp only [List.getElem?_toArray, List.getElem?_cons_succ, List.getElem?_cons_zero]; rfl) fun K hK => ?_
    go_simp
    refine hK.out _ _ (seg_keep hbd ?_)
    clear hK K
    intro q hq
    have a0 := fun z => kept (hq z) s0 hp0
    have a1 := fun z => kept (hq z) s1 hp0
    have a2 := fun z => kept (hq z) s2 hp0
    have a3 := fun z => kept (hq z) s3 hp0
    have a4 := fun z => kept (hq z) s4 hp0
    have a5 := fun z => kept (hq z) s5 hp0
    have a6 := fun z => kept (hq z) s6 hp0
    have a7 := fun z => kept (hq z) s7 hp0
    have a8 := fun z => kept (hq z) s8 hp0
    have a9 := fun z => kept (hq z) s9 hp0
    have b0 := fun z => kept (hq z) t0 hp1
    have b1 := fun z => kept (hq z) t1 hp1
    have b2 := fun z => kept (hq z) t2 hp1
    have b3 := fun z => kept (hq z) t3 hp1
    have b4 := fun z => kept (hq z) t4 hp1
    have b5 := fun z => kept (hq z) t5 hp1
    have b6 := fun z => kept (hq z) t6 hp1
    have b7 := fun z => kept (hq z) t7 hp1
    have b8 := fun z => kept (hq z) t8 hp1
    have b9 := fun z => kept (hq z) t9 hp1
    simp only [pickI, Option.toList_some, List.cons_append, List.nil_append, List.getElem?_toArray, List.getElem?_cons_succ, List.getElem?_cons_zero]
    try go_frame
    go_big_quiet_step (fail)
    go_big_quiet_step (fail)
    go_big_quiet_step (fail)
    go_big_quiet_step (fail)
    go_big_quiet_step (fail)
    go_big_quiet_step (fail)
    go_big_quiet_step (fail)
    go_big_quiet_step (fail)
    go_big_quiet_step (fail)
    go_big_quiet_step (fail)
    refine wpQuiet_nil ?_
    clear hq q a0 a1 a2 a3 a4 a5 a6 a7 a8 a9 b0 b1 b2 b3 b4 b5 b6 b7 b8 b9
    go_wp2
    go_ret
    exact ⟨ret_bool (by simp [hk]), HB.out.trans (hbd.mono HB.out.size)⟩
end Go.Proofs.Ytoopeppcmoolgaa
