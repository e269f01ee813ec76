/- BehindTells: what any entry says of any index, whether it waits for it, whether it tells of another one, and whether it voids that, is the document's. -/
import Derived.Test.YtdaniaijlkflcaaBehindVoids
namespace Go.Proofs.Ytdaniaijlkflcaa
open Go.RowKit

set_option maxHeartbeats 8000000 in
set_option maxRecDepth 8000 in
theorem behindTells_walk {w : World} (e : En) (he : e.Reads w) (x : En) (hx : x.Reads w) (i : Int) (hi : (Lit.int .u64 i).wf = true) :
    Calls Try.prog 3 #[.agg e.cells, .agg x.cells, .int .u64 i] w fun r w' => r = .returned (.bool true) ∧ Below w.heap.size w w' := by
  obtain ⟨i, rfl, hi64⟩ := wf_u64 hi
  obtain ⟨Z, hZ, hz, r0, r1, r2, hb⟩ := boxes3 w e.cells x.cells (two e x) 28 28 28
  have hLI := light10 (ents2 r2 (he.below hb) (hx.below hb))
  have hAT := fun W' (hb' : Below w.heap.size w W') => at_any e i W' (he.below hb') hi64
  have hRA := fun W' (hb' : Below w.heap.size w W') => rat_any e i W' (he.below hb') hi64
  have hCL := fun W' (hb' : Below w.heap.size w W') => clash_any e i W' (he.below hb') hi64
  have hRC := fun W' (hb' : Below w.heap.size w W') => rclash_any e i W' (he.below hb') hi64
  have hTL := fun W' (hb' : Below w.heap.size w W') => tells_any e x W' (he.below hb') (hx.below hb')
  have hRT := fun W' (hb' : Below w.heap.size w W') => rtells_any e x W' (he.below hb') (hx.below hb')
  have hVO := fun W' (hb' : Below w.heap.size w W') => voids_any e x W' (he.below hb') (hx.below hb')
  have hRV := fun W' (hb' : Below w.heap.size w W') => rvoids_any e x W' (he.below hb') (hx.below hb')
  have hat : ∃ l b, toldV (e.at i) = .tuple #[Lk.val l, .bool b] := ⟨_, _, rfl⟩
  obtain ⟨l, b, hat⟩ := hat
  rw [hat] at hAT hRA
  generalize e.clash i = C at *
  generalize e.tells x = T at *
  generalize e.voids x = V at *
  have HB := Lib.hid hb
  have HZ := Lib.hid hz
  have HLI := Lib.hid hLI
  have HAT := Lib.hid hAT
  have HRA := Lib.hid hRA
  have HCL := Lib.hid hCL
  have HRC := Lib.hid hRC
  have HTL := Lib.hid hTL
  have HRT := Lib.hid hRT
  have HVO := Lib.hid hVO
  have HRV := Lib.hid hRV
  clear hLI hAT hRA hCL hRC hTL hRT hVO hRV hat he hx hb hz
  obtain ⟨ix, tm, st, kd, cl, rq, fr, ct, da, A, bn, bc, ls⟩ := e
  obtain ⟨ix2, tm2, st2, kd2, cl2, rq2, fr2, ct2, da2, A2, bn2, bc2, ls2⟩ := x
  obtain ⟨l1, l2, l3, l4⟩ := l
  unfold En.cells two Lk.val at *
  dsimp only at *
  go_enter Try.func3, Try.ntmps3
  go_upto_region 5 with (first
    | (go_at_call 6; rw [← hZ]; refine HLI.out.mono ?_; rintro e w1 ⟨b1, rfl, _, hb1⟩
       have HB1 := Lib.hid (HB.out.trans (hb1.mono HB.out.size))
       have s0 := cellz (j := 0) (u := .int .u64 (ix : Int)) hb1 r0 rfl (by have := HZ.out; omega)
       have s1 := cellz (j := 1) (u := .int .u64 (tm : Int)) hb1 r0 rfl (by have := HZ.out; omega)
       have s2 := cellz (j := 2) (u := .int .u64 (st : Int)) hb1 r0 rfl (by have := HZ.out; omega)
       have s3 := cellz (j := 3) (u := .int .i64 kd) hb1 r0 rfl (by have := HZ.out; omega)
       have s4 := cellz (j := 4) (u := .int .u64 (cl : Int)) hb1 r0 rfl (by have := HZ.out; omega)
       have s5 := cellz (j := 5) (u := .int .u64 (rq : Int)) hb1 r0 rfl (by have := HZ.out; omega)
       have s6 := cellz (j := 6) (u := .int .u32 (fr : Int)) hb1 r0 rfl (by have := HZ.out; omega)
       have s7 := cellz (j := 7) (u := .int .u32 (ct : Int)) hb1 r0 rfl (by have := HZ.out; omega)
       have s8 := cellz (j := 8) (u := .string (str da)) hb1 r0 rfl (by have := HZ.out; omega)
       have s9 := cellz (j := 9) (u := .slice A bn bc) hb1 r0 rfl (by have := HZ.out; omega)
       have t0 := cellz (j := 0) (u := .int .u64 (ix2 : Int)) hb1 r1 rfl (by have := HZ.out; omega)
       have t1 := cellz (j := 1) (u := .int .u64 (tm2 : Int)) hb1 r1 rfl (by have := HZ.out; omega)
       have t2 := cellz (j := 2) (u := .int .u64 (st2 : Int)) hb1 r1 rfl (by have := HZ.out; omega)
       have t3 := cellz (j := 3) (u := .int .i64 kd2) hb1 r1 rfl (by have := HZ.out; omega)
       have t4 := cellz (j := 4) (u := .int .u64 (cl2 : Int)) hb1 r1 rfl (by have := HZ.out; omega)
       have t5 := cellz (j := 5) (u := .int .u64 (rq2 : Int)) hb1 r1 rfl (by have := HZ.out; omega)
       have t6 := cellz (j := 6) (u := .int .u32 (fr2 : Int)) hb1 r1 rfl (by have := HZ.out; omega)
       have t7 := cellz (j := 7) (u := .int .u32 (ct2 : Int)) hb1 r1 rfl (by have := HZ.out; omega)
       have t8 := cellz (j := 8) (u := .string (str da2)) hb1 r1 rfl (by have := HZ.out; omega)
       have t9 := cellz (j := 9) (u := .slice A2 bn2 bc2) hb1 r1 rfl (by have := HZ.out; omega)
       clear hb1
       cases b1)
    | (go_at_call 7; refine (lives10 _).mono ?_; rintro e w9 ⟨rfl, hb9⟩)
    | (go_at_call 8; refine (HAT.out _ HB1.out).mono ?_; rintro e w2 ⟨rfl, hb2⟩
       have hlt1 : w.heap.size + 1 < w2.heap.size := by have h1 : w.heap.size + 1 < w1.heap.size := block_lt_of_cell t0; have := hb2.size; omega
       have hlt0 : w.heap.size < w2.heap.size := by omega
       have p0 := (hb2.cell (p := ⟨w.heap.size, 0, none⟩) (block_lt_of_cell s0)).trans s0
       have p1 := (hb2.cell (p := ⟨w.heap.size, 1, none⟩) (block_lt_of_cell s1)).trans s1
       have p2 := (hb2.cell (p := ⟨w.heap.size, 2, none⟩) (block_lt_of_cell s2)).trans s2
       have p3 := (hb2.cell (p := ⟨w.heap.size, 3, none⟩) (block_lt_of_cell s3)).trans s3
       have p4 := (hb2.cell (p := ⟨w.heap.size, 4, none⟩) (block_lt_of_cell s4)).trans s4
       have p5 := (hb2.cell (p := ⟨w.heap.size, 5, none⟩) (block_lt_of_cell s5)).trans s5
       have p6 := (hb2.cell (p := ⟨w.heap.size, 6, none⟩) (block_lt_of_cell s6)).trans s6
       have p7 := (hb2.cell (p := ⟨w.heap.size, 7, none⟩) (block_lt_of_cell s7)).trans s7
       have p8 := (hb2.cell (p := ⟨w.heap.size, 8, none⟩) (block_lt_of_cell s8)).trans s8
       have p9 := (hb2.cell (p := ⟨w.heap.size, 9, none⟩) (block_lt_of_cell s9)).trans s9
       have q0 := (hb2.cell (p := ⟨w.heap.size + 1, 0, none⟩) (block_lt_of_cell t0)).trans t0
       have q1 := (hb2.cell (p := ⟨w.heap.size + 1, 1, none⟩) (block_lt_of_cell t1)).trans t1
       have q2 := (hb2.cell (p := ⟨w.heap.size + 1, 2, none⟩) (block_lt_of_cell t2)).trans t2
       have q3 := (hb2.cell (p := ⟨w.heap.size + 1, 3, none⟩) (block_lt_of_cell t3)).trans t3
       have q4 := (hb2.cell (p := ⟨w.heap.size + 1, 4, none⟩) (block_lt_of_cell t4)).trans t4
       have q5 := (hb2.cell (p := ⟨w.heap.size + 1, 5, none⟩) (block_lt_of_cell t5)).trans t5
       have q6 := (hb2.cell (p := ⟨w.heap.size + 1, 6, none⟩) (block_lt_of_cell t6)).trans t6
       have q7 := (hb2.cell (p := ⟨w.heap.size + 1, 7, none⟩) (block_lt_of_cell t7)).trans t7
       have q8 := (hb2.cell (p := ⟨w.heap.size + 1, 8, none⟩) (block_lt_of_cell t8)).trans t8
       have q9 := (hb2.cell (p := ⟨w.heap.size + 1, 9, none⟩) (block_lt_of_cell t9)).trans t9
       have HB2 := Lib.hid (HB1.out.trans (hb2.mono HB1.out.size))
       clear hb2 s0 s1 s2 s3 s4 s5 s6 s7 s8 s9 t0 t1 t2 t3 t4 t5 t6 t7 t8 t9)
    | (go_at_call 9; refine (HRA.out _ (HB2.out.alloc HB2.out.size _)).mono ?_; rintro e w3 ⟨rfl, hb3⟩
       have rb7 := (hb3.block _ (by simp)).trans (heap_alloc_new w2 _)
       have RE := Lib.hid ((HB2.out.trans ((unal hb3).mono HB2.out.size)))
       have hlt3 : w2.heap.size < w3.heap.size := by have := hb3.size; simp at this; omega
       have HR0 : Hid (w3.heap[w.heap.size]? = w2.heap[w.heap.size]?) := Lib.hid ((unal hb3).block _ hlt0)
       have HR1 : Hid (w3.heap[w.heap.size + 1]? = w2.heap[w.heap.size + 1]?) := Lib.hid ((unal hb3).block _ hlt1)
       clear hb3)
    | fail)
  · go_ret
    exact ⟨rfl, HB1.out.trans (hb9.mono HB1.out.size)⟩
  obtain ⟨Y, hY, hYs, r9, hYb⟩ := row1 w3 #[.int .u64 (l1 : Int), .int .u64 (l2 : Int), .int .u32 (l3 : Int), .int .u32 (l4 : Int)] 33
  rw [← hY]
  have hyb : Below w.heap.size w Y := RE.out.trans (hYb.mono RE.out.size)
  have HY := Lib.hid hyb
  have e0 : ∀ j u, w2.cell? ⟨w.heap.size, j, none⟩ = some u → Y.cell? ⟨w.heap.size, j, none⟩ = some u := fun j u h => (World.cell?_of_block (a := ⟨w.heap.size, j, none⟩) ((hYb.block w.heap.size (by omega)).trans HR0.out)).trans h
  have e1 : ∀ j u, w2.cell? ⟨w.heap.size + 1, j, none⟩ = some u → Y.cell? ⟨w.heap.size + 1, j, none⟩ = some u := fun j u h => (World.cell?_of_block (a := ⟨w.heap.size + 1, j, none⟩) ((hYb.block (w.heap.size + 1) (by omega)).trans HR1.out)).trans h
  have R7 := (hYb.block _ hlt3).trans rb7
  have m0 := e0 _ _ p0
  have m1 := e0 _ _ p1
  have m2 := e0 _ _ p2
  have m3 := e0 _ _ p3
  have m4 := e0 _ _ p4
  have m5 := e0 _ _ p5
  have m6 := e0 _ _ p6
  have m7 := e0 _ _ p7
  have m8 := e0 _ _ p8
  have m9 := e0 _ _ p9
  have n0 := e1 _ _ q0
  have n1 := e1 _ _ q1
  have n2 := e1 _ _ q2
  have n3 := e1 _ _ q3
  have n4 := e1 _ _ q4
  have n5 := e1 _ _ q5
  have n6 := e1 _ _ q6
  have n7 := e1 _ _ q7
  have n8 := e1 _ _ q8
  have n9 := e1 _ _ q9
  have HL0 := Lib.hid (show w.heap.size < Y.heap.size by omega)
  have HL1 := Lib.hid (show w.heap.size + 1 < Y.heap.size by omega)
  have HL7 := Lib.hid (show w2.heap.size < Y.heap.size by omega)
  have HL9 := Lib.hid (show w3.heap.size < Y.heap.size by omega)
  clear e0 e1 hyb hY hYb hYs p0 p1 p2 p3 p4 p5 p6 p7 p8 p9 q0 q1 q2 q3 q4 q5 q6 q7 q8 q9 rb7 hlt0 hlt1 hlt3
  refine wp_low Y.heap.size [([0, 1, 2, 3, 4, 5, 6, 7, 8, 9, 10, 12, 13], 11), ([], 14), ([15, 16, 17, 18, 19, 21, 22], 20), ([], 23), ([24, 25, 26, 27, 28, 30, 31], 29), ([], 32), ([33, 34, 35], 36)] [37, 38] (by kernel_rfl) (by kernel_rfl) (fun d _ _ _ _ h => by cases d <;> exact h) (Nat.le_refl _) fun wd hbd => ?_
  intro q hq
  have a0 := fun z => ((hq z).cell (p := ⟨w.heap.size, 0, none⟩) HL0.out).trans m0
  have a1 := fun z => ((hq z).cell (p := ⟨w.heap.size, 1, none⟩) HL0.out).trans m1
  have a2 := fun z => ((hq z).cell (p := ⟨w.heap.size, 2, none⟩) HL0.out).trans m2
  have a3 := fun z => ((hq z).cell (p := ⟨w.heap.size, 3, none⟩) HL0.out).trans m3
  have a4 := fun z => ((hq z).cell (p := ⟨w.heap.size, 4, none⟩) HL0.out).trans m4
  have a5 := fun z => ((hq z).cell (p := ⟨w.heap.size, 5, none⟩) HL0.out).trans m5
  have a6 := fun z => ((hq z).cell (p := ⟨w.heap.size, 6, none⟩) HL0.out).trans m6
  have a7 := fun z => ((hq z).cell (p := ⟨w.heap.size, 7, none⟩) HL0.out).trans m7
  have a8 := fun z => ((hq z).cell (p := ⟨w.heap.size, 8, none⟩) HL0.out).trans m8
  have a9 := fun z => ((hq z).cell (p := ⟨w.heap.size, 9, none⟩) HL0.out).trans m9
  have b0 := fun z => ((hq z).cell (p := ⟨w.heap.size + 1, 0, none⟩) HL1.out).trans n0
  have b1 := fun z => ((hq z).cell (p := ⟨w.heap.size + 1, 1, none⟩) HL1.out).trans n1
  have b2 := fun z => ((hq z).cell (p := ⟨w.heap.size + 1, 2, none⟩) HL1.out).trans n2
  have b3 := fun z => ((hq z).cell (p := ⟨w.heap.size + 1, 3, none⟩) HL1.out).trans n3
  have b4 := fun z => ((hq z).cell (p := ⟨w.heap.size + 1, 4, none⟩) HL1.out).trans n4
  have b5 := fun z => ((hq z).cell (p := ⟨w.heap.size + 1, 5, none⟩) HL1.out).trans n5
  have b6 := fun z => ((hq z).cell (p := ⟨w.heap.size + 1, 6, none⟩) HL1.out).trans n6
  have b7 := fun z => ((hq z).cell (p := ⟨w.heap.size + 1, 7, none⟩) HL1.out).trans n7
  have b8 := fun z => ((hq z).cell (p := ⟨w.heap.size + 1, 8, none⟩) HL1.out).trans n8
  have b9 := fun z => ((hq z).cell (p := ⟨w.heap.size + 1, 9, none⟩) HL1.out).trans n9
  have c0 := fun z => cellz (j := 0) (hq z) R7 rfl HL7.out
  have c1 := fun z => cellz (j := 1) (hq z) R7 rfl HL7.out
  have c2 := fun z => cellz (j := 2) (hq z) R7 rfl HL7.out
  have c3 := fun z => cellz (j := 3) (hq z) R7 rfl HL7.out
  have d0 := fun z => cellz (j := 0) (hq z) r9 rfl HL9.out
  have d1 := fun z => cellz (j := 1) (hq z) r9 rfl HL9.out
  have d2 := fun z => cellz (j := 2) (hq z) r9 rfl HL9.out
  have d3 := fun z => cellz (j := 3) (hq z) r9 rfl HL9.out
  simp only [pickI, Option.toList_some, List.cons_append, List.nil_append, List.getElem?_toArray, List.getElem?_cons_succ, List.getElem?_cons_zero]
  repeat (go_big_quiet_step (fail))
  refine wpQuiet_nil ?_
  clear a0 a1 a2 a3 a4 a5 a6 a7 a8 a9 b0 b1 b2 b3 b4 b5 b6 b7 b8 b9 c0 c1 c2 c3 d0 d1 d2 d3 hq q
  refine seg_op (by simp only [List.getElem?_toArray, List.getElem?_cons_succ, List.getElem?_cons_zero]; rfl) fun K hK => ?_
  go_simp
  refine (HCL.out _ (HY.out.trans (hbd.mono HY.out.size))).mono ?_
  rintro e v0 ⟨rfl, bv0⟩
  have zv0 := hbd.trans (bv0.mono hbd.size)
  refine hK.out _ _ (seg_keep zv0 ?_)
  clear hK K
  intro q hq
  refine wpQuiet_nil ?_
  clear hq q
  refine seg_op (by simp only [List.getElem?_toArray, List.getElem?_cons_succ, List.getElem?_cons_zero]; rfl) fun K hK => ?_
  go_simp
  refine (HRC.out _ (HY.out.trans (zv0.mono HY.out.size))).mono ?_
  rintro e v1 ⟨rfl, bv1⟩
  have zv1 := zv0.trans (bv1.mono zv0.size)
  refine hK.out _ _ (seg_keep zv1 ?_)
  clear hK K
  intro q hq
  have a0 := fun z => ((hq z).cell (p := ⟨w.heap.size, 0, none⟩) HL0.out).trans m0
  have a1 := fun z => ((hq z).cell (p := ⟨w.heap.size, 1, none⟩) HL0.out).trans m1
  have a2 := fun z => ((hq z).cell (p := ⟨w.heap.size, 2, none⟩) HL0.out).trans m2
  have a3 := fun z => ((hq z).cell (p := ⟨w.heap.size, 3, none⟩) HL0.out).trans m3
  have a4 := fun z => ((hq z).cell (p := ⟨w.heap.size, 4, none⟩) HL0.out).trans m4
  have a5 := fun z => ((hq z).cell (p := ⟨w.heap.size, 5, none⟩) HL0.out).trans m5
  have a6 := fun z => ((hq z).cell (p := ⟨w.heap.size, 6, none⟩) HL0.out).trans m6
  have a7 := fun z => ((hq z).cell (p := ⟨w.heap.size, 7, none⟩) HL0.out).trans m7
  have a8 := fun z => ((hq z).cell (p := ⟨w.heap.size, 8, none⟩) HL0.out).trans m8
  have a9 := fun z => ((hq z).cell (p := ⟨w.heap.size, 9, none⟩) HL0.out).trans m9
  have b0 := fun z => ((hq z).cell (p := ⟨w.heap.size + 1, 0, none⟩) HL1.out).trans n0
  have b1 := fun z => ((hq z).cell (p := ⟨w.heap.size + 1, 1, none⟩) HL1.out).trans n1
  have b2 := fun z => ((hq z).cell (p := ⟨w.heap.size + 1, 2, none⟩) HL1.out).trans n2
  have b3 := fun z => ((hq z).cell (p := ⟨w.heap.size + 1, 3, none⟩) HL1.out).trans n3
  have b4 := fun z => ((hq z).cell (p := ⟨w.heap.size + 1, 4, none⟩) HL1.out).trans n4
  have b5 := fun z => ((hq z).cell (p := ⟨w.heap.size + 1, 5, none⟩) HL1.out).trans n5
  have b6 := fun z => ((hq z).cell (p := ⟨w.heap.size + 1, 6, none⟩) HL1.out).trans n6
  have b7 := fun z => ((hq z).cell (p := ⟨w.heap.size + 1, 7, none⟩) HL1.out).trans n7
  have b8 := fun z => ((hq z).cell (p := ⟨w.heap.size + 1, 8, none⟩) HL1.out).trans n8
  have b9 := fun z => ((hq z).cell (p := ⟨w.heap.size + 1, 9, none⟩) HL1.out).trans n9
  have c0 := fun z => cellz (j := 0) (hq z) R7 rfl HL7.out
  have c1 := fun z => cellz (j := 1) (hq z) R7 rfl HL7.out
  have c2 := fun z => cellz (j := 2) (hq z) R7 rfl HL7.out
  have c3 := fun z => cellz (j := 3) (hq z) R7 rfl HL7.out
  have d0 := fun z => cellz (j := 0) (hq z) r9 rfl HL9.out
  have d1 := fun z => cellz (j := 1) (hq z) r9 rfl HL9.out
  have d2 := fun z => cellz (j := 2) (hq z) r9 rfl HL9.out
  have d3 := fun z => cellz (j := 3) (hq z) r9 rfl HL9.out
  simp only [pickI, Option.toList_some, List.cons_append, List.nil_append, List.getElem?_toArray, List.getElem?_cons_succ, List.getElem?_cons_zero]
  repeat (go_big_quiet_step (fail))
  refine wpQuiet_nil ?_
  clear a0 a1 a2 a3 a4 a5 a6 a7 a8 a9 b0 b1 b2 b3 b4 b5 b6 b7 b8 b9 c0 c1 c2 c3 d0 d1 d2 d3 hq q
  refine seg_op (by simp only [List.getElem?_toArray, List.getElem?_cons_succ, List.getElem?_cons_zero]; rfl) fun K hK => ?_
  go_simp
  refine (HTL.out _ (HY.out.trans (zv1.mono HY.out.size))).mono ?_
  rintro e v2 ⟨rfl, bv2⟩
  have zv2 := zv1.trans (bv2.mono zv1.size)
  refine hK.out _ _ (seg_keep zv2 ?_)
  clear hK K
  intro q hq
  refine wpQuiet_nil ?_
  clear hq q
  refine seg_op (by simp only [List.getElem?_toArray, List.getElem?_cons_succ, List.getElem?_cons_zero]; rfl) fun K hK => ?_
  go_simp
  refine (HRT.out _ (HY.out.trans (zv2.mono HY.out.size))).mono ?_
  rintro e v3 ⟨rfl, bv3⟩
  have zv3 := zv2.trans (bv3.mono zv2.size)
  refine hK.out _ _ (seg_keep zv3 ?_)
  clear hK K
  intro q hq
  have a0 := fun z => ((hq z).cell (p := ⟨w.heap.size, 0, none⟩) HL0.out).trans m0
  have a1 := fun z => ((hq z).cell (p := ⟨w.heap.size, 1, none⟩) HL0.out).trans m1
  have a2 := fun z => ((hq z).cell (p := ⟨w.heap.size, 2, none⟩) HL0.out).trans m2
  have a3 := fun z => ((hq z).cell (p := ⟨w.heap.size, 3, none⟩) HL0.out).trans m3
  have a4 := fun z => ((hq z).cell (p := ⟨w.heap.size, 4, none⟩) HL0.out).trans m4
  have a5 := fun z => ((hq z).cell (p := ⟨w.heap.size, 5, none⟩) HL0.out).trans m5
  have a6 := fun z => ((hq z).cell (p := ⟨w.heap.size, 6, none⟩) HL0.out).trans m6
  have a7 := fun z => ((hq z).cell (p := ⟨w.heap.size, 7, none⟩) HL0.out).trans m7
  have a8 := fun z => ((hq z).cell (p := ⟨w.heap.size, 8, none⟩) HL0.out).trans m8
  have a9 := fun z => ((hq z).cell (p := ⟨w.heap.size, 9, none⟩) HL0.out).trans m9
  have b0 := fun z => ((hq z).cell (p := ⟨w.heap.size + 1, 0, none⟩) HL1.out).trans n0
  have b1 := fun z => ((hq z).cell (p := ⟨w.heap.size + 1, 1, none⟩) HL1.out).trans n1
  have b2 := fun z => ((hq z).cell (p := ⟨w.heap.size + 1, 2, none⟩) HL1.out).trans n2
  have b3 := fun z => ((hq z).cell (p := ⟨w.heap.size + 1, 3, none⟩) HL1.out).trans n3
  have b4 := fun z => ((hq z).cell (p := ⟨w.heap.size + 1, 4, none⟩) HL1.out).trans n4
  have b5 := fun z => ((hq z).cell (p := ⟨w.heap.size + 1, 5, none⟩) HL1.out).trans n5
  have b6 := fun z => ((hq z).cell (p := ⟨w.heap.size + 1, 6, none⟩) HL1.out).trans n6
  have b7 := fun z => ((hq z).cell (p := ⟨w.heap.size + 1, 7, none⟩) HL1.out).trans n7
  have b8 := fun z => ((hq z).cell (p := ⟨w.heap.size + 1, 8, none⟩) HL1.out).trans n8
  have b9 := fun z => ((hq z).cell (p := ⟨w.heap.size + 1, 9, none⟩) HL1.out).trans n9
  have c0 := fun z => cellz (j := 0) (hq z) R7 rfl HL7.out
  have c1 := fun z => cellz (j := 1) (hq z) R7 rfl HL7.out
  have c2 := fun z => cellz (j := 2) (hq z) R7 rfl HL7.out
  have c3 := fun z => cellz (j := 3) (hq z) R7 rfl HL7.out
  have d0 := fun z => cellz (j := 0) (hq z) r9 rfl HL9.out
  have d1 := fun z => cellz (j := 1) (hq z) r9 rfl HL9.out
  have d2 := fun z => cellz (j := 2) (hq z) r9 rfl HL9.out
  have d3 := fun z => cellz (j := 3) (hq z) r9 rfl HL9.out
  simp only [pickI, Option.toList_some, List.cons_append, List.nil_append, List.getElem?_toArray, List.getElem?_cons_succ, List.getElem?_cons_zero]
  repeat (go_big_quiet_step (fail))
  refine wpQuiet_nil ?_
  clear a0 a1 a2 a3 a4 a5 a6 a7 a8 a9 b0 b1 b2 b3 b4 b5 b6 b7 b8 b9 c0 c1 c2 c3 d0 d1 d2 d3 hq q
  refine seg_op (by simp only [List.getElem?_toArray, List.getElem?_cons_succ, List.getElem?_cons_zero]; rfl) fun K hK => ?_
  go_simp
  refine (HVO.out _ (HY.out.trans (zv3.mono HY.out.size))).mono ?_
  rintro e v4 ⟨rfl, bv4⟩
  have zv4 := zv3.trans (bv4.mono zv3.size)
  refine hK.out _ _ (seg_keep zv4 ?_)
  clear hK K
  intro q hq
  refine wpQuiet_nil ?_
  clear hq q
  refine seg_op (by simp only [List.getElem?_toArray, List.getElem?_cons_succ, List.getElem?_cons_zero]; rfl) fun K hK => ?_
  go_simp
  refine (HRV.out _ (HY.out.trans (zv4.mono HY.out.size))).mono ?_
  rintro e v5 ⟨rfl, bv5⟩
  have zv5 := zv4.trans (bv5.mono zv4.size)
  refine hK.out _ _ (seg_keep zv5 ?_)
  clear hK K
  intro q hq
  have a0 := fun z => ((hq z).cell (p := ⟨w.heap.size, 0, none⟩) HL0.out).trans m0
  have a1 := fun z => ((hq z).cell (p := ⟨w.heap.size, 1, none⟩) HL0.out).trans m1
  have a2 := fun z => ((hq z).cell (p := ⟨w.heap.size, 2, none⟩) HL0.out).trans m2
  have a3 := fun z => ((hq z).cell (p := ⟨w.heap.size, 3, none⟩) HL0.out).trans m3
  have a4 := fun z => ((hq z).cell (p := ⟨w.heap.size, 4, none⟩) HL0.out).trans m4
  have a5 := fun z => ((hq z).cell (p := ⟨w.heap.size, 5, none⟩) HL0.out).trans m5
  have a6 := fun z => ((hq z).cell (p := ⟨w.heap.size, 6, none⟩) HL0.out).trans m6
  have a7 := fun z => ((hq z).cell (p := ⟨w.heap.size, 7, none⟩) HL0.out).trans m7
  have a8 := fun z => ((hq z).cell (p := ⟨w.heap.size, 8, none⟩) HL0.out).trans m8
  have a9 := fun z => ((hq z).cell (p := ⟨w.heap.size, 9, none⟩) HL0.out).trans m9
  have b0 := fun z => ((hq z).cell (p := ⟨w.heap.size + 1, 0, none⟩) HL1.out).trans n0
  have b1 := fun z => ((hq z).cell (p := ⟨w.heap.size + 1, 1, none⟩) HL1.out).trans n1
  have b2 := fun z => ((hq z).cell (p := ⟨w.heap.size + 1, 2, none⟩) HL1.out).trans n2
  have b3 := fun z => ((hq z).cell (p := ⟨w.heap.size + 1, 3, none⟩) HL1.out).trans n3
  have b4 := fun z => ((hq z).cell (p := ⟨w.heap.size + 1, 4, none⟩) HL1.out).trans n4
  have b5 := fun z => ((hq z).cell (p := ⟨w.heap.size + 1, 5, none⟩) HL1.out).trans n5
  have b6 := fun z => ((hq z).cell (p := ⟨w.heap.size + 1, 6, none⟩) HL1.out).trans n6
  have b7 := fun z => ((hq z).cell (p := ⟨w.heap.size + 1, 7, none⟩) HL1.out).trans n7
  have b8 := fun z => ((hq z).cell (p := ⟨w.heap.size + 1, 8, none⟩) HL1.out).trans n8
  have b9 := fun z => ((hq z).cell (p := ⟨w.heap.size + 1, 9, none⟩) HL1.out).trans n9
  have c0 := fun z => cellz (j := 0) (hq z) R7 rfl HL7.out
  have c1 := fun z => cellz (j := 1) (hq z) R7 rfl HL7.out
  have c2 := fun z => cellz (j := 2) (hq z) R7 rfl HL7.out
  have c3 := fun z => cellz (j := 3) (hq z) R7 rfl HL7.out
  have d0 := fun z => cellz (j := 0) (hq z) r9 rfl HL9.out
  have d1 := fun z => cellz (j := 1) (hq z) r9 rfl HL9.out
  have d2 := fun z => cellz (j := 2) (hq z) r9 rfl HL9.out
  have d3 := fun z => cellz (j := 3) (hq z) r9 rfl HL9.out
  simp only [pickI, Option.toList_some, List.cons_append, List.nil_append, List.getElem?_toArray, List.getElem?_cons_succ, List.getElem?_cons_zero]
  repeat (go_big_quiet_step (fail))
  refine wpQuiet_nil ?_
  clear a0 a1 a2 a3 a4 a5 a6 a7 a8 a9 b0 b1 b2 b3 b4 b5 b6 b7 b8 b9 c0 c1 c2 c3 d0 d1 d2 d3 hq q
  refine seg_op (by simp only [List.getElem?_toArray, List.getElem?_cons_succ, List.getElem?_cons_zero]; rfl) fun K hK => ?_
  go_simp
  refine (lives10 _).mono ?_
  rintro e v6 ⟨rfl, bv6⟩
  have zv6 := zv5.trans (bv6.mono zv5.size)
  refine hK.out _ _ (seg_keep zv6 ?_)
  clear hK K
  intro q hq
  have a0 := fun z => ((hq z).cell (p := ⟨w.heap.size, 0, none⟩) HL0.out).trans m0
  have a1 := fun z => ((hq z).cell (p := ⟨w.heap.size, 1, none⟩) HL0.out).trans m1
  have a2 := fun z => ((hq z).cell (p := ⟨w.heap.size, 2, none⟩) HL0.out).trans m2
  have a3 := fun z => ((hq z).cell (p := ⟨w.heap.size, 3, none⟩) HL0.out).trans m3
  have a4 := fun z => ((hq z).cell (p := ⟨w.heap.size, 4, none⟩) HL0.out).trans m4
  have a5 := fun z => ((hq z).cell (p := ⟨w.heap.size, 5, none⟩) HL0.out).trans m5
  have a6 := fun z => ((hq z).cell (p := ⟨w.heap.size, 6, none⟩) HL0.out).trans m6
  have a7 := fun z => ((hq z).cell (p := ⟨w.heap.size, 7, none⟩) HL0.out).trans m7
  have a8 := fun z => ((hq z).cell (p := ⟨w.heap.size, 8, none⟩) HL0.out).trans m8
  have a9 := fun z => ((hq z).cell (p := ⟨w.heap.size, 9, none⟩) HL0.out).trans m9
  have b0 := fun z => ((hq z).cell (p := ⟨w.heap.size + 1, 0, none⟩) HL1.out).trans n0
  have b1 := fun z => ((hq z).cell (p := ⟨w.heap.size + 1, 1, none⟩) HL1.out).trans n1
  have b2 := fun z => ((hq z).cell (p := ⟨w.heap.size + 1, 2, none⟩) HL1.out).trans n2
  have b3 := fun z => ((hq z).cell (p := ⟨w.heap.size + 1, 3, none⟩) HL1.out).trans n3
  have b4 := fun z => ((hq z).cell (p := ⟨w.heap.size + 1, 4, none⟩) HL1.out).trans n4
  have b5 := fun z => ((hq z).cell (p := ⟨w.heap.size + 1, 5, none⟩) HL1.out).trans n5
  have b6 := fun z => ((hq z).cell (p := ⟨w.heap.size + 1, 6, none⟩) HL1.out).trans n6
  have b7 := fun z => ((hq z).cell (p := ⟨w.heap.size + 1, 7, none⟩) HL1.out).trans n7
  have b8 := fun z => ((hq z).cell (p := ⟨w.heap.size + 1, 8, none⟩) HL1.out).trans n8
  have b9 := fun z => ((hq z).cell (p := ⟨w.heap.size + 1, 9, none⟩) HL1.out).trans n9
  have c0 := fun z => cellz (j := 0) (hq z) R7 rfl HL7.out
  have c1 := fun z => cellz (j := 1) (hq z) R7 rfl HL7.out
  have c2 := fun z => cellz (j := 2) (hq z) R7 rfl HL7.out
  have c3 := fun z => cellz (j := 3) (hq z) R7 rfl HL7.out
  have d0 := fun z => cellz (j := 0) (hq z) r9 rfl HL9.out
  have d1 := fun z => cellz (j := 1) (hq z) r9 rfl HL9.out
  have d2 := fun z => cellz (j := 2) (hq z) r9 rfl HL9.out
  have d3 := fun z => cellz (j := 3) (hq z) r9 rfl HL9.out
  simp only [pickI, Option.toList_some, List.cons_append, List.nil_append, List.getElem?_toArray, List.getElem?_cons_succ, List.getElem?_cons_zero]
  repeat (go_big_quiet_step (fail))
  refine wpQuiet_nil ?_
  clear a0 a1 a2 a3 a4 a5 a6 a7 a8 a9 b0 b1 b2 b3 b4 b5 b6 b7 b8 b9 c0 c1 c2 c3 d0 d1 d2 d3 hq q
  have HF := Lib.hid (HY.out.trans (zv6.mono HY.out.size))
  go_wp2
  go_ret
  exact ⟨rfl, HF.out⟩

namespace behindTells
open Go.ChangeShapes Go.WideShapes Go.ChangeAt
set_option maxRecDepth 100000 in
theorem lifted (os : Os) (started : os.Started) (H : Type) (enc : TypeId × Value → H) :
    ReturnsInHanded {} Try.checked os 3 .any (Rows.behindTellsSpec.pre6 enc Try.prog Try.f3 Rows.behindTellsRow.domain false) (Rows.behindTellsSpec.post enc Try.prog Try.f3 false true false false) := by
  refine returnsInHanded_of_change (C := Try.checked) own started (by kernel_rfl) Try.func3
    (ChangeSpec.witness6 (enc := enc) (C := Try.checked) false ⟨#[], #[.agg #[.int .u64 0, .int .u64 0, .int .u64 0, .int .i64 0, .int .u64 0, .int .u64 0, .int .u32 0, .int .u32 0, .string ⟨#[]⟩, .slice none 0 0], .agg #[.int .u64 0, .int .u64 0, .int .u64 0, .int .i64 0, .int .u64 0, .int .u64 0, .int .u32 0, .int .u32 0, .string ⟨#[]⟩, .slice none 0 0], .int .u64 0], []⟩ 8 (by kernel_rfl) (by kernel_rfl) (by kernel_rfl) (by kernel_rfl)) ?_
  intro W base args ds gs before hval0 hW _ _
  have hval : ∀ (j : Nat) t v, Try.f3.params[j]? = some t → args[j]? = some v → Value.okWide Try.prog W .any base t v := hval0
  have hW' := hW
  obtain ⟨p, q, hA0, hV, rfl, hfz, hnd⟩ := hW
  have hA : DataW.TrodAll enc Try.prog W 0 (fun _ => true) true Try.f3.params.toList args.toList ds p := hA0
  rw [Try.params3] at hA hval
  obtain ⟨v0, vs0, d0, ds0, p0, q0, hargs, rfl, rfl, h0, r0⟩ := trodAll_cons hA
  obtain ⟨v1, vs1, d1, ds1, p1, q1, rfl, rfl, rfl, h1, r1⟩ := trodAll_cons r0
  obtain ⟨v2, vs2, d2, ds2, p2, q2, rfl, rfl, rfl, h2, r2⟩ := trodAll_cons r1
  obtain ⟨rfl, rfl, rfl⟩ := trodAll_nil r2
  obtain rfl : args = #[v0, v1, v2] := by cases args; simp_all
  obtain ⟨rfl, rfl⟩ := trodVars_none hV
  have k0 := h0
  have lt0 : ∀ x ∈ p0, x.block < W.heap.size := by obtain ⟨m, hm⟩ := k0; exact DataW.trod_lt m _ _ _ hm
  obtain ⟨o0, rfl, w0⟩ := dec_entry entryT (hval 0 28 v0 rfl rfl) h0
  have k1 := h1
  have lt1 : ∀ x ∈ p1, x.block < W.heap.size := by obtain ⟨m, hm⟩ := k1; exact DataW.trod_lt m _ _ _ hm
  obtain ⟨o1, rfl, w1⟩ := dec_entry entryT (hval 1 28 v1 rfl rfl) h1
  have k2 := h2
  have lt2 : ∀ x ∈ p2, x.block < W.heap.size := by obtain ⟨m, hm⟩ := k2; exact DataW.trod_lt m _ _ _ hm
  obtain ⟨x2, rfl, w2⟩ := dec_int Try.underlying22 (hval 2 22 v2 rfl rfl) h2
  clear hA0 hval0
  refine (behindTells_walk o0 w0 o1 w1 x2 w2).mono fun e W' ⟨he, bel⟩ => ?_
  subst he
  exact ⟨_, rfl, _, _, _, [], _, [], hW', trodAll_mk1 (shut_bool Try.underlying4 _), (trodAll_cons_mk (Below.trod laidOut (by kernel_rfl) (of_decide_eq_true (by kernel_rfl)) k0 bel lt0) (trodAll_cons_mk (Below.trod laidOut (by kernel_rfl) (of_decide_eq_true (by kernel_rfl)) k1 bel lt1) (trodAll_cons_mk (Below.trod laidOut (by kernel_rfl) (of_decide_eq_true (by kernel_rfl)) k2 bel lt2) trodAll_mk0))), rfl, bel.frame _, fun h => by cases h⟩

theorem over : Rows.behindTellsRow.holds Try.pinned (OpenSpec.ofChange Rows.behindTellsSpec) :=
  OpenClaim.holds_of_wide 3 Try.f3 rfl rfl rfl rfl rfl rfl rfl ⟨rfl, rfl, rfl, rfl, rfl⟩ rfl rfl rfl rfl rfl (by kernel_rfl) Try.func3 (by kernel_rfl)
    (of_decide_eq_true (by kernel_rfl)) (by unfold Func.isWrapper; first | (rw [if_pos (by decide +kernel)]; kernel_rfl) | (rw [if_neg (by decide +kernel)]; exact ⟨rfl, rfl⟩))
    (fun os started H enc _ => lifted os started H enc)
/-- The given statement. -/
theorem proved : Rows.BehindTellsSaid := over
end behindTells

end Go.Proofs.Ytdaniaijlkflcaa
