/- Blocks are put into an image. -/
import Derived.Test.YtgejmeankppmhaaDoorIgrM
namespace Go.Proofs.YtgejmeankppmhaaDoor
open Go.RowKit
set_option maxRecDepth 20000

def iput (i : Im) (f c : Nat) (d : List UInt8) : Im × Int :=
  if 0 < c ∧ f + c ≤ i.l.length / 8 then (if d.length = 8 * c then (⟨i.L, i.B, (i.l.take (8 * f) ++ d) ++ i.l.drop (8 * f + d.length), i.T⟩, 0) else (i, 2)) else (i, 30)
theorem str_app (a b : List UInt8) : str a ++ str b = str (a ++ b) := by
  apply ByteArray.ext
  apply Array.ext'
  simp [str]
theorem icells_setl' (i : Im) (x : List UInt8) : ((icells i).toArray.setIfInBounds 2 (.string (str x))) = (icells ⟨i.L, i.B, x, i.T⟩).toArray := by simp [icells]
set_option maxHeartbeats 2000000 in
theorem iput_any (i : Im) (f c : Nat) (d : List UInt8) (w : World) (hT : i.T.length = 8) (hf : f < 4294967296) (hc : c < 4294967296) (hlen : i.l.length ≤ 100000) (hd : d.length ≤ 100000) :
    Calls Tryd.prog 26 #[imv i, .agg #[.int .u32 (f : Int), .int .u32 (c : Int)], .string (str d)] w fun e w' => e = .returned (.tuple #[imv (iput i f c d).1, .int .i64 (iput i f c d).2]) ∧ Below w.heap.size w w' := by
  have hs : (str i.l).size = i.l.length := rfl
  have hds : (str d).size = d.length := rfl
  have hcount := fun W => count_any i W hlen
  have hsg := fun W => spgood_any f c (i.l.length / 8) W hf hc (by omega)
  have hsz := fun n W hn => isize_any n W hn
  have hT8 := Lib.hid hT
  have h08 : I0.T.length = 8 := rfl
  have HC := Lib.hid hcount
  have HSZ := Lib.hid hsz
  clear hcount hsz hT
  by_cases hg : 0 < c ∧ f + c ≤ i.l.length / 8
  · have hsd : decide (0 < c ∧ f + c ≤ i.l.length / 8) = true := decide_eq_true hg
    rw [hsd] at hsg
    have HSG := Lib.hid hsg
    clear hsg hsd
    by_cases hdl : d.length = 8 * c
    · have hres : iput i f c d = (⟨i.L, i.B, (i.l.take (8 * f) ++ d) ++ i.l.drop (8 * f + d.length), i.T⟩, 0) := by unfold iput; rw [if_pos hg, if_pos hdl]
      rw [hres]
      clear hres
      dsimp only
      obtain ⟨m, hm⟩ : ∃ m, m = f * 8 := ⟨_, rfl⟩
      obtain ⟨m2, hm2⟩ : ∃ m2, m2 = c * 8 := ⟨_, rfl⟩
      have hszf := fun W => HSZ.out f W (by omega)
      have hszc := fun W => HSZ.out c W (by omega)
      rw [← hm] at hszf
      rw [← hm2] at hszc
      rw [show 8 * f = m by omega]
      have HF1 := Lib.hid hszf
      have HC1 := Lib.hid hszc
      have q1 : ((d.length : Int) != (m2 : Int)) = false := by rw [bne_eq_false_iff_eq]; omega
      have q1' : (((str d).size : Int) != (m2 : Int)) = false := by rw [bne_eq_false_iff_eq, hds]; omega
      have hmd : m + d.length ≤ i.l.length := by omega
      have hm0 : (m : Int) ≤ (i.l.length : Int) := by omega
      have hm0' : (m : Int) ≤ ((str i.l).size : Int) := by rw [hs]; omega
      have hx1 : (str i.l).extract 0 m = str (i.l.take m) := str_take i.l m
      have hx2 : (str i.l).extract (m + d.length) i.l.length = str (i.l.drop (m + d.length)) := str_drop i.l _
      have hmi : (m : Int) + (d.length : Int) ≤ (i.l.length : Int) := by omega
      have k1 : (str (i.l.take m)).size = m := by rw [str_size, List.length_take]; omega
      have k2 : (str (i.l.drop (m + d.length))).size = i.l.length - (m + d.length) := by rw [str_size, List.length_drop]
      have k3 : ¬ 9223372036854775807 < m + d.length := by omega
      have k4 : ¬ 9223372036854775807 < m + d.length + (i.l.length - (m + d.length)) := by omega
      have hfin : str (i.l.take m) ++ str d ++ str (i.l.drop (m + d.length)) = str (i.l.take m ++ d ++ i.l.drop (m + d.length)) := by rw [str_app, str_app]
      have HFIN := Lib.hid hfin
      clear hszf hszc hm hm2 hg hdl HSZ hfin
      go_enter Tryd.func26, Tryd.ntmps26
      go_wp2_with (first
        | (refine wpL_rbox (cs := icells i) (o := ⟨some 3, _, _, _, _, _⟩) rfl (.tmp 0) rfl rfl ?_; intro W0 b3 hN; obtain ⟨hb3, hr3, hl3, hz3⟩ := hN)
        | (refine wpL_rbox (cs := [.int .u32 (f : Int), .int .u32 (c : Int)]) (o := ⟨some 4, _, _, _, _, _⟩) rfl (.tmp 1) rfl rfl ?_; intro W1 b4 hN; obtain ⟨hb4, hr4, hl4, hz4⟩ := hN)
        | (refine imA.wpNew (o := ⟨some 6, _, _, _, _, _⟩) rfl rfl ?_; intro W b6 hN; obtain ⟨hb6, hr6, hl6, hz6⟩ := hN
           have R3 := Lib.hid (row_below (row_below hr3.out hl4) hl6)
           have R4 := Lib.hid (row_below hr4.out hl6)
           have HB := Lib.hid ((hl3.trans (hl4.mono hl3.size)).trans (hl6.mono (Nat.le_trans hl3.size hl4.size)))
           have h34 : b3 < b4 := by have := hb4.out; have := hz3.out; omega
           have h46 : b4 < b6 := by have := hb6.out; have := hz4.out; omega
           have h6W : b6 < W.heap.size := by have := hz6.out; omega
           have h3w : w.heap.size ≤ b3 := Nat.le_of_eq hb3.out.symm
           have h6w : w.heap.size ≤ b6 := by omega
           clear hb3 hr3 hl3 hz3 hb4 hr4 hl4 hz4 hb6 hl6 hz6)
        | fail)
      refine wp_low W.heap.size [([0, 1], 2), ([], 3)] [4, 5] (by kernel_rfl) (by kernel_rfl) (fun d _ _ _ _ h => by cases d <;> exact h) (Nat.le_refl _) fun wd hbd => ?_
      intro q hq
      have d0 := fun z => cellz (j := 0) (hq z) R4.out rfl (by omega)
      have d1 := fun z => cellz (j := 1) (hq z) R4.out rfl (by omega)
      simp only [pickI, Option.toList_some, List.cons_append, List.nil_append, List.getElem?_toArray, List.getElem?_cons_succ, List.getElem?_cons_zero]
      try go_frame
      go_big_quiet_step (fail)
      refine imA.wpQload (by rfl) (.tmp 3) rfl rfl (fun W hW => by obtain ⟨z, rfl⟩ := hW; exact below_row (hq z) R3.out (by omega)) hT8.out ?_
      try go_frame
      refine wpQuiet_nil ?_
      clear hq q d0 d1
      refine seg_op (by simp only [List.getElem?_toArray, List.getElem?_cons_succ, List.getElem?_cons_zero]; rfl) fun K hK => ?_
      go_simp
      refine (HC.out _).mono ?_
      rintro e v0 ⟨rfl, bv0⟩
      have zv0 := hbd.trans (bv0.mono hbd.size)
      refine hK.out _ _ (seg_keep zv0 ?_)
      clear hK K
      intro q hq
      refine wpQuiet_nil ?_
      clear hq q
      refine seg_op (by simp only [List.getElem?_toArray, List.getElem?_cons_succ, List.getElem?_cons_zero]; rfl) fun K hK => ?_
      go_simp
      refine (HSG.out _).mono ?_
      rintro e v1 ⟨rfl, bv1⟩
      have zv1 := zv0.trans (bv1.mono zv0.size)
      refine hK.out _ _ (seg_keep zv1 ?_)
      clear hK K
      intro q hq
      have d0 := fun z => cellz (j := 0) (hq z) R4.out rfl (by omega)
      have d1 := fun z => cellz (j := 1) (hq z) R4.out rfl (by omega)
      simp only [pickI, Option.toList_some, List.cons_append, List.nil_append, List.getElem?_toArray, List.getElem?_cons_succ, List.getElem?_cons_zero]
      try go_frame
      go_big_quiet_step (fail)
      go_big_quiet_step (fail)
      refine wpQuiet_nil ?_
      clear hq q d0 d1
      have K3 := Lib.hid (below_row zv1 R3.out (by omega))
      have K4 := Lib.hid (below_row zv1 R4.out (by omega))
      have K6 := Lib.hid (below_row zv1 hr6.out h6W)
      have HF := Lib.hid (HB.out.trans (zv1.mono HB.out.size))
      have e0 := cell_of_row _ b4 0 _ _ _ K4.out
      have e1 := cell_of_row _ b4 1 _ _ _ K4.out
      simp at e0 e1
      clear zv0 bv0 zv1 bv1 hbd HB R3 R4 hr6
      go_wp2_with (first
        | (go_at_call 46; refine (HC1.out _).mono ?_; rintro e w5 ⟨rfl, hb5⟩
           have K3 := Lib.hid (row_below K3.out hb5)
           have K4 := Lib.hid (row_below K4.out hb5)
           have K6 := Lib.hid (row_below K6.out hb5)
           have HF := Lib.hid (HF.out.trans (hb5.mono HF.out.size))
           have e0 := cell_of_row _ b4 0 _ _ _ K4.out
           simp at e0
           clear HC1 e1)
        | (go_at_call 46; refine (HF1.out _).mono ?_; rintro e w7 ⟨rfl, hb7⟩
           have K3 := Lib.hid (row_below K3.out hb7)
           have K6 := Lib.hid (row_below K6.out hb7)
           have HF := Lib.hid (HF.out.trans (hb7.mono HF.out.size))
           have c2 := icell2 K3.out
           have f2 := frozen_of_row _ b3 2 _ _ K3.out
           clear HF1 e0)
        | fail)
      go_big_region
      rw [HFIN.out]
      have hst := heap_setCell_same w7 b3 2 _ _ (.string (str (i.l.take m ++ d ++ i.l.drop (m + d.length)))) K3.out
      rw [icells_setl'] at hst
      have hgs : w7.grownBy (w7.setCell ⟨b3, 2, none⟩ (.string (str (i.l.take m ++ d ++ i.l.drop (m + d.length))))) (some b3) := setCell_by (w' := w7) (p := ⟨b3, 2, none⟩) (World.grownBy.refl w7 (some b3)) rfl _
      obtain ⟨X, hX⟩ : ∃ X, X = (w7.setCell ⟨b3, 2, none⟩ (.string (str (i.l.take m ++ d ++ i.l.drop (m + d.length))))).drew := ⟨_, rfl⟩
      have hXr : X.heap[b3]? = some (.cells (icells ⟨i.L, i.B, i.l.take m ++ d ++ i.l.drop (m + d.length), i.T⟩).toArray 32 (0, 0)) := by rw [hX]; exact hst
      have hXg : w7.grownBy X (some b3) := by rw [hX]; exact ⟨hgs.os, hgs.tape, hgs.output, hgs.size, hgs.block⟩
      rw [← hX]
      have XR := Lib.hid hXr
      have K6 := Lib.hid (row_far K6.out hXg (fun e => by have := Option.some.inj e; omega))
      have HF := Lib.hid (HF.out.grown hXg HF.out.size (fun k e => by cases e; exact h3w))
      have hl19 : ∀ ll, (icells ⟨i.L, i.B, ll, i.T⟩).toArray.size = 19 := fun ll => by rw [List.size_toArray]; exact icells_19 hT8.out
      have HL19 := Lib.hid (hl19 (i.l.take m ++ d ++ i.l.drop (m + d.length)))
      clear hst hgs hX hXr hXg HFIN c2 f2 K3 k1 k2 k3 k4 hx1 hx2 hl19
      go_wp2_with (first
        | (refine imA.wpLoad (by rfl) (.tmp 3) rfl rfl XR.out hT8.out ?_)
        | (refine imA.wpStore rfl (.tmp 6) (.tmp 42) rfl rfl rfl K6.out h08 hT8.out ?_; intro W9 hr9 hg9 hz9)
        | fail)
      refine bodyPost_ret (results_cell_tmp rfl _ b6 32 _ (0, 0) _ rfl hr9.out imA.und rfl (by rw [imA.size, HL19.out])) rfl ⟨rfl, HF.out.grown hg9 HF.out.size (fun k e => by cases e; exact h6w)⟩
    · have hres : iput i f c d = (i, 2) := by unfold iput; rw [if_pos hg, if_neg hdl]
      rw [hres]
      clear hres
      dsimp only
      obtain ⟨m2, hm2⟩ : ∃ m2, m2 = c * 8 := ⟨_, rfl⟩
      have hszc := fun W => HSZ.out c W (by omega)
      rw [← hm2] at hszc
      have HC1 := Lib.hid hszc
      have q1 : ((d.length : Int) != (m2 : Int)) = true := by rw [bne_iff_ne]; omega
      have q1' : (((str d).size : Int) != (m2 : Int)) = true := by rw [bne_iff_ne, hds]; omega
      clear hszc hm2 hg hdl HSZ
      go_enter Tryd.func26, Tryd.ntmps26
      go_wp2_with (first
        | (refine wpL_rbox (cs := icells i) (o := ⟨some 3, _, _, _, _, _⟩) rfl (.tmp 0) rfl rfl ?_; intro W0 b3 hN; obtain ⟨hb3, hr3, hl3, hz3⟩ := hN)
        | (refine wpL_rbox (cs := [.int .u32 (f : Int), .int .u32 (c : Int)]) (o := ⟨some 4, _, _, _, _, _⟩) rfl (.tmp 1) rfl rfl ?_; intro W1 b4 hN; obtain ⟨hb4, hr4, hl4, hz4⟩ := hN)
        | (refine imA.wpNew (o := ⟨some 6, _, _, _, _, _⟩) rfl rfl ?_; intro W b6 hN; obtain ⟨hb6, hr6, hl6, hz6⟩ := hN
           have R3 := Lib.hid (row_below (row_below hr3.out hl4) hl6)
           have R4 := Lib.hid (row_below hr4.out hl6)
           have HB := Lib.hid ((hl3.trans (hl4.mono hl3.size)).trans (hl6.mono (Nat.le_trans hl3.size hl4.size)))
           have h34 : b3 < b4 := by have := hb4.out; have := hz3.out; omega
           have h46 : b4 < b6 := by have := hb6.out; have := hz4.out; omega
           have h6W : b6 < W.heap.size := by have := hz6.out; omega
           have h3w : w.heap.size ≤ b3 := Nat.le_of_eq hb3.out.symm
           have h6w : w.heap.size ≤ b6 := by omega
           clear hb3 hr3 hl3 hz3 hb4 hr4 hl4 hz4 hb6 hl6 hz6)
        | fail)
      refine wp_low W.heap.size [([0, 1], 2), ([], 3)] [4, 5] (by kernel_rfl) (by kernel_rfl) (fun d _ _ _ _ h => by cases d <;> exact h) (Nat.le_refl _) fun wd hbd => ?_
      intro q hq
      have d0 := fun z => cellz (j := 0) (hq z) R4.out rfl (by omega)
      have d1 := fun z => cellz (j := 1) (hq z) R4.out rfl (by omega)
      simp only [pickI, Option.toList_some, List.cons_append, List.nil_append, List.getElem?_toArray, List.getElem?_cons_succ, List.getElem?_cons_zero]
      try go_frame
      go_big_quiet_step (fail)
      refine imA.wpQload (by rfl) (.tmp 3) rfl rfl (fun W hW => by obtain ⟨z, rfl⟩ := hW; exact below_row (hq z) R3.out (by omega)) hT8.out ?_
      try go_frame
      refine wpQuiet_nil ?_
      clear hq q d0 d1
      refine seg_op (by simp only [List.getElem?_toArray, List.getElem?_cons_succ, List.getElem?_cons_zero]; rfl) fun K hK => ?_
      go_simp
      refine (HC.out _).mono ?_
      rintro e v0 ⟨rfl, bv0⟩
      have zv0 := hbd.trans (bv0.mono hbd.size)
      refine hK.out _ _ (seg_keep zv0 ?_)
      clear hK K
      intro q hq
      refine wpQuiet_nil ?_
      clear hq q
      refine seg_op (by simp only [List.getElem?_toArray, List.getElem?_cons_succ, List.getElem?_cons_zero]; rfl) fun K hK => ?_
      go_simp
      refine (HSG.out _).mono ?_
      rintro e v1 ⟨rfl, bv1⟩
      have zv1 := zv0.trans (bv1.mono zv0.size)
      refine hK.out _ _ (seg_keep zv1 ?_)
      clear hK K
      intro q hq
      have d0 := fun z => cellz (j := 0) (hq z) R4.out rfl (by omega)
      have d1 := fun z => cellz (j := 1) (hq z) R4.out rfl (by omega)
      simp only [pickI, Option.toList_some, List.cons_append, List.nil_append, List.getElem?_toArray, List.getElem?_cons_succ, List.getElem?_cons_zero]
      try go_frame
      go_big_quiet_step (fail)
      go_big_quiet_step (fail)
      refine wpQuiet_nil ?_
      clear hq q d0 d1
      have K3 := Lib.hid (below_row zv1 R3.out (by omega))
      have K4 := Lib.hid (below_row zv1 R4.out (by omega))
      have K6 := Lib.hid (below_row zv1 hr6.out h6W)
      have HF := Lib.hid (HB.out.trans (zv1.mono HB.out.size))
      have e0 := cell_of_row _ b4 0 _ _ _ K4.out
      have e1 := cell_of_row _ b4 1 _ _ _ K4.out
      simp at e0 e1
      clear zv0 bv0 zv1 bv1 hbd HB R3 R4 hr6
      go_wp2_with (first
        | (go_at_call 46; refine (HC1.out _).mono ?_; rintro e w5 ⟨rfl, hb5⟩
           have K3 := Lib.hid (row_below K3.out hb5)
           have K6 := Lib.hid (row_below K6.out hb5)
           have HF := Lib.hid (HF.out.trans (hb5.mono HF.out.size))
           clear HC1 e0 e1 K4)
        | (refine imA.wpLoad (by rfl) (.tmp 3) rfl rfl K3.out hT8.out ?_)
        | (refine imA.wpStore rfl (.tmp 6) (.tmp 23) rfl rfl rfl K6.out h08 hT8.out ?_; intro W9 hr9 hg9 hz9)
        | fail)
      refine bodyPost_ret (results_cell_tmp rfl _ b6 32 _ (0, 0) _ rfl hr9.out imA.und rfl (by rw [imA.size]; simp [icells_19 hT8.out])) rfl ⟨rfl, HF.out.grown hg9 HF.out.size (fun k e => by cases e; exact h6w)⟩
  · have hres : iput i f c d = (i, 30) := by unfold iput; rw [if_neg hg]
    have hsd : decide (0 < c ∧ f + c ≤ i.l.length / 8) = false := decide_eq_false hg
    rw [hsd] at hsg
    have HSG := Lib.hid hsg
    rw [hres]
    dsimp only
    clear hsg hsd hres hg HSZ
    go_enter Tryd.func26, Tryd.ntmps26
    go_wp2_with (first
      | (refine wpL_rbox (cs := icells i) (o := ⟨some 3, _, _, _, _, _⟩) rfl (.tmp 0) rfl rfl ?_; intro W0 b3 hN; obtain ⟨hb3, hr3, hl3, hz3⟩ := hN)
      | (refine wpL_rbox (cs := [.int .u32 (f : Int), .int .u32 (c : Int)]) (o := ⟨some 4, _, _, _, _, _⟩) rfl (.tmp 1) rfl rfl ?_; intro W1 b4 hN; obtain ⟨hb4, hr4, hl4, hz4⟩ := hN)
      | (refine imA.wpNew (o := ⟨some 6, _, _, _, _, _⟩) rfl rfl ?_; intro W b6 hN; obtain ⟨hb6, hr6, hl6, hz6⟩ := hN
         have R3 := Lib.hid (row_below (row_below hr3.out hl4) hl6)
         have R4 := Lib.hid (row_below hr4.out hl6)
         have HB := Lib.hid ((hl3.trans (hl4.mono hl3.size)).trans (hl6.mono (Nat.le_trans hl3.size hl4.size)))
         have h34 : b3 < b4 := by have := hb4.out; have := hz3.out; omega
         have h46 : b4 < b6 := by have := hb6.out; have := hz4.out; omega
         have h6W : b6 < W.heap.size := by have := hz6.out; omega
         have h3w : w.heap.size ≤ b3 := Nat.le_of_eq hb3.out.symm
         have h6w : w.heap.size ≤ b6 := by omega
         clear hb3 hr3 hl3 hz3 hb4 hr4 hl4 hz4 hb6 hl6 hz6)
      | fail)
    refine wp_low W.heap.size [([0, 1], 2), ([], 3)] [4, 5] (by kernel_rfl) (by kernel_rfl) (fun d _ _ _ _ h => by cases d <;> exact h) (Nat.le_refl _) fun wd hbd => ?_
    intro q hq
    have d0 := fun z => cellz (j := 0) (hq z) R4.out rfl (by omega)
    have d1 := fun z => cellz (j := 1) (hq z) R4.out rfl (by omega)
    simp only [pickI, Option.toList_some, List.cons_append, List.nil_append, List.getElem?_toArray, List.getElem?_cons_succ, List.getElem?_cons_zero]
    try go_frame
    go_big_quiet_step (fail)
    refine imA.wpQload (by rfl) (.tmp 3) rfl rfl (fun W hW => by obtain ⟨z, rfl⟩ := hW; exact below_row (hq z) R3.out (by omega)) hT8.out ?_
    try go_frame
    refine wpQuiet_nil ?_
    clear hq q d0 d1
    refine seg_op (by simp only [List.getElem?_toArray, List.getElem?_cons_succ, List.getElem?_cons_zero]; rfl) fun K hK => ?_
    go_simp
    refine (HC.out _).mono ?_
    rintro e v0 ⟨rfl, bv0⟩
    have zv0 := hbd.trans (bv0.mono hbd.size)
    refine hK.out _ _ (seg_keep zv0 ?_)
    clear hK K
    intro q hq
    refine wpQuiet_nil ?_
    clear hq q
    refine seg_op (by simp only [List.getElem?_toArray, List.getElem?_cons_succ, List.getElem?_cons_zero]; rfl) fun K hK => ?_
    go_simp
    refine (HSG.out _).mono ?_
    rintro e v1 ⟨rfl, bv1⟩
    have zv1 := zv0.trans (bv1.mono zv0.size)
    refine hK.out _ _ (seg_keep zv1 ?_)
    clear hK K
    intro q hq
    have d0 := fun z => cellz (j := 0) (hq z) R4.out rfl (by omega)
    have d1 := fun z => cellz (j := 1) (hq z) R4.out rfl (by omega)
    simp only [pickI, Option.toList_some, List.cons_append, List.nil_append, List.getElem?_toArray, List.getElem?_cons_succ, List.getElem?_cons_zero]
    try go_frame
    go_big_quiet_step (fail)
    go_big_quiet_step (fail)
    refine wpQuiet_nil ?_
    clear hq q d0 d1
    have K3 := Lib.hid (below_row zv1 R3.out (by omega))
    have K4 := Lib.hid (below_row zv1 R4.out (by omega))
    have K6 := Lib.hid (below_row zv1 hr6.out h6W)
    have HF := Lib.hid (HB.out.trans (zv1.mono HB.out.size))
    have e0 := cell_of_row _ b4 0 _ _ _ K4.out
    have e1 := cell_of_row _ b4 1 _ _ _ K4.out
    simp at e0 e1
    clear zv0 bv0 zv1 bv1 hbd HB R3 R4 hr6
    go_wp2_with (first
      | (refine imA.wpLoad (by rfl) (.tmp 3) rfl rfl K3.out hT8.out ?_)
      | (refine imA.wpStore rfl (.tmp 6) (.tmp 15) rfl rfl rfl K6.out h08 hT8.out ?_; intro W9 hr9 hg9 hz9)
      | fail)
    refine bodyPost_ret (results_cell_tmp rfl _ b6 32 _ (0, 0) _ rfl hr9.out imA.und rfl (by rw [imA.size]; simp [icells_19 hT8.out])) rfl ⟨rfl, HF.out.grown hg9 HF.out.size (fun k e => by cases e; exact h6w)⟩

end Go.Proofs.YtgejmeankppmhaaDoor
