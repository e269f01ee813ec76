/- What an image is asked: how many blocks, whether it may be. -/
import Derived.Test.YtacaonlahggdeaaDoorImv
import Derived.Test.YtacaonlahggdeaaDoorSpan
import Derived.Test.YtacaonlahggdeaaDoorMrtop
import Derived.Test.YtacaonlahggdeaaDoorPlain
namespace Go.Proofs.YtacaonlahggdeaaDoor
open Go.RowKit
set_option maxRecDepth 20000

theorem icell0 {w : World} {b : Nat} {t : TypeId} {fr : Nat × Nat} {i : Im} (h : w.heap[b]? = some (.cells (icells i).toArray t fr)) : w.cell? ⟨b, 0, none⟩ = some (.int .u64 (i.L : Int)) := by rw [cell_of_row w b 0 _ _ _ h]; rfl
theorem icell1 {w : World} {b : Nat} {t : TypeId} {fr : Nat × Nat} {i : Im} (h : w.heap[b]? = some (.cells (icells i).toArray t fr)) : w.cell? ⟨b, 1, none⟩ = some (.int .u64 (i.B : Int)) := by rw [cell_of_row w b 1 _ _ _ h]; rfl
theorem icell2 {w : World} {b : Nat} {t : TypeId} {fr : Nat × Nat} {i : Im} (h : w.heap[b]? = some (.cells (icells i).toArray t fr)) : w.cell? ⟨b, 2, none⟩ = some (.string (str i.l)) := by rw [cell_of_row w b 2 _ _ _ h]; rfl
theorem ret_i64 {a b : Int} (h : a = b) : Ending.returned (.int .i64 a) = .returned (.int .i64 b) := by rw [h]
theorem ret_u32 {a b : Int} (h : a = b) : Ending.returned (.int .u32 a) = .returned (.int .u32 b) := by rw [h]
theorem ret_str {a b : List UInt8} (h : a = b) : Ending.returned (.string (str a)) = .returned (.string (str b)) := by rw [h]
theorem below_row {N : Nat} {w w' : World} (hb : Below N w w') {b : Nat} {o : Obj} (h : w.heap[b]? = some o) (hN : b < N) : w'.heap[b]? = some o := (hb.block b hN).trans h

theorem count_any (i : Im) (w : World) (hl : i.l.length ≤ 100000) :
    Calls Tryd.prog 27 #[imv i] w fun e w' => e = .returned (.int .u32 ((i.l.length / 8 : Nat) : Int)) ∧ Below w.heap.size w w' := by
  have hs : (str i.l).size = i.l.length := rfl
  have hw : IntKind.u32.wrap ((i.l.length : Int) / 8) = ((i.l.length / 8 : Nat) : Int) := by rw [IntKind.wrap_u32]; omega
  go_enter Tryd.func27, Tryd.ntmps27
  go_wp2_with (first
    | (refine wpL_rbox (cs := icells i) rfl (.tmp 0) rfl rfl ?_; intro W b hN; obtain ⟨hb, hr, hl1, hz⟩ := hN; have c2 := icell2 hr.out)
    | fail)
  go_ret
  exact ⟨ret_u32 (by omega), hl1⟩
theorem isize_any (n : Nat) (w : World) (hn : n < 4294967296) :
    Calls Tryd.prog 29 #[.int .u32 (n : Int)] w fun e w' => e = .returned (.int .i64 ((n * 8 : Nat) : Int)) ∧ Below w.heap.size w w' := by
  go_enter Tryd.func29, Tryd.ntmps29
  go_wp2
  go_ret
  exact ⟨ret_i64 (by omega), Below.refl _ _⟩

theorem szB_no {l : List UInt8} {n : Nat} (hn : n = l.length / 8) (h : ¬ (1 ≤ n ∧ n ≤ 64 ∧ l.length = n * 8)) : szB l = false := by
  unfold szB
  simp only [decide_eq_false_iff_not]
  omega
theorem szB_yes {l : List UInt8} {n : Nat} (hn : n = l.length / 8) (h : 1 ≤ n ∧ n ≤ 64 ∧ l.length = n * 8) : szB l = true := by
  unfold szB
  simp only [decide_eq_true_eq]
  omega
set_option maxHeartbeats 2000000 in
theorem igood_any (i : Im) (w : World) (hok : i.ok) (hlen : i.l.length ≤ 100000) (hT : Tab w) :
    Calls Tryd.prog 10 #[imv i] w fun e w' => e = .returned (.bool (igB i)) ∧ Below w.heap.size w w' := by
  have hcount := fun W => count_any i W hlen
  have hgd := fun W h => good_any i.L i.B W hok.1 hok.2.1 h
  have hs : (str i.l).size = i.l.length := rfl
  have hT8 := Lib.hid hok.2.2.1
  obtain ⟨n, hn⟩ : ∃ n, n = i.l.length / 8 := ⟨_, rfl⟩
  rw [← hn] at hcount
  have hisz := fun W => isize_any n W (by omega)
  have HC := Lib.hid hcount
  have HG := Lib.hid hgd
  obtain ⟨m, hm⟩ : ∃ m, m = n * 8 := ⟨_, rfl⟩
  rw [← hm] at hisz
  have HI := Lib.hid hisz
  have hbig : n ≤ 12500 := by omega
  have hig : igB i = (gdB i.L i.B && szB i.l) := rfl
  have hsy := szB_yes hn
  have hsn := szB_no hn
  clear hcount hgd hisz hok hn
  generalize gdB i.L i.B = gd at *
  generalize i.l.length = len at *
  cases gd
  · have hres : igB i = false := by rw [hig]; rfl
    rw [hres]
    clear hsy hsn hres hig
    go_enter Tryd.func10, Tryd.ntmps10
    go_wp2_with (first
      | (refine wpL_rbox (cs := icells i) rfl (.tmp 0) rfl rfl ?_; intro W0 b hN; obtain ⟨hb, hr, hl1, hz⟩ := hN)
      | (refine imA.wpLoad rfl (.tmp 1) rfl rfl hr.out hT8.out ?_)
      | (go_at_call 27; refine (HC.out _).mono ?_; rintro e W ⟨rfl, hb1⟩; have HR := Lib.hid (row_below hr.out hb1); have HB := Lib.hid (hl1.trans (hb1.mono hl1.size)); have hbW : b < W.heap.size := by have := hz.out; have := hb1.size; omega)
      | fail)
    clear hr hl1 hz hb1
    refine wp_low W.heap.size [([0, 1], 2), ([3, 4, 5, 6, 7, 8, 9, 10, 11, 12, 13, 14, 15], 16)] [17, 18, 19] (by kernel_rfl) (by kernel_rfl) (fun d _ _ _ _ h => by cases d <;> exact h) (Nat.le_refl _) fun wd hbd => ?_
    intro q hq
    have d0 := fun z => icell0 (below_row (hq z) HR.out hbW)
    have d1 := fun z => icell1 (below_row (hq z) HR.out hbW)
    have d2 := fun z => icell2 (below_row (hq z) HR.out hbW)
    simp only [pickI, Option.toList_some, List.cons_append, List.nil_append, List.getElem?_toArray, List.getElem?_cons_succ, List.getElem?_cons_zero]
    try go_frame
    go_big_quiet_step (fail)
    go_big_quiet_step (fail)
    refine wpQuiet_nil ?_
    clear hq q d0 d1 d2
    refine seg_op (by simp only [List.getElem?_toArray, List.getElem?_cons_succ, List.getElem?_cons_zero]; rfl) fun K hK => ?_
    go_simp
    refine (HG.out _ (hT.below (HB.out.trans (hbd.mono HB.out.size)))).mono ?_
    rintro e v0 ⟨rfl, bv0⟩
    have zv0 := hbd.trans (bv0.mono hbd.size)
    refine hK.out _ _ (seg_keep zv0 ?_)
    clear hK K
    intro q hq
    have d0 := fun z => icell0 (below_row (hq z) HR.out hbW)
    have d1 := fun z => icell1 (below_row (hq z) HR.out hbW)
    have d2 := fun z => icell2 (below_row (hq z) HR.out hbW)
    simp only [pickI, Option.toList_some, List.cons_append, List.nil_append, List.getElem?_toArray, List.getElem?_cons_succ, List.getElem?_cons_zero]
    try go_frame
    go_big_quiet_step (fail)
    go_big_quiet_step (fail)
    go_big_quiet_step (fail)
    go_big_quiet_step (fail)
    go_big_quiet_step (fail)
    go_big_quiet_step (fail)
    go_big_quiet_step (fail)
    go_big_quiet_step (fail)
    go_big_quiet_step (fail)
    go_big_quiet_step (fail)
    go_big_quiet_step (fail)
    go_big_quiet_step (fail)
    go_big_quiet_step (fail)
    refine wpQuiet_nil ?_
    clear hq q d0 d1 d2
    refine seg_op (by simp only [List.getElem?_toArray, List.getElem?_cons_succ, List.getElem?_cons_zero]; rfl) fun K hK => ?_
    go_simp
    refine hK.out _ _ (seg_keep zv0 ?_)
    clear hK K
    intro q hq
    have d0 := fun z => icell0 (below_row (hq z) HR.out hbW)
    have d1 := fun z => icell1 (below_row (hq z) HR.out hbW)
    have d2 := fun z => icell2 (below_row (hq z) HR.out hbW)
    simp only [pickI, Option.toList_some, List.cons_append, List.nil_append, List.getElem?_toArray, List.getElem?_cons_succ, List.getElem?_cons_zero]
    try go_frame
    go_big_quiet_step (fail)
    go_big_quiet_step (fail)
    go_big_quiet_step (fail)
    refine wpQuiet_nil ?_
    clear hq q d0 d1 d2
    have hfin := HB.out.trans (zv0.mono HB.out.size)
    go_wp2
    go_ret
    exact ⟨rfl, hfin⟩
  · by_cases h1 : 1 ≤ n
    · have q1 : decide ((1 : Int) ≤ (n : Int)) = true := by simp; omega
      by_cases h2 : n ≤ 64
      · have q2 : decide ((n : Int) ≤ 64) = true := by simp; omega
        by_cases h3 : len = n * 8
        · have q3 : ((len : Int) == (m : Int)) = true := by rw [h3, hm]; exact beq_self_eq_true _
          have q4 : (((str i.l).size : Int) == (m : Int)) = true := by rw [hs]; exact q3
          have hres : igB i = true := by rw [hig, hsy ⟨h1, h2, h3⟩]; rfl
          rw [hres]
          clear hsy hsn hres hig h1 h2 h3 hm
          go_enter Tryd.func10, Tryd.ntmps10
          go_wp2_with (first
            | (refine wpL_rbox (cs := icells i) rfl (.tmp 0) rfl rfl ?_; intro W0 b hN; obtain ⟨hb, hr, hl1, hz⟩ := hN)
            | (refine imA.wpLoad rfl (.tmp 1) rfl rfl hr.out hT8.out ?_)
            | (go_at_call 27; refine (HC.out _).mono ?_; rintro e W ⟨rfl, hb1⟩; have HR := Lib.hid (row_below hr.out hb1); have HB := Lib.hid (hl1.trans (hb1.mono hl1.size)); have hbW : b < W.heap.size := by have := hz.out; have := hb1.size; omega)
            | fail)
          clear hr hl1 hz hb1
          refine wp_low W.heap.size [([0, 1], 2), ([3, 4, 5, 6, 7, 8, 9, 10, 11, 12, 13, 14, 15], 16)] [17, 18, 19] (by kernel_rfl) (by kernel_rfl) (fun d _ _ _ _ h => by cases d <;> exact h) (Nat.le_refl _) fun wd hbd => ?_
          intro q hq
          have d0 := fun z => icell0 (below_row (hq z) HR.out hbW)
          have d1 := fun z => icell1 (below_row (hq z) HR.out hbW)
          have d2 := fun z => icell2 (below_row (hq z) HR.out hbW)
          simp only [pickI, Option.toList_some, List.cons_append, List.nil_append, List.getElem?_toArray, List.getElem?_cons_succ, List.getElem?_cons_zero]
          try go_frame
          go_big_quiet_step (fail)
          go_big_quiet_step (fail)
          refine wpQuiet_nil ?_
          clear hq q d0 d1 d2
          refine seg_op (by simp only [List.getElem?_toArray, List.getElem?_cons_succ, List.getElem?_cons_zero]; rfl) fun K hK => ?_
          go_simp
          refine (HG.out _ (hT.below (HB.out.trans (hbd.mono HB.out.size)))).mono ?_
          rintro e v0 ⟨rfl, bv0⟩
          have zv0 := hbd.trans (bv0.mono hbd.size)
          refine hK.out _ _ (seg_keep zv0 ?_)
          clear hK K
          intro q hq
          have d0 := fun z => icell0 (below_row (hq z) HR.out hbW)
          have d1 := fun z => icell1 (below_row (hq z) HR.out hbW)
          have d2 := fun z => icell2 (below_row (hq z) HR.out hbW)
          simp only [pickI, Option.toList_some, List.cons_append, List.nil_append, List.getElem?_toArray, List.getElem?_cons_succ, List.getElem?_cons_zero]
          try go_frame
          go_big_quiet_step (fail)
          go_big_quiet_step (fail)
          go_big_quiet_step (fail)
          go_big_quiet_step (fail)
          go_big_quiet_step (fail)
          go_big_quiet_step (fail)
          go_big_quiet_step (fail)
          go_big_quiet_step (fail)
          go_big_quiet_step (fail)
          go_big_quiet_step (fail)
          go_big_quiet_step (fail)
          go_big_quiet_step (fail)
          go_big_quiet_step (fail)
          refine wpQuiet_nil ?_
          clear hq q d0 d1 d2
          refine seg_op (by simp only [List.getElem?_toArray, List.getElem?_cons_succ, List.getElem?_cons_zero]; rfl) fun K hK => ?_
          go_simp
          refine (HI.out _).mono ?_
          rintro e v1 ⟨rfl, bv1⟩
          have zv1 := zv0.trans (bv1.mono zv0.size)
          refine hK.out _ _ (seg_keep zv1 ?_)
          clear hK K
          intro q hq
          have d0 := fun z => icell0 (below_row (hq z) HR.out hbW)
          have d1 := fun z => icell1 (below_row (hq z) HR.out hbW)
          have d2 := fun z => icell2 (below_row (hq z) HR.out hbW)
          simp only [pickI, Option.toList_some, List.cons_append, List.nil_append, List.getElem?_toArray, List.getElem?_cons_succ, List.getElem?_cons_zero]
          try go_frame
          go_big_quiet_step (fail)
          go_big_quiet_step (fail)
          go_big_quiet_step (fail)
          refine wpQuiet_nil ?_
          clear hq q d0 d1 d2
          have hfin := HB.out.trans (zv1.mono HB.out.size)
          go_wp2
          go_ret
          exact ⟨rfl, hfin⟩
        · have q3 : ((len : Int) == (m : Int)) = false := by rw [beq_eq_false_iff_ne]; omega
          have q4 : (((str i.l).size : Int) == (m : Int)) = false := by rw [hs]; exact q3
          have hres : igB i = false := by rw [hig, hsn (fun h => h3 h.2.2)]; rfl
          rw [hres]
          clear hsy hsn hres hig h1 h2 h3 hm
          go_enter Tryd.func10, Tryd.ntmps10
          go_wp2_with (first
            | (refine wpL_rbox (cs := icells i) rfl (.tmp 0) rfl rfl ?_; intro W0 b hN; obtain ⟨hb, hr, hl1, hz⟩ := hN)
            | (refine imA.wpLoad rfl (.tmp 1) rfl rfl hr.out hT8.out ?_)
            | (go_at_call 27; refine (HC.out _).mono ?_; rintro e W ⟨rfl, hb1⟩; have HR := Lib.hid (row_below hr.out hb1); have HB := Lib.hid (hl1.trans (hb1.mono hl1.size)); have hbW : b < W.heap.size := by have := hz.out; have := hb1.size; omega)
            | fail)
          clear hr hl1 hz hb1
          refine wp_low W.heap.size [([0, 1], 2), ([3, 4, 5, 6, 7, 8, 9, 10, 11, 12, 13, 14, 15], 16)] [17, 18, 19] (by kernel_rfl) (by kernel_rfl) (fun d _ _ _ _ h => by cases d <;> exact h) (Nat.le_refl _) fun wd hbd => ?_
          intro q hq
          have d0 := fun z => icell0 (below_row (hq z) HR.out hbW)
          have d1 := fun z => icell1 (below_row (hq z) HR.out hbW)
          have d2 := fun z => icell2 (below_row (hq z) HR.out hbW)
          simp only [pickI, Option.toList_some, List.cons_append, List.nil_append, List.getElem?_toArray, List.getElem?_cons_succ, List.getElem?_cons_zero]
          try go_frame
          go_big_quiet_step (fail)
          go_big_quiet_step (fail)
          refine wpQuiet_nil ?_
          clear hq q d0 d1 d2
          refine seg_op (by simp only [List.getElem?_toArray, List.getElem?_cons_succ, List.getElem?_cons_zero]; rfl) fun K hK => ?_
          go_simp
          refine (HG.out _ (hT.below (HB.out.trans (hbd.mono HB.out.size)))).mono ?_
          rintro e v0 ⟨rfl, bv0⟩
          have zv0 := hbd.trans (bv0.mono hbd.size)
          refine hK.out _ _ (seg_keep zv0 ?_)
          clear hK K
          intro q hq
          have d0 := fun z => icell0 (below_row (hq z) HR.out hbW)
          have d1 := fun z => icell1 (below_row (hq z) HR.out hbW)
          have d2 := fun z => icell2 (below_row (hq z) HR.out hbW)
          simp only [pickI, Option.toList_some, List.cons_append, List.nil_append, List.getElem?_toArray, List.getElem?_cons_succ, List.getElem?_cons_zero]
          try go_frame
          go_big_quiet_step (fail)
          go_big_quiet_step (fail)
          go_big_quiet_step (fail)
          go_big_quiet_step (fail)
          go_big_quiet_step (fail)
          go_big_quiet_step (fail)
          go_big_quiet_step (fail)
          go_big_quiet_step (fail)
          go_big_quiet_step (fail)
          go_big_quiet_step (fail)
          go_big_quiet_step (fail)
          go_big_quiet_step (fail)
          go_big_quiet_step (fail)
          refine wpQuiet_nil ?_
          clear hq q d0 d1 d2
          refine seg_op (by simp only [List.getElem?_toArray, List.getElem?_cons_succ, List.getElem?_cons_zero]; rfl) fun K hK => ?_
          go_simp
          refine (HI.out _).mono ?_
          rintro e v1 ⟨rfl, bv1⟩
          have zv1 := zv0.trans (bv1.mono zv0.size)
          refine hK.out _ _ (seg_keep zv1 ?_)
          clear hK K
          intro q hq
          have d0 := fun z => icell0 (below_row (hq z) HR.out hbW)
          have d1 := fun z => icell1 (below_row (hq z) HR.out hbW)
          have d2 := fun z => icell2 (below_row (hq z) HR.out hbW)
          simp only [pickI, Option.toList_some, List.cons_append, List.nil_append, List.getElem?_toArray, List.getElem?_cons_succ, List.getElem?_cons_zero]
          try go_frame
          go_big_quiet_step (fail)
          go_big_quiet_step (fail)
          go_big_quiet_step (fail)
          refine wpQuiet_nil ?_
          clear hq q d0 d1 d2
          have hfin := HB.out.trans (zv1.mono HB.out.size)
          go_wp2
          go_ret
          exact ⟨rfl, hfin⟩
      · have q2 : decide ((n : Int) ≤ 64) = false := by simp; omega
        have hres : igB i = false := by rw [hig, hsn (fun h => h2 h.2.1)]; rfl
        rw [hres]
        clear hsy hsn hres hig h1 h2
        go_enter Tryd.func10, Tryd.ntmps10
        go_wp2_with (first
          | (refine wpL_rbox (cs := icells i) rfl (.tmp 0) rfl rfl ?_; intro W0 b hN; obtain ⟨hb, hr, hl1, hz⟩ := hN)
          | (refine imA.wpLoad rfl (.tmp 1) rfl rfl hr.out hT8.out ?_)
          | (go_at_call 27; refine (HC.out _).mono ?_; rintro e W ⟨rfl, hb1⟩; have HR := Lib.hid (row_below hr.out hb1); have HB := Lib.hid (hl1.trans (hb1.mono hl1.size)); have hbW : b < W.heap.size := by have := hz.out; have := hb1.size; omega)
          | fail)
        clear hr hl1 hz hb1
        refine wp_low W.heap.size [([0, 1], 2), ([3, 4, 5, 6, 7, 8, 9, 10, 11, 12, 13, 14, 15], 16)] [17, 18, 19] (by kernel_rfl) (by kernel_rfl) (fun d _ _ _ _ h => by cases d <;> exact h) (Nat.le_refl _) fun wd hbd => ?_
        intro q hq
        have d0 := fun z => icell0 (below_row (hq z) HR.out hbW)
        have d1 := fun z => icell1 (below_row (hq z) HR.out hbW)
        have d2 := fun z => icell2 (below_row (hq z) HR.out hbW)
        simp only [pickI, Option.toList_some, List.cons_append, List.nil_append, List.getElem?_toArray, List.getElem?_cons_succ, List.getElem?_cons_zero]
        try go_frame
        go_big_quiet_step (fail)
        go_big_quiet_step (fail)
        refine wpQuiet_nil ?_
        clear hq q d0 d1 d2
        refine seg_op (by simp only [List.getElem?_toArray, List.getElem?_cons_succ, List.getElem?_cons_zero]; rfl) fun K hK => ?_
        go_simp
        refine (HG.out _ (hT.below (HB.out.trans (hbd.mono HB.out.size)))).mono ?_
        rintro e v0 ⟨rfl, bv0⟩
        have zv0 := hbd.trans (bv0.mono hbd.size)
        refine hK.out _ _ (seg_keep zv0 ?_)
        clear hK K
        intro q hq
        have d0 := fun z => icell0 (below_row (hq z) HR.out hbW)
        have d1 := fun z => icell1 (below_row (hq z) HR.out hbW)
        have d2 := fun z => icell2 (below_row (hq z) HR.out hbW)
        simp only [pickI, Option.toList_some, List.cons_append, List.nil_append, List.getElem?_toArray, List.getElem?_cons_succ, List.getElem?_cons_zero]
        try go_frame
        go_big_quiet_step (fail)
        go_big_quiet_step (fail)
        go_big_quiet_step (fail)
        go_big_quiet_step (fail)
        go_big_quiet_step (fail)
        go_big_quiet_step (fail)
        go_big_quiet_step (fail)
        go_big_quiet_step (fail)
        go_big_quiet_step (fail)
        go_big_quiet_step (fail)
        go_big_quiet_step (fail)
        go_big_quiet_step (fail)
        go_big_quiet_step (fail)
        refine wpQuiet_nil ?_
        clear hq q d0 d1 d2
        refine seg_op (by simp only [List.getElem?_toArray, List.getElem?_cons_succ, List.getElem?_cons_zero]; rfl) fun K hK => ?_
        go_simp
        refine hK.out _ _ (seg_keep zv0 ?_)
        clear hK K
        intro q hq
        have d0 := fun z => icell0 (below_row (hq z) HR.out hbW)
        have d1 := fun z => icell1 (below_row (hq z) HR.out hbW)
        have d2 := fun z => icell2 (below_row (hq z) HR.out hbW)
        simp only [pickI, Option.toList_some, List.cons_append, List.nil_append, List.getElem?_toArray, List.getElem?_cons_succ, List.getElem?_cons_zero]
        try go_frame
        go_big_quiet_step (fail)
        go_big_quiet_step (fail)
        go_big_quiet_step (fail)
        refine wpQuiet_nil ?_
        clear hq q d0 d1 d2
        have hfin := HB.out.trans (zv0.mono HB.out.size)
        go_wp2
        go_ret
        exact ⟨rfl, hfin⟩
    · have q1 : decide ((1 : Int) ≤ (n : Int)) = false := by simp; omega
      have hres : igB i = false := by rw [hig, hsn (fun h => h1 h.1)]; rfl
      rw [hres]
      clear hsy hsn hres hig h1
      go_enter Tryd.func10, Tryd.ntmps10
      go_wp2_with (first
        | (refine wpL_rbox (cs := icells i) rfl (.tmp 0) rfl rfl ?_; intro W0 b hN; obtain ⟨hb, hr, hl1, hz⟩ := hN)
        | (refine imA.wpLoad rfl (.tmp 1) rfl rfl hr.out hT8.out ?_)
        | (go_at_call 27; refine (HC.out _).mono ?_; rintro e W ⟨rfl, hb1⟩; have HR := Lib.hid (row_below hr.out hb1); have HB := Lib.hid (hl1.trans (hb1.mono hl1.size)); have hbW : b < W.heap.size := by have := hz.out; have := hb1.size; omega)
        | fail)
      clear hr hl1 hz hb1
      refine wp_low W.heap.size [([0, 1], 2), ([3, 4, 5, 6, 7, 8, 9, 10, 11, 12, 13, 14, 15], 16)] [17, 18, 19] (by kernel_rfl) (by kernel_rfl) (fun d _ _ _ _ h => by cases d <;> exact h) (Nat.le_refl _) fun wd hbd => ?_
      intro q hq
      have d0 := fun z => icell0 (below_row (hq z) HR.out hbW)
      have d1 := fun z => icell1 (below_row (hq z) HR.out hbW)
      have d2 := fun z => icell2 (below_row (hq z) HR.out hbW)
      simp only [pickI, Option.toList_some, List.cons_append, List.nil_append, List.getElem?_toArray, List.getElem?_cons_succ, List.getElem?_cons_zero]
      try go_frame
      go_big_quiet_step (fail)
      go_big_quiet_step (fail)
      refine wpQuiet_nil ?_
      clear hq q d0 d1 d2
      refine seg_op (by simp only [List.getElem?_toArray, List.getElem?_cons_succ, List.getElem?_cons_zero]; rfl) fun K hK => ?_
      go_simp
      refine (HG.out _ (hT.below (HB.out.trans (hbd.mono HB.out.size)))).mono ?_
      rintro e v0 ⟨rfl, bv0⟩
      have zv0 := hbd.trans (bv0.mono hbd.size)
      refine hK.out _ _ (seg_keep zv0 ?_)
      clear hK K
      intro q hq
      have d0 := fun z => icell0 (below_row (hq z) HR.out hbW)
      have d1 := fun z => icell1 (below_row (hq z) HR.out hbW)
      have d2 := fun z => icell2 (below_row (hq z) HR.out hbW)
      simp only [pickI, Option.toList_some, List.cons_append, List.nil_append, List.getElem?_toArray, List.getElem?_cons_succ, List.getElem?_cons_zero]
      try go_frame
      go_big_quiet_step (fail)
      go_big_quiet_step (fail)
      go_big_quiet_step (fail)
      go_big_quiet_step (fail)
      go_big_quiet_step (fail)
      go_big_quiet_step (fail)
      go_big_quiet_step (fail)
      go_big_quiet_step (fail)
      go_big_quiet_step (fail)
      go_big_quiet_step (fail)
      go_big_quiet_step (fail)
      go_big_quiet_step (fail)
      go_big_quiet_step (fail)
      refine wpQuiet_nil ?_
      clear hq q d0 d1 d2
      refine seg_op (by simp only [List.getElem?_toArray, List.getElem?_cons_succ, List.getElem?_cons_zero]; rfl) fun K hK => ?_
      go_simp
      refine hK.out _ _ (seg_keep zv0 ?_)
      clear hK K
      intro q hq
      have d0 := fun z => icell0 (below_row (hq z) HR.out hbW)
      have d1 := fun z => icell1 (below_row (hq z) HR.out hbW)
      have d2 := fun z => icell2 (below_row (hq z) HR.out hbW)
      simp only [pickI, Option.toList_some, List.cons_append, List.nil_append, List.getElem?_toArray, List.getElem?_cons_succ, List.getElem?_cons_zero]
      try go_frame
      go_big_quiet_step (fail)
      go_big_quiet_step (fail)
      go_big_quiet_step (fail)
      refine wpQuiet_nil ?_
      clear hq q d0 d1 d2
      have hfin := HB.out.trans (zv0.mono HB.out.size)
      go_wp2
      go_ret
      exact ⟨rfl, hfin⟩

end Go.Proofs.YtacaonlahggdeaaDoor
