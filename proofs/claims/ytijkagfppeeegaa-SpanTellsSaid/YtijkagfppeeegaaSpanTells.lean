/- SpanTells: of any two spans where they end, which blocks they have, what they have in common, and what one has without the other, is the document's: the law answers true for all spans, blocks and numbers of blocks. -/
import Derived.Test.YtijkagfppeeegaaSpanParts
namespace Go.Proofs.Ytijkagfppeeegaa
open Go.RowKit

theorem row_new {w Y : World} {o o' : Obj} {b : Nat} (hY : Y = w.alloc o) (h : w.heap[b]? = some o') : Y.heap[b]? = some o' := by rw [hY]; exact row_old o h

/-- The contract of same, of lists that are the same. -/
theorem same_any (A B : Option Addr) (n c c' : Nat) (L : List (Nat × Nat)) (w : World) (hn : L.length = n) (hA : Rd w w.heap.size 2 A n c (sps L)) (hB : Rd w w.heap.size 2 B n c' (sps L)) :
    Calls Try.prog 12 #[.slice A n c, .slice B n c'] w fun e w' => e = .returned (.bool true) ∧ Below w.heap.size w w' := by
  have hnc := hA.1
  have hcm := hA.2.1
  have hnc' := hB.1
  have hcm' := hB.2.1
  unfold maxLen at hcm hcm'
  have HN := Lib.hid hn
  clear hn
  have qn : ((n : Int) != (n : Int)) = false := bne_self_eq_false _
  go_enter Try.func12, Try.ntmps12
  go_wp2
  go_loopw [13] (fun ir wr => ∃ i : Nat, i ≤ n ∧ ir = .int .i64 i ∧ Hid (Below w.heap.size w wr)) (fun ir _ => n - (intOf ir).toNat)
  case atStart => exact ⟨0, Nat.zero_le _, rfl, Lib.hid (Below.refl _ _)⟩
  case round =>
    obtain ⟨i, hi, rfl, HBl⟩ := hrel
    by_cases hlt : i < n
    · have hp : L[i]? = some (L[i]'(by rw [HN.out]; exact hlt)) := List.getElem?_eq_getElem _
      have hcp := sps_get L i _ hp
      generalize (L[i]'(by rw [HN.out]; exact hlt)) = p at *
      obtain ⟨f, k⟩ := p
      simp only at hcp
      obtain ⟨b1, o1, rfl, hb1, hc1⟩ := hA.2.2.2 (by omega)
      obtain ⟨b2, o2, rfl, hb2, hc2⟩ := hB.2.2.2 (by omega)
      have e1 : ∀ z, Below w.heap.size w z → z.cell? ⟨b1, o1 + i * 2, none⟩ = some (.int .u32 (f : Int)) ∧ z.cell? ⟨b1, o1 + i * 2 + 1, none⟩ = some (.int .u32 (k : Int)) := fun z hz => ⟨kept hz (hc1 _ _ hcp.1) hb1, kept hz (by rw [Nat.add_assoc]; exact hc1 _ _ hcp.2) hb1⟩
      have e2 : ∀ z, Below w.heap.size w z → z.cell? ⟨b2, o2 + i * 2, none⟩ = some (.int .u32 (f : Int)) ∧ z.cell? ⟨b2, o2 + i * 2 + 1, none⟩ = some (.int .u32 (k : Int)) := fun z hz => ⟨kept hz (hc2 _ _ hcp.1) hb2, kept hz (by rw [Nat.add_assoc]; exact hc2 _ _ hcp.2) hb2⟩
      have E1 := Lib.hid e1
      have E2 := Lib.hid e2
      have qf : ((f : Int) == (f : Int)) = true := beq_self_eq_true _
      have qk : ((k : Int) == (k : Int)) = true := beq_self_eq_true _
      clear e1 e2 hc1 hc2 hcp hp hA hB
      have HBd := Lib.hid HBl.out.drew
      go_wp2
      refine wp_segs [] [0, 1, 2, 3, 4, 5, 6, 7, 8] (fun x => Below w.heap.size w x) (by kernel_rfl) (by kernel_rfl) (fun d _ _ _ _ h => by cases d <;> exact h) HBd.out ?_
      intro q hq
      have d0 := fun z => (E1.out _ (hq z)).1
      have d1 := fun z => (E1.out _ (hq z)).2
      have d2 := fun z => (E2.out _ (hq z)).1
      have d3 := fun z => (E2.out _ (hq z)).2
      simp only [pickI, Option.toList_some, List.cons_append, List.nil_append, List.getElem?_toArray, List.getElem?_cons_succ, List.getElem?_cons_zero]
      repeat (go_big_quiet_step (fail))
      refine wpQuiet_nil ?_
      clear d0 d1 d2 d3 hq q
      go_wp2
      go_roundw
      case rel => exact ⟨i + 1, by omega, by go_num, HBd⟩
      case measure => simp [intOf]; omega
    · go_wp2
      go_ret
      exact ⟨rfl, HBl.out⟩

theorem rwithout_any (a b c d : Nat) (w : World) (ha : a < 4294967296) (hb : b < 4294967296) (hc : c < 4294967296) (hd : d < 4294967296) :
    Calls Try.prog 14 #[.agg #[.int .u32 (a : Int), .int .u32 (b : Int)], .agg #[.int .u32 (c : Int), .int .u32 (d : Int)]] w fun e w' => ∃ v', e = .returned v' ∧ w'.ownsRow w.heap.size 25 2 v' (wo a b c d).length (sps (wo a b c d)) ∧ Below w.heap.size w w' := by
  rw [← wo_eq a b c d ha hb hc hd]
  have hY : en a b = min (a + b) 4294967296 := rfl
  have hU : en c d = min (c + d) 4294967296 := rfl
  refine rwithout_walk a b c d a (en a b) c (en c d) _ _ _ _ w (fun W => ends_any a b W ha hb) (fun W => ends_any c d W hc hd) (Lib.hid rfl) (Lib.hid rfl) (fun W => of_any _ _ W (by omega) (by omega) (Lib.hid (by omega))) (fun W => of_any _ _ W ?_ (by omega) (Lib.hid (by omega))) ?_
  · split <;> omega
  · intro h1 h2
    by_cases hUc : en c d ≤ c
    · rw [if_pos hUc] at h2
      rw [upt_no _ _ (by omega)] at h2
      exact absurd h2 (by decide)
    · rw [if_neg hUc] at h1 h2
      rw [if_neg hUc, if_neg hUc]
      by_cases h3 : min (en a b) c ≤ a
      · rw [upt_no _ _ h3] at h1
        exact absurd h1 (by decide)
      · by_cases h4 : en a b ≤ max a (en c d)
        · rw [upt_no _ _ h4] at h2
          exact absurd h2 (by decide)
        · have h5 : min (en a b) c ≤ c := Nat.min_le_right _ _
          have h6 : en c d ≤ max a (en c d) := Nat.le_max_right _ _
          rw [upt_yes (max a (en c d)) _ (Nat.lt_of_not_le h4), upt_yes a _ (Nat.lt_of_not_le h3)]
          show max a (en c d) ≠ a
          clear h1 h2 hY hU h4
          generalize min (en a b) c = m at *
          generalize max a (en c d) = m2 at *
          omega

set_option maxHeartbeats 2000000 in
theorem spanTells_walk (a b c d x n : Nat) (w : World) (ha : a < 4294967296) (hb : b < 4294967296) (hc : c < 4294967296) (hd : d < 4294967296) (hx : x < 4294967296) (hn : n < 4294967296) :
    Calls Try.prog 3 #[.agg #[.int .u32 (a : Int), .int .u32 (b : Int)], .agg #[.int .u32 (c : Int), .int .u32 (d : Int)], .int .u32 (x : Int), .int .u32 (n : Int)] w fun e w' => e = .returned (.bool true) ∧ Below w.heap.size w w' := by
  have hH1 := fun W => has_any a b x W ha hb hx
  have hH2 := fun W => rhas_any a b x W ha hb hx
  have hG := fun W => good_any a b n W ha hb hn
  have hC := fun W => common_any a b c d W ha hb hc hd
  have hRC := fun W => rcommon_any a b c d W ha hb hc hd
  have hM := fun W => meet_any a b c d W ha hb hc hd
  have hW := fun W => without_any a b c d W ha hb hc hd
  have hRW := fun W => rwithout_any a b c d W ha hb hc hd
  generalize decide (a ≤ x ∧ x < a + b) = H at *
  generalize cm a b c d = p at *
  generalize wo a b c d = L at *
  obtain ⟨p1, p2⟩ := p
  simp only at hC hRC hM
  have hsame := fun A B c c' W => same_any A B L.length c c' L W rfl
  have qH : (H != H) = false := bne_self_eq_false H
  have qs : (((a : Int) + (b : Int)) != ((a : Int) + (b : Int))) = false := bne_self_eq_false _
  have qp1 : ((p1 : Int) == (p1 : Int)) = true := beq_self_eq_true _
  have qp2 : ((p2 : Int) == (p2 : Int)) = true := beq_self_eq_true _
  go_enter Try.func3, Try.ntmps3
  go_wp2
  obtain ⟨W, hW2, hWs, r0, r1, hwW⟩ := boxes2 w #[.int .u32 (a : Int), .int .u32 (b : Int)] #[.int .u32 (c : Int), .int .u32 (d : Int)] 24 24
  rw [← hW2]
  have k0 := cell_of_row W _ 0 _ _ _ r0
  have k1 := cell_of_row W _ 1 _ _ _ r0
  have k2 := cell_of_row W _ 0 _ _ _ r1
  have k3 := cell_of_row W _ 1 _ _ _ r1
  simp at k0 k1 k2 k3
  go_cut [9, 10] (fun u v wx => ∃ g h, u = .pointer (some ⟨g, 0, none⟩) ∧ v = .pointer (some ⟨h, 0, none⟩) ∧ Hid (wx.heap[g]? = some (.cells #[.int .u32 (a : Int), .int .u32 (b : Int)] 25 (0, 0)) ∧ wx.heap[h]? = some (.cells #[.int .u32 (c : Int), .int .u32 (d : Int)] 25 (0, 0)) ∧ Below W.heap.size W wx))
  case first =>
    go_big_region
    all_goals
      go_wp2_with (fail)
      go_meet
      case rel =>
        refine ⟨_, _, rfl, rfl, Lib.hid ⟨?_, ?_, ?_⟩⟩
        · first | exact row_here _ _ (by simp) | exact row_old _ (row_here _ _ (by simp))
        · first | exact row_here _ _ (by simp) | exact row_old _ (row_here _ _ (by simp))
        · rw [hW2]; exact (((Below.refl _ _).alloc (Nat.le_refl _) _).alloc (by simp) _).drew
  case rest =>
    obtain ⟨g, h, rfl, rfl, HX⟩ := hcut
    generalize wc = Z at *
    obtain ⟨rg, rh, hbZ⟩ := HX.out
    have r0 := (hbZ.block _ (by omega)).trans r0
    have r1 := (hbZ.block _ (by omega)).trans r1
    have hwZ := Lib.hid (hwW.trans (hbZ.mono hwW.size))
    have hg1 : g < Z.heap.size := (Array.getElem?_eq_some_iff.1 rg).1
    have hh1 : h < Z.heap.size := (Array.getElem?_eq_some_iff.1 rh).1
    have hZ : w.heap.size + 1 < Z.heap.size := (Array.getElem?_eq_some_iff.1 r1).1
    clear HX hbZ k0 k1 k2 k3 hW2 hwW hWs
    go_wp2_with fail
    go_cut [48] (fun v wx => v = .bool false ∧ Hid (Below Z.heap.size Z wx))
    case first =>
      by_cases hb0 : b = 0
      · have hG' : decide (0 < b ∧ a + b ≤ n) = false := by simp; omega
        rw [hG'] at hG
        subst hb0
        refine wp_low Z.heap.size [([0, 2, 3, 4, 5, 6, 7, 8], 1), ([9, 10, 11, 12, 14, 15], 13), ([], 16), ([17, 18, 19, 20, 21, 23, 24, 25], 22), ([26, 27, 29, 30], 28)] [31, 32, 33, 34] (by kernel_rfl) (by kernel_rfl) (fun d _ _ _ _ h => by cases d <;> exact h) (Nat.le_refl _) fun wd hbd => ?_
        intro q hq
        have d0 := fun z => cellz (j := 0) (hq z) r0 rfl
        have d1 := fun z => cellz (j := 1) (hq z) r0 rfl
        have d2 := fun z => cellz (j := 0) (hq z) rg rfl
        have d3 := fun z => cellz (j := 1) (hq z) rg rfl
        simp only [pickI, Option.toList_some, List.cons_append, List.nil_append, List.getElem?_toArray, List.getElem?_cons_succ, List.getElem?_cons_zero]
        repeat (go_big_quiet_step (fail))
        refine wpQuiet_nil ?_
        clear d0 d1 d2 d3 hq q
        refine seg_op (by simp only [List.getElem?_toArray, List.getElem?_cons_succ, List.getElem?_cons_zero]; rfl) fun K hK => ?_
        go_simp
        refine (end_any a 0 _ ha hb).mono ?_
        rintro e v0 ⟨rfl, bv0⟩
        have zv0 := hbd.trans (bv0.mono hbd.size)
        refine hK.out _ _ (seg_keep zv0 ?_)
        clear hK K
        intro q hq
        have d0 := fun z => cellz (j := 0) (hq z) r0 rfl
        have d1 := fun z => cellz (j := 1) (hq z) r0 rfl
        have d2 := fun z => cellz (j := 0) (hq z) rg rfl
        have d3 := fun z => cellz (j := 1) (hq z) rg rfl
        simp only [pickI, Option.toList_some, List.cons_append, List.nil_append, List.getElem?_toArray, List.getElem?_cons_succ, List.getElem?_cons_zero]
        repeat (go_big_quiet_step (fail))
        refine wpQuiet_nil ?_
        clear d0 d1 d2 d3 hq q
        refine seg_op (by simp only [List.getElem?_toArray, List.getElem?_cons_succ, List.getElem?_cons_zero]; rfl) fun K hK => ?_
        go_simp
        refine (hH1 _).mono ?_
        rintro e v1 ⟨rfl, bv1⟩
        have zv1 := zv0.trans (bv1.mono zv0.size)
        refine hK.out _ _ (seg_keep zv1 ?_)
        clear hK K
        intro q hq
        refine wpQuiet_nil ?_
        clear hq q
        refine seg_op (by simp only [List.getElem?_toArray, List.getElem?_cons_succ, List.getElem?_cons_zero]; rfl) fun K hK => ?_
        go_simp
        refine (hH2 _).mono ?_
        rintro e v2 ⟨rfl, bv2⟩
        have zv2 := zv1.trans (bv2.mono zv1.size)
        refine hK.out _ _ (seg_keep zv2 ?_)
        clear hK K
        intro q hq
        have d0 := fun z => cellz (j := 0) (hq z) r0 rfl
        have d1 := fun z => cellz (j := 1) (hq z) r0 rfl
        have d2 := fun z => cellz (j := 0) (hq z) rg rfl
        have d3 := fun z => cellz (j := 1) (hq z) rg rfl
        simp only [pickI, Option.toList_some, List.cons_append, List.nil_append, List.getElem?_toArray, List.getElem?_cons_succ, List.getElem?_cons_zero]
        repeat (go_big_quiet_step (fail))
        refine wpQuiet_nil ?_
        clear d0 d1 d2 d3 hq q
        refine seg_op (by simp only [List.getElem?_toArray, List.getElem?_cons_succ, List.getElem?_cons_zero]; rfl) fun K hK => ?_
        go_simp
        refine (hG _).mono ?_
        rintro e v3 ⟨rfl, bv3⟩
        have zv3 := zv2.trans (bv3.mono zv2.size)
        refine hK.out _ _ (seg_keep zv3 ?_)
        clear hK K
        intro q hq
        have d0 := fun z => cellz (j := 0) (hq z) r0 rfl
        have d1 := fun z => cellz (j := 1) (hq z) r0 rfl
        have d2 := fun z => cellz (j := 0) (hq z) rg rfl
        have d3 := fun z => cellz (j := 1) (hq z) rg rfl
        simp only [pickI, Option.toList_some, List.cons_append, List.nil_append, List.getElem?_toArray, List.getElem?_cons_succ, List.getElem?_cons_zero]
        repeat (go_big_quiet_step (fail))
        refine wpQuiet_nil ?_
        clear d0 d1 d2 d3 hq q
        refine seg_op (by simp only [List.getElem?_toArray, List.getElem?_cons_succ, List.getElem?_cons_zero]; rfl) fun K hK => ?_
        go_simp
        refine hK.out _ _ (seg_keep zv3 ?_)
        clear hK K
        intro q hq
        have d0 := fun z => cellz (j := 0) (hq z) r0 rfl
        have d1 := fun z => cellz (j := 1) (hq z) r0 rfl
        have d2 := fun z => cellz (j := 0) (hq z) rg rfl
        have d3 := fun z => cellz (j := 1) (hq z) rg rfl
        simp only [pickI, Option.toList_some, List.cons_append, List.nil_append, List.getElem?_toArray, List.getElem?_cons_succ, List.getElem?_cons_zero]
        repeat (go_big_quiet_step (fail))
        refine wpQuiet_nil ?_
        clear d0 d1 d2 d3 hq q
        have hfin := zv3
        go_wp2_with (fail)
        go_meet
        case rel => exact ⟨rfl, Lib.hid hfin⟩
      · have q1 : decide (0 < b) = true := by simp; omega
        by_cases hle : a + b ≤ n
        · have hG' : decide (0 < b ∧ a + b ≤ n) = true := by simp; omega
          rw [hG'] at hG
          have q2 : decide ((a : Int) + (b : Int) ≤ (n : Int)) = true := by simp; omega
          refine wp_low Z.heap.size [([0, 2, 3, 4, 5, 6, 7, 8], 1), ([9, 10, 11, 12, 14, 15], 13), ([], 16), ([17, 18, 19, 20, 21, 23, 24, 25], 22), ([26, 27, 29, 30], 28)] [31, 32, 33, 34] (by kernel_rfl) (by kernel_rfl) (fun d _ _ _ _ h => by cases d <;> exact h) (Nat.le_refl _) fun wd hbd => ?_
          intro q hq
          have d0 := fun z => cellz (j := 0) (hq z) r0 rfl
          have d1 := fun z => cellz (j := 1) (hq z) r0 rfl
          have d2 := fun z => cellz (j := 0) (hq z) rg rfl
          have d3 := fun z => cellz (j := 1) (hq z) rg rfl
          simp only [pickI, Option.toList_some, List.cons_append, List.nil_append, List.getElem?_toArray, List.getElem?_cons_succ, List.getElem?_cons_zero]
          repeat (go_big_quiet_step (fail))
          refine wpQuiet_nil ?_
          clear d0 d1 d2 d3 hq q
          refine seg_op (by simp only [List.getElem?_toArray, List.getElem?_cons_succ, List.getElem?_cons_zero]; rfl) fun K hK => ?_
          go_simp
          refine (end_any a b _ ha hb).mono ?_
          rintro e v0 ⟨rfl, bv0⟩
          have zv0 := hbd.trans (bv0.mono hbd.size)
          refine hK.out _ _ (seg_keep zv0 ?_)
          clear hK K
          intro q hq
          have d0 := fun z => cellz (j := 0) (hq z) r0 rfl
          have d1 := fun z => cellz (j := 1) (hq z) r0 rfl
          have d2 := fun z => cellz (j := 0) (hq z) rg rfl
          have d3 := fun z => cellz (j := 1) (hq z) rg rfl
          simp only [pickI, Option.toList_some, List.cons_append, List.nil_append, List.getElem?_toArray, List.getElem?_cons_succ, List.getElem?_cons_zero]
          repeat (go_big_quiet_step (fail))
          refine wpQuiet_nil ?_
          clear d0 d1 d2 d3 hq q
          refine seg_op (by simp only [List.getElem?_toArray, List.getElem?_cons_succ, List.getElem?_cons_zero]; rfl) fun K hK => ?_
          go_simp
          refine (hH1 _).mono ?_
          rintro e v1 ⟨rfl, bv1⟩
          have zv1 := zv0.trans (bv1.mono zv0.size)
          refine hK.out _ _ (seg_keep zv1 ?_)
          clear hK K
          intro q hq
          refine wpQuiet_nil ?_
          clear hq q
          refine seg_op (by simp only [List.getElem?_toArray, List.getElem?_cons_succ, List.getElem?_cons_zero]; rfl) fun K hK => ?_
          go_simp
          refine (hH2 _).mono ?_
          rintro e v2 ⟨rfl, bv2⟩
          have zv2 := zv1.trans (bv2.mono zv1.size)
          refine hK.out _ _ (seg_keep zv2 ?_)
          clear hK K
          intro q hq
          have d0 := fun z => cellz (j := 0) (hq z) r0 rfl
          have d1 := fun z => cellz (j := 1) (hq z) r0 rfl
          have d2 := fun z => cellz (j := 0) (hq z) rg rfl
          have d3 := fun z => cellz (j := 1) (hq z) rg rfl
          simp only [pickI, Option.toList_some, List.cons_append, List.nil_append, List.getElem?_toArray, List.getElem?_cons_succ, List.getElem?_cons_zero]
          repeat (go_big_quiet_step (fail))
          refine wpQuiet_nil ?_
          clear d0 d1 d2 d3 hq q
          refine seg_op (by simp only [List.getElem?_toArray, List.getElem?_cons_succ, List.getElem?_cons_zero]; rfl) fun K hK => ?_
          go_simp
          refine (hG _).mono ?_
          rintro e v3 ⟨rfl, bv3⟩
          have zv3 := zv2.trans (bv3.mono zv2.size)
          refine hK.out _ _ (seg_keep zv3 ?_)
          clear hK K
          intro q hq
          have d0 := fun z => cellz (j := 0) (hq z) r0 rfl
          have d1 := fun z => cellz (j := 1) (hq z) r0 rfl
          have d2 := fun z => cellz (j := 0) (hq z) rg rfl
          have d3 := fun z => cellz (j := 1) (hq z) rg rfl
          simp only [pickI, Option.toList_some, List.cons_append, List.nil_append, List.getElem?_toArray, List.getElem?_cons_succ, List.getElem?_cons_zero]
          repeat (go_big_quiet_step (fail))
          refine wpQuiet_nil ?_
          clear d0 d1 d2 d3 hq q
          refine seg_op (by simp only [List.getElem?_toArray, List.getElem?_cons_succ, List.getElem?_cons_zero]; rfl) fun K hK => ?_
          go_simp
          refine (end_any a b _ ha hb).mono ?_
          rintro e v4 ⟨rfl, bv4⟩
          have zv4 := zv3.trans (bv4.mono zv3.size)
          refine hK.out _ _ (seg_keep zv4 ?_)
          clear hK K
          intro q hq
          have d0 := fun z => cellz (j := 0) (hq z) r0 rfl
          have d1 := fun z => cellz (j := 1) (hq z) r0 rfl
          have d2 := fun z => cellz (j := 0) (hq z) rg rfl
          have d3 := fun z => cellz (j := 1) (hq z) rg rfl
          simp only [pickI, Option.toList_some, List.cons_append, List.nil_append, List.getElem?_toArray, List.getElem?_cons_succ, List.getElem?_cons_zero]
          repeat (go_big_quiet_step (fail))
          refine wpQuiet_nil ?_
          clear d0 d1 d2 d3 hq q
          have hfin := zv4
          go_wp2_with (fail)
          go_meet
          case rel => exact ⟨rfl, Lib.hid hfin⟩
        · have hG' : decide (0 < b ∧ a + b ≤ n) = false := by simp; omega
          rw [hG'] at hG
          have q2 : decide ((a : Int) + (b : Int) ≤ (n : Int)) = false := by simp; omega
          refine wp_low Z.heap.size [([0, 2, 3, 4, 5, 6, 7, 8], 1), ([9, 10, 11, 12, 14, 15], 13), ([], 16), ([17, 18, 19, 20, 21, 23, 24, 25], 22), ([26, 27, 29, 30], 28)] [31, 32, 33, 34] (by kernel_rfl) (by kernel_rfl) (fun d _ _ _ _ h => by cases d <;> exact h) (Nat.le_refl _) fun wd hbd => ?_
          intro q hq
          have d0 := fun z => cellz (j := 0) (hq z) r0 rfl
          have d1 := fun z => cellz (j := 1) (hq z) r0 rfl
          have d2 := fun z => cellz (j := 0) (hq z) rg rfl
          have d3 := fun z => cellz (j := 1) (hq z) rg rfl
          simp only [pickI, Option.toList_some, List.cons_append, List.nil_append, List.getElem?_toArray, List.getElem?_cons_succ, List.getElem?_cons_zero]
          repeat (go_big_quiet_step (fail))
          refine wpQuiet_nil ?_
          clear d0 d1 d2 d3 hq q
          refine seg_op (by simp only [List.getElem?_toArray, List.getElem?_cons_succ, List.getElem?_cons_zero]; rfl) fun K hK => ?_
          go_simp
          refine (end_any a b _ ha hb).mono ?_
          rintro e v0 ⟨rfl, bv0⟩
          have zv0 := hbd.trans (bv0.mono hbd.size)
          refine hK.out _ _ (seg_keep zv0 ?_)
          clear hK K
          intro q hq
          have d0 := fun z => cellz (j := 0) (hq z) r0 rfl
          have d1 := fun z => cellz (j := 1) (hq z) r0 rfl
          have d2 := fun z => cellz (j := 0) (hq z) rg rfl
          have d3 := fun z => cellz (j := 1) (hq z) rg rfl
          simp only [pickI, Option.toList_some, List.cons_append, List.nil_append, List.getElem?_toArray, List.getElem?_cons_succ, List.getElem?_cons_zero]
          repeat (go_big_quiet_step (fail))
          refine wpQuiet_nil ?_
          clear d0 d1 d2 d3 hq q
          refine seg_op (by simp only [List.getElem?_toArray, List.getElem?_cons_succ, List.getElem?_cons_zero]; rfl) fun K hK => ?_
          go_simp
          refine (hH1 _).mono ?_
          rintro e v1 ⟨rfl, bv1⟩
          have zv1 := zv0.trans (bv1.mono zv0.size)
          refine hK.out _ _ (seg_keep zv1 ?_)
          clear hK K
          intro q hq
          refine wpQuiet_nil ?_
          clear hq q
          refine seg_op (by simp only [List.getElem?_toArray, List.getElem?_cons_succ, List.getElem?_cons_zero]; rfl) fun K hK => ?_
          go_simp
          refine (hH2 _).mono ?_
          rintro e v2 ⟨rfl, bv2⟩
          have zv2 := zv1.trans (bv2.mono zv1.size)
          refine hK.out _ _ (seg_keep zv2 ?_)
          clear hK K
          intro q hq
          have d0 := fun z => cellz (j := 0) (hq z) r0 rfl
          have d1 := fun z => cellz (j := 1) (hq z) r0 rfl
          have d2 := fun z => cellz (j := 0) (hq z) rg rfl
          have d3 := fun z => cellz (j := 1) (hq z) rg rfl
          simp only [pickI, Option.toList_some, List.cons_append, List.nil_append, List.getElem?_toArray, List.getElem?_cons_succ, List.getElem?_cons_zero]
          repeat (go_big_quiet_step (fail))
          refine wpQuiet_nil ?_
          clear d0 d1 d2 d3 hq q
          refine seg_op (by simp only [List.getElem?_toArray, List.getElem?_cons_succ, List.getElem?_cons_zero]; rfl) fun K hK => ?_
          go_simp
          refine (hG _).mono ?_
          rintro e v3 ⟨rfl, bv3⟩
          have zv3 := zv2.trans (bv3.mono zv2.size)
          refine hK.out _ _ (seg_keep zv3 ?_)
          clear hK K
          intro q hq
          have d0 := fun z => cellz (j := 0) (hq z) r0 rfl
          have d1 := fun z => cellz (j := 1) (hq z) r0 rfl
          have d2 := fun z => cellz (j := 0) (hq z) rg rfl
          have d3 := fun z => cellz (j := 1) (hq z) rg rfl
          simp only [pickI, Option.toList_some, List.cons_append, List.nil_append, List.getElem?_toArray, List.getElem?_cons_succ, List.getElem?_cons_zero]
          repeat (go_big_quiet_step (fail))
          refine wpQuiet_nil ?_
          clear d0 d1 d2 d3 hq q
          refine seg_op (by simp only [List.getElem?_toArray, List.getElem?_cons_succ, List.getElem?_cons_zero]; rfl) fun K hK => ?_
          go_simp
          refine (end_any a b _ ha hb).mono ?_
          rintro e v4 ⟨rfl, bv4⟩
          have zv4 := zv3.trans (bv4.mono zv3.size)
          refine hK.out _ _ (seg_keep zv4 ?_)
          clear hK K
          intro q hq
          have d0 := fun z => cellz (j := 0) (hq z) r0 rfl
          have d1 := fun z => cellz (j := 1) (hq z) r0 rfl
          have d2 := fun z => cellz (j := 0) (hq z) rg rfl
          have d3 := fun z => cellz (j := 1) (hq z) rg rfl
          simp only [pickI, Option.toList_some, List.cons_append, List.nil_append, List.getElem?_toArray, List.getElem?_cons_succ, List.getElem?_cons_zero]
          repeat (go_big_quiet_step (fail))
          refine wpQuiet_nil ?_
          clear d0 d1 d2 d3 hq q
          have hfin := zv4
          go_wp2_with (fail)
          go_meet
          case rel => exact ⟨rfl, Lib.hid hfin⟩
    case rest =>
      obtain ⟨rfl, HY⟩ := hcut
      generalize wc = X at *
      have r0 := (HY.out.block _ (by omega)).trans r0
      have r1 := (HY.out.block _ (by omega)).trans r1
      have rg := (HY.out.block _ hg1).trans rg
      have rh := (HY.out.block _ hh1).trans rh
      have hwX := Lib.hid (hwZ.out.trans (HY.out.mono hwZ.out.size))
      have hXs := HY.out.size
      have k0 := cell_of_row X _ 0 _ _ _ r0
      have k1 := cell_of_row X _ 1 _ _ _ r0
      have k2 := cell_of_row X _ 0 _ _ _ r1
      have k3 := cell_of_row X _ 1 _ _ _ r1
      simp at k0 k1 k2 k3
      clear HY hwZ
      go_wp2_with fail
      refine (hC _).mono ?_
      rintro e w3 ⟨rfl, hb3⟩
      have r0 := (hb3.block _ (by omega)).trans r0
      have r1 := (hb3.block _ (by omega)).trans r1
      have rg := (hb3.block _ (by omega)).trans rg
      have rh := (hb3.block _ (by omega)).trans rh
      have hw3 := Lib.hid (hwX.out.trans (hb3.mono hwX.out.size))
      have hs3 := hb3.size
      obtain ⟨Y, hY⟩ : ∃ Y, Y = w3.alloc (.cells #[.int .u32 (p1 : Int), .int .u32 (p2 : Int)] 24) := ⟨_, rfl⟩
      have r0 := row_new hY r0
      have r1 := row_new hY r1
      have rg := row_new hY rg
      have rh := row_new hY rh
      have rc : Y.heap[w3.heap.size]? = some (.cells #[.int .u32 (p1 : Int), .int .u32 (p2 : Int)] 24 (0, 0)) := by rw [hY]; exact row_here _ _ rfl
      have hYs : Y.heap.size = w3.heap.size + 1 := by rw [hY]; simp
      have hwY := Lib.hid (hw3.out.trans (show Below w.heap.size w3 Y by rw [hY]; exact ((Below.refl _ _).alloc (Nat.le_refl _) _).mono hw3.out.size))
      clear hb3 k0 k1 k2 k3
      go_wp2_with fail
      rw [← hY]
      have hYg : g < Y.heap.size := by omega
      have hYh : h < Y.heap.size := by omega
      have hYw : w.heap.size + 1 < Y.heap.size := by omega
      clear hY
      cases hM0 : decide (0 < p2)
      · rw [hM0] at hM
        refine wp_low Y.heap.size [([0, 1, 2], 3), ([4, 5, 6, 7, 9, 10, 11], 8), ([12, 13, 14, 15, 16, 18, 19], 17), ([], 20), ([], 21), ([22, 23], 24)] [25, 26] (by kernel_rfl) (by kernel_rfl) (fun d _ _ _ _ h => by cases d <;> exact h) (Nat.le_refl _) fun wd hbd => ?_
        intro q hq
        have d0 := fun z => cellz (j := 0) (hq z) r0 rfl
        have d1 := fun z => cellz (j := 1) (hq z) r0 rfl
        have d2 := fun z => cellz (j := 0) (hq z) r1 rfl
        have d3 := fun z => cellz (j := 1) (hq z) r1 rfl
        have d4 := fun z => cellz (j := 0) (hq z) rg rfl
        have d5 := fun z => cellz (j := 1) (hq z) rg rfl
        have d6 := fun z => cellz (j := 0) (hq z) rh rfl
        have d7 := fun z => cellz (j := 1) (hq z) rh rfl
        have d8 := fun z => cellz (j := 0) (hq z) rc rfl
        have d9 := fun z => cellz (j := 1) (hq z) rc rfl
        simp only [pickI, Option.toList_some, List.cons_append, List.nil_append, List.getElem?_toArray, List.getElem?_cons_succ, List.getElem?_cons_zero]
        repeat (go_big_quiet_step (fail))
        refine wpQuiet_nil ?_
        clear d0 d1 d2 d3 d4 d5 d6 d7 d8 d9 hq q
        refine seg_op (by simp only [List.getElem?_toArray, List.getElem?_cons_succ, List.getElem?_cons_zero]; rfl) fun K hK => ?_
        go_simp
        refine (hRC _).mono ?_
        rintro e v0 ⟨rfl, bv0⟩
        have zv0 := hbd.trans (bv0.mono hbd.size)
        refine hK.out _ _ (seg_keep zv0 ?_)
        clear hK K
        intro q hq
        have d0 := fun z => cellz (j := 0) (hq z) r0 rfl
        have d1 := fun z => cellz (j := 1) (hq z) r0 rfl
        have d2 := fun z => cellz (j := 0) (hq z) r1 rfl
        have d3 := fun z => cellz (j := 1) (hq z) r1 rfl
        have d4 := fun z => cellz (j := 0) (hq z) rg rfl
        have d5 := fun z => cellz (j := 1) (hq z) rg rfl
        have d6 := fun z => cellz (j := 0) (hq z) rh rfl
        have d7 := fun z => cellz (j := 1) (hq z) rh rfl
        have d8 := fun z => cellz (j := 0) (hq z) rc rfl
        have d9 := fun z => cellz (j := 1) (hq z) rc rfl
        simp only [pickI, Option.toList_some, List.cons_append, List.nil_append, List.getElem?_toArray, List.getElem?_cons_succ, List.getElem?_cons_zero]
        repeat (go_big_quiet_step (fail))
        refine wpQuiet_nil ?_
        clear d0 d1 d2 d3 d4 d5 d6 d7 d8 d9 hq q
        refine seg_op (by simp only [List.getElem?_toArray, List.getElem?_cons_succ, List.getElem?_cons_zero]; rfl) fun K hK => ?_
        go_simp
        refine (hM _).mono ?_
        rintro e v1 ⟨rfl, bv1⟩
        have zv1 := zv0.trans (bv1.mono zv0.size)
        refine hK.out _ _ (seg_keep zv1 ?_)
        clear hK K
        intro q hq
        have d0 := fun z => cellz (j := 0) (hq z) r0 rfl
        have d1 := fun z => cellz (j := 1) (hq z) r0 rfl
        have d2 := fun z => cellz (j := 0) (hq z) r1 rfl
        have d3 := fun z => cellz (j := 1) (hq z) r1 rfl
        have d4 := fun z => cellz (j := 0) (hq z) rg rfl
        have d5 := fun z => cellz (j := 1) (hq z) rg rfl
        have d6 := fun z => cellz (j := 0) (hq z) rh rfl
        have d7 := fun z => cellz (j := 1) (hq z) rh rfl
        have d8 := fun z => cellz (j := 0) (hq z) rc rfl
        have d9 := fun z => cellz (j := 1) (hq z) rc rfl
        simp only [pickI, Option.toList_some, List.cons_append, List.nil_append, List.getElem?_toArray, List.getElem?_cons_succ, List.getElem?_cons_zero]
        repeat (go_big_quiet_step (fail))
        refine wpQuiet_nil ?_
        clear d0 d1 d2 d3 d4 d5 d6 d7 d8 d9 hq q
        refine seg_op (by simp only [List.getElem?_toArray, List.getElem?_cons_succ, List.getElem?_cons_zero]; rfl) fun K hK => ?_
        go_simp
        refine (hW _).mono ?_
        rintro e v2 ⟨x1, rfl, ho1, bv2⟩
        obtain ⟨A1, c1, rfl⟩ := ownsRow_form ho1
        have h1 := ownsRow_rd ho1
        have H1 := Lib.hid h1
        clear h1 ho1
        have zv2 := zv1.trans (bv2.mono zv1.size)
        refine hK.out _ _ (seg_keep zv2 ?_)
        clear hK K
        intro q hq
        refine wpQuiet_nil ?_
        clear hq q
        refine seg_op (by simp only [List.getElem?_toArray, List.getElem?_cons_succ, List.getElem?_cons_zero]; rfl) fun K hK => ?_
        go_simp
        refine (hRW _).mono ?_
        rintro e v3 ⟨x2, rfl, ho2, bv3⟩
        obtain ⟨A2, c2, rfl⟩ := ownsRow_form ho2
        have h2 := ownsRow_rd ho2
        have H2 := Lib.hid h2
        have H1' := Lib.hid ((H1.out.below bv3).more bv3.size)
        clear h2 ho2
        have zv3 := zv2.trans (bv3.mono zv2.size)
        refine hK.out _ _ (seg_keep zv3 ?_)
        clear hK K
        intro q hq
        refine wpQuiet_nil ?_
        clear hq q
        refine seg_op (by simp only [List.getElem?_toArray, List.getElem?_cons_succ, List.getElem?_cons_zero]; rfl) fun K hK => ?_
        go_simp
        refine (hsame _ _ _ _ _ H1'.out H2.out).mono ?_
        rintro e v4 ⟨rfl, bv4⟩
        have zv4 := zv3.trans (bv4.mono zv3.size)
        refine hK.out _ _ (seg_keep zv4 ?_)
        clear hK K
        intro q hq
        have d0 := fun z => cellz (j := 0) (hq z) r0 rfl
        have d1 := fun z => cellz (j := 1) (hq z) r0 rfl
        have d2 := fun z => cellz (j := 0) (hq z) r1 rfl
        have d3 := fun z => cellz (j := 1) (hq z) r1 rfl
        have d4 := fun z => cellz (j := 0) (hq z) rg rfl
        have d5 := fun z => cellz (j := 1) (hq z) rg rfl
        have d6 := fun z => cellz (j := 0) (hq z) rh rfl
        have d7 := fun z => cellz (j := 1) (hq z) rh rfl
        have d8 := fun z => cellz (j := 0) (hq z) rc rfl
        have d9 := fun z => cellz (j := 1) (hq z) rc rfl
        simp only [pickI, Option.toList_some, List.cons_append, List.nil_append, List.getElem?_toArray, List.getElem?_cons_succ, List.getElem?_cons_zero]
        repeat (go_big_quiet_step (fail))
        refine wpQuiet_nil ?_
        clear d0 d1 d2 d3 d4 d5 d6 d7 d8 d9 hq q
        refine seg_op (by simp only [List.getElem?_toArray, List.getElem?_cons_succ, List.getElem?_cons_zero]; rfl) fun K hK => ?_
        go_simp
        refine (lives3 _).mono ?_
        rintro e v5 ⟨rfl, bv5⟩
        have zv5 := zv4.trans (bv5.mono zv4.size)
        refine hK.out _ _ (seg_keep zv5 ?_)
        clear hK K
        intro q hq
        have d0 := fun z => cellz (j := 0) (hq z) r0 rfl
        have d1 := fun z => cellz (j := 1) (hq z) r0 rfl
        have d2 := fun z => cellz (j := 0) (hq z) r1 rfl
        have d3 := fun z => cellz (j := 1) (hq z) r1 rfl
        have d4 := fun z => cellz (j := 0) (hq z) rg rfl
        have d5 := fun z => cellz (j := 1) (hq z) rg rfl
        have d6 := fun z => cellz (j := 0) (hq z) rh rfl
        have d7 := fun z => cellz (j := 1) (hq z) rh rfl
        have d8 := fun z => cellz (j := 0) (hq z) rc rfl
        have d9 := fun z => cellz (j := 1) (hq z) rc rfl
        simp only [pickI, Option.toList_some, List.cons_append, List.nil_append, List.getElem?_toArray, List.getElem?_cons_succ, List.getElem?_cons_zero]
        repeat (go_big_quiet_step (fail))
        refine wpQuiet_nil ?_
        clear d0 d1 d2 d3 d4 d5 d6 d7 d8 d9 hq q
        have hfin := zv5
        go_wp2
        go_ret
        exact ⟨rfl, hwY.out.trans (hfin.mono hwY.out.size)⟩
      · rw [hM0] at hM
        refine wp_low Y.heap.size [([0, 1, 2], 3), ([4, 5, 6, 7, 9, 10, 11], 8), ([12, 13, 14, 15, 16, 18, 19], 17), ([], 20), ([], 21), ([22, 23], 24)] [25, 26] (by kernel_rfl) (by kernel_rfl) (fun d _ _ _ _ h => by cases d <;> exact h) (Nat.le_refl _) fun wd hbd => ?_
        intro q hq
        have d0 := fun z => cellz (j := 0) (hq z) r0 rfl
        have d1 := fun z => cellz (j := 1) (hq z) r0 rfl
        have d2 := fun z => cellz (j := 0) (hq z) r1 rfl
        have d3 := fun z => cellz (j := 1) (hq z) r1 rfl
        have d4 := fun z => cellz (j := 0) (hq z) rg rfl
        have d5 := fun z => cellz (j := 1) (hq z) rg rfl
        have d6 := fun z => cellz (j := 0) (hq z) rh rfl
        have d7 := fun z => cellz (j := 1) (hq z) rh rfl
        have d8 := fun z => cellz (j := 0) (hq z) rc rfl
        have d9 := fun z => cellz (j := 1) (hq z) rc rfl
        simp only [pickI, Option.toList_some, List.cons_append, List.nil_append, List.getElem?_toArray, List.getElem?_cons_succ, List.getElem?_cons_zero]
        repeat (go_big_quiet_step (fail))
        refine wpQuiet_nil ?_
        clear d0 d1 d2 d3 d4 d5 d6 d7 d8 d9 hq q
        refine seg_op (by simp only [List.getElem?_toArray, List.getElem?_cons_succ, List.getElem?_cons_zero]; rfl) fun K hK => ?_
        go_simp
        refine (hRC _).mono ?_
        rintro e v0 ⟨rfl, bv0⟩
        have zv0 := hbd.trans (bv0.mono hbd.size)
        refine hK.out _ _ (seg_keep zv0 ?_)
        clear hK K
        intro q hq
        have d0 := fun z => cellz (j := 0) (hq z) r0 rfl
        have d1 := fun z => cellz (j := 1) (hq z) r0 rfl
        have d2 := fun z => cellz (j := 0) (hq z) r1 rfl
        have d3 := fun z => cellz (j := 1) (hq z) r1 rfl
        have d4 := fun z => cellz (j := 0) (hq z) rg rfl
        have d5 := fun z => cellz (j := 1) (hq z) rg rfl
        have d6 := fun z => cellz (j := 0) (hq z) rh rfl
        have d7 := fun z => cellz (j := 1) (hq z) rh rfl
        have d8 := fun z => cellz (j := 0) (hq z) rc rfl
        have d9 := fun z => cellz (j := 1) (hq z) rc rfl
        simp only [pickI, Option.toList_some, List.cons_append, List.nil_append, List.getElem?_toArray, List.getElem?_cons_succ, List.getElem?_cons_zero]
        repeat (go_big_quiet_step (fail))
        refine wpQuiet_nil ?_
        clear d0 d1 d2 d3 d4 d5 d6 d7 d8 d9 hq q
        refine seg_op (by simp only [List.getElem?_toArray, List.getElem?_cons_succ, List.getElem?_cons_zero]; rfl) fun K hK => ?_
        go_simp
        refine (hM _).mono ?_
        rintro e v1 ⟨rfl, bv1⟩
        have zv1 := zv0.trans (bv1.mono zv0.size)
        refine hK.out _ _ (seg_keep zv1 ?_)
        clear hK K
        intro q hq
        have d0 := fun z => cellz (j := 0) (hq z) r0 rfl
        have d1 := fun z => cellz (j := 1) (hq z) r0 rfl
        have d2 := fun z => cellz (j := 0) (hq z) r1 rfl
        have d3 := fun z => cellz (j := 1) (hq z) r1 rfl
        have d4 := fun z => cellz (j := 0) (hq z) rg rfl
        have d5 := fun z => cellz (j := 1) (hq z) rg rfl
        have d6 := fun z => cellz (j := 0) (hq z) rh rfl
        have d7 := fun z => cellz (j := 1) (hq z) rh rfl
        have d8 := fun z => cellz (j := 0) (hq z) rc rfl
        have d9 := fun z => cellz (j := 1) (hq z) rc rfl
        simp only [pickI, Option.toList_some, List.cons_append, List.nil_append, List.getElem?_toArray, List.getElem?_cons_succ, List.getElem?_cons_zero]
        repeat (go_big_quiet_step (fail))
        refine wpQuiet_nil ?_
        clear d0 d1 d2 d3 d4 d5 d6 d7 d8 d9 hq q
        refine seg_op (by simp only [List.getElem?_toArray, List.getElem?_cons_succ, List.getElem?_cons_zero]; rfl) fun K hK => ?_
        go_simp
        refine (hW _).mono ?_
        rintro e v2 ⟨x1, rfl, ho1, bv2⟩
        obtain ⟨A1, c1, rfl⟩ := ownsRow_form ho1
        have h1 := ownsRow_rd ho1
        have H1 := Lib.hid h1
        clear h1 ho1
        have zv2 := zv1.trans (bv2.mono zv1.size)
        refine hK.out _ _ (seg_keep zv2 ?_)
        clear hK K
        intro q hq
        refine wpQuiet_nil ?_
        clear hq q
        refine seg_op (by simp only [List.getElem?_toArray, List.getElem?_cons_succ, List.getElem?_cons_zero]; rfl) fun K hK => ?_
        go_simp
        refine (hRW _).mono ?_
        rintro e v3 ⟨x2, rfl, ho2, bv3⟩
        obtain ⟨A2, c2, rfl⟩ := ownsRow_form ho2
        have h2 := ownsRow_rd ho2
        have H2 := Lib.hid h2
        have H1' := Lib.hid ((H1.out.below bv3).more bv3.size)
        clear h2 ho2
        have zv3 := zv2.trans (bv3.mono zv2.size)
        refine hK.out _ _ (seg_keep zv3 ?_)
        clear hK K
        intro q hq
        refine wpQuiet_nil ?_
        clear hq q
        refine seg_op (by simp only [List.getElem?_toArray, List.getElem?_cons_succ, List.getElem?_cons_zero]; rfl) fun K hK => ?_
        go_simp
        refine (hsame _ _ _ _ _ H1'.out H2.out).mono ?_
        rintro e v4 ⟨rfl, bv4⟩
        have zv4 := zv3.trans (bv4.mono zv3.size)
        refine hK.out _ _ (seg_keep zv4 ?_)
        clear hK K
        intro q hq
        have d0 := fun z => cellz (j := 0) (hq z) r0 rfl
        have d1 := fun z => cellz (j := 1) (hq z) r0 rfl
        have d2 := fun z => cellz (j := 0) (hq z) r1 rfl
        have d3 := fun z => cellz (j := 1) (hq z) r1 rfl
        have d4 := fun z => cellz (j := 0) (hq z) rg rfl
        have d5 := fun z => cellz (j := 1) (hq z) rg rfl
        have d6 := fun z => cellz (j := 0) (hq z) rh rfl
        have d7 := fun z => cellz (j := 1) (hq z) rh rfl
        have d8 := fun z => cellz (j := 0) (hq z) rc rfl
        have d9 := fun z => cellz (j := 1) (hq z) rc rfl
        simp only [pickI, Option.toList_some, List.cons_append, List.nil_append, List.getElem?_toArray, List.getElem?_cons_succ, List.getElem?_cons_zero]
        repeat (go_big_quiet_step (fail))
        refine wpQuiet_nil ?_
        clear d0 d1 d2 d3 d4 d5 d6 d7 d8 d9 hq q
        refine seg_op (by simp only [List.getElem?_toArray, List.getElem?_cons_succ, List.getElem?_cons_zero]; rfl) fun K hK => ?_
        go_simp
        refine (lives3 _).mono ?_
        rintro e v5 ⟨rfl, bv5⟩
        have zv5 := zv4.trans (bv5.mono zv4.size)
        refine hK.out _ _ (seg_keep zv5 ?_)
        clear hK K
        intro q hq
        have d0 := fun z => cellz (j := 0) (hq z) r0 rfl
        have d1 := fun z => cellz (j := 1) (hq z) r0 rfl
        have d2 := fun z => cellz (j := 0) (hq z) r1 rfl
        have d3 := fun z => cellz (j := 1) (hq z) r1 rfl
        have d4 := fun z => cellz (j := 0) (hq z) rg rfl
        have d5 := fun z => cellz (j := 1) (hq z) rg rfl
        have d6 := fun z => cellz (j := 0) (hq z) rh rfl
        have d7 := fun z => cellz (j := 1) (hq z) rh rfl
        have d8 := fun z => cellz (j := 0) (hq z) rc rfl
        have d9 := fun z => cellz (j := 1) (hq z) rc rfl
        simp only [pickI, Option.toList_some, List.cons_append, List.nil_append, List.getElem?_toArray, List.getElem?_cons_succ, List.getElem?_cons_zero]
        repeat (go_big_quiet_step (fail))
        refine wpQuiet_nil ?_
        clear d0 d1 d2 d3 d4 d5 d6 d7 d8 d9 hq q
        have hfin := zv5
        go_wp2
        go_ret
        exact ⟨rfl, hwY.out.trans (hfin.mono hwY.out.size)⟩

theorem spanTells_top {w : World} (x0 y0 : Int) (h0 : (Lit.int .u32 x0).wf = true) (g0 : (Lit.int .u32 y0).wf = true) (x1 y1 : Int) (h1 : (Lit.int .u32 x1).wf = true) (g1 : (Lit.int .u32 y1).wf = true) (x2 : Int) (h2 : (Lit.int .u32 x2).wf = true) (x3 : Int) (h3 : (Lit.int .u32 x3).wf = true) :
    Calls Try.prog 3 #[.agg #[.int .u32 x0, .int .u32 y0], .agg #[.int .u32 x1, .int .u32 y1], .int .u32 x2, .int .u32 x3] w fun e w' => e = .returned (.bool true) ∧ Below w.heap.size w w' := by
  obtain ⟨a, rfl, ha⟩ := wf_u32 h0
  obtain ⟨b, rfl, hb⟩ := wf_u32 g0
  obtain ⟨c, rfl, hc⟩ := wf_u32 h1
  obtain ⟨d, rfl, hd⟩ := wf_u32 g1
  obtain ⟨x, rfl, hx⟩ := wf_u32 h2
  obtain ⟨n, rfl, hn⟩ := wf_u32 h3
  exact spanTells_walk a b c d x n w ha hb hc hd hx hn

namespace spanTells
open Go.ChangeShapes Go.WideShapes Go.ChangeAt
set_option maxRecDepth 100000 in
theorem lifted (os : Os) (started : os.Started) (H : Type) (enc : TypeId × Value → H) :
    ReturnsInHanded {} Try.checked os 3 .any (Rows.spanTellsSpec.pre6 enc Try.prog Try.f3 Rows.spanTellsRow.domain false) (Rows.spanTellsSpec.post enc Try.prog Try.f3 false true false false) := by
  refine returnsInHanded_of_change (C := Try.checked) own started (by kernel_rfl) Try.func3
    (ChangeSpec.witness6 (enc := enc) (C := Try.checked) false ⟨#[], #[.agg #[.int .u32 0, .int .u32 0], .agg #[.int .u32 0, .int .u32 0], .int .u32 0, .int .u32 0], []⟩ 8 (by kernel_rfl) (by kernel_rfl) (by kernel_rfl) (by kernel_rfl)) ?_
  intro W base args ds gs before hval0 hW _ _
  have hval : ∀ (j : Nat) t v, Try.f3.params[j]? = some t → args[j]? = some v → Value.okWide Try.prog W .any base t v := hval0
  have hW' := hW
  obtain ⟨p, q, hA0, hV, rfl, hfz, hnd⟩ := hW
  have hA : DataW.TrodAll enc Try.prog W 0 (fun _ => true) true Try.f3.params.toList args.toList ds p := hA0
  rw [Try.params3] at hA hval
  obtain ⟨v0, vs0, d0, ds0, p0, q0, hargs, rfl, rfl, h0, r0⟩ := trodAll_cons hA
  obtain ⟨v1, vs1, d1, ds1, p1, q1, rfl, rfl, rfl, h1, r1⟩ := trodAll_cons r0
  obtain ⟨v2, vs2, d2, ds2, p2, q2, rfl, rfl, rfl, h2, r2⟩ := trodAll_cons r1
  obtain ⟨v3, vs3, d3, ds3, p3, q3, rfl, rfl, rfl, h3, r3⟩ := trodAll_cons r2
  obtain ⟨rfl, rfl, rfl⟩ := trodAll_nil r3
  obtain rfl : args = #[v0, v1, v2, v3] := by cases args; simp_all
  obtain ⟨rfl, rfl⟩ := trodVars_none hV
  have k0 := h0
  have lt0 : ∀ x ∈ p0, x.block < W.heap.size := by obtain ⟨m, hm⟩ := k0; exact DataW.trod_lt m _ _ _ hm
  obtain ⟨x0, y0, rfl, w0, u0⟩ := dec_ints2 Try.underlying24 (by kernel_rfl) (by kernel_rfl) Try.underlying22 Try.underlying22 (hval 0 24 v0 rfl rfl) h0
  have k1 := h1
  have lt1 : ∀ x ∈ p1, x.block < W.heap.size := by obtain ⟨m, hm⟩ := k1; exact DataW.trod_lt m _ _ _ hm
  obtain ⟨x1, y1, rfl, w1, u1⟩ := dec_ints2 Try.underlying24 (by kernel_rfl) (by kernel_rfl) Try.underlying22 Try.underlying22 (hval 1 24 v1 rfl rfl) h1
  have k2 := h2
  have lt2 : ∀ x ∈ p2, x.block < W.heap.size := by obtain ⟨m, hm⟩ := k2; exact DataW.trod_lt m _ _ _ hm
  obtain ⟨x2, rfl, w2⟩ := dec_int Try.underlying22 (hval 2 22 v2 rfl rfl) h2
  have k3 := h3
  have lt3 : ∀ x ∈ p3, x.block < W.heap.size := by obtain ⟨m, hm⟩ := k3; exact DataW.trod_lt m _ _ _ hm
  obtain ⟨x3, rfl, w3⟩ := dec_int Try.underlying22 (hval 3 22 v3 rfl rfl) h3
  clear hA0 hval0
  refine (spanTells_top x0 y0 w0 u0 x1 y1 w1 u1 x2 w2 x3 w3).mono fun e W' ⟨he, bel⟩ => ?_
  subst he
  exact ⟨_, rfl, _, _, _, [], _, [], hW', trodAll_mk1 (shut_bool Try.underlying4 _), (trodAll_cons_mk (Below.trod laidOut (by kernel_rfl) (of_decide_eq_true (by kernel_rfl)) k0 bel lt0) (trodAll_cons_mk (Below.trod laidOut (by kernel_rfl) (of_decide_eq_true (by kernel_rfl)) k1 bel lt1) (trodAll_cons_mk (Below.trod laidOut (by kernel_rfl) (of_decide_eq_true (by kernel_rfl)) k2 bel lt2) (trodAll_cons_mk (Below.trod laidOut (by kernel_rfl) (of_decide_eq_true (by kernel_rfl)) k3 bel lt3) trodAll_mk0)))), rfl, bel.frame _, fun h => by cases h⟩

theorem over : Rows.spanTellsRow.holds Try.pinned (OpenSpec.ofChange Rows.spanTellsSpec) :=
  OpenClaim.holds_of_wide 3 Try.f3 rfl rfl rfl rfl rfl rfl rfl ⟨rfl, rfl, rfl, rfl, rfl⟩ rfl rfl rfl rfl rfl (by kernel_rfl) Try.func3 (by kernel_rfl)
    (of_decide_eq_true (by kernel_rfl)) (by unfold Func.isWrapper; first | (rw [if_pos (by decide +kernel)]; kernel_rfl) | (rw [if_neg (by decide +kernel)]; exact ⟨rfl, rfl⟩))
    (fun os started H enc _ => lifted os started H enc)
/-- The given statement. -/
theorem proved : Rows.SpanTellsSaid := over
end spanTells

end Go.Proofs.Ytijkagfppeeegaa
