/- ImagePuts: blocks that are written to any image are the document's, or refused; all others are as they were. -/
import Derived.Test.YtacaonlahggdeaaDoorLives15
import Derived.Test.YtacaonlahggdeaaDoorIgu
import Derived.Test.YtacaonlahggdeaaDoorIgp
import Derived.Test.YtacaonlahggdeaaDoorMtie
import Derived.Test.YtacaonlahggdeaaDoorCards
import Derived.Test.YtacaonlahggdeaaDoorTie
import Derived.Test.YtacaonlahggdeaaDoorDecim
namespace Go.Proofs.YtacaonlahggdeaaDoor
open Go.RowKit
set_option maxRecDepth 20000

theorem iput_blk (i : Im) (f c n : Nat) (d : List UInt8) (h : ¬ (f ≤ n ∧ n < f + c)) : blk (iput i f c d).1 n = blk i n := by
  unfold iput
  by_cases h1 : 0 < c ∧ f + c ≤ i.l.length / 8
  · rw [if_pos h1]
    by_cases h2 : d.length = 8 * c
    · rw [if_pos h2]
      have hfit : 8 * f + d.length ≤ i.l.length := by omega
      have hpl := put15_len (l := i.l) (d := d) (f := f) hfit
      have hout := put15_out (l := i.l) (d := d) (f := f) (c := c) (k := n) h2 hfit h
      show blk ⟨i.L, i.B, put15 i.l d f, i.T⟩ n = blk i n
      unfold blk
      dsimp only
      rw [hpl, hout]
    · rw [if_neg h2]
  · rw [if_neg h1]
theorem iput_T (i : Im) (f c : Nat) (d : List UInt8) : (iput i f c d).1.T = i.T := by
  unfold iput
  by_cases h1 : 0 < c ∧ f + c ≤ i.l.length / 8
  · rw [if_pos h1]
    by_cases h2 : d.length = 8 * c
    · rw [if_pos h2]
    · rw [if_neg h2]
  · rw [if_neg h1]
theorem iput_L (i : Im) (f c : Nat) (d : List UInt8) : (iput i f c d).1.L = i.L ∧ (iput i f c d).1.B = i.B ∧ (iput i f c d).1.l.length ≤ i.l.length + d.length := by
  unfold iput
  by_cases h1 : 0 < c ∧ f + c ≤ i.l.length / 8
  · rw [if_pos h1]
    by_cases h2 : d.length = 8 * c
    · rw [if_pos h2]
      refine ⟨rfl, rfl, ?_⟩
      simp only [List.length_append, List.length_take, List.length_drop]
      omega
    · rw [if_neg h2]; exact ⟨rfl, rfl, Nat.le_add_right _ _⟩
  · rw [if_neg h1]; exact ⟨rfl, rfl, Nat.le_add_right _ _⟩
theorem iput_ok (i : Im) (f c : Nat) (d : List UInt8) (h : i.ok) : (iput i f c d).1.ok := by
  have h1 := iput_L i f c d
  have h2 := iput_T i f c d
  unfold Im.ok
  rw [h1.1, h1.2.1, h2]
  exact h
/-- The reference's answer is laid. -/
def CutP (W : World) (j : Im) (E : Int) (u v : Value) (wx : World) : Prop := ∃ r, u = .pointer (some ⟨r, 0, none⟩) ∧ v = .int .i64 E ∧ W.heap.size ≤ r ∧ Hid (wx.heap[r]? = some (.cells (icells j).toArray 39 (0, 0))) ∧ Hid (Below W.heap.size W wx)

set_option maxHeartbeats 4000000 in
theorem imagePuts_at (i : Im) (f c n : Nat) (d : List UInt8) (w : World) (hok : i.ok) (hf : f < 4294967296) (hc : c < 4294967296) (hn : n < 4294967296) (hT : Tab w) :
    Calls Tryd.prog 5 #[imv i, .agg #[.int .u32 (f : Int), .int .u32 (c : Int)], .string (str d), .int .u32 (n : Int)] w fun e w' => e = .returned (.bool true) ∧ Below w.heap.size w w' := by
  have hs : (str i.l).size = i.l.length := rfl
  have hds : (str d).size = d.length := rfl
  by_cases hl : 2000 < i.l.length ∨ 2000 < d.length
  · by_cases h3 : 2000 < i.l.length
    · have q1 : decide ((2000 : Int) < (i.l.length : Int)) = true := by simp; omega
      clear hok hl
      go_enter Tryd.func5, Tryd.ntmps5
      go_wp2_with (first
        | (refine wpL_rbox (cs := icells i) (o := ⟨some 4, _, _, _, _, _⟩) rfl (.tmp 0) rfl rfl ?_; intro W0 b4 hN; obtain ⟨hb4, hr4, hl4, hz4⟩ := hN)
        | (refine wpL_rbox (cs := [.int .u32 (f : Int), .int .u32 (c : Int)]) (o := ⟨some 5, _, _, _, _, _⟩) rfl (.tmp 1) rfl rfl ?_; intro W1 b5 hN; obtain ⟨hb5, hr5, hl5, hz5⟩ := hN
           have R1 := Lib.hid (row_below hr4.out hl5)
           have HB1 := Lib.hid (hl4.trans (hl5.mono hl4.size))
           have c2 := icell2 R1.out
           clear hr4 hl4 hz4 hl5 hb4 hb5 hr5 hz5)
        | (go_at_call 6; refine (lives15 _ (hT.below HB1.out)).mono ?_; rintro e W2 ⟨rfl, hb2⟩; have HF := Lib.hid (HB1.out.trans (hb2.mono HB1.out.size)))
        | fail)
      go_ret
      exact ⟨rfl, HF.out⟩
    · have q1 : decide ((2000 : Int) < (i.l.length : Int)) = false := by simp; omega
      have q2 : decide ((2000 : Int) < (d.length : Int)) = true := by simp; omega
      clear hok hl
      go_enter Tryd.func5, Tryd.ntmps5
      go_wp2_with (first
        | (refine wpL_rbox (cs := icells i) (o := ⟨some 4, _, _, _, _, _⟩) rfl (.tmp 0) rfl rfl ?_; intro W0 b4 hN; obtain ⟨hb4, hr4, hl4, hz4⟩ := hN)
        | (refine wpL_rbox (cs := [.int .u32 (f : Int), .int .u32 (c : Int)]) (o := ⟨some 5, _, _, _, _, _⟩) rfl (.tmp 1) rfl rfl ?_; intro W1 b5 hN; obtain ⟨hb5, hr5, hl5, hz5⟩ := hN
           have R1 := Lib.hid (row_below hr4.out hl5)
           have HB1 := Lib.hid (hl4.trans (hl5.mono hl4.size))
           have c2 := icell2 R1.out
           clear hr4 hl4 hz4 hl5 hb4 hb5 hr5 hz5)
        | (go_at_call 6; refine (lives15 _ (hT.below HB1.out)).mono ?_; rintro e W2 ⟨rfl, hb2⟩; have HF := Lib.hid (HB1.out.trans (hb2.mono HB1.out.size)))
        | fail)
      go_ret
      exact ⟨rfl, HF.out⟩
  · have q1 : decide ((2000 : Int) < (i.l.length : Int)) = false := by simp; omega
    have q2 : decide ((2000 : Int) < (d.length : Int)) = false := by simp; omega
    have hil : i.l.length ≤ 2000 := by omega
    have hdl : d.length ≤ 2000 := by omega
    have hjok := iput_ok i f c d hok
    have hjl := (iput_L i f c d).2.2
    have hblk := iput_blk i f c n d
    have HPUT := Lib.hid (fun W => iput_any i f c d W hok.2.2.1 hf hc (by omega) (by omega))
    have HRP := Lib.hid (fun W => riput_any i f c d W hok.2.2.1 hf hc (by omega) (by omega))
    have HP := Lib.hid (fun W => iplain_any i W hok)
    have HI8 := Lib.hid hok.2.2.1
    have HBI := Lib.hid (fun W => iblock_any i n W hok.2.2.1 hn (by omega))
    generalize iput i f c d = r at *
    obtain ⟨j, E⟩ := r
    dsimp only at hjok hjl hblk HPUT HRP
    have HJ8 := Lib.hid hjok.2.2.1
    have HPJ := Lib.hid (fun W => iplain_any j W hjok)
    have HBJ := Lib.hid (fun W => iblock_any j n W hjok.2.2.1 hn (by omega))
    have HL := Lib.hid (fun W h => lives15 W h)
    have h08 : I0.T.length = 8 := rfl
    have qE : (E == E) = true := beq_self_eq_true _
    have HBK := Lib.hid hblk
    clear hl hil hdl hjok hjl hblk hok
    go_enter Tryd.func5, Tryd.ntmps5
    go_wp2_with (first
      | (refine wpL_rbox (cs := icells i) (o := ⟨some 4, _, _, _, _, _⟩) rfl (.tmp 0) rfl rfl ?_; intro W0 b4 hN; obtain ⟨hb4, hr4, hl4, hz4⟩ := hN)
      | (refine wpL_rbox (cs := [.int .u32 (f : Int), .int .u32 (c : Int)]) (o := ⟨some 5, _, _, _, _, _⟩) rfl (.tmp 1) rfl rfl ?_; intro W1 b5 hN; obtain ⟨hb5, hr5, hl5, hz5⟩ := hN
         have R1 := Lib.hid (row_below hr4.out hl5)
         have B1 := Lib.hid (hl4.trans (hl5.mono hl4.size))
         have h45 : b4 ≠ b5 := by have := hb5.out; have := hz4.out; omega
         have c2 := icell2 R1.out
         have e0 := cell_of_row _ b5 0 _ _ _ hr5.out
         have e1 := cell_of_row _ b5 1 _ _ _ hr5.out
         simp at e0 e1
         clear hr4 hl4 hz4 hl5 hb4)
      | (refine imA.wpLoad (by rfl) (.tmp 4) rfl rfl R1.out HI8.out ?_)
      | fail)
    refine (HPUT.out _).mono ?_
    rintro e w2 ⟨rfl, hb2⟩
    have R2 := Lib.hid (row_below R1.out hb2)
    have S2 := Lib.hid (row_below hr5.out hb2)
    have B2 := Lib.hid (B1.out.trans (hb2.mono B1.out.size))
    clear hb2 R1 B1 hr5 HPUT c2 e0 e1 hb5 hz5
    go_wp2_with (first
      | (refine imA.wpNew (o := ⟨some 9, _, _, _, _, _⟩) rfl rfl ?_; intro W3 b9 hN; obtain ⟨hb9, hr9, hl9, hz9⟩ := hN
         have R3 := Lib.hid (row_below R2.out hl9)
         have S3 := Lib.hid (row_below S2.out hl9)
         have B3 := Lib.hid (B2.out.trans (hl9.mono B2.out.size))
         have h49 : b4 ≠ b9 := by have := (Array.getElem?_eq_some_iff.1 R2.out).1; have := hb9.out; omega
         have h59 : b5 ≠ b9 := by have := (Array.getElem?_eq_some_iff.1 S2.out).1; have := hb9.out; omega
         have h9w : w.heap.size ≤ b9 := by have := hb9.out; have := B2.out.size; omega)
      | (refine imA.wpStore rfl (.tmp 9) (.tmp 29) rfl rfl rfl hr9.out h08 HJ8.out ?_; intro W RJ hg9 hz9'
         have R := Lib.hid (row_far R3.out hg9 (fun e => h49 (Option.some.inj e)))
         have RS := Lib.hid (row_far S3.out hg9 (fun e => h59 (Option.some.inj e)))
         have B := Lib.hid (B3.out.grown hg9 B3.out.size (fun k e => by cases e; exact h9w))
         clear hr9 hl9 hz9 hg9 hz9' hb9 R2 S2 B2 R3 S3 B3)
      | fail)
    have h4W : b4 < W.heap.size := (Array.getElem?_eq_some_iff.1 R.out).1
    have h5W : b5 < W.heap.size := (Array.getElem?_eq_some_iff.1 RS.out).1
    have h9W : b9 < W.heap.size := (Array.getElem?_eq_some_iff.1 RJ.out).1
    go_cut [11, 12] (fun u v wx => CutP W j E u v wx)
    case first =>
      refine wp_tree W.heap.size (.two [0, 2, 3, 4, 5, 6] 1 11 (.two [] 7 11 (.one [8, 9, 10] 11 (.one [] 12 (.fin [13]))) (.one [] 7 (.one [8, 9, 10] 12 (.fin [13])))) (.one [] 1 (.one [] 7 (.one [8, 9, 10] 12 (.fin [13]))))) (by kernel_rfl) (by kernel_rfl) (fun d _ _ _ _ h => by cases d <;> exact h) fun wd hbd => ?_
      intro q hq
      have d0 := fun z => cellz (j := 0) (hq z) RS.out rfl h5W
      have d1 := fun z => cellz (j := 1) (hq z) RS.out rfl h5W
      simp only [pickI, Option.toList_some, List.cons_append, List.nil_append, List.getElem?_toArray, List.getElem?_cons_succ, List.getElem?_cons_zero]
      try go_frame
      refine imA.wpQload (by rfl) (.tmp 4) rfl rfl (fun W hW => by obtain ⟨z, rfl⟩ := hW; exact below_row (hq z) R.out h4W) HI8.out ?_
      try go_frame
      go_big_quiet_step (fail)
      go_big_quiet_step (fail)
      go_big_quiet_step (fail)
      go_big_quiet_step (fail)
      go_big_quiet_step (fail)
      refine wpQuiet_nil ?_
      clear hq q d0 d1
      refine ⟨?_, ?_⟩
      · skip
        refine seg_op (by simp only [List.getElem?_toArray, List.getElem?_cons_succ, List.getElem?_cons_zero]; rfl) fun K hK => ?_
        go_simp
        refine (HP.out _).mono ?_
        rintro e v1 ⟨rfl, b1⟩
        have z1 := hbd.trans (b1.mono hbd.size)
        clear b1
        refine hK.out _ _ ⟨z1, ?_⟩
        clear hK K
        intro q hq
        refine wpQuiet_nil ?_
        clear hq q
        refine ⟨?_, ?_⟩
        · skip
          refine seg_op (by simp only [List.getElem?_toArray, List.getElem?_cons_succ, List.getElem?_cons_zero]; rfl) fun K hK => ?_
          go_simp
          refine (HRP.out _).mono ?_
          rintro e v2 ⟨rfl, b2⟩
          have z2 := z1.trans (b2.mono z1.size)
          clear b2
          refine hK.out _ _ ⟨z2, ?_⟩
          clear hK K
          intro q hq
          simp only [pickI, Option.toList_some, List.cons_append, List.nil_append, List.getElem?_toArray, List.getElem?_cons_succ, List.getElem?_cons_zero]
          try go_frame
          go_big_quiet_step (fail)
          go_big_quiet_step (fail)
          go_big_quiet_step (fail)
          refine wpQuiet_nil ?_
          clear hq q
          refine seg_op (by simp only [List.getElem?_toArray, List.getElem?_cons_succ, List.getElem?_cons_zero]; rfl) fun K hK => ?_
          rw [if_pos (by rfl)]
          refine imB.opNew rfl ?_
          intro v3 r3 hN3
          obtain ⟨e3, R3, b3, y3⟩ := hN3
          have z3 := z2.trans (b3.mono z2.size)
          have l3 : W.heap.size ≤ r3 := by have := e3.out; have := z2.size; omega
          clear e3 b3 y3
          refine hK.out _ _ ⟨z3, ?_⟩
          clear hK K
          intro q hq
          refine wpQuiet_nil ?_
          clear hq q
          refine seg_op (by simp only [List.getElem?_toArray, List.getElem?_cons_succ, List.getElem?_cons_zero]; rfl) fun K hK => ?_
          rw [if_pos (by rfl)]
          refine imB.opStore (.tmp 11) (.tmp 40) rfl rfl rfl R3.out h08 HJ8.out ?_
          intro W9 hr9 hg9 hz9
          have z9 := z3.grown hg9 z3.size (fun k e => by cases e; exact l3)
          refine hK.out _ _ ⟨z9, ?_⟩
          clear hK K
          intro q hq
          simp only [pickI, Option.toList_some, List.cons_append, List.nil_append, List.getElem?_toArray, List.getElem?_cons_succ, List.getElem?_cons_zero]
          try go_frame
          go_big_quiet_step (fail)
          refine wpQuiet_nil ?_
          clear hq q
          have Z9 := Lib.hid z9
          clear z9 hg9 hz9
          go_wp2_with (fail)
          go_meet
          case rel => exact ⟨r3, rfl, rfl, l3, hr9, Z9⟩
        · skip
          refine seg_op (by simp only [List.getElem?_toArray, List.getElem?_cons_succ, List.getElem?_cons_zero]; rfl) fun K hK => ?_
          rw [if_pos (by rfl)]
          refine imB.opNew rfl ?_
          intro v4 r4 hN4
          obtain ⟨e4, R4, b4, y4⟩ := hN4
          have z4 := z1.trans (b4.mono z1.size)
          have l4 : W.heap.size ≤ r4 := by have := e4.out; have := z1.size; omega
          clear e4 b4 y4
          refine hK.out _ _ ⟨z4, ?_⟩
          clear hK K
          intro q hq
          refine wpQuiet_nil ?_
          clear hq q
          refine seg_op (by simp only [List.getElem?_toArray, List.getElem?_cons_succ, List.getElem?_cons_zero]; rfl) fun K hK => ?_
          go_simp
          refine (HRP.out _).mono ?_
          rintro e v5 ⟨rfl, b5⟩
          have z5 := z4.trans (b5.mono z4.size)
          have R5 := Lib.hid (row_below R4.out b5)
          clear b5
          refine hK.out _ _ ⟨z5, ?_⟩
          clear hK K
          intro q hq
          simp only [pickI, Option.toList_some, List.cons_append, List.nil_append, List.getElem?_toArray, List.getElem?_cons_succ, List.getElem?_cons_zero]
          try go_frame
          go_big_quiet_step (fail)
          go_big_quiet_step (fail)
          go_big_quiet_step (fail)
          refine wpQuiet_nil ?_
          clear hq q
          refine seg_op (by simp only [List.getElem?_toArray, List.getElem?_cons_succ, List.getElem?_cons_zero]; rfl) fun K hK => ?_
          rw [if_pos (by rfl)]
          refine imB.opStore (.tmp 11) (.tmp 40) rfl rfl rfl R5.out h08 HJ8.out ?_
          intro W9 hr9 hg9 hz9
          have z9 := z5.grown hg9 z5.size (fun k e => by cases e; exact l4)
          refine hK.out _ _ ⟨z9, ?_⟩
          clear hK K
          intro q hq
          simp only [pickI, Option.toList_some, List.cons_append, List.nil_append, List.getElem?_toArray, List.getElem?_cons_succ, List.getElem?_cons_zero]
          try go_frame
          go_big_quiet_step (fail)
          refine wpQuiet_nil ?_
          clear hq q
          have Z9 := Lib.hid z9
          clear z9 hg9 hz9
          go_wp2_with (fail)
          go_meet
          case rel => exact ⟨r4, rfl, rfl, l4, hr9, Z9⟩
      · skip
        refine seg_op (by simp only [List.getElem?_toArray, List.getElem?_cons_succ, List.getElem?_cons_zero]; rfl) fun K hK => ?_
        rw [if_pos (by rfl)]
        refine imB.opNew rfl ?_
        intro v6 r6 hN6
        obtain ⟨e6, R6, b6, y6⟩ := hN6
        have z6 := hbd.trans (b6.mono hbd.size)
        have l6 : W.heap.size ≤ r6 := by have := e6.out; have := hbd.size; omega
        clear e6 b6 y6
        refine hK.out _ _ ⟨z6, ?_⟩
        clear hK K
        intro q hq
        refine wpQuiet_nil ?_
        clear hq q
        refine seg_op (by simp only [List.getElem?_toArray, List.getElem?_cons_succ, List.getElem?_cons_zero]; rfl) fun K hK => ?_
        go_simp
        refine (HP.out _).mono ?_
        rintro e v7 ⟨rfl, b7⟩
        have z7 := z6.trans (b7.mono z6.size)
        have R7 := Lib.hid (row_below R6.out b7)
        clear b7
        refine hK.out _ _ ⟨z7, ?_⟩
        clear hK K
        intro q hq
        refine wpQuiet_nil ?_
        clear hq q
        refine seg_op (by simp only [List.getElem?_toArray, List.getElem?_cons_succ, List.getElem?_cons_zero]; rfl) fun K hK => ?_
        go_simp
        refine (HRP.out _).mono ?_
        rintro e v8 ⟨rfl, b8⟩
        have z8 := z7.trans (b8.mono z7.size)
        have R8 := Lib.hid (row_below R7.out b8)
        clear b8
        refine hK.out _ _ ⟨z8, ?_⟩
        clear hK K
        intro q hq
        simp only [pickI, Option.toList_some, List.cons_append, List.nil_append, List.getElem?_toArray, List.getElem?_cons_succ, List.getElem?_cons_zero]
        try go_frame
        go_big_quiet_step (fail)
        go_big_quiet_step (fail)
        go_big_quiet_step (fail)
        refine wpQuiet_nil ?_
        clear hq q
        refine seg_op (by simp only [List.getElem?_toArray, List.getElem?_cons_succ, List.getElem?_cons_zero]; rfl) fun K hK => ?_
        rw [if_pos (by rfl)]
        refine imB.opStore (.tmp 11) (.tmp 40) rfl rfl rfl R8.out h08 HJ8.out ?_
        intro W9 hr9 hg9 hz9
        have z9 := z8.grown hg9 z8.size (fun k e => by cases e; exact l6)
        refine hK.out _ _ ⟨z9, ?_⟩
        clear hK K
        intro q hq
        simp only [pickI, Option.toList_some, List.cons_append, List.nil_append, List.getElem?_toArray, List.getElem?_cons_succ, List.getElem?_cons_zero]
        try go_frame
        go_big_quiet_step (fail)
        refine wpQuiet_nil ?_
        clear hq q
        have Z9 := Lib.hid z9
        clear z9 hg9 hz9
        go_wp2_with (fail)
        go_meet
        case rel => exact ⟨r6, rfl, rfl, l6, hr9, Z9⟩
    case rest =>
      obtain ⟨b11, rfl, rfl, h11, RR, hz⟩ := hcut
      have R5 := Lib.hid (below_row hz.out R.out h4W)
      have S5 := Lib.hid (below_row hz.out RS.out h5W)
      have J5 := Lib.hid (below_row hz.out RJ.out h9W)
      have B5 := Lib.hid (B.out.trans (hz.out.mono B.out.size))
      have e0 := cell_of_row _ b5 0 _ _ _ S5.out
      have e1 := cell_of_row _ b5 1 _ _ _ S5.out
      simp at e0 e1
      clear hz R RS RJ B HRP HP h4W h5W h9W S5
      have h4W : b4 < wc.heap.size := (Array.getElem?_eq_some_iff.1 R5.out).1
      have h9W : b9 < wc.heap.size := (Array.getElem?_eq_some_iff.1 J5.out).1
      have h11W : b11 < wc.heap.size := (Array.getElem?_eq_some_iff.1 RR.out).1
      by_cases hin : f ≤ n ∧ n < f + c
      · obtain ⟨hi1, hi2⟩ := hin
        have m1 : decide ((f : Int) ≤ (n : Int)) = true := by simp; omega
        have m2 : decide ((n : Int) < (f : Int) + (c : Int)) = true := by simp; omega
        go_wp2_with (fail)
        refine wp_low wc.heap.size [([0, 2], 1), ([3, 4, 5, 6, 7, 8, 9, 10, 11, 12, 13, 15, 16], 14), ([], 17), ([18, 19, 20, 21], 22)] [23, 24] (by kernel_rfl) (by kernel_rfl) (fun d _ _ _ _ h => by cases d <;> exact h) (Nat.le_refl _) fun wd hbd => ?_
        intro q hq
        simp only [pickI, Option.toList_some, List.cons_append, List.nil_append, List.getElem?_toArray, List.getElem?_cons_succ, List.getElem?_cons_zero]
        try go_frame
        refine imA.wpQload (by rfl) (.tmp 9) rfl rfl (fun W hW => by obtain ⟨z, rfl⟩ := hW; exact below_row (hq z) J5.out h9W) HJ8.out ?_
        try go_frame
        refine imB.wpQload (by rfl) (.tmp 11) rfl rfl (fun W hW => by obtain ⟨z, rfl⟩ := hW; exact below_row (hq z) RR.out h11W) HJ8.out ?_
        try go_frame
        refine wpQuiet_nil ?_
        clear hq q
        refine seg_op (by simp only [List.getElem?_toArray, List.getElem?_cons_succ, List.getElem?_cons_zero]; rfl) fun K hK => ?_
        go_simp
        refine (HPJ.out _).mono ?_
        rintro e v0 ⟨rfl, bv0⟩
        have zv0 := hbd.trans (bv0.mono hbd.size)
        refine hK.out _ _ (seg_keep zv0 ?_)
        clear hK K
        intro q hq
        simp only [pickI, Option.toList_some, List.cons_append, List.nil_append, List.getElem?_toArray, List.getElem?_cons_succ, List.getElem?_cons_zero]
        try go_frame
        refine imB.wpQeql (by rfl) (.tmp 59) (.tmp 60) _ rfl rfl rfl HJ8.out HJ8.out (b := true) (by simp) ?_
        try go_frame
        go_big_quiet_step (fail)
        go_big_quiet_step (fail)
        go_big_quiet_step (fail)
        go_big_quiet_step (fail)
        go_big_quiet_step (fail)
        go_big_quiet_step (fail)
        go_big_quiet_step (fail)
        go_big_quiet_step (fail)
        go_big_quiet_step (fail)
        go_big_quiet_step (fail)
        go_big_quiet_step (fail)
        go_big_quiet_step (fail)
        refine wpQuiet_nil ?_
        clear hq q
        refine seg_op (by simp only [List.getElem?_toArray, List.getElem?_cons_succ, List.getElem?_cons_zero]; rfl) fun K hK => ?_
        go_simp
        refine hK.out _ _ (seg_keep zv0 ?_)
        clear hK K
        intro q hq
        refine wpQuiet_nil ?_
        clear hq q
        refine seg_op (by simp only [List.getElem?_toArray, List.getElem?_cons_succ, List.getElem?_cons_zero]; rfl) fun K hK => ?_
        go_simp
        refine hK.out _ _ (seg_keep zv0 ?_)
        clear hK K
        intro q hq
        simp only [pickI, Option.toList_some, List.cons_append, List.nil_append, List.getElem?_toArray, List.getElem?_cons_succ, List.getElem?_cons_zero]
        try go_frame
        go_big_quiet_step (fail)
        go_big_quiet_step (fail)
        go_big_quiet_step (fail)
        go_big_quiet_step (fail)
        refine wpQuiet_nil ?_
        clear hq q
        refine seg_op (by simp only [List.getElem?_toArray, List.getElem?_cons_succ, List.getElem?_cons_zero]; rfl) fun K hK => ?_
        go_simp
        refine (HL.out _ (hT.below (B5.out.trans (zv0.mono B5.out.size)))).mono ?_
        rintro e v3 ⟨rfl, bv3⟩
        have zv3 := zv0.trans (bv3.mono zv0.size)
        refine hK.out _ _ (seg_keep zv3 ?_)
        clear hK K
        intro q hq
        simp only [pickI, Option.toList_some, List.cons_append, List.nil_append, List.getElem?_toArray, List.getElem?_cons_succ, List.getElem?_cons_zero]
        try go_frame
        go_big_quiet_step (fail)
        go_big_quiet_step (fail)
        refine wpQuiet_nil ?_
        clear hq q
        have hfin := B5.out.trans (zv3.mono B5.out.size)
        go_wp2
        go_ret
        exact ⟨rfl, hfin⟩
      · have hb := HBK.out hin
        rw [hb] at HBJ
        clear hb HBK
        generalize blk i n = K at *
        have qK : ((str K).toList == (str K).toList) = true := beq_self_eq_true _
        by_cases hi1 : f ≤ n
        · have hi2 : ¬ n < f + c := fun h => hin ⟨hi1, h⟩
          have m1 : decide ((f : Int) ≤ (n : Int)) = true := by simp; omega
          have m2 : decide ((n : Int) < (f : Int) + (c : Int)) = false := by simp; omega
          clear hin
          go_wp2_with (fail)
          refine wp_low wc.heap.size [([0, 2], 1), ([3, 4, 5, 6, 7, 8, 9, 10, 11, 12, 13, 15, 16], 14), ([], 17), ([18, 19, 20, 21], 22)] [23, 24] (by kernel_rfl) (by kernel_rfl) (fun d _ _ _ _ h => by cases d <;> exact h) (Nat.le_refl _) fun wd hbd => ?_
          intro q hq
          simp only [pickI, Option.toList_some, List.cons_append, List.nil_append, List.getElem?_toArray, List.getElem?_cons_succ, List.getElem?_cons_zero]
          try go_frame
          refine imA.wpQload (by rfl) (.tmp 9) rfl rfl (fun W hW => by obtain ⟨z, rfl⟩ := hW; exact below_row (hq z) J5.out h9W) HJ8.out ?_
          try go_frame
          refine imB.wpQload (by rfl) (.tmp 11) rfl rfl (fun W hW => by obtain ⟨z, rfl⟩ := hW; exact below_row (hq z) RR.out h11W) HJ8.out ?_
          try go_frame
          refine wpQuiet_nil ?_
          clear hq q
          refine seg_op (by simp only [List.getElem?_toArray, List.getElem?_cons_succ, List.getElem?_cons_zero]; rfl) fun K hK => ?_
          go_simp
          refine (HPJ.out _).mono ?_
          rintro e v0 ⟨rfl, bv0⟩
          have zv0 := hbd.trans (bv0.mono hbd.size)
          refine hK.out _ _ (seg_keep zv0 ?_)
          clear hK K
          intro q hq
          simp only [pickI, Option.toList_some, List.cons_append, List.nil_append, List.getElem?_toArray, List.getElem?_cons_succ, List.getElem?_cons_zero]
          try go_frame
          refine imB.wpQeql (by rfl) (.tmp 59) (.tmp 60) _ rfl rfl rfl HJ8.out HJ8.out (b := true) (by simp) ?_
          try go_frame
          go_big_quiet_step (fail)
          go_big_quiet_step (fail)
          go_big_quiet_step (fail)
          go_big_quiet_step (fail)
          go_big_quiet_step (fail)
          go_big_quiet_step (fail)
          go_big_quiet_step (fail)
          go_big_quiet_step (fail)
          refine imA.wpQload (by rfl) (.tmp 9) rfl rfl (fun W hW => by obtain ⟨z, rfl⟩ := hW; exact below_row (hq z) J5.out h9W) HJ8.out ?_
          try go_frame
          go_big_quiet_step (fail)
          refine imA.wpQload (by rfl) (.tmp 4) rfl rfl (fun W hW => by obtain ⟨z, rfl⟩ := hW; exact below_row (hq z) R5.out h4W) HI8.out ?_
          try go_frame
          go_big_quiet_step (fail)
          refine wpQuiet_nil ?_
          clear hq q
          refine seg_op (by simp only [List.getElem?_toArray, List.getElem?_cons_succ, List.getElem?_cons_zero]; rfl) fun K hK => ?_
          go_simp
          refine (HBJ.out _).mono ?_
          rintro e v1 ⟨rfl, bv1⟩
          have zv1 := zv0.trans (bv1.mono zv0.size)
          refine hK.out _ _ (seg_keep zv1 ?_)
          clear hK K
          intro q hq
          refine wpQuiet_nil ?_
          clear hq q
          refine seg_op (by simp only [List.getElem?_toArray, List.getElem?_cons_succ, List.getElem?_cons_zero]; rfl) fun K hK => ?_
          go_simp
          refine (HBI.out _).mono ?_
          rintro e v2 ⟨rfl, bv2⟩
          have zv2 := zv1.trans (bv2.mono zv1.size)
          refine hK.out _ _ (seg_keep zv2 ?_)
          clear hK K
          intro q hq
          simp only [pickI, Option.toList_some, List.cons_append, List.nil_append, List.getElem?_toArray, List.getElem?_cons_succ, List.getElem?_cons_zero]
          try go_frame
          go_big_quiet_step (fail)
          go_big_quiet_step (fail)
          go_big_quiet_step (fail)
          go_big_quiet_step (fail)
          refine wpQuiet_nil ?_
          clear hq q
          refine seg_op (by simp only [List.getElem?_toArray, List.getElem?_cons_succ, List.getElem?_cons_zero]; rfl) fun K hK => ?_
          go_simp
          refine (HL.out _ (hT.below (B5.out.trans (zv2.mono B5.out.size)))).mono ?_
          rintro e v3 ⟨rfl, bv3⟩
          have zv3 := zv2.trans (bv3.mono zv2.size)
          refine hK.out _ _ (seg_keep zv3 ?_)
          clear hK K
          intro q hq
          simp only [pickI, Option.toList_some, List.cons_append, List.nil_append, List.getElem?_toArray, List.getElem?_cons_succ, List.getElem?_cons_zero]
          try go_frame
          go_big_quiet_step (fail)
          go_big_quiet_step (fail)
          refine wpQuiet_nil ?_
          clear hq q
          have hfin := B5.out.trans (zv3.mono B5.out.size)
          go_wp2
          go_ret
          exact ⟨rfl, hfin⟩
        · have m1 : decide ((f : Int) ≤ (n : Int)) = false := by simp; omega
          clear hin
          go_wp2_with (fail)
          refine wp_low wc.heap.size [([0, 2], 1), ([3, 4, 5, 6, 7, 8, 9, 10, 11, 12, 13, 15, 16], 14), ([], 17), ([18, 19, 20, 21], 22)] [23, 24] (by kernel_rfl) (by kernel_rfl) (fun d _ _ _ _ h => by cases d <;> exact h) (Nat.le_refl _) fun wd hbd => ?_
          intro q hq
          simp only [pickI, Option.toList_some, List.cons_append, List.nil_append, List.getElem?_toArray, List.getElem?_cons_succ, List.getElem?_cons_zero]
          try go_frame
          refine imA.wpQload (by rfl) (.tmp 9) rfl rfl (fun W hW => by obtain ⟨z, rfl⟩ := hW; exact below_row (hq z) J5.out h9W) HJ8.out ?_
          try go_frame
          refine imB.wpQload (by rfl) (.tmp 11) rfl rfl (fun W hW => by obtain ⟨z, rfl⟩ := hW; exact below_row (hq z) RR.out h11W) HJ8.out ?_
          try go_frame
          refine wpQuiet_nil ?_
          clear hq q
          refine seg_op (by simp only [List.getElem?_toArray, List.getElem?_cons_succ, List.getElem?_cons_zero]; rfl) fun K hK => ?_
          go_simp
          refine (HPJ.out _).mono ?_
          rintro e v0 ⟨rfl, bv0⟩
          have zv0 := hbd.trans (bv0.mono hbd.size)
          refine hK.out _ _ (seg_keep zv0 ?_)
          clear hK K
          intro q hq
          simp only [pickI, Option.toList_some, List.cons_append, List.nil_append, List.getElem?_toArray, List.getElem?_cons_succ, List.getElem?_cons_zero]
          try go_frame
          refine imB.wpQeql (by rfl) (.tmp 59) (.tmp 60) _ rfl rfl rfl HJ8.out HJ8.out (b := true) (by simp) ?_
          try go_frame
          go_big_quiet_step (fail)
          go_big_quiet_step (fail)
          go_big_quiet_step (fail)
          go_big_quiet_step (fail)
          go_big_quiet_step (fail)
          go_big_quiet_step (fail)
          go_big_quiet_step (fail)
          go_big_quiet_step (fail)
          refine imA.wpQload (by rfl) (.tmp 9) rfl rfl (fun W hW => by obtain ⟨z, rfl⟩ := hW; exact below_row (hq z) J5.out h9W) HJ8.out ?_
          try go_frame
          go_big_quiet_step (fail)
          refine imA.wpQload (by rfl) (.tmp 4) rfl rfl (fun W hW => by obtain ⟨z, rfl⟩ := hW; exact below_row (hq z) R5.out h4W) HI8.out ?_
          try go_frame
          go_big_quiet_step (fail)
          refine wpQuiet_nil ?_
          clear hq q
          refine seg_op (by simp only [List.getElem?_toArray, List.getElem?_cons_succ, List.getElem?_cons_zero]; rfl) fun K hK => ?_
          go_simp
          refine (HBJ.out _).mono ?_
          rintro e v1 ⟨rfl, bv1⟩
          have zv1 := zv0.trans (bv1.mono zv0.size)
          refine hK.out _ _ (seg_keep zv1 ?_)
          clear hK K
          intro q hq
          refine wpQuiet_nil ?_
          clear hq q
          refine seg_op (by simp only [List.getElem?_toArray, List.getElem?_cons_succ, List.getElem?_cons_zero]; rfl) fun K hK => ?_
          go_simp
          refine (HBI.out _).mono ?_
          rintro e v2 ⟨rfl, bv2⟩
          have zv2 := zv1.trans (bv2.mono zv1.size)
          refine hK.out _ _ (seg_keep zv2 ?_)
          clear hK K
          intro q hq
          simp only [pickI, Option.toList_some, List.cons_append, List.nil_append, List.getElem?_toArray, List.getElem?_cons_succ, List.getElem?_cons_zero]
          try go_frame
          go_big_quiet_step (fail)
          go_big_quiet_step (fail)
          go_big_quiet_step (fail)
          go_big_quiet_step (fail)
          refine wpQuiet_nil ?_
          clear hq q
          refine seg_op (by simp only [List.getElem?_toArray, List.getElem?_cons_succ, List.getElem?_cons_zero]; rfl) fun K hK => ?_
          go_simp
          refine (HL.out _ (hT.below (B5.out.trans (zv2.mono B5.out.size)))).mono ?_
          rintro e v3 ⟨rfl, bv3⟩
          have zv3 := zv2.trans (bv3.mono zv2.size)
          refine hK.out _ _ (seg_keep zv3 ?_)
          clear hK K
          intro q hq
          simp only [pickI, Option.toList_some, List.cons_append, List.nil_append, List.getElem?_toArray, List.getElem?_cons_succ, List.getElem?_cons_zero]
          try go_frame
          go_big_quiet_step (fail)
          go_big_quiet_step (fail)
          refine wpQuiet_nil ?_
          clear hq q
          have hfin := B5.out.trans (zv3.mono B5.out.size)
          go_wp2
          go_ret
          exact ⟨rfl, hfin⟩

theorem imagePuts_walk {w : World} (i : Im) (hi : i.ok) (f c : Int) (hf : (Lit.int .u32 f).wf = true) (hc : (Lit.int .u32 c).wf = true) (d : List UInt8) (_ : d.length ≤ maxLen) (x : Int) (hx : (Lit.int .u32 x).wf = true) (hT : Tab w) :
    Calls Tryd.prog 5 #[imv i, .agg #[.int .u32 f, .int .u32 c], .string (str d), .int .u32 x] w fun e w' => e = .returned (.bool true) ∧ Below w.heap.size w w' := by
  have h : ∀ y : Int, (Lit.int .u32 y).wf = true → ∃ n : Nat, y = (n : Int) ∧ n < 4294967296 := fun y hy => by
    have h := wf_nat .u32 y hy rfl
    have h2 : y ≤ 4294967295 := h.2
    exact ⟨y.toNat, by omega, by omega⟩
  obtain ⟨f', rfl, gf⟩ := h f hf
  obtain ⟨c', rfl, gc⟩ := h c hc
  obtain ⟨n, rfl, gn⟩ := h x hx
  exact imagePuts_at i f' c' n d w hi gf gc gn hT
namespace imagePuts
open Go.ChangeShapes Go.WideShapes Go.ChangeAt
set_option maxRecDepth 100000 in
theorem lifted (os : Os) (started : os.Started) (H : Type) (enc : TypeId × Value → H) :
    ReturnsInHanded {} Tryd.checked os 5 .any (fun w args => (Rows.imagePutsSpec.pre enc Tryd.prog Tryd.f5 [] false w args ∧ laidMetH Tryd.prog laidL w) ∧ sizedMet enc Tryd.prog Tryd.f5 (OpenSpec.ofChange Rows.imagePutsSpec) false w args)
      (Rows.imagePutsSpec.post enc Tryd.prog Tryd.f5 false true false false) := by
  refine returnsInHanded_of_change_and (C := Tryd.checked) (X := fun w _ => laidMetH Tryd.prog laidL w) (fun _ _ _ hh h => h.of_heap hh) own started (by kernel_rfl) Tryd.func5
    (ChangeSpec.witness_shaped (enc := enc) (C := Tryd.checked) (os := os) (X := fun w _ => laidMetH Tryd.prog laidL w) false (World.doorLaid Tryd.prog 400 os) #[.agg #[.int .u64 0, .int .u64 0, .string ⟨#[]⟩, .int .u64 0, .int .u16 0, .int .u64 0, .int .u16 0, .int .u64 0, .int .u16 0, .int .u64 0, .int .u16 0, .int .u64 0, .int .u16 0, .int .u64 0, .int .u16 0, .int .u64 0, .int .u16 0, .int .u64 0, .int .u16 0], .agg #[.int .u32 0, .int .u32 0], .string ⟨#[]⟩, .int .u32 0] 8 rfl (World.shaped_of_RefB (by kernel_rfl) (by kernel_rfl)) (by kernel_rfl) (by kernel_rfl) (by kernel_rfl) (door_met os _)) ?_
  intro W base args ds gs before hval0 hW _ _ hL _
  have hval : ∀ (j : Nat) t v, Tryd.f5.params[j]? = some t → args[j]? = some v → Value.okWide Tryd.prog W .any base t v := hval0
  have hW' := hW
  obtain ⟨p, q, hA0, hV, rfl, hfz, hnd⟩ := hW
  have hA : DataW.TrodAll enc Tryd.prog W 0 (fun _ => true) true Tryd.f5.params.toList args.toList ds p := hA0
  rw [Tryd.params5] at hA hval
  obtain ⟨v0, vs0, d0, ds0, p0, q0, hargs, rfl, rfl, h0, r0⟩ := trodAll_cons hA
  obtain ⟨v1, vs1, d1, ds1, p1, q1, rfl, rfl, rfl, h1, r1⟩ := trodAll_cons r0
  obtain ⟨v2, vs2, d2, ds2, p2, q2, rfl, rfl, rfl, h2, r2⟩ := trodAll_cons r1
  obtain ⟨v3, vs3, d3, ds3, p3, q3, rfl, rfl, rfl, h3, r3⟩ := trodAll_cons r2
  obtain ⟨rfl, rfl, rfl⟩ := trodAll_nil r3
  obtain rfl : args = #[v0, v1, v2, v3] := by cases args; simp_all
  obtain ⟨rfl, rfl⟩ := trodVars_none hV
  have k0 := h0
  have lt0 : ∀ x ∈ p0, x.block < W.heap.size := by obtain ⟨m, hm⟩ := k0; exact DataW.trod_lt m _ _ _ hm
  obtain ⟨o0, rfl, w0⟩ := dec_image imA (by kernel_rfl) (by kernel_rfl) (by kernel_rfl) (by kernel_rfl) cl_one marks_one image_str (hval 0 31 v0 rfl rfl) h0
  have k1 := h1
  have lt1 : ∀ x ∈ p1, x.block < W.heap.size := by obtain ⟨m, hm⟩ := k1; exact DataW.trod_lt m _ _ _ hm
  obtain ⟨x1, y1, rfl, w1, u1⟩ := dec_ints2 Tryd.underlying57 (by kernel_rfl) (by kernel_rfl) Tryd.underlying32 Tryd.underlying32 (hval 1 57 v1 rfl rfl) h1
  have k2 := h2
  have lt2 : ∀ x ∈ p2, x.block < W.heap.size := by obtain ⟨m, hm⟩ := k2; exact DataW.trod_lt m _ _ _ hm
  obtain ⟨l2, rfl, w2⟩ := dec_string Tryd.underlying9 (hval 2 9 v2 rfl rfl) h2
  have k3 := h3
  have lt3 : ∀ x ∈ p3, x.block < W.heap.size := by obtain ⟨m, hm⟩ := k3; exact DataW.trod_lt m _ _ _ hm
  obtain ⟨x3, rfl, w3⟩ := dec_int Tryd.underlying32 (hval 3 32 v3 rfl rfl) h3
  clear hA0 hval0
  have hT := of_laid hL
  refine (imagePuts_walk o0 w0 x1 y1 w1 u1 l2 w2 x3 w3 hT).mono fun e W' ⟨he, bel⟩ => ?_
  subst he
  exact ⟨_, rfl, _, _, _, [], _, [], hW', trodAll_mk1 (shut_bool Tryd.underlying4 _), (trodAll_cons_mk (Below.trod laidOut (by kernel_rfl) (of_decide_eq_true (by kernel_rfl)) k0 bel lt0) (trodAll_cons_mk (Below.trod laidOut (by kernel_rfl) (of_decide_eq_true (by kernel_rfl)) k1 bel lt1) (trodAll_cons_mk (Below.trod laidOut (by kernel_rfl) (of_decide_eq_true (by kernel_rfl)) k2 bel lt2) (trodAll_cons_mk (Below.trod laidOut (by kernel_rfl) (of_decide_eq_true (by kernel_rfl)) k3 bel lt3) trodAll_mk0)))), rfl, bel.frame _, fun h => by cases h⟩

theorem over : Rows.imagePutsRow.holds Tryd.pinned (OpenSpec.ofChange Rows.imagePutsSpec) :=
  OpenClaim.holds_of_wide 5 Tryd.f5 rfl rfl rfl rfl rfl rfl rfl ⟨rfl, rfl, rfl, rfl, rfl⟩ rfl rfl rfl rfl rfl (by kernel_rfl) Tryd.func5 (by kernel_rfl)
    (of_decide_eq_true (by kernel_rfl)) (by unfold Func.isWrapper; first | (rw [if_pos (by decide +kernel)]; kernel_rfl) | (rw [if_neg (by decide +kernel)]; exact ⟨rfl, rfl⟩))
    (fun os started H enc _ => lifted os started H enc)
theorem row_tie : Rows.imagePutsRow.laidByTextAt .later Tryd.pinned [.data] true := imagePuts_row_tie
/-- The given statement: the card. -/
theorem proved : Rows.ImagePutsCardSaid :=
  Claim7.holds_tied_plain_at .later [] [.data] true Rows.imagePutsCard.stood.harness false
    over (fun _ h => by cases h) (by kernel_rfl) (fun _ h => by cases h) row_tie rfl ⟨rfl, rfl⟩ (by kernel_rfl) rfl
    (fun f fn hf hfn => by
      obtain rfl : f = 5 := Option.some.inj ((show Tryd.prog.funcNamed Rows.imagePutsRow.func = some 5 by kernel_rfl).symm.trans hf) |>.symm
      obtain rfl : fn = Tryd.f5 := (Option.some.inj (Tryd.func5.symm.trans hfn)).symm
      exact ⟨by kernel_rfl, fun j t ht => by
        rw [Tryd.params5] at ht
        have hm : t ∈ [31, 57, 9, 32] := by simpa using Array.mem_of_getElem? ht
        have hall : ([31, 57, 9, 32].all fun u => !Tryd.prog.wantsStandIn u) = true := by kernel_rfl
        exact (show Tryd.prog.wantsStandIn t = false by simpa using List.all_eq_true.1 hall t hm)⟩)
    (by kernel_rfl)
end imagePuts

end Go.Proofs.YtacaonlahggdeaaDoor
