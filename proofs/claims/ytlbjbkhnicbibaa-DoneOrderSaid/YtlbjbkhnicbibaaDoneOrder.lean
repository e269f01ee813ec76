/- DoneOrder: requests that are done in one order, or in the other, of which none is old, leave the same table, and that has them all. -/
import Derived.Test.YtlbjbkhnicbibaaLives14
import Derived.Test.YtlbjbkhnicbibaaTq
import Derived.Test.YtlbjbkhnicbibaaDord
import Derived.Deep.DeepCutAuto
import Derived.Deep.CutBlock
namespace Go.Proofs.Ytlbjbkhnicbibaa
open Go.RowKit

theorem i64w (x : Int) (h : -9000000000000000000 ≤ x) (h2 : x ≤ 9000000000000000000) : IntKind.i64.wrap x = x := by
  simp only [IntKind.wrap_i64]; omega
set_option maxRecDepth 20000 in
set_option maxHeartbeats 8000000 in
theorem doneOrder_at (A : Option Addr) (n c : Nat) (ps : List (Nat × Nat)) (w : World) (h : Rd w w.heap.size 2 A n c (cells2 ps)) (hlen : ps.length = n) (hbd : ∀ q ∈ ps, q.1 < 18446744073709551616 ∧ q.2 < 18446744073709551616) :
    Calls Try.prog 4 #[.slice A n c] w fun e w' => e = .returned (.bool true) ∧ Below w.heap.size w w' := by
  by_cases hn : 60 < n
  · have hn' : (60 : Int) < (n : Int) := by omega
    clear hn
    go_enter Try.func4, Try.ntmps4
    go_wp2_with (first
      | (go_at_call 14; refine (lives14 _).mono ?_; rintro e w9 ⟨rfl, hb9⟩)
      | fail)
    go_ret
    exact ⟨rfl, hb9⟩
  · have hn' : (n : Int) ≤ 60 := by omega
    have hn6 : n ≤ 60 := by omega
    have HD := Lib.hid h
    have HL := Lib.hid hlen
    have HQ := Lib.hid hbd
    clear hn h hlen hbd
    go_enter Try.func4, Try.ntmps4
    go_wp2_with (first
      | (refine tabA.wpNew (o := ⟨some 3, _, _, _, _, _⟩) rfl rfl ?_; intro W1 b3 hN; obtain ⟨hb3, hr3, hl3, hz3⟩ := hN)
      | (refine tabA.wpNew (o := ⟨some 4, _, _, _, _, _⟩) rfl rfl ?_; intro W2 b4 hN; obtain ⟨hb4, hr4, hl4, hz4⟩ := hN
         have f3 := Lib.hid (row_below hr3.out hl4)
         have lt34 : b3 < b4 := by have := hb4.out; have := hz3.out; omega)
      | fail)
    have hle3 : w.heap.size ≤ b3 := Nat.le_of_eq hb3.out.symm
    have HB2 := Lib.hid (hl3.trans (hl4.mono hl3.size))
    clear hb3 hr3 hl3 hz3 hb4 hl4 hz4
    go_loopw [16] (fun ir wr => ∃ i : Nat, ∃ Ta Tb : List Cl, i ≤ n ∧ ir = .int .i64 (i : Int) ∧ Hid (TInv Ta (fun c r => (c, r) ∈ ps.take i)) ∧ Hid (TInv Tb (fun c r => (c, r) ∈ ps.drop (n - i))) ∧ Hid (wr.heap[b3]? = some (.cells (tcells Ta).toArray 27 (0, 0))) ∧ Hid (wr.heap[b4]? = some (.cells (tcells Tb).toArray 27 (0, 0))) ∧ Hid (Below w.heap.size w wr)) (fun ir _ => n - (intOf ir).toNat)
    case atStart => exact ⟨0, T0, T0, Nat.zero_le _, rfl, Lib.hid (tinv_iff tinv_zero (fun c r => by simp)), Lib.hid (tinv_iff tinv_zero (fun c r => by simp [List.drop_of_length_le, HL.out])), f3, hr4, HB2⟩
    case round =>
      obtain ⟨i, Ta, Tb, hi, rfl, VA, VB, R3, R4, RB⟩ := hrel
      have hsz := RB.out.size
      by_cases hlt : i < n
      · obtain ⟨⟨x1, x2⟩, hx⟩ : ∃ p, ps[i]? = some p := ⟨_, List.getElem?_eq_getElem (by have := HL.out; omega)⟩
        obtain ⟨⟨y1, y2⟩, hy⟩ : ∃ p, ps[n - 1 - i]? = some p := ⟨_, List.getElem?_eq_getElem (by have := HL.out; omega)⟩
        obtain ⟨gx0, gx1⟩ := cells2_get ps i _ hx
        obtain ⟨gy0, gy1⟩ := cells2_get ps (n - 1 - i) _ hy
        obtain ⟨bs, o, rfl, hbs, hcell⟩ := HD.out.2.2.2 (by omega)
        have cx0 := hcell _ _ gx0
        have cx1 := hcell _ _ gx1
        have cy0 := hcell _ _ gy0
        have cy1 := hcell _ _ gy1
        rw [← Nat.add_assoc] at cx1 cy1
        dsimp only at cx0 cx1 cy0 cy1
        have CX0 := Lib.hid cx0
        have CX1 := Lib.hid cx1
        have CY0 := Lib.hid cy0
        have CY1 := Lib.hid cy1
        have hxb := HQ.out _ (List.mem_of_getElem? hx)
        have hyb := HQ.out _ (List.mem_of_getElem? hy)
        have HX := Lib.hid hx
        have HY := Lib.hid hy
        have HXB := Lib.hid hxb
        have HYB := Lib.hid hyb
        have hlti : (i : Int) < (n : Int) := by omega
        clear hx hy gx0 gx1 gy0 gy1 hcell cx0 cx1 cy0 cy1 hxb hyb
        go_wp2_with (fail)
        go_cut [6, 7] (fun u6 u7 wx => ∃ b6 b7 : Nat, u6 = .pointer (some ⟨b6, 0, none⟩) ∧ u7 = .pointer (some ⟨b7, 0, none⟩) ∧ wr.heap.size ≤ b6 ∧ wr.heap.size ≤ b7 ∧ Hid (wx.heap[b6]? = some (.cells #[.int .u64 (x1 : Int), .int .u64 (x2 : Int)] 40 (0, 0))) ∧ Hid (wx.heap[b7]? = some (.cells #[.int .u64 (y1 : Int), .int .u64 (y2 : Int)] 40 (0, 0))) ∧ Hid (Below wr.heap.size wr wx))
        case first =>
          refine wp_tree wr.heap.size (.two [0, 1, 2, 3, 4, 5, 6, 7, 8, 9, 10, 11] 12 13 (.one [] 13 (.one [] 14 (.one [] 15 (.fin [])))) (.one [] 12 (.one [] 14 (.one [] 15 (.fin []))))) (by kernel_rfl) (by kernel_rfl) (fun d _ _ _ _ h => by cases d <;> exact h) fun wd hbd => ?_
          intro f hf
          have e1 : IntKind.i64.wrap ((n : Int) - 1) = (n : Int) - 1 := i64w _ (by omega) (by omega)
          have e2 : IntKind.i64.wrap ((n : Int) - 1 - (i : Int)) = (n : Int) - 1 - (i : Int) := i64w _ (by omega) (by omega)
          have e3 : ((n : Int) - 1 - (i : Int)).toNat = n - 1 - i := by omega
          have e4 : (0 : Int) ≤ (n : Int) - 1 - (i : Int) := by omega
          have e5 : (n : Int) - 1 - (i : Int) < (n : Int) := by omega
          have d0 : ∀ z, (f z).cell? ⟨bs, o + i * 2, none⟩ = some (.int .u64 (x1 : Int)) := fun z => ((hf z).cell (p := ⟨bs, _, none⟩) (Nat.lt_of_lt_of_le hbs hsz)).trans ((RB.out.cell (p := ⟨bs, _, none⟩) hbs).trans CX0.out)
          have d1 : ∀ z, (f z).cell? ⟨bs, o + i * 2 + 1, none⟩ = some (.int .u64 (x2 : Int)) := fun z => ((hf z).cell (p := ⟨bs, _, none⟩) (Nat.lt_of_lt_of_le hbs hsz)).trans ((RB.out.cell (p := ⟨bs, _, none⟩) hbs).trans CX1.out)
          have d2 : ∀ z, (f z).cell? ⟨bs, o + (n - 1 - i) * 2, none⟩ = some (.int .u64 (y1 : Int)) := fun z => ((hf z).cell (p := ⟨bs, _, none⟩) (Nat.lt_of_lt_of_le hbs hsz)).trans ((RB.out.cell (p := ⟨bs, _, none⟩) hbs).trans CY0.out)
          have d3 : ∀ z, (f z).cell? ⟨bs, o + (n - 1 - i) * 2 + 1, none⟩ = some (.int .u64 (y2 : Int)) := fun z => ((hf z).cell (p := ⟨bs, _, none⟩) (Nat.lt_of_lt_of_le hbs hsz)).trans ((RB.out.cell (p := ⟨bs, _, none⟩) hbs).trans CY1.out)
          simp only [pickI, Option.toList_some, List.cons_append, List.nil_append, List.getElem?_toArray, List.getElem?_cons_succ, List.getElem?_cons_zero]
          iterate 12 go_big_quiet_step (fail)
          refine wpQuiet_nil ?_
          clear d0 d1 d2 d3 e1 e2 e3 e4 e5 hf f
          refine ⟨?_, ?_⟩
          · obtain ⟨t1, t2, t3, t4, t5⟩ := two_new wd #[.int .u64 0, .int .u64 0] #[.int .u64 (x1 : Int), .int .u64 (x2 : Int)] #[.int .u64 (y1 : Int), .int .u64 (y2 : Int)] 40 wd.heap.size (wd.heap.size + 1) (.inl ⟨rfl, rfl⟩)
            have T1 := Lib.hid t1
            have T2 := Lib.hid t2
            have T3 := Lib.hid (hbd.trans (t3.mono hbd.size))
            have T4 := Lib.hid t4
            have T5 := Lib.hid t5
            have hle := hbd.size
            clear t1 t2 t3 t4 t5
            refine seg_op (by simp only [List.getElem?_toArray, List.getElem?_cons_succ, List.getElem?_cons_zero]; rfl) fun K hK => ?_
            go_simp
            refine hK.out _ _ ⟨hbd.alloc hle _, ?_⟩
            clear hK K
            intro f hf
            refine wpQuiet_nil ?_
            clear hf f
            refine seg_op (by simp only [List.getElem?_toArray, List.getElem?_cons_succ, List.getElem?_cons_zero]; rfl) fun K hK => ?_
            go_simp
            refine hK.out _ _ ⟨(hbd.alloc hle _).alloc (by simp; omega) _, ?_⟩
            clear hK K
            intro f hf
            refine wpQuiet_nil ?_
            clear hf f
            refine seg_op (by simp only [List.getElem?_toArray, List.getElem?_cons_succ, List.getElem?_cons_zero]; rfl) fun K hK => ?_
            rw [if_pos (by rfl)]
            refine wp_store_row 40 (.tmp 6) (.tmp 22) rfl wd.heap.size #[.int .u64 (x1 : Int), .int .u64 (x2 : Int)] rfl rfl 40 #[.int .u64 0, .int .u64 0] T4.out (by kernel_rfl) rfl (by simp [Value.oneCell']) ?_
            refine hK.out _ _ ⟨below_setRow ((hbd.alloc hle _).alloc (by simp; omega) _) (by omega) _, ?_⟩
            clear hK K
            intro f hf
            refine wpQuiet_nil ?_
            clear hf f
            refine seg_op (by simp only [List.getElem?_toArray, List.getElem?_cons_succ, List.getElem?_cons_zero]; rfl) fun K hK => ?_
            rw [if_pos (by rfl)]
            refine wp_store_row 40 (.tmp 7) (.tmp 30) rfl (wd.heap.size + 1) #[.int .u64 (y1 : Int), .int .u64 (y2 : Int)] rfl rfl 40 #[.int .u64 0, .int .u64 0] T5.out (by kernel_rfl) rfl (by simp [Value.oneCell']) ?_
            refine hK.out _ _ ⟨below_setRow (below_setRow ((hbd.alloc hle _).alloc (by simp; omega) _) (by omega) _) (by omega) _, ?_⟩
            clear hK K
            intro f hf
            refine wpQuiet_nil ?_
            clear hf f
            go_wp2_with (fail)
            go_meet
            case rel => exact ⟨wd.heap.size, (wd.heap.size + 1), rfl, rfl, by omega, by omega, T1, T2, T3⟩
          · obtain ⟨t1, t2, t3, t4, t5⟩ := two_new wd #[.int .u64 0, .int .u64 0] #[.int .u64 (x1 : Int), .int .u64 (x2 : Int)] #[.int .u64 (y1 : Int), .int .u64 (y2 : Int)] 40 (wd.heap.size + 1) wd.heap.size (.inr ⟨rfl, rfl⟩)
            have T1 := Lib.hid t1
            have T2 := Lib.hid t2
            have T3 := Lib.hid (hbd.trans (t3.mono hbd.size))
            have T4 := Lib.hid t4
            have T5 := Lib.hid t5
            have hle := hbd.size
            clear t1 t2 t3 t4 t5
            refine seg_op (by simp only [List.getElem?_toArray, List.getElem?_cons_succ, List.getElem?_cons_zero]; rfl) fun K hK => ?_
            go_simp
            refine hK.out _ _ ⟨hbd.alloc hle _, ?_⟩
            clear hK K
            intro f hf
            refine wpQuiet_nil ?_
            clear hf f
            refine seg_op (by simp only [List.getElem?_toArray, List.getElem?_cons_succ, List.getElem?_cons_zero]; rfl) fun K hK => ?_
            go_simp
            refine hK.out _ _ ⟨(hbd.alloc hle _).alloc (by simp; omega) _, ?_⟩
            clear hK K
            intro f hf
            refine wpQuiet_nil ?_
            clear hf f
            refine seg_op (by simp only [List.getElem?_toArray, List.getElem?_cons_succ, List.getElem?_cons_zero]; rfl) fun K hK => ?_
            rw [if_pos (by rfl)]
            refine wp_store_row 40 (.tmp 6) (.tmp 22) rfl (wd.heap.size + 1) #[.int .u64 (x1 : Int), .int .u64 (x2 : Int)] rfl rfl 40 #[.int .u64 0, .int .u64 0] T4.out (by kernel_rfl) rfl (by simp [Value.oneCell']) ?_
            refine hK.out _ _ ⟨below_setRow ((hbd.alloc hle _).alloc (by simp; omega) _) (by omega) _, ?_⟩
            clear hK K
            intro f hf
            refine wpQuiet_nil ?_
            clear hf f
            refine seg_op (by simp only [List.getElem?_toArray, List.getElem?_cons_succ, List.getElem?_cons_zero]; rfl) fun K hK => ?_
            rw [if_pos (by rfl)]
            refine wp_store_row 40 (.tmp 7) (.tmp 30) rfl wd.heap.size #[.int .u64 (y1 : Int), .int .u64 (y2 : Int)] rfl rfl 40 #[.int .u64 0, .int .u64 0] T5.out (by kernel_rfl) rfl (by simp [Value.oneCell']) ?_
            refine hK.out _ _ ⟨below_setRow (below_setRow ((hbd.alloc hle _).alloc (by simp; omega) _) (by omega) _) (by omega) _, ?_⟩
            clear hK K
            intro f hf
            refine wpQuiet_nil ?_
            clear hf f
            go_wp2_with (fail)
            go_meet
            case rel => exact ⟨(wd.heap.size + 1), wd.heap.size, rfl, rfl, by omega, by omega, T1, T2, T3⟩
        case rest =>
          obtain ⟨b6, b7, rfl, rfl, hb6, hb7, Q6, Q7, BX⟩ := hcut
          have hbx := BX.out
          have l3 := (Array.getElem?_eq_some_iff.1 R3.out).1
          have l4 := (Array.getElem?_eq_some_iff.1 R4.out).1
          have S3 := Lib.hid ((BX.out.block b3 l3).trans R3.out)
          have S4 := Lib.hid ((BX.out.block b4 l4).trans R4.out)
          have SB := Lib.hid (RB.out.trans (BX.out.mono hsz))
          have p0 := cell_of_row wc _ 0 _ _ _ Q6.out
          have p1 := cell_of_row wc _ 1 _ _ _ Q6.out
          have q0 := cell_of_row wc _ 0 _ _ _ Q7.out
          have q1 := cell_of_row wc _ 1 _ _ _ Q7.out
          simp at p0 p1 q0 q1
          have HTA := Lib.hid VA.out.1.1
          have HTB := Lib.hid VB.out.1.1
          have hoa := fun W => old8_any Ta x1 x2 W VA.out.1
          have hob := fun W => old8_any Tb y1 y2 W VB.out.1
          have hxi : (x1 : Int) ≤ 18000000000000000000 ∨ True := .inr trivial
          have hb3w := l3
          have hb4w := l4
          clear hbx l3 l4 hxi R3 R4 RB
          by_cases c1 : x1 < 1
          · have g1 : decide ((x1 : Int) < 1) = true := by simp; omega
            clear c1 hoa hob
            go_wp2_with (first
              | (go_at_call 14; refine (lives14 _).mono ?_; rintro e w9 ⟨rfl, hb9⟩)
              | fail)
            go_ret
            exact ⟨rfl, SB.out.trans (hb9.mono SB.out.size)⟩
          have c1' : decide ((x1 : Int) < 1) = false := by simp; omega
          by_cases c2 : 8 < x1
          · have g2 : decide ((8 : Int) < (x1 : Int)) = true := by simp; omega
            clear c1 c2 hoa hob
            go_wp2_with (first
              | (go_at_call 14; refine (lives14 _).mono ?_; rintro e w9 ⟨rfl, hb9⟩)
              | fail)
            go_ret
            exact ⟨rfl, SB.out.trans (hb9.mono SB.out.size)⟩
          have c2' : decide ((8 : Int) < (x1 : Int)) = false := by simp; omega
          by_cases c3 : y1 < 1
          · have g3 : decide ((y1 : Int) < 1) = true := by simp; omega
            clear c1 c2 c3 hoa hob
            go_wp2_with (first
              | (go_at_call 14; refine (lives14 _).mono ?_; rintro e w9 ⟨rfl, hb9⟩)
              | fail)
            go_ret
            exact ⟨rfl, SB.out.trans (hb9.mono SB.out.size)⟩
          have c3' : decide ((y1 : Int) < 1) = false := by simp; omega
          by_cases c4 : 8 < y1
          · have g4 : decide ((8 : Int) < (y1 : Int)) = true := by simp; omega
            clear c1 c2 c3 c4 hoa hob
            go_wp2_with (first
              | (go_at_call 14; refine (lives14 _).mono ?_; rintro e w9 ⟨rfl, hb9⟩)
              | fail)
            go_ret
            exact ⟨rfl, SB.out.trans (hb9.mono SB.out.size)⟩
          have c4' : decide ((8 : Int) < (y1 : Int)) = false := by simp; omega
          have hx8 : 1 ≤ x1 ∧ x1 ≤ 8 := by omega
          have hy8 : 1 ≤ y1 ∧ y1 ≤ 8 := by omega
          clear c1 c2 c3 c4
          rw [at8_in hx8] at hoa
          rw [at8_in hy8] at hob
          cases ho : oldN (Ta.getD (x1 - 1) (0, 0)).1 x2
          · cases ho2 : oldN (Tb.getD (y1 - 1) (0, 0)).1 y2
            · rw [ho] at hoa
              rw [ho2] at hob
              have va := tinv_add VA.out x1 x2 hx8 HXB.out.2 ho
              have vb := tinv_add VB.out y1 y2 hy8 HYB.out.2 ho2
              have aa := fun W => add8_any Ta x1 x2 W VA.out.1 HXB.out.2
              have ab := fun W => add8_any Tb y1 y2 W VB.out.1 HYB.out.2
              generalize addT Ta x1 x2 = Ua at *
              generalize addT Tb y1 y2 = Ub at *
              generalize (!decide (Ua = Ta)) = Ba at *
              generalize (!decide (Ub = Tb)) = Bb at *
              have OA := Lib.hid hoa
              have OB := Lib.hid hob
              have AA := Lib.hid aa
              have AB := Lib.hid ab
              have WA := Lib.hid va
              have WB := Lib.hid vb
              have HUA := Lib.hid va.1.1
              have HUB := Lib.hid vb.1.1
              clear hoa hob aa ab va vb ho ho2 hx8 hy8
              go_wp2_with (first
                | (refine tabA.wpLoadw (o := ⟨some 50, _, _, _, _, _⟩) (by rfl) (.tmp 3) rfl rfl S3.out HTA.out ?_)
                | fail)
              refine (OA.out _).mono ?_
              rintro e w1 ⟨rfl, hb1⟩
              have s3 := Lib.hid (row_below S3.out hb1)
              have s4 := Lib.hid (row_below S4.out hb1)
              have s6 := Lib.hid (row_below Q6.out hb1)
              have s7 := Lib.hid (row_below Q7.out hb1)
              have sb := Lib.hid (SB.out.trans (hb1.mono SB.out.size))
              clear hb1 S3 S4 Q6 Q7 SB p0 p1 q0 q1
              have p0 := cell_of_row w1 _ 0 _ _ _ s6.out
              have p1 := cell_of_row w1 _ 1 _ _ _ s6.out
              have q0 := cell_of_row w1 _ 0 _ _ _ s7.out
              have q1 := cell_of_row w1 _ 1 _ _ _ s7.out
              simp at p0 p1 q0 q1
              go_wp2_with (first
                | (refine tabA.wpLoadw (o := ⟨some 58, _, _, _, _, _⟩) (by rfl) (.tmp 4) rfl rfl s4.out HTB.out ?_)
                | fail)
              refine (OB.out _).mono ?_
              rintro e w2 ⟨rfl, hb2⟩
              have u3 := Lib.hid (row_below s3.out hb2)
              have u4 := Lib.hid (row_below s4.out hb2)
              have u6 := Lib.hid (row_below s6.out hb2)
              have u7 := Lib.hid (row_below s7.out hb2)
              have ub := Lib.hid (sb.out.trans (hb2.mono sb.out.size))
              clear hb2 s3 s4 s6 s7 sb p0 p1 q0 q1
              have p0 := cell_of_row w2 _ 0 _ _ _ u6.out
              have p1 := cell_of_row w2 _ 1 _ _ _ u6.out
              simp at p0 p1
              go_wp2_with (first
                | (refine tabA.wpLoad (o := ⟨some 67, _, _, _, _, _⟩) rfl (.tmp 3) rfl rfl u3.out HTA.out ?_)
                | fail)
              refine (AA.out _).mono ?_
              rintro e w3 ⟨rfl, hb3⟩
              have m3 := Lib.hid (row_below u3.out hb3)
              have m4 := Lib.hid (row_below u4.out hb3)
              have m7 := Lib.hid (row_below u7.out hb3)
              have mb := Lib.hid (ub.out.trans (hb3.mono ub.out.size))
              clear hb3 u3 u4 u6 u7 ub p0 p1
              go_wp2_with (first
                | (refine tabA.wpStore rfl (.tmp 3) (.tmp 73) rfl rfl rfl m3.out HTA.out HUA.out ?_; intro w4 n3 hg4 hz4
                   have n4 := Lib.hid (row_far m4.out hg4 (fun e => by have := Option.some.inj e; omega))
                   have n7 := Lib.hid (row_far m7.out hg4 (fun e => by have := Option.some.inj e; have := hle3; omega))
                   have nb := Lib.hid (mb.out.grown hg4 mb.out.size (fun k e => by cases e; exact hle3))
                   have q0 := cell_of_row w4 _ 0 _ _ _ n7.out
                   have q1 := cell_of_row w4 _ 1 _ _ _ n7.out
                   simp at q0 q1)
                | (refine tabA.wpLoad (o := ⟨some 76, _, _, _, _, _⟩) rfl (.tmp 4) rfl rfl n4.out HTB.out ?_)
                | fail)
              refine (AB.out _).mono ?_
              rintro e w5 ⟨rfl, hb5⟩
              have v3 := Lib.hid (row_below n3.out hb5)
              have v4 := Lib.hid (row_below n4.out hb5)
              have vb' := Lib.hid (nb.out.trans (hb5.mono nb.out.size))
              clear hb5 m3 m4 m7 mb hg4 hz4 n3 n4 n7 nb q0 q1
              go_wp2_with (first
                | (refine tabA.wpStore rfl (.tmp 4) (.tmp 82) rfl rfl rfl v4.out HTB.out HUB.out ?_; intro w6 k4 hg6 hz6
                   have k3 := Lib.hid (row_far v3.out hg6 (fun e => by have := Option.some.inj e; omega))
                   have kb := Lib.hid (vb'.out.grown hg6 vb'.out.size (fun k e => by cases e; omega)))
                | fail)
              go_roundw
              case rel =>
                refine ⟨i + 1, Ua, Ub, by omega, by go_num, Lib.hid (tinv_iff WA.out fun c r => ?_), Lib.hid (tinv_iff WB.out fun c r => ?_), k3, k4, kb⟩
                · rw [mem_take_succ HX.out]; simp
                · rw [show n - i = n - 1 - i + 1 by omega, show n - (i + 1) = n - 1 - i by omega, mem_drop_pred HY.out]; simp
              case measure => simp [intOf]; omega
            · rw [ho] at hoa
              rw [ho2] at hob
              have OA := Lib.hid hoa
              have OB := Lib.hid hob
              clear hoa hob ho ho2 hx8 hy8
              go_wp2_with (first
                | (refine tabA.wpLoadw (o := ⟨some 50, _, _, _, _, _⟩) (by rfl) (.tmp 3) rfl rfl S3.out HTA.out ?_)
                | fail)
              refine (OA.out _).mono ?_
              rintro e w1 ⟨rfl, hb1⟩
              have s4 := Lib.hid (row_below S4.out hb1)
              have s7 := Lib.hid (row_below Q7.out hb1)
              have sb := Lib.hid (SB.out.trans (hb1.mono SB.out.size))
              clear hb1 S3 S4 Q6 Q7 SB p0 p1 q0 q1
              have q0 := cell_of_row w1 _ 0 _ _ _ s7.out
              have q1 := cell_of_row w1 _ 1 _ _ _ s7.out
              simp at q0 q1
              go_wp2_with (first
                | (refine tabA.wpLoadw (o := ⟨some 58, _, _, _, _, _⟩) (by rfl) (.tmp 4) rfl rfl s4.out HTB.out ?_)
                | fail)
              refine (OB.out _).mono ?_
              rintro e w2 ⟨rfl, hb2⟩
              have ub := Lib.hid (sb.out.trans (hb2.mono sb.out.size))
              clear hb2 s4 s7 sb q0 q1
              go_wp2_with (first
                | (go_at_call 14; refine (lives14 _).mono ?_; rintro e w9 ⟨rfl, hb9⟩)
                | fail)
              go_ret
              exact ⟨rfl, ub.out.trans (hb9.mono ub.out.size)⟩
          · rw [ho] at hoa
            have OA := Lib.hid hoa
            clear hoa hob ho hx8 hy8
            go_wp2_with (first
              | (refine tabA.wpLoadw (o := ⟨some 50, _, _, _, _, _⟩) (by rfl) (.tmp 3) rfl rfl S3.out HTA.out ?_)
              | fail)
            refine (OA.out _).mono ?_
            rintro e w1 ⟨rfl, hb1⟩
            have sb := Lib.hid (SB.out.trans (hb1.mono SB.out.size))
            clear hb1 S3 S4 Q6 Q7 SB p0 p1 q0 q1
            go_wp2_with (first
              | (go_at_call 14; refine (lives14 _).mono ?_; rintro e w9 ⟨rfl, hb9⟩)
              | fail)
            go_ret
            exact ⟨rfl, sb.out.trans (hb9.mono sb.out.size)⟩
      · obtain rfl : i = n := by omega
        have va := VA.out
        have vb := VB.out
        rw [List.take_of_length_le (by rw [HL.out]; exact Nat.le_refl _)] at va
        rw [Nat.sub_self, List.drop_zero] at vb
        obtain rfl := tinv_uniq va vb
        have VV := Lib.hid va
        have HTA := Lib.hid va.1.1
        have hh := fun W (x : Nat × Nat) (hx : x.2 < 18446744073709551616) => has8_any Ta x.1 x.2 W va.1 hx
        have ho := fun W (x : Nat × Nat) => old8_any Ta x.1 x.2 W va.1
        have CH := Lib.hid hh
        have CO := Lib.hid ho
        clear va vb VA VB hh ho
        go_wp2_with (fail)
        go_loopw [87] (fun jr wq => ∃ j : Nat, j ≤ i ∧ jr = .int .i64 (j : Int) ∧ Hid (wq.heap[b3]? = some (.cells (tcells Ta).toArray 27 (0, 0))) ∧ Hid (wq.heap[b4]? = some (.cells (tcells Ta).toArray 27 (0, 0))) ∧ Hid (Below w.heap.size w wq)) (fun jr _ => i - (intOf jr).toNat)
        case atStart => exact ⟨0, Nat.zero_le _, rfl, R3, R4, RB⟩
        case round =>
          obtain ⟨j, hj, rfl, P3, P4, PB⟩ := hrel
          have hpz := PB.out.size
          by_cases hlt2 : j < i
          · obtain ⟨⟨x1, x2⟩, hx⟩ : ∃ p, ps[j]? = some p := ⟨_, List.getElem?_eq_getElem (by have := HL.out; omega)⟩
            obtain ⟨gx0, gx1⟩ := cells2_get ps j _ hx
            obtain ⟨bs, o, rfl, hbs, hcell⟩ := HD.out.2.2.2 (by omega)
            have cx0 := hcell _ _ gx0
            have cx1 := hcell _ _ gx1
            rw [← Nat.add_assoc] at cx1
            have d0 : wr.cell? ⟨bs, o + j * 2, none⟩ = some (.int .u64 (x1 : Int)) := (PB.out.cell (p := ⟨bs, _, none⟩) hbs).trans cx0
            have d1 : wr.cell? ⟨bs, o + j * 2 + 1, none⟩ = some (.int .u64 (x2 : Int)) := (PB.out.cell (p := ⟨bs, _, none⟩) hbs).trans cx1
            have hxb := HQ.out _ (List.mem_of_getElem? hx)
            obtain ⟨h8, htold⟩ := tinv_told VV.out (c := x1) (r := x2) (List.mem_of_getElem? hx)
            have ch := fun W => CH.out W (x1, x2) hxb.2
            have co := fun W => CO.out W (x1, x2)
            dsimp only at ch co
            rw [at8_in h8] at ch co
            have hltj : (j : Int) < (i : Int) := by omega
            have l3 := (Array.getElem?_eq_some_iff.1 P3.out).1
            have l4 := (Array.getElem?_eq_some_iff.1 P4.out).1
            have Y3 := Lib.hid (row_old (.cells #[.int .u64 (x1 : Int), .int .u64 (x2 : Int)] 40) P3.out)
            have Y4 := Lib.hid (row_old (.cells #[.int .u64 (x1 : Int), .int .u64 (x2 : Int)] 40) P4.out)
            have YB := Lib.hid (PB.out.alloc hpz (.cells #[.int .u64 (x1 : Int), .int .u64 (x2 : Int)] 40))
            have Y9 := Lib.hid (heap_alloc_new wr (.cells #[.int .u64 (x1 : Int), .int .u64 (x2 : Int)] 40))
            clear hx gx0 gx1 hcell cx0 cx1 hxb h8 l3 l4
            cases hh : hasN (Ta.getD (x1 - 1) (0, 0)) x2
            · have hold : oldN (Ta.getD (x1 - 1) (0, 0)).1 x2 = true := by rcases htold with h | h; rw [hh] at h; cases h; exact h
              rw [hh] at ch
              rw [hold] at co
              have XH := Lib.hid ch
              have XO := Lib.hid co
              clear hh hold htold ch co
              go_wp2_with (first
                | (refine tabA.wpLoad (o := ⟨some 91, _, _, _, _, _⟩) rfl (.tmp 3) rfl rfl Y3.out HTA.out ?_)
                | fail)
              refine (XH.out _).mono ?_
              rintro e w1 ⟨rfl, hb1⟩
              have s3 := Lib.hid (row_below Y3.out hb1)
              have s4 := Lib.hid (row_below Y4.out hb1)
              have s9 := Lib.hid (row_below Y9.out hb1)
              have sb := Lib.hid (YB.out.trans (hb1.mono YB.out.size))
              have p0 := cell_of_row w1 _ 0 _ _ _ s9.out
              have p1 := cell_of_row w1 _ 1 _ _ _ s9.out
              simp at p0 p1
              clear hb1 Y3 Y4 Y9 YB
              go_wp2_with (first
                | (refine tabA.wpLoadw (o := ⟨some 99, _, _, _, _, _⟩) (by rfl) (.tmp 3) rfl rfl s3.out HTA.out ?_)
                | fail)
              refine (XO.out _).mono ?_
              rintro e w2 ⟨rfl, hb2⟩
              have u3 := Lib.hid (row_below s3.out hb2)
              have u4 := Lib.hid (row_below s4.out hb2)
              have ub := Lib.hid (sb.out.trans (hb2.mono sb.out.size))
              clear hb2 s3 s4 s9 sb p0 p1
              go_wp2_with (fail)
              go_roundw
              case rel => exact ⟨j + 1, by omega, by go_num, u3, u4, ub⟩
              case measure => simp [intOf]; omega
            · rw [hh] at ch
              have XH := Lib.hid ch
              clear hh htold ch co
              go_wp2_with (first
                | (refine tabA.wpLoad (o := ⟨some 91, _, _, _, _, _⟩) rfl (.tmp 3) rfl rfl Y3.out HTA.out ?_)
                | fail)
              refine (XH.out _).mono ?_
              rintro e w1 ⟨rfl, hb1⟩
              have s3 := Lib.hid (row_below Y3.out hb1)
              have s4 := Lib.hid (row_below Y4.out hb1)
              have sb := Lib.hid (YB.out.trans (hb1.mono YB.out.size))
              clear hb1 Y3 Y4 Y9 YB
              go_wp2_with (fail)
              go_roundw
              case rel => exact ⟨j + 1, by omega, by go_num, s3, s4, sb⟩
              case measure => simp [intOf]; omega
          · go_wp2_with (first
              | (refine tabA.wpLoad (o := ⟨some 108, _, _, _, _, _⟩) rfl (.tmp 3) rfl rfl P3.out HTA.out ?_)
              | (refine tabA.wpLoad (o := ⟨some 109, _, _, _, _, _⟩) rfl (.tmp 4) rfl rfl P4.out HTA.out ?_)
              | (refine tabA.wpEqlw (o := ⟨some 110, _, _, _, _, _⟩) rfl (.tmp 108) (.tmp 109) _ rfl rfl rfl HTA.out HTA.out (b := true) (by simp) ?_)
              | (go_at_call 14; refine (lives14 _).mono ?_; rintro e w9 ⟨rfl, hb9⟩)
              | fail)
            go_ret
            exact ⟨rfl, PB.out.trans (hb9.mono PB.out.size)⟩
theorem doneOrder_walk {w : World} {A : Option Addr} {n c : Nat} {ps : List (Nat × Nat)} (h : Rd w w.heap.size 2 A n c (cells2 ps)) (hb : ps.length = n ∧ ∀ q ∈ ps, q.1 < 18446744073709551616 ∧ q.2 < 18446744073709551616) :
    Calls Try.prog 4 #[.slice A n c] w fun e w' => e = .returned (.bool true) ∧ Below w.heap.size w w' := doneOrder_at A n c ps w h hb.1 hb.2

namespace doneOrder
open Go.ChangeShapes Go.WideShapes Go.ChangeAt
set_option maxRecDepth 100000 in
theorem lifted (os : Os) (started : os.Started) (H : Type) (enc : TypeId × Value → H) :
    ReturnsInHanded {} Try.checked os 4 .any (Rows.doneOrderSpec.pre6 enc Try.prog Try.f4 Rows.doneOrderRow.domain false) (Rows.doneOrderSpec.post enc Try.prog Try.f4 false true false false) := by
  refine returnsInHanded_of_change (C := Try.checked) own started (by kernel_rfl) Try.func4
    (ChangeSpec.witness6 (enc := enc) (C := Try.checked) false ⟨#[], #[.slice none 0 0], []⟩ 8 (by kernel_rfl) (by kernel_rfl) (by kernel_rfl) (by kernel_rfl)) ?_
  intro W base args ds gs before hval0 hW _ _
  have hval : ∀ (j : Nat) t v, Try.f4.params[j]? = some t → args[j]? = some v → Value.okWide Try.prog W .any base t v := hval0
  have hW' := hW
  obtain ⟨p, q, hA0, hV, rfl, hfz, hnd⟩ := hW
  have hA : DataW.TrodAll enc Try.prog W 0 (fun _ => true) true Try.f4.params.toList args.toList ds p := hA0
  rw [Try.params4] at hA hval
  obtain ⟨v0, vs0, d0, ds0, p0, q0, hargs, rfl, rfl, h0, r0⟩ := trodAll_cons hA
  obtain ⟨rfl, rfl, rfl⟩ := trodAll_nil r0
  obtain rfl : args = #[v0] := by cases args; simp_all
  obtain ⟨rfl, rfl⟩ := trodVars_none hV
  have k0 := h0
  have lt0 : ∀ x ∈ p0, x.block < W.heap.size := by obtain ⟨m, hm⟩ := k0; exact DataW.trod_lt m _ _ _ hm
  obtain ⟨a0, n0, c0, l0, rfl, w0, b0⟩ := dec_arr2s Try.underlying39 Try.underlying40 Try.underlying22 (by kernel_rfl) (by kernel_rfl) (hval 0 39 v0 rfl rfl) h0
  clear hA0 hval0
  refine (doneOrder_walk w0 b0).mono fun e W' ⟨he, bel⟩ => ?_
  subst he
  exact ⟨_, rfl, _, _, _, [], _, [], hW', trodAll_mk1 (shut_bool Try.underlying4 _), (trodAll_cons_mk (Below.trod laidOut (by kernel_rfl) (of_decide_eq_true (by kernel_rfl)) k0 bel lt0) trodAll_mk0), rfl, bel.frame _, fun h => by cases h⟩

theorem over : Rows.doneOrderRow.holds Try.pinned (OpenSpec.ofChange Rows.doneOrderSpec) :=
  OpenClaim.holds_of_wide 4 Try.f4 rfl rfl rfl rfl rfl rfl rfl ⟨rfl, rfl, rfl, rfl, rfl⟩ rfl rfl rfl rfl rfl (by kernel_rfl) Try.func4 (by kernel_rfl)
    (of_decide_eq_true (by kernel_rfl)) (by unfold Func.isWrapper; first | (rw [if_pos (by decide +kernel)]; kernel_rfl) | (rw [if_neg (by decide +kernel)]; exact ⟨rfl, rfl⟩))
    (fun os started H enc _ => lifted os started H enc)
/-- The given statement. -/
theorem proved : Rows.DoneOrderSaid := over
end doneOrder

end Go.Proofs.Ytlbjbkhnicbibaa
