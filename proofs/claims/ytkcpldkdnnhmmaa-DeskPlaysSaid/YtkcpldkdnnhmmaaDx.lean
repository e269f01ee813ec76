/- Write. -/
import Derived.Test.YtkcpldkdnnhmmaaDw
import Derived.Test.YtkcpldkdnnhmmaaTreeF
namespace Go.Proofs.Ytkcpldkdnnhmmaa
open Go.RowKit
set_option maxRecDepth 20000

theorem keeps_cell {F : Nat → Prop} {w w' : World} {b o : Nat} {u : Value} (h : Keeps F w w') (hc : w.cell? ⟨b, o, none⟩ = some u) (hF : ¬ F b) : w'.cell? ⟨b, o, none⟩ = some u := by
  have hl := World.block_lt_of_cell? w _ hc
  have hb := h.block b hl hF
  simp only [World.cell?, hb] at hc ⊢
  exact hc
theorem Mv.ofw {w w1 w' : World} {B g : Nat} {v : Value} {t' : Dk} (h : Below w.heap.size w w1) (k : Mv w1 B g v t' w') : Mv w B g v t' w' := Mv.after h k
set_option maxHeartbeats 2000000 in
theorem write_any {w : World} {B g : Nat} {v : Value} {t : Dk} (h : Dg w B g v t) (hB : B ≤ w.heap.size) (c r i : Nat) (hi : i < 18446744073709551616) :
    Calls Try.prog 17 #[.pointer (some ⟨g, 0, none⟩), .int .u64 (c : Int), .int .u64 (r : Int), .int .u64 (i : Int)] w fun e w' => e = .returned (.int .i64 (t.wrE c r i)) ∧ Mv w B g v (t.write c r i) w' := by
  obtain ⟨W, hW, hz, r0, r1, hb⟩ := Qu.boxes2 w #[.int .u64 (c : Int)] #[.int .u64 (r : Int)] 29 29
  have h1 := h.below hb
  have hM := made_any h1
  have hFu := full_any h1
  have b0 := cell_of_row W _ 0 _ _ _ r0
  have b1 := cell_of_row W _ 0 _ _ _ r1
  have hroom := h.ok.room
  obtain ⟨A, cc, rfl⟩ := h.form
  have hC := contains_any (F := 31) (caps := #[.pointer (some ⟨w.heap.size, 0, none⟩), .pointer (some ⟨w.heap.size + 1, 0, none⟩)]) (p := Wt.wr c r) ((ownsRow_rd h1.own).more (Nat.le_refl _)) rfl (by omega) (fun W' hb' x _ => writeC_any x c r _ _ W' (Qu.kept hb' b0 (by omega)) (Qu.kept hb' b1 (by omega))) enters_w
  have HM := Lib.hid hM
  have HFU := Lib.hid hFu
  have HC := Lib.hid hC
  have HB := Lib.hid hb
  have HB2 := Lib.hid hB
  have H1 := Lib.hid h1
  have c10 := h1.c10
  have B0 := Lib.hid b0
  have B1 := Lib.hid b1
  have HX := Lib.hid (fun x hx => h.ok.ix x hx)
  have HR := Lib.hid hroom
  have HI := Lib.hid hi
  have HZ := Lib.hid hz
  have HLT := Lib.hid h.lt
  have HFT := Lib.hid (fun j (hj : Foot g (.slice A t.l.length cc) j) => (h.foot hj).2)
  clear h h1 hM hFu hC hb hB r0 r1 hz
  unfold Dk.wrE Dk.write
  by_cases h0 : i = 0
  · rw [if_pos h0, if_pos h0]
    subst h0
    subst hW
    go_enter Try.func17, Try.ntmps17
    go_wp2_with (first
      | (go_at_call 34; refine HM.out.mono ?_; rintro e w2 ⟨rfl, rfl⟩)
      | fail)
    go_ret
    exact ⟨rfl, Mv.after HB.out (Mv.same H1.out (Below.refl _ _))⟩
  · rw [if_neg h0, if_neg h0]
    have d0 : decide ((i : Int) = 0) = false := by simp; omega
    have d1 : ¬ (i : Int) = 0 := by omega
    have d2 : ((i : Int) == 0) = false := by rw [beq_nat0]; simpa using h0
    cases hany : t.l.any (Wt.wr c r) with
    | true =>
      rw [hany] at HC
      clear hany
      subst hW
      go_enter Try.func17, Try.ntmps17
      go_wp2_with (first
        | (go_at_call 34; refine HM.out.mono ?_; rintro e w2 ⟨rfl, rfl⟩)
        | (go_at_call 35; refine HC.out.mono ?_; rintro e w2 ⟨rfl, hb2⟩)
        | fail)
      go_ret
      exact ⟨rfl, Mv.after HB.out (Mv.same H1.out hb2)⟩
    | false =>
      rw [hany] at HC
      simp only [Bool.false_eq_true, if_false]
      clear hany
      cases hfull : t.full with
      | true =>
        have HFL := Lib.hid hfull
        clear hfull HFU
        subst hW
        go_enter Try.func17, Try.ntmps17
        go_wp2_with (first
          | (go_at_call 34; refine HM.out.mono ?_; rintro e w2 ⟨rfl, rfl⟩)
          | (go_at_call 35; refine HC.out.mono ?_; rintro e w2 ⟨rfl, hb2⟩
             have HF3 := full_any (H1.out.below hb2)
             rw [HFL.out] at HF3
             have HF3 := Lib.hid HF3
             have HB3 := Lib.hid hb2
             clear hb2)
          | (go_at_call 36; refine HF3.out.mono ?_; rintro e w3 ⟨rfl, hb3⟩)
          | fail)
        go_ret
        exact ⟨rfl, Mv.after HB.out (Mv.same H1.out (HB3.out.trans (hb3.mono HB3.out.size)))⟩
      | false =>
        have HFL := Lib.hid hfull
        clear hfull HFU
        subst hW
        go_enter Try.func17, Try.ntmps17
        go_wp2_with (first
          | (go_at_call 34; refine HM.out.mono ?_; rintro e w2 ⟨rfl, rfl⟩)
          | (go_at_call 35; refine HC.out.mono ?_; rintro e w2 ⟨rfl, hb2⟩
             have HF3 := full_any (H1.out.below hb2)
             rw [HFL.out] at HF3
             have HF3 := Lib.hid HF3
             have HB3 := Lib.hid hb2
             clear hb2)
          | (go_at_call 36; refine HF3.out.mono ?_; rintro e w3 ⟨rfl, hb3⟩
             have HB4 := Lib.hid (HB3.out.trans (hb3.mono HB3.out.size))
             clear hb3)
          | fail)
        have H3 := Lib.hid (H1.out.below HB4.out)
        obtain ⟨W0, hW0⟩ : ∃ W0, W0 = (w.alloc (.cells #[.int .u64 (c : Int)] 29)).alloc (.cells #[.int .u64 (r : Int)] 29) := ⟨_, rfl⟩
        rw [← hW0] at HB4 HZ B0 B1 HB
        have HP : Hid (w3.cell? ⟨w.heap.size, 0, none⟩ = some (.int .u64 (c : Int))) := Lib.hid (Qu.kept HB4.out B0.out (by have := HZ.out; omega))
        have HQ : Hid (w3.cell? ⟨w.heap.size + 1, 0, none⟩ = some (.int .u64 (r : Int))) := Lib.hid (Qu.kept HB4.out B1.out (by have := HZ.out; omega))
        have hfoot := fun j (hj : Foot g (.slice A t.l.length cc) j) => HFT.out j hj
        have HNP : Hid (¬ Foot g (.slice A t.l.length cc) w.heap.size) := Lib.hid (fun hj => absurd (hfoot w.heap.size hj) (Nat.lt_irrefl _))
        have HNQ : Hid (¬ Foot g (.slice A t.l.length cc) (w.heap.size + 1)) := Lib.hid (fun hj => absurd (hfoot (w.heap.size + 1) hj) (by omega))
        have HB3B := Lib.hid (Nat.le_trans HB2.out (Nat.le_trans HB.out.size HB4.out.size))
        have HLEN : Hid (t.l.length + [(⟨c, r, i, 0, 0, 0⟩ : Wt)].length ≤ 64) := Lib.hid (by
          have := HFL.out
          unfold Dk.full at this
          simp at this
          simp
          omega)
        have HIX : Hid (∀ x ∈ t.l ++ [(⟨c, r, i, 0, 0, 0⟩ : Wt)], x.ix < 18446744073709551616) := Lib.hid (fun x hx => by
          rcases List.mem_append.1 hx with hx | hx
          · exact HX.out x hx
          · cases List.mem_singleton.1 hx
            exact HI.out)
        clear hfoot
        refine wp_treeF (Foot g (.slice A t.l.length cc)) (.two [0, 1, 2, 3, 5, 6, 7, 8] 4 9 (.one [] 9 (.one [] 10 (.one [11, 12] 13 (.fin [])))) (.one [] 4 (.one [] 10 (.one [11, 12] 13 (.fin []))))) (by kernel_rfl) (by kernel_rfl) (fun d _ _ _ _ h => by cases d <;> exact h) fun wd hbd => ?_
        intro q hq
        have F2 := fun z => keeps_cell (hq z) HP.out (HNP.out)
        have F3 := fun z => keeps_cell (hq z) HQ.out (HNQ.out)
        simp only [pickI, Option.toList_some, List.cons_append, List.nil_append, List.getElem?_toArray, List.getElem?_cons_succ, List.getElem?_cons_zero]
        try go_frame
        iterate 8 go_big_quiet_step (fail)
        refine wpQuiet_nil ?_
        clear hq q F2 F3
        have hWd := Lib.hid (H3.out.below hbd)
        obtain ⟨w1, hw1⟩ : ∃ w1, w1 = wd.alloc (.cells #[.int .u64 (c : Int), .int .u64 (r : Int), .int .u64 (i : Int), .int .u32 0, .int .u32 0, .int .u64 0] 55) := ⟨_, rfl⟩
        have hb1 : Below wd.heap.size wd w1 := by rw [hw1]; exact (Below.refl _ _).alloc (Nat.le_refl _) _
        have hW1 := Lib.hid (hWd.out.below hb1)
        have hbs : (Instr.buildSlice 39 1 #[(0, .agg #[.int .u64 (c : Int), .int .u64 (r : Int), .int .u64 (i : Int), .int .u32 0, .int .u32 0, .int .u64 0])]).run Try.prog wd = .ok (.slice (some ⟨wd.heap.size, 0, none⟩) 1 1) w1 := by
          rw [hw1]
          simp [Instr.buildSlice, go_sem]
        have hsrc : Src Try.prog 6 39 (.slice (some ⟨wd.heap.size, 0, none⟩) 1 1) 1 [.int .u64 (c : Int), .int .u64 (r : Int), .int .u64 (i : Int), .int .u32 0, .int .u32 0, .int .u64 0] w1 := by
          rw [hw1]
          exact Src.lit' rfl Try.underlying39 #[.int .u64 (c : Int), .int .u64 (r : Int), .int .u64 (i : Int), .int .u32 0, .int .u32 0, .int .u64 0] rfl (by simp [Value.oneCell'])
        have hk1 : Keeps (Foot g (.slice A t.l.length cc)) w3 w1 := (Keeps.of_below hbd).trans (Keeps.of_below (F := Foot g (.slice A t.l.length cc)) hb1) (fun i hi => .inl hi)
        have hk0 : Keeps (Foot g (.slice A t.l.length cc)) w3 wd := Keeps.of_below hbd
        have HSRC := Lib.hid hsrc
        have HBS := Lib.hid hbs
        have HK1 := Lib.hid hk1
        have HK0 := Lib.hid hk0
        have HB1 := Lib.hid hb1
        have HBD := Lib.hid hbd
        have e0 := hWd.out.c10
        have e1 := hW1.out.c10
        clear hsrc hbs hk1 hk0 hb1 hbd hw1
        constructor
        · skip
          refine seg_op (by simp only [List.getElem?_toArray, List.getElem?_cons_succ, List.getElem?_cons_zero]; rfl) fun K hK => ?_
          go_simp
          refine hK.out _ _ ⟨HK0.out, ?_⟩
          clear hK K
          try go_frame
          intro q hq
          refine wpQuiet_nil ?_
          clear hq q
          refine seg_op (by simp only [List.getElem?_toArray, List.getElem?_cons_succ, List.getElem?_cons_zero]; rfl) fun K hK => ?_
          refine ite_ok rfl ?_
          refine wp_bslice _ 1 (.tmp 36) rfl rfl HBS.out ?_
          refine hK.out _ _ ⟨HK1.out, ?_⟩
          clear hK K
          try go_frame
          intro q hq
          refine wpQuiet_nil ?_
          clear hq q
          refine seg_op (by simp only [List.getElem?_toArray, List.getElem?_cons_succ, List.getElem?_cons_zero]; rfl) fun K hK => ?_
          rw [if_pos (by rfl)]
          refine wp_app (.tmp 32) (.tmp 37) _ _ rfl E_wt rfl rfl hW1.out.own HSRC.out (by unfold maxLen; omega) (by omega) (Nat.le_trans HB3B.out (Nat.le_trans HBD.out.size HB1.out.size)) ?_
          intro v4 w4 hown4 hg4 hat4
          obtain ⟨A4, c4, rfl⟩ := ownsRow_form hown4
          have hk4 : Keeps (fun j => (Value.slice A t.l.length cc).ownBlock = some j) w1 w4 := (Keeps.refl _ _).grown hg4 (fun q hq => .inl hq)
          have hm5 := hW1.out.waits (l2 := t.l ++ [⟨c, r, i, 0, 0, 0⟩]) hk4 (by rw [List.length_append, wts_app, wts_one1]; exact hown4) (hat4.imp id (fun e q hq => by rw [e] at hq; cases hq; exact Nat.le_refl _)) (by rw [List.length_append]; exact HLEN.out) HIX.out
          have hr4 := hk4.row hW1.out.row hW1.out.ne
          have f0 : w4.frozen? ⟨g, 10, none⟩ = false := frozen_of_row w4 g 10 _ _ hr4
          have d0 : w4.cell? ⟨g, 10, none⟩ = some (.slice A t.l.length cc) := (keeps_cell hk4 hW1.out.c10 hW1.out.ne)
          have hk4a : Keeps (Foot g (.slice A t.l.length cc)) w3 w4 := HK1.out.trans (hk4.wide (F' := Foot g (.slice A t.l.length cc)) (fun j hj => .inr hj)) (fun j hj => .inl hj)
          have HM5 := Lib.hid hm5
          have HK5 := Lib.hid (hk4a.trans ((Keeps.set w4 g 10 (.slice A4 (t.l.length + 1) c4)).wide (F' := Foot g (.slice A t.l.length cc)) (fun j hj => .inl hj)) (fun j hj => .inl hj))
          refine hK.out _ _ ⟨hk4a, ?_⟩
          clear hK K hown4 hg4 hat4 hk4 hm5 hr4 hk4a
          try go_frame
          intro q hq
          simp only [pickI, Option.toList_some, List.cons_append, List.nil_append, List.getElem?_toArray, List.getElem?_cons_succ, List.getElem?_cons_zero]
          iterate 2 go_big_quiet_step (fail)
          refine wpQuiet_nil ?_
          clear hq q
          refine seg_op (by simp only [List.getElem?_toArray, List.getElem?_cons_succ, List.getElem?_cons_zero]; rfl) fun K hK => ?_
          go_simp
          refine hK.out _ _ ⟨HK5.out, ?_⟩
          clear hK K
          try go_frame
          intro q hq
          refine wpQuiet_nil ?_
          clear hq q
          go_wp2
          go_ret
          exact ⟨rfl, Mv.after (HB.out.trans (HB4.out.mono HB.out.size)) (Mv.after (HBD.out.trans (HB1.out.mono HBD.out.size)) HM5.out)⟩
        · skip
          refine seg_op (by simp only [List.getElem?_toArray, List.getElem?_cons_succ, List.getElem?_cons_zero]; rfl) fun K hK => ?_
          refine ite_ok rfl ?_
          refine wp_bslice _ 1 (.tmp 36) rfl rfl HBS.out ?_
          refine hK.out _ _ ⟨HK1.out, ?_⟩
          clear hK K
          try go_frame
          intro q hq
          refine wpQuiet_nil ?_
          clear hq q
          refine seg_op (by simp only [List.getElem?_toArray, List.getElem?_cons_succ, List.getElem?_cons_zero]; rfl) fun K hK => ?_
          go_simp
          refine hK.out _ _ ⟨HK1.out, ?_⟩
          clear hK K
          try go_frame
          intro q hq
          refine wpQuiet_nil ?_
          clear hq q
          refine seg_op (by simp only [List.getElem?_toArray, List.getElem?_cons_succ, List.getElem?_cons_zero]; rfl) fun K hK => ?_
          rw [if_pos (by rfl)]
          refine wp_app (.tmp 32) (.tmp 37) _ _ rfl E_wt rfl rfl hW1.out.own HSRC.out (by unfold maxLen; omega) (by omega) (Nat.le_trans HB3B.out (Nat.le_trans HBD.out.size HB1.out.size)) ?_
          intro v4 w4 hown4 hg4 hat4
          obtain ⟨A4, c4, rfl⟩ := ownsRow_form hown4
          have hk4 : Keeps (fun j => (Value.slice A t.l.length cc).ownBlock = some j) w1 w4 := (Keeps.refl _ _).grown hg4 (fun q hq => .inl hq)
          have hm5 := hW1.out.waits (l2 := t.l ++ [⟨c, r, i, 0, 0, 0⟩]) hk4 (by rw [List.length_append, wts_app, wts_one1]; exact hown4) (hat4.imp id (fun e q hq => by rw [e] at hq; cases hq; exact Nat.le_refl _)) (by rw [List.length_append]; exact HLEN.out) HIX.out
          have hr4 := hk4.row hW1.out.row hW1.out.ne
          have f0 : w4.frozen? ⟨g, 10, none⟩ = false := frozen_of_row w4 g 10 _ _ hr4
          have d0 : w4.cell? ⟨g, 10, none⟩ = some (.slice A t.l.length cc) := (keeps_cell hk4 hW1.out.c10 hW1.out.ne)
          have hk4a : Keeps (Foot g (.slice A t.l.length cc)) w3 w4 := HK1.out.trans (hk4.wide (F' := Foot g (.slice A t.l.length cc)) (fun j hj => .inr hj)) (fun j hj => .inl hj)
          have HM5 := Lib.hid hm5
          have HK5 := Lib.hid (hk4a.trans ((Keeps.set w4 g 10 (.slice A4 (t.l.length + 1) c4)).wide (F' := Foot g (.slice A t.l.length cc)) (fun j hj => .inl hj)) (fun j hj => .inl hj))
          refine hK.out _ _ ⟨hk4a, ?_⟩
          clear hK K hown4 hg4 hat4 hk4 hm5 hr4 hk4a
          try go_frame
          intro q hq
          simp only [pickI, Option.toList_some, List.cons_append, List.nil_append, List.getElem?_toArray, List.getElem?_cons_succ, List.getElem?_cons_zero]
          iterate 2 go_big_quiet_step (fail)
          refine wpQuiet_nil ?_
          clear hq q
          refine seg_op (by simp only [List.getElem?_toArray, List.getElem?_cons_succ, List.getElem?_cons_zero]; rfl) fun K hK => ?_
          go_simp
          refine hK.out _ _ ⟨HK5.out, ?_⟩
          clear hK K
          try go_frame
          intro q hq
          refine wpQuiet_nil ?_
          clear hq q
          go_wp2
          go_ret
          exact ⟨rfl, Mv.after (HB.out.trans (HB4.out.mono HB.out.size)) (Mv.after (HBD.out.trans (HB1.out.mono HBD.out.size)) HM5.out)⟩
end Go.Proofs.Ytkcpldkdnnhmmaa
