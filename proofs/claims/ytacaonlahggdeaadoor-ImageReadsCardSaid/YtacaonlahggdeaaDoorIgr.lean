/- A text is read as an image. -/
import Derived.Test.YtacaonlahggdeaaDoorImw
import Derived.Test.YtacaonlahggdeaaDoorTread
namespace Go.Proofs.YtacaonlahggdeaaDoor
open Go.RowKit
set_option maxRecDepth 20000

section
variable {P : Program} {ops : Array Oper} {md : Region.Mode} {Q : Exit → Act → World → Prop}
theorem wp_treeS {id : Nat} {l : List Oper} {a : Act} {w : World} (S : World → Prop) (t : Seg) (hm : P.follows .mixedOrders = true)
    (hok : (Region.noSelect l.toArray && (t.ok .any l.toArray (Array.replicate l.toArray.size false) && decide (t.steps ≤ l.toArray.size))) = true)
    (hQ : ∀ (d : Option Tmp) v c a w, Q (.panic c) (a.put d v) w → Q (.panic c) a w) (hS : S w.drew) (h : wpTree P l.toArray Q S t a w.drew) : (Code.region id l.toArray true).wp P Q a w := by
  simp only [Bool.and_eq_true, decide_eq_true_eq] at hok
  exact wp_region_held hm (tree_sound hok.1 hQ t _ _ a _ hok.2.1 hok.2.2 hS h)
variable {w : World} {ty mt tt ct : TypeId} {o : Oper} {a : Act}
theorem ImT.opNew (h : ImT P ty mt tt ct) {K : Act → World → Prop} (ho : o.op = .alloc ty)
    (hk : ∀ (W : World) (b : Nat), NewR w ty (icells I0) W b → K (a.put o.dst (.pointer (some ⟨b, 0, none⟩))) W) : o.wp P a w K Q := by
  have hr : (Instr.alloc ty true (.tuple #[])).run P w = .ok (.pointer (some ⟨w.heap.size, 0, none⟩)) (w.alloc (.cells (icells I0).toArray ty)) := by
    have h0 : (newVar ty (imv I0)).run P w = .ok ⟨w.heap.size, 0, none⟩ (w.alloc (.cells (icells I0).toArray ty)) := run_newVar ty (imv I0)
    simp only [Instr.alloc, Sem.run_bind, h.zero, Result.andThen_ok, h0, Sem.run_pure]
  unfold Oper.wp
  simp only [execOp, ho, Sem.run_bind, hr, Result.andThen_ok, Sem.run_pure]
  exact hk _ _ (newR w ty _)
end

/-- What is known of a reader g whose pointer lies in c, since a world W. -/
def RInv (W : World) (g c : Nat) (s : St) (x : World) : Prop := Rdr x g s ∧ x.cell? ⟨c, 0, none⟩ = some (.pointer (some ⟨g, 0, none⟩)) ∧ W.grownBy x (some g)
section
variable {W x x' : World} {g c : Nat} {s s' : St}
theorem RInv.step (h : RInv W g c s x) (hcg : c ≠ g) (hcW : c < W.heap.size) (hR : Rdr x' g s') (hg : x.grownBy x' (some g)) : RInv W g c s' x' :=
  ⟨hR, (World.cell?_of_block (a := ⟨c, 0, none⟩) (hg.block c (Nat.lt_of_lt_of_le hcW h.2.2.size) (fun e => hcg (Option.some.inj e)))).trans h.2.1, only_trans h.2.2 hg⟩
theorem RInv.of {F : Nat} {args : Array Value} {v : Value} (hcg : c ≠ g) (hcW : c < W.heap.size) (H : ∀ x, Rdr x g s → x.cell? ⟨c, 0, none⟩ = some (.pointer (some ⟨g, 0, none⟩)) → Calls Tryd.prog F args x fun e x' => e = .returned v ∧ Rdr x' g s' ∧ x.grownBy x' (some g)) :
    ∀ x, RInv W g c s x → Calls Tryd.prog F args x fun e x' => e = .returned v ∧ RInv W g c s' x' ∧ x.grownBy x' (some g) :=
  fun x h => (H x h.1 h.2.1).mono (fun _ _ h' => ⟨h'.1, h.step hcg hcW h'.2.1 h'.2.2, h'.2.2⟩)
theorem RInv.below (h : RInv W g c s x) (hb : Below x.heap.size x x') (hcW : c < W.heap.size) : RInv W g c s x' :=
  ⟨h.1.kept (only_of_below hb none) (by simp), (hb.cell (p := ⟨c, 0, none⟩) (Nat.lt_of_lt_of_le hcW h.2.2.size)).trans h.2.1, grownBy_trans h.2.2 (only_of_below hb (some g)) (.inl rfl)⟩
theorem RInv.other {r : Nat} (h : RInv W g c s x) (hcW : c < W.heap.size) (hgW : g < W.heap.size) (hr : W.heap.size ≤ r) (hg : x.grownBy x' (some r)) : RInv W g c s x' :=
  ⟨h.1.kept hg (fun e => by have := Option.some.inj e; omega), (World.cell?_of_block (a := ⟨c, 0, none⟩) (hg.block c (Nat.lt_of_lt_of_le hcW h.2.2.size) (fun e => by have := Option.some.inj e; omega))).trans h.2.1, only_new h.2.2 hg hr⟩
end

theorem irdB_eq (b : List UInt8) : irdB b = if (irdS ⟨b, false⟩).2.end_ = 0 ∧ igB (irdS ⟨b, false⟩).1 = true then ((irdS ⟨b, false⟩).1, 0) else (I0, 10) := rfl
theorem irdS_parts (s : St) : (irdS s).1.L = (s.num 8).1 ∧ (irdS s).1.B = ((s.num 8).2.num 8).1 ∧ (irdS s).1.l = ((s.num 8).2.num 8).2.text.1 ∧ (irdS s).1.T = rdT ((s.num 8).2.num 8).2.text.2 := by
  refine ⟨?_, ?_, ?_, ?_⟩ <;> simp only [irdS]
theorem irdS_rest (s : St) : (irdS s).2 = (rdN 8 ((s.num 8).2.num 8).2.text.2).2 := by simp only [irdS]
theorem next_len2 (s : St) (n : Int) : (s.next n).1.length ≤ s.l.length ∧ (s.next n).2.l.length ≤ s.l.length := by
  unfold St.next
  by_cases h : 0 ≤ n ∧ n ≤ s.l.length
  · rw [if_pos h]
    exact ⟨by rw [List.length_take]; omega, by rw [List.length_drop]; omega⟩
  · rw [if_neg h]
    exact ⟨Nat.zero_le _, Nat.zero_le _⟩
theorem num_len2 (s : St) (n : Int) : (s.num n).2.l.length ≤ s.l.length := by
  have h := next_len2 s n
  unfold St.num
  by_cases hn : 1 ≤ n ∧ n ≤ 8
  · rw [if_pos hn]; exact h.2
  · rw [if_neg hn]; exact Nat.zero_le _
theorem text_len2 (s : St) : s.text.1.length ≤ s.l.length := by
  have h1 := num_len2 s 2
  have h2 := next_len2 (s.num 2).2 (s.num 2).1
  unfold St.text
  generalize s.num 2 = r at *
  by_cases hn : 16384 < r.1
  · rw [if_pos hn]; exact Nat.zero_le _
  · rw [if_neg hn]; exact Nat.le_trans h2.1 h1
theorem irdS_len (b : List UInt8) : (irdS ⟨b, false⟩).1.l.length ≤ b.length := by
  have h1 := num_len2 ⟨b, false⟩ 8
  have h2 := num_len2 (St.num ⟨b, false⟩ 8).2 8
  have h3 := text_len2 ((St.num ⟨b, false⟩ 8).2.num 8).2
  have h4 := (irdS_parts ⟨b, false⟩).2.2.1
  rw [h4]
  exact Nat.le_trans h3 (Nat.le_trans h2 h1)
theorem rnumc_any (c g : Nat) (s : St) (w : World) (h : Rdr w g s) (hc : w.cell? ⟨c, 0, none⟩ = some (.pointer (some ⟨g, 0, none⟩))) :
    Calls Tryd.prog 33 #[.pointer (some ⟨c, 0, none⟩)] w fun e w' => e = .returned (.int .u64 ((s.num 8).1 : Nat)) ∧ Rdr w' g (s.num 8).2 ∧ w.grownBy w' (some g) := by
  have hn := num_any g s 8 w h (by decide) (by decide)
  generalize s.num 8 = r at *
  have HN := Lib.hid hn
  clear hn h
  go_enter Tryd.func33, Tryd.ntmps33
  go_wp2_with (fail)
  refine (HN.out).mono ?_
  rintro e w1 ⟨rfl, hR, hg⟩
  go_wp2
  go_ret
  exact ⟨rfl, hR, hg⟩

/-- The image's parts are read. -/
def CutR (W : World) (g c : Nat) (im : Im) (s4 : St) (u : Value) (wx : World) : Prop := ∃ r, u = .pointer (some ⟨r, 0, none⟩) ∧ W.heap.size ≤ r ∧ Hid (wx.heap[r]? = some (.cells (icells im).toArray 31 (0, 0))) ∧ Hid (RInv W g c s4 wx)

set_option maxHeartbeats 2000000 in
theorem iread_any (s : List UInt8) (w : World) (hs : s.length ≤ 100000) (hT : Tab w) :
    Calls Tryd.prog 14 #[.string (str s)] w fun e w' => e = .returned (.tuple #[imv (ird s).1, .int .i64 (ird s).2]) ∧ Below w.heap.size w w' := by
  have hop := fun A n c W (h : Rd W W.heap.size 1 A n c (u8s s)) (hn : n ≤ 500000) => open_any A n c s W h hn
  have hol := openOf_len s
  have h08 : I0.T.length = 8 := rfl
  have hird : ird s = if (openOf s).2 = 0 then irdB (openOf s).1 else (I0, (openOf s).2) := rfl
  have HO := Lib.hid hop
  have HS := Lib.hid hs
  clear hop hs
  generalize openOf s = ob at *
  obtain ⟨b, E⟩ := ob
  dsimp only at hird hol HO
  have hE : E = 0 ∨ E ≠ 0 := by omega
  rcases hE with rfl | hE
  · rw [if_pos rfl] at hird
    rw [hird]
    obtain ⟨st, hst⟩ : ∃ st : St, st = ⟨b, false⟩ := ⟨_, rfl⟩
    have hirdB := irdB_eq b
    rw [← hst] at hirdB
    have hok := irdS_ok st
    have hpar := irdS_parts st
    have hs4 := irdS_rest st
    have c1 := fun c g W (h : Rdr W g st) hc => rnumc_any c g st W h hc
    have c2 := fun c g W (h : Rdr W g (st.num 8).2) hc => rnumc_any c g (st.num 8).2 W h hc
    have c3 := fun g W (h : Rdr W g ((st.num 8).2.num 8).2) => text_any g ((st.num 8).2.num 8).2 W h
    have c4 := fun g W (h : Rdr W g ((st.num 8).2.num 8).2.text.2) => tread_any g ((st.num 8).2.num 8).2.text.2 W h
    have hll : (irdS st).1.l.length ≤ b.length := by rw [hst]; exact irdS_len b
    rw [← hpar.1] at c1
    rw [← hpar.2.1] at c2
    rw [← hpar.2.2.1] at c3
    rw [← hpar.2.2.2, ← hs4] at c4
    have hro : ∀ W g, Rdr W g ⟨b, false⟩ → Rdr W g st := fun W g h => by rw [hst]; exact h
    generalize irdS st = ri at *
    obtain ⟨im, s4⟩ := ri
    dsimp only at hirdB hok c1 c2 c3 c4 hll
    have HRO := Lib.hid hro
    clear hpar hs4 hro
    have HIT := Lib.hid hok.2.2.1
    have HGOOD := Lib.hid (fun W h => igood_any im W hok (by have := HS.out; omega) h)
    have HC1 := Lib.hid c1
    have HC2 := Lib.hid c2
    have HC3 := Lib.hid c3
    have HC4 := Lib.hid c4
    have HEND := Lib.hid (fun g W (h : Rdr W g s4) => end_any g s4 W h)
    generalize (st.num 8).2 = s1 at *
    generalize (s1.num 8).2 = s2 at *
    generalize s2.text.2 = s3 at *
    have HB := Lib.hid hirdB
    clear hirdB hird hok c1 c2 c3 c4 hst
    go_enter Tryd.func14, Tryd.ntmps14
    go_wp2_with (first
      | (refine imA.wpNew (o := ⟨some 2, _, _, _, _, _⟩) rfl rfl ?_; intro W1 b2 hN; obtain ⟨hb2, hr2, hl2, hz2⟩ := hN)
      | (refine wpL_strb rfl (.tmp 10) _ _ rfl Tryd.underlying9 Tryd.underlying62 Tryd.underlying5 rfl (by have := HS.out; unfold maxLen; omega) ?_; intro W2 A2 cap2 hR2 _ hbl2)
      | fail)
    refine (HO.out _ _ _ _ hR2 (by have := HS.out; omega)).mono ?_
    rintro e w3 ⟨A3, n3, cc3, rfl, hn3, hR3, hb3⟩
    subst hn3
    have HR2 := Lib.hid (row_below (row_below hr2.out hbl2) hb3)
    have HBL := Lib.hid ((hl2.trans (hbl2.mono hl2.size)).trans (hb3.mono (Nat.le_trans hl2.size hbl2.size)))
    have hb2w : w.heap.size ≤ b2 := Nat.le_of_eq hb2.out.symm
    have HR3 := Lib.hid hR3
    clear hR2 hbl2 hb3 hr2 hl2 hz2 hR3 HO
    go_wp2_with (fail)
    refine (read_any _ _ _ b _ HR3.out (by have := HS.out; omega)).mono ?_
    rintro e w4 ⟨g, rfl, hg, hRd, hb4⟩
    have HRd := Lib.hid hRd
    have hb2g : b2 < g := Nat.lt_of_lt_of_le (Array.getElem?_eq_some_iff.1 HR2.out).1 hg
    have HB4 := Lib.hid hb4
    have HRd := Lib.hid (HRO.out _ _ HRd.out)
    have HR4 := Lib.hid (row_below HR2.out hb4)
    clear hRd hb4 HR2 HR3
    go_wp2_with (fail)
    obtain ⟨c, hc⟩ : ∃ c, c = w4.heap.size := ⟨_, rfl⟩
    obtain ⟨W, hW⟩ : ∃ W, W = w4.alloc (.cells #[.pointer (some ⟨g, 0, none⟩)] 78) := ⟨_, rfl⟩
    have hWs : W.heap.size = c + 1 := by rw [hW, hc]; simp
    have hWb : Below w4.heap.size w4 W := by rw [hW]; exact below1 _ _
    have hWc : W.cell? ⟨c, 0, none⟩ = some (.pointer (some ⟨g, 0, none⟩)) := by rw [hW, hc, cell_of_row _ _ 0 _ _ _ (heap_alloc_new w4 _)]; rfl
    have hgl := Rdr.lt HRd.out
    have hgW : g < W.heap.size := by omega
    have hcW : c < W.heap.size := by omega
    have hcg : c ≠ g := by omega
    have hi0 : RInv W g c st W := ⟨HRd.out.kept (only_of_below hWb none) (by simp), hWc, World.grownBy.refl _ _⟩
    have HW := Lib.hid (HBL.out.trans ((HB4.out.trans (hWb.mono HB4.out.size)).mono HBL.out.size))
    have HR5 := Lib.hid (row_below HR4.out hWb)
    have hgw : w.heap.size ≤ g := Nat.le_trans HBL.out.size hg
    have I0' := Lib.hid hi0
    have H1 := Lib.hid (RInv.of hcg hcW (fun x h hc => HC1.out c g x h hc) (W := W))
    have H2 := Lib.hid (RInv.of hcg hcW (fun x h hc => HC2.out c g x h hc) (W := W))
    have H3 := Lib.hid (RInv.of hcg hcW (fun x h _ => HC3.out g x h) (W := W))
    have H4 := Lib.hid (RInv.of hcg hcW (fun x h _ => HC4.out g x h) (W := W))
    rw [← hc, ← hW]
    clear hW hWb hWc hi0 HR4 HRO HC1 HC2 HC3 HC4 HBL HB4 HRd hWs hc
    go_cut [8] (fun u wx => CutR W g c im s4 u wx)
    case first =>
      have i0 : RInv W g c st W.drew := ⟨I0'.out.1, I0'.out.2.1, only_of_below (Below.refl _ _).drew _⟩
      refine wp_treeS (fun x => x.cell? ⟨c, 0, none⟩ = some (.pointer (some ⟨g, 0, none⟩))) (.two [0, 2, 5, 7] 1 10 (.two [] 3 10 (.two [4] 6 10 (.two [] 8 10 (.one [9] 10 (.one [] 11 (.fin []))) (.one [] 8 (.one [9] 11 (.fin [])))) (.one [] 6 (.one [] 8 (.one [9] 11 (.fin []))))) (.one [] 3 (.one [4] 6 (.one [] 8 (.one [9] 11 (.fin [])))))) (.one [] 1 (.one [] 3 (.one [4] 6 (.one [] 8 (.one [9] 11 (.fin []))))))) (by kernel_rfl) (by kernel_rfl) (fun d _ _ _ _ h => by cases d <;> exact h) i0.2.1 ?_
      generalize W.drew = wd at *
      intro q hq
      simp only [pickI, Option.toList_some, List.cons_append, List.nil_append, List.getElem?_toArray, List.getElem?_cons_succ, List.getElem?_cons_zero]
      try go_frame
      go_big_quiet_step (fail)
      go_big_quiet_step (fail)
      go_big_quiet_step (fail)
      go_big_quiet_step (fail)
      refine wpQuiet_nil ?_
      clear hq q
      refine ⟨?_, ?_⟩
      · skip
        refine seg_op (by simp only [List.getElem?_toArray, List.getElem?_cons_succ, List.getElem?_cons_zero]; rfl) fun K hK => ?_
        go_simp
        refine (H1.out _ i0).mono ?_
        rintro e v1 ⟨rfl, i1, g1⟩
        clear g1
        refine hK.out _ _ ⟨i1.2.1, ?_⟩
        clear hK K
        intro q hq
        refine wpQuiet_nil ?_
        clear hq q
        refine ⟨?_, ?_⟩
        · skip
          refine seg_op (by simp only [List.getElem?_toArray, List.getElem?_cons_succ, List.getElem?_cons_zero]; rfl) fun K hK => ?_
          go_simp
          refine (H2.out _ i1).mono ?_
          rintro e v2 ⟨rfl, i2, g2⟩
          clear g2
          refine hK.out _ _ ⟨i2.2.1, ?_⟩
          clear hK K
          intro q hq
          simp only [pickI, Option.toList_some, List.cons_append, List.nil_append, List.getElem?_toArray, List.getElem?_cons_succ, List.getElem?_cons_zero]
          try go_frame
          go_big_quiet_step (fail)
          refine wpQuiet_nil ?_
          clear hq q
          refine ⟨?_, ?_⟩
          · skip
            refine seg_op (by simp only [List.getElem?_toArray, List.getElem?_cons_succ, List.getElem?_cons_zero]; rfl) fun K hK => ?_
            go_simp
            refine (H3.out _ i2).mono ?_
            rintro e v3 ⟨rfl, i3, g3⟩
            clear g3
            refine hK.out _ _ ⟨i3.2.1, ?_⟩
            clear hK K
            intro q hq
            refine wpQuiet_nil ?_
            clear hq q
            refine ⟨?_, ?_⟩
            · skip
              refine seg_op (by simp only [List.getElem?_toArray, List.getElem?_cons_succ, List.getElem?_cons_zero]; rfl) fun K hK => ?_
              go_simp
              refine (H4.out _ i3).mono ?_
              rintro e v4 ⟨rfl, i4, g4⟩
              clear g4
              refine hK.out _ _ ⟨i4.2.1, ?_⟩
              clear hK K
              intro q hq
              simp only [pickI, Option.toList_some, List.cons_append, List.nil_append, List.getElem?_toArray, List.getElem?_cons_succ, List.getElem?_cons_zero]
              try go_frame
              refine wpQ_build (by rfl) _ _ #[(0, .agg #[.int .u64 (im.L : Int), .int .u64 (im.B : Int)]), (1, .string (str im.l)), (2, tbv im.T)] rfl (by simp only [List.map_toArray, List.map_cons, List.map_nil]; rfl) (imv im) (fun W => buildA im HIT.out W) ?_
              try go_frame
              refine wpQuiet_nil ?_
              clear hq q
              refine seg_op (by simp only [List.getElem?_toArray, List.getElem?_cons_succ, List.getElem?_cons_zero]; rfl) fun K hK => ?_
              rw [if_pos (by rfl)]
              refine imA.opNew rfl ?_
              intro v5 r5 hN5
              obtain ⟨e5, R5, b5, z5⟩ := hN5
              have i5 := i4.below b5 hcW
              have l5 : W.heap.size ≤ r5 := by have := e5.out; have := i4.2.2.size; omega
              clear e5 b5 z5
              refine hK.out _ _ ⟨i5.2.1, ?_⟩
              clear hK K
              intro q hq
              refine wpQuiet_nil ?_
              clear hq q
              refine seg_op (by simp only [List.getElem?_toArray, List.getElem?_cons_succ, List.getElem?_cons_zero]; rfl) fun K hK => ?_
              rw [if_pos (by rfl)]
              refine imA.opStore (.tmp 8) (.tmp 31) rfl rfl rfl R5.out h08 HIT.out ?_
              intro W9 hr9 hg9 hz9
              have i9 := i5.other hcW hgW l5 hg9
              refine hK.out _ _ ⟨i9.2.1, ?_⟩
              clear hK K
              intro q hq
              refine wpQuiet_nil ?_
              clear hq q
              have I9 := Lib.hid i9
              clear i9 hg9 hz9
              go_wp2_with (fail)
              go_meet
              case rel => exact ⟨r5, rfl, l5, hr9, I9⟩
            · skip
              refine seg_op (by simp only [List.getElem?_toArray, List.getElem?_cons_succ, List.getElem?_cons_zero]; rfl) fun K hK => ?_
              rw [if_pos (by rfl)]
              refine imA.opNew rfl ?_
              intro v6 r6 hN6
              obtain ⟨e6, R6, b6, z6⟩ := hN6
              have i6 := i3.below b6 hcW
              have l6 : W.heap.size ≤ r6 := by have := e6.out; have := i3.2.2.size; omega
              clear e6 b6 z6
              refine hK.out _ _ ⟨i6.2.1, ?_⟩
              clear hK K
              intro q hq
              refine wpQuiet_nil ?_
              clear hq q
              refine seg_op (by simp only [List.getElem?_toArray, List.getElem?_cons_succ, List.getElem?_cons_zero]; rfl) fun K hK => ?_
              go_simp
              refine (H4.out _ i6).mono ?_
              rintro e v7 ⟨rfl, i7, g7⟩
              have R7 := Lib.hid (row_far R6.out g7 (fun e => by have := Option.some.inj e; have := l6; omega))
              clear g7
              refine hK.out _ _ ⟨i7.2.1, ?_⟩
              clear hK K
              intro q hq
              simp only [pickI, Option.toList_some, List.cons_append, List.nil_append, List.getElem?_toArray, List.getElem?_cons_succ, List.getElem?_cons_zero]
              try go_frame
              refine wpQ_build (by rfl) _ _ #[(0, .agg #[.int .u64 (im.L : Int), .int .u64 (im.B : Int)]), (1, .string (str im.l)), (2, tbv im.T)] rfl (by simp only [List.map_toArray, List.map_cons, List.map_nil]; rfl) (imv im) (fun W => buildA im HIT.out W) ?_
              try go_frame
              refine wpQuiet_nil ?_
              clear hq q
              refine seg_op (by simp only [List.getElem?_toArray, List.getElem?_cons_succ, List.getElem?_cons_zero]; rfl) fun K hK => ?_
              rw [if_pos (by rfl)]
              refine imA.opStore (.tmp 8) (.tmp 31) rfl rfl rfl R7.out h08 HIT.out ?_
              intro W9 hr9 hg9 hz9
              have i9 := i7.other hcW hgW l6 hg9
              refine hK.out _ _ ⟨i9.2.1, ?_⟩
              clear hK K
              intro q hq
              refine wpQuiet_nil ?_
              clear hq q
              have I9 := Lib.hid i9
              clear i9 hg9 hz9
              go_wp2_with (fail)
              go_meet
              case rel => exact ⟨r6, rfl, l6, hr9, I9⟩
          · skip
            refine seg_op (by simp only [List.getElem?_toArray, List.getElem?_cons_succ, List.getElem?_cons_zero]; rfl) fun K hK => ?_
            rw [if_pos (by rfl)]
            refine imA.opNew rfl ?_
            intro v8 r8 hN8
            obtain ⟨e8, R8, b8, z8⟩ := hN8
            have i8 := i2.below b8 hcW
            have l8 : W.heap.size ≤ r8 := by have := e8.out; have := i2.2.2.size; omega
            clear e8 b8 z8
            refine hK.out _ _ ⟨i8.2.1, ?_⟩
            clear hK K
            intro q hq
            refine wpQuiet_nil ?_
            clear hq q
            refine seg_op (by simp only [List.getElem?_toArray, List.getElem?_cons_succ, List.getElem?_cons_zero]; rfl) fun K hK => ?_
            go_simp
            refine (H3.out _ i8).mono ?_
            rintro e v9 ⟨rfl, i9, g9⟩
            have R9 := Lib.hid (row_far R8.out g9 (fun e => by have := Option.some.inj e; have := l8; omega))
            clear g9
            refine hK.out _ _ ⟨i9.2.1, ?_⟩
            clear hK K
            intro q hq
            refine wpQuiet_nil ?_
            clear hq q
            refine seg_op (by simp only [List.getElem?_toArray, List.getElem?_cons_succ, List.getElem?_cons_zero]; rfl) fun K hK => ?_
            go_simp
            refine (H4.out _ i9).mono ?_
            rintro e v10 ⟨rfl, i10, g10⟩
            have R10 := Lib.hid (row_far R9.out g10 (fun e => by have := Option.some.inj e; have := l8; omega))
            clear g10
            refine hK.out _ _ ⟨i10.2.1, ?_⟩
            clear hK K
            intro q hq
            simp only [pickI, Option.toList_some, List.cons_append, List.nil_append, List.getElem?_toArray, List.getElem?_cons_succ, List.getElem?_cons_zero]
            try go_frame
            refine wpQ_build (by rfl) _ _ #[(0, .agg #[.int .u64 (im.L : Int), .int .u64 (im.B : Int)]), (1, .string (str im.l)), (2, tbv im.T)] rfl (by simp only [List.map_toArray, List.map_cons, List.map_nil]; rfl) (imv im) (fun W => buildA im HIT.out W) ?_
            try go_frame
            refine wpQuiet_nil ?_
            clear hq q
            refine seg_op (by simp only [List.getElem?_toArray, List.getElem?_cons_succ, List.getElem?_cons_zero]; rfl) fun K hK => ?_
            rw [if_pos (by rfl)]
            refine imA.opStore (.tmp 8) (.tmp 31) rfl rfl rfl R10.out h08 HIT.out ?_
            intro W9 hr9 hg9 hz9
            have i9 := i10.other hcW hgW l8 hg9
            refine hK.out _ _ ⟨i9.2.1, ?_⟩
            clear hK K
            intro q hq
            refine wpQuiet_nil ?_
            clear hq q
            have I9 := Lib.hid i9
            clear i9 hg9 hz9
            go_wp2_with (fail)
            go_meet
            case rel => exact ⟨r8, rfl, l8, hr9, I9⟩
        · skip
          refine seg_op (by simp only [List.getElem?_toArray, List.getElem?_cons_succ, List.getElem?_cons_zero]; rfl) fun K hK => ?_
          rw [if_pos (by rfl)]
          refine imA.opNew rfl ?_
          intro v11 r11 hN11
          obtain ⟨e11, R11, b11, z11⟩ := hN11
          have i11 := i1.below b11 hcW
          have l11 : W.heap.size ≤ r11 := by have := e11.out; have := i1.2.2.size; omega
          clear e11 b11 z11
          refine hK.out _ _ ⟨i11.2.1, ?_⟩
          clear hK K
          intro q hq
          refine wpQuiet_nil ?_
          clear hq q
          refine seg_op (by simp only [List.getElem?_toArray, List.getElem?_cons_succ, List.getElem?_cons_zero]; rfl) fun K hK => ?_
          go_simp
          refine (H2.out _ i11).mono ?_
          rintro e v12 ⟨rfl, i12, g12⟩
          have R12 := Lib.hid (row_far R11.out g12 (fun e => by have := Option.some.inj e; have := l11; omega))
          clear g12
          refine hK.out _ _ ⟨i12.2.1, ?_⟩
          clear hK K
          intro q hq
          simp only [pickI, Option.toList_some, List.cons_append, List.nil_append, List.getElem?_toArray, List.getElem?_cons_succ, List.getElem?_cons_zero]
          try go_frame
          go_big_quiet_step (fail)
          refine wpQuiet_nil ?_
          clear hq q
          refine seg_op (by simp only [List.getElem?_toArray, List.getElem?_cons_succ, List.getElem?_cons_zero]; rfl) fun K hK => ?_
          go_simp
          refine (H3.out _ i12).mono ?_
          rintro e v13 ⟨rfl, i13, g13⟩
          have R13 := Lib.hid (row_far R12.out g13 (fun e => by have := Option.some.inj e; have := l11; omega))
          clear g13
          refine hK.out _ _ ⟨i13.2.1, ?_⟩
          clear hK K
          intro q hq
          refine wpQuiet_nil ?_
          clear hq q
          refine seg_op (by simp only [List.getElem?_toArray, List.getElem?_cons_succ, List.getElem?_cons_zero]; rfl) fun K hK => ?_
          go_simp
          refine (H4.out _ i13).mono ?_
          rintro e v14 ⟨rfl, i14, g14⟩
          have R14 := Lib.hid (row_far R13.out g14 (fun e => by have := Option.some.inj e; have := l11; omega))
          clear g14
          refine hK.out _ _ ⟨i14.2.1, ?_⟩
          clear hK K
          intro q hq
          simp only [pickI, Option.toList_some, List.cons_append, List.nil_append, List.getElem?_toArray, List.getElem?_cons_succ, List.getElem?_cons_zero]
          try go_frame
          refine wpQ_build (by rfl) _ _ #[(0, .agg #[.int .u64 (im.L : Int), .int .u64 (im.B : Int)]), (1, .string (str im.l)), (2, tbv im.T)] rfl (by simp only [List.map_toArray, List.map_cons, List.map_nil]; rfl) (imv im) (fun W => buildA im HIT.out W) ?_
          try go_frame
          refine wpQuiet_nil ?_
          clear hq q
          refine seg_op (by simp only [List.getElem?_toArray, List.getElem?_cons_succ, List.getElem?_cons_zero]; rfl) fun K hK => ?_
          rw [if_pos (by rfl)]
          refine imA.opStore (.tmp 8) (.tmp 31) rfl rfl rfl R14.out h08 HIT.out ?_
          intro W9 hr9 hg9 hz9
          have i9 := i14.other hcW hgW l11 hg9
          refine hK.out _ _ ⟨i9.2.1, ?_⟩
          clear hK K
          intro q hq
          refine wpQuiet_nil ?_
          clear hq q
          have I9 := Lib.hid i9
          clear i9 hg9 hz9
          go_wp2_with (fail)
          go_meet
          case rel => exact ⟨r11, rfl, l11, hr9, I9⟩
      · skip
        refine seg_op (by simp only [List.getElem?_toArray, List.getElem?_cons_succ, List.getElem?_cons_zero]; rfl) fun K hK => ?_
        rw [if_pos (by rfl)]
        refine imA.opNew rfl ?_
        intro v15 r15 hN15
        obtain ⟨e15, R15, b15, z15⟩ := hN15
        have i15 := i0.below b15 hcW
        have l15 : W.heap.size ≤ r15 := by have := e15.out; have := i0.2.2.size; omega
        clear e15 b15 z15
        refine hK.out _ _ ⟨i15.2.1, ?_⟩
        clear hK K
        intro q hq
        refine wpQuiet_nil ?_
        clear hq q
        refine seg_op (by simp only [List.getElem?_toArray, List.getElem?_cons_succ, List.getElem?_cons_zero]; rfl) fun K hK => ?_
        go_simp
        refine (H1.out _ i15).mono ?_
        rintro e v16 ⟨rfl, i16, g16⟩
        have R16 := Lib.hid (row_far R15.out g16 (fun e => by have := Option.some.inj e; have := l15; omega))
        clear g16
        refine hK.out _ _ ⟨i16.2.1, ?_⟩
        clear hK K
        intro q hq
        refine wpQuiet_nil ?_
        clear hq q
        refine seg_op (by simp only [List.getElem?_toArray, List.getElem?_cons_succ, List.getElem?_cons_zero]; rfl) fun K hK => ?_
        go_simp
        refine (H2.out _ i16).mono ?_
        rintro e v17 ⟨rfl, i17, g17⟩
        have R17 := Lib.hid (row_far R16.out g17 (fun e => by have := Option.some.inj e; have := l15; omega))
        clear g17
        refine hK.out _ _ ⟨i17.2.1, ?_⟩
        clear hK K
        intro q hq
        simp only [pickI, Option.toList_some, List.cons_append, List.nil_append, List.getElem?_toArray, List.getElem?_cons_succ, List.getElem?_cons_zero]
        try go_frame
        go_big_quiet_step (fail)
        refine wpQuiet_nil ?_
        clear hq q
        refine seg_op (by simp only [List.getElem?_toArray, List.getElem?_cons_succ, List.getElem?_cons_zero]; rfl) fun K hK => ?_
        go_simp
        refine (H3.out _ i17).mono ?_
        rintro e v18 ⟨rfl, i18, g18⟩
        have R18 := Lib.hid (row_far R17.out g18 (fun e => by have := Option.some.inj e; have := l15; omega))
        clear g18
        refine hK.out _ _ ⟨i18.2.1, ?_⟩
        clear hK K
        intro q hq
        refine wpQuiet_nil ?_
        clear hq q
        refine seg_op (by simp only [List.getElem?_toArray, List.getElem?_cons_succ, List.getElem?_cons_zero]; rfl) fun K hK => ?_
        go_simp
        refine (H4.out _ i18).mono ?_
        rintro e v19 ⟨rfl, i19, g19⟩
        have R19 := Lib.hid (row_far R18.out g19 (fun e => by have := Option.some.inj e; have := l15; omega))
        clear g19
        refine hK.out _ _ ⟨i19.2.1, ?_⟩
        clear hK K
        intro q hq
        simp only [pickI, Option.toList_some, List.cons_append, List.nil_append, List.getElem?_toArray, List.getElem?_cons_succ, List.getElem?_cons_zero]
        try go_frame
        refine wpQ_build (by rfl) _ _ #[(0, .agg #[.int .u64 (im.L : Int), .int .u64 (im.B : Int)]), (1, .string (str im.l)), (2, tbv im.T)] rfl (by simp only [List.map_toArray, List.map_cons, List.map_nil]; rfl) (imv im) (fun W => buildA im HIT.out W) ?_
        try go_frame
        refine wpQuiet_nil ?_
        clear hq q
        refine seg_op (by simp only [List.getElem?_toArray, List.getElem?_cons_succ, List.getElem?_cons_zero]; rfl) fun K hK => ?_
        rw [if_pos (by rfl)]
        refine imA.opStore (.tmp 8) (.tmp 31) rfl rfl rfl R19.out h08 HIT.out ?_
        intro W9 hr9 hg9 hz9
        have i9 := i19.other hcW hgW l15 hg9
        refine hK.out _ _ ⟨i9.2.1, ?_⟩
        clear hK K
        intro q hq
        refine wpQuiet_nil ?_
        clear hq q
        have I9 := Lib.hid i9
        clear i9 hg9 hz9
        go_wp2_with (fail)
        go_meet
        case rel => exact ⟨r15, rfl, l15, hr9, I9⟩
    case rest =>
      obtain ⟨r, rfl, hrW, hrr, hri⟩ := hcut
      have HF := Lib.hid (HW.out.grown hri.out.2.2 HW.out.size (fun k e => by cases e; exact hgw))
      have HRc := Lib.hid (row_far HR5.out hri.out.2.2 (fun e => by have := Option.some.inj e; omega))
      have HRD := Lib.hid hri.out.1
      have hcc := hri.out.2.1
      clear hri HR5 HW H1 H2 H3 H4 I0'
      by_cases hend : s4.end_ = 0
      · have q1 : (s4.end_ != 0) = false := by rw [hend]; rfl
        by_cases hgo : igB im = true
        · have hres : irdB b = (im, 0) := by rw [HB.out, if_pos ⟨hend, hgo⟩]
          rw [hgo] at HGOOD
          have HRES := Lib.hid hres
          clear hres hend hgo HB
          go_wp2_with (first
            | (go_at_call 37; refine (HEND.out _ _ HRD.out).mono ?_; rintro e w8 ⟨rfl, rfl⟩)
            | (refine imA.wpLoad (by rfl) (.tmp 8) rfl rfl hrr.out HIT.out ?_)
            | (go_at_call 10; refine (HGOOD.out _ (hT.below HF.out)).mono ?_; rintro e w8 ⟨rfl, hb8⟩
               have hrr := Lib.hid (row_below hrr.out hb8)
               have HRc := Lib.hid (row_below HRc.out hb8)
               have HF := Lib.hid (HF.out.trans (hb8.mono HF.out.size)))
            | (refine imA.wpStore rfl (.tmp 2) (.tmp 41) rfl rfl rfl HRc.out h08 HIT.out ?_; intro W9 hr9 hg9 hz9)
            | fail)
          refine bodyPost_ret (results_cell_tmp rfl _ b2 31 _ (0, 0) _ rfl hr9.out imA.und rfl (by rw [imA.size]; simp [icells_19 HIT.out])) rfl ⟨by rw [HRES.out]; rfl, HF.out.grown hg9 HF.out.size (fun k e => by cases e; exact hb2w)⟩
        · have hres : irdB b = (I0, 10) := by rw [HB.out, if_neg (fun h => hgo h.2)]
          have hgo' : igB im = false := by simpa using hgo
          rw [hgo'] at HGOOD
          have HRES := Lib.hid hres
          clear hres hend hgo hgo' HB
          go_wp2_with (first
            | (go_at_call 37; refine (HEND.out _ _ HRD.out).mono ?_; rintro e w8 ⟨rfl, rfl⟩)
            | (refine imA.wpLoad (by rfl) (.tmp 8) rfl rfl hrr.out HIT.out ?_)
            | (go_at_call 10; refine (HGOOD.out _ (hT.below HF.out)).mono ?_; rintro e w8 ⟨rfl, hb8⟩
               have hrr := Lib.hid (row_below hrr.out hb8)
               have HRc := Lib.hid (row_below HRc.out hb8)
               have HF := Lib.hid (HF.out.trans (hb8.mono HF.out.size)))
            | (refine imA.wpBuild (o := ⟨some 40, _, _, _, _, _⟩) rfl rfl ?_)
            | (refine imA.wpStore rfl (.tmp 2) (.tmp 40) rfl rfl rfl HRc.out h08 h08 ?_; intro W9 hr9 hg9 hz9)
            | fail)
          refine bodyPost_ret (results_cell_tmp rfl _ b2 31 _ (0, 0) _ rfl hr9.out imA.und rfl (by rw [imA.size]; simp [icells_19 h08])) rfl ⟨by rw [HRES.out]; rfl, HF.out.grown hg9 HF.out.size (fun k e => by cases e; exact hb2w)⟩
      · have q1 : (s4.end_ != 0) = true := by simp [hend]
        have hres : irdB b = (I0, 10) := by rw [HB.out, if_neg (fun h => hend h.1)]
        have HRES := Lib.hid hres
        clear hres hend HB
        go_wp2_with (first
          | (go_at_call 37; refine (HEND.out _ _ HRD.out).mono ?_; rintro e w8 ⟨rfl, rfl⟩)
          | (refine imA.wpBuild (o := ⟨some 40, _, _, _, _, _⟩) rfl rfl ?_)
          | (refine imA.wpStore rfl (.tmp 2) (.tmp 40) rfl rfl rfl HRc.out h08 h08 ?_; intro W9 hr9 hg9 hz9)
          | fail)
        refine bodyPost_ret (results_cell_tmp rfl _ b2 31 _ (0, 0) _ rfl hr9.out imA.und rfl (by rw [imA.size]; simp [icells_19 h08])) rfl ⟨by rw [HRES.out]; rfl, HF.out.grown hg9 HF.out.size (fun k e => by cases e; exact hb2w)⟩
  · have q1 : (E != 0) = true := by simp [hE]
    rw [if_neg hE] at hird
    rw [hird]
    have HS := HS
    clear hird hE
    go_enter Tryd.func14, Tryd.ntmps14
    go_wp2_with (first
      | (refine imA.wpNew (o := ⟨some 2, _, _, _, _, _⟩) rfl rfl ?_; intro W1 b2 hN; obtain ⟨hb2, hr2, hl2, hz2⟩ := hN)
      | (refine wpL_strb rfl (.tmp 10) _ _ rfl Tryd.underlying9 Tryd.underlying62 Tryd.underlying5 rfl (by have := HS.out; unfold maxLen; omega) ?_; intro W2 A2 cap2 hR2 _ hbl2)
      | fail)
    refine (HO.out _ _ _ _ hR2 (by have := HS.out; omega)).mono ?_
    rintro e w3 ⟨A3, n3, cc3, rfl, hn3, hR3, hb3⟩
    have HR2 := Lib.hid (row_below (row_below hr2.out hbl2) hb3)
    have HF := Lib.hid ((hl2.trans (hbl2.mono hl2.size)).trans (hb3.mono (Nat.le_trans hl2.size hbl2.size)))
    have hb2w : w.heap.size ≤ b2 := Nat.le_of_eq hb2.out.symm
    clear hR2 hbl2 hb3 hr2 hl2 hz2 HO
    go_wp2_with (first
      | (refine imA.wpBuild (o := ⟨some 17, _, _, _, _, _⟩) rfl rfl ?_)
      | (refine imA.wpStore rfl (.tmp 2) (.tmp 17) rfl rfl rfl HR2.out h08 h08 ?_; intro W9 hr9 hg9 hz9)
      | fail)
    refine bodyPost_ret (results_cell_tmp rfl _ b2 31 _ (0, 0) _ rfl hr9.out imA.und rfl (by rw [imA.size]; simp [icells_19 h08])) rfl ⟨rfl, HF.out.grown hg9 HF.out.size (fun k e => by cases e; exact hb2w)⟩

end Go.Proofs.YtacaonlahggdeaaDoor
