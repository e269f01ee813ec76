/- ChainPlays: whatever is added, taken and cut off, each call tells what the document says. -/
import Derived.Test.YtlpckhjmbfeegaaDh
namespace Go.Proofs.Ytlpckhjmbfeegaa
open Go.RowKit
set_option maxRecDepth 20000
/-- Both chains, behind i calls. -/
def Bo (w W : World) (g : Nat) (t : Cv) (gr i : Nat) : Prop := ∃ v A c, Ck W w.heap.size g v t ∧ Rk W gr A c t ∧ ¬ Foot g v gr ∧ (0 < t.l.length → ∀ b o, A = some ⟨b, o, none⟩ → ¬ Foot g v b) ∧ w.heap.size ≤ gr ∧ Below w.heap.size w W ∧ t.last ≤ 4611686018427387904 + 200 * i
theorem Bo.bel {w W : World} {g gr i : Nat} {t : Cv} (h : Bo w W g t gr i) : Below w.heap.size w W := by
  obtain ⟨_, _, _, _, _, _, _, _, h, _⟩ := h
  exact h
theorem Bo.two {w W : World} {g gr i : Nat} {t : Cv} (h : Bo w W g t gr i) (cs : Array Value) (ty : TypeId) : ∃ v A c, Two w (W.alloc (.cells cs ty)) g v t gr A c t W.heap.size (.cells cs ty (0, 0)) ∧ t.last ≤ 4611686018427387904 + 200 * i := by
  obtain ⟨v, A, c, h1, h2, h3, h4, h5, h6, h7⟩ := h
  have hb := (Below.refl W.heap.size W).alloc (Nat.le_refl _) (.cells cs ty)
  exact ⟨v, A, c, ⟨h1.below hb, h2.below hb, h3, h4, h5, h6.trans (hb.mono h6.size), heap_alloc_new W _, fun hf => Nat.lt_irrefl _ (h1.foot hf).2, fun e => by have := h2.lt; omega⟩, h7⟩
theorem Two.bo {w W : World} {g gr c p i : Nat} {v : Value} {t : Cv} {A : Option Addr} {ob : Obj} (h : Two w W g v t gr A c t p ob) (hl : t.last ≤ 4611686018427387904 + 200 * i) : Bo w W g t gr i :=
  ⟨v, A, c, h.ck, h.rk, h.ng, h.na, h.lo, h.bel, hl⟩
theorem cut_last (t : Cv) (b : Nat) : (t.cut b).last = t.last := by
  unfold Cv.cut
  split
  · rfl
  · split
    · rfl
    · unfold Cv.from_ Cv.last at *
      simp only [List.length_drop]
      omega
set_option maxHeartbeats 16000000 in
theorem plays_at {w : World} (base term : Nat) (_ : base < 18446744073709551616) {A : Option Addr} {n c : Nat} {os : List O29} (h : Slc O29.lay w A n c os) :
    Calls Try.prog 3 #[.int .u64 (base : Int), .int .u64 (term : Int), .slice A n c] w fun e w' => e = .returned (.bool true) ∧ Below w.heap.size w w' := by
  have HH := Lib.hid h
  have HLG := Lib.hid (light29 h)
  have HLV := Lib.hid lives29
  have HRN := Lib.hid (fun W => rnew_any base term W)
  have hcap := h.rd.2.1
  have hnc := h.rd.1
  have hnm : (n : Int) ≤ 9223372036854775807 := by unfold maxLen at hcap; omega
  have HLEN := Lib.hid h.len
  unfold LAns at HLG
  clear h hcap hnc
  by_cases hbs : 4611686018427387904 < base
  · have HN := Lib.hid (fun W => cnew_none base term W hbs)
    have hdn : decide (base ≤ 4611686018427387904) = false := by simp; omega
    rw [hdn] at HRN
    clear hdn hbs
    go_enter Try.func3, Try.ntmps3
    go_wp2_with (first
      | (go_at_call 9; refine HLG.out.mono ?_; rintro e w1 ⟨b1, rfl, hf1, hb1⟩; have HB1 := Lib.hid hb1; clear hb1 hf1; cases b1)
      | (go_at_call 10; refine (HLV.out _).mono ?_; rintro e w4 ⟨rfl, hb4⟩)
      | (go_at_call 11; refine (HN.out _).mono ?_; rintro e w2 ⟨rfl, rfl⟩)
      | (go_at_call 12; refine (HRN.out _).mono ?_; rintro e w3 ⟨rfl, _, hb3⟩; have HB1 := Lib.hid (HB1.out.trans (hb3.mono HB1.out.size)); clear hb3)
      | fail)
    all_goals go_ret
    all_goals exact ⟨rfl, HB1.out.trans (hb4.mono HB1.out.size)⟩
  have HN := Lib.hid (fun W => cnew_any base term W (by omega))
  have hdn : decide (base ≤ 4611686018427387904) = true := by simp; omega
  rw [hdn] at HRN
  have HBS := Lib.hid (show base ≤ 4611686018427387904 by omega)
  clear hdn hbs
  go_enter Try.func3, Try.ntmps3
  go_wp2_with (first
    | (go_at_call 9; refine HLG.out.mono ?_; rintro e w1 ⟨b1, rfl, hf1, hb1⟩; have HB1 := Lib.hid hb1; have HF1 := Lib.hid hf1; clear hb1 hf1; cases b1)
    | (go_at_call 10; refine (HLV.out _).mono ?_; rintro e w4 ⟨rfl, hb4⟩)
    | (go_at_call 11; refine (HN.out _).mono ?_; rintro e w2 ⟨rfl, hc2, hb2⟩
       have HC2 := Lib.hid hc2
       have HB2 := Lib.hid hb2
       clear hc2 hb2)
    | (go_at_call 12; refine (HRN.out _).mono ?_; rintro e w3 ⟨rfl, hr3, hb3⟩
       have HO3 : Hid (Bo w w3 w1.heap.size ⟨base, term, []⟩ w2.heap.size 0) := Lib.hid (by
         have hck := HC2.out.below hb3
         refine ⟨.slice none 0 0, none, 0, hck.low HB1.out.size, hr3 HBS.out, ?_, fun h => absurd h (Nat.lt_irrefl _), Nat.le_trans HB1.out.size HB2.out.size, (HB1.out.trans (HB2.out.mono HB1.out.size)).trans (hb3.mono (Nat.le_trans HB1.out.size HB2.out.size)), HBS.out⟩
         rintro (e | e)
         · have := HC2.out.lt; omega
         · cases e)
       clear hr3 hb3)
    | fail)
  · go_ret
    exact ⟨rfl, HB1.out.trans (hb4.mono HB1.out.size)⟩
  obtain ⟨g, hg⟩ : ∃ g, g = w1.heap.size := ⟨_, rfl⟩
  obtain ⟨gr, hgr⟩ : ∃ gr, gr = w2.heap.size := ⟨_, rfl⟩
  rw [← hg, ← hgr] at HO3 ⊢
  have HFEW := Lib.hid (HF1.out (by first | rfl | trivial))
  clear hg hgr HF1 HC2 HB2 HB1
  go_loopw [7, 46] (fun cr ir wr => ∃ (i g : Nat) (t : Cv), i ≤ n ∧ cr = .pointer (some ⟨g, 0, none⟩) ∧ ir = .int .i64 (i : Int) ∧ Hid (Bo w wr g t gr i)) (fun _ ir _ => n - (intOf ir).toNat)
  case atStart => exact ⟨0, g, _, Nat.zero_le _, rfl, rfl, HO3⟩
  case round =>
    clear HO3
    obtain ⟨i, g, t, hi, rfl, rfl, HO⟩ := hrel
    by_cases hlt : i < n
    · obtain ⟨o, ho⟩ : ∃ o, os[i]? = some o := ⟨_, List.getElem?_eq_getElem (by have := HLEN.out; omega)⟩
      obtain ⟨b, off, rfl, k0, k1, k2, k3⟩ := op_cells HH.out ho HO.out.bel
      have hrds := (HH.out.reads o (List.mem_of_getElem? ho))
      have h50 := HFEW.out.2 o (List.mem_of_getElem? ho)
      have HI40 := Lib.hid (show i < 40 by have := HFEW.out.1; have := HLEN.out; omega)
      have hlti : (i : Int) < (n : Int) := by omega
      have HLT := Lib.hid hlti
      have HRD := Lib.hid hrds.2.2.1
      have HOL := Lib.hid hrds.2.2.2
      have HPV := Lib.hid hrds.1
      have H50 := Lib.hid h50
      clear ho hrds h50
      obtain ⟨kd, pv, tm, oA, on, oc, ol⟩ := o
      dsimp only at *
      obtain ⟨v, Ar, cr, htw, hlast⟩ := HO.out.two #[.int .i64 kd, .int .u64 (pv : Int), .int .u64 (tm : Int), .slice oA on oc] 33
      obtain ⟨W1, hW1⟩ : ∃ W1, W1 = wr.alloc (.cells #[.int .i64 kd, .int .u64 (pv : Int), .int .u64 (tm : Int), .slice oA on oc] 33) := ⟨_, rfl⟩
      rw [← hW1] at htw
      have HT := Lib.hid htw
      have HLA := Lib.hid hlast
      have HFAR := Lib.hid (show t.last + 100 < 9000000000000000000 by have := HI40.out; omega)
      obtain ⟨p, hp⟩ : ∃ p, p = wr.heap.size := ⟨_, rfl⟩
      have q0 : W1.cell? ⟨p, 0, none⟩ = some (.int .i64 kd) := by rw [hp]; exact cell_of_row W1 _ 0 _ _ _ htw.row
      have q1 : W1.cell? ⟨p, 1, none⟩ = some (.int .u64 (pv : Int)) := by rw [hp]; exact cell_of_row W1 _ 1 _ _ _ htw.row
      have q2 : W1.cell? ⟨p, 2, none⟩ = some (.int .u64 (tm : Int)) := by rw [hp]; exact cell_of_row W1 _ 2 _ _ _ htw.row
      have q3 : W1.cell? ⟨p, 3, none⟩ = some (.slice oA on oc) := by rw [hp]; exact cell_of_row W1 _ 3 _ _ _ htw.row
      rw [← hp] at HT
      have HBA := Lib.hid (fun (W : World) (g : Nat) (v : Value) (t' : Cv) (gr : Nat) (Ar : Option Addr) (cr : Nat) (u : Cv) (hT : Two w W g v t' gr Ar cr u p (.cells #[.int .i64 kd, .int .u64 (pv : Int), .int .u64 (tm : Int), .slice oA on oc] 33 (0, 0))) => Beside.arg HRD.out HOL.out (by have := H50.out; omega) hT.bel hT.ck)
      have HRW := Lib.hid (fun (W : World) (hb : Below w.heap.size w W) => ((HRD.out.below hb).more hb.size))
      clear htw hlast
      have HK := Lib.hid (Keeps.refl (fun i => Foot g v i ∨ i = gr) W1)
      go_upto_region 10 with (fail)
      rw [← hW1, ← hp]
      clear hW1 hp k0 k1 k2 k3 HO
      by_cases y0 : kd = 0
      · subst y0
        go_wp2_with (fail)
        have NF : Hid (¬ (fun i => Foot g v i ∨ i = gr) p) := Lib.hid (fun h => h.elim HT.out.np HT.out.nr)
        refine wp_segs [([0, 1, 2, 4, 5, 6], 3), ([], 7), ([], 8)] [9, 10] (fun x => Keeps (fun i => Foot g v i ∨ i = gr) W1 x) (by kernel_rfl) (by kernel_rfl) (fun d _ _ _ _ h => by cases d <;> exact h) HK.out.drew ?_
        intro q hq
        have F3 := fun z => keeps_cell (hq z) q3 NF.out
        simp only [pickI, Option.toList_some, List.cons_append, List.nil_append, List.getElem?_toArray, List.getElem?_cons_succ, List.getElem?_cons_zero]
        try go_frame
        repeat (go_big_quiet_step (fail))
        refine wpQuiet_nil ?_
        clear hq q F3
        refine seg_op (by simp only [List.getElem?_toArray, List.getElem?_cons_succ, List.getElem?_cons_zero]; rfl) fun K hK => ?_
        go_simp
        have T1 := HT.out.below (Below.refl W1.heap.size W1).drew
        have hAD := add_any T1.ck T1.bel.size (HBA.out _ _ _ _ _ _ _ _ T1) (by have := HFAR.out; have := H50.out; omega)
        unfold Puts at hAD
        refine hAD.mono ?_
        rintro e w2 ⟨rfl, hm2⟩
        obtain ⟨v2, hT2, hk2⟩ := T1.prog hm2
        have HT2 := Lib.hid hT2
        have HK2 : Hid (Keeps (fun i => Foot g v i ∨ i = gr) W1 w2) := Lib.hid (HK.out.drew.trans (hk2.wide (F' := fun i => Foot g v i ∨ i = gr) (fun i hi => .inl hi)) (fun i hi => .inl hi))
        refine hK.out _ _ (seg_keep HK2.out ?_)
        clear hK K hAD hm2 hT2 hk2 T1
        try go_frame
        intro q hq
        refine wpQuiet_nil ?_
        clear hq q
        refine seg_op (by simp only [List.getElem?_toArray, List.getElem?_cons_succ, List.getElem?_cons_zero]; rfl) fun K hK => ?_
        go_simp
        have HPL := plain_any (HRW.out w2 HT2.out.bel) HOL.out (by have := H50.out; omega)
        refine HPL.mono ?_
        rintro e w3 ⟨A3, c3, rfl, ho3, hb3⟩
        have HT3 := Lib.hid (HT2.out.below hb3)
        have HR3 := Lib.hid (ownsRow_rd ho3)
        have HK3 := Lib.hid (HK2.out.trans (Keeps.of_below (F := fun i => Foot g v i ∨ i = gr) hb3) (fun i hi => .inl hi))
        clear ho3 HPL
        refine hK.out _ _ (seg_keep HK3.out ?_)
        clear hK K hb3
        try go_frame
        intro q hq
        refine wpQuiet_nil ?_
        clear hq q
        refine seg_op (by simp only [List.getElem?_toArray, List.getElem?_cons_succ, List.getElem?_cons_zero]; rfl) fun K hK => ?_
        go_simp
        have hRA := radd_any HT3.out.rk HR3.out rfl (by have := H50.out; have := HOL.out; omega) (by have := HFAR.out; have := H50.out; have := HOL.out; omega)
        refine hRA.mono ?_
        rintro e w4 ⟨rfl, hm4⟩
        have hk4 : Keeps (fun i => i = gr) w3 w4 := by obtain ⟨_, _, _, hk, _⟩ := hm4; exact hk
        obtain ⟨A4, c4, hT4⟩ := HT3.out.ref hm4
        have HT4 := Lib.hid hT4
        have HK4 : Hid (Keeps (fun i => Foot g v i ∨ i = gr) W1 w4) := Lib.hid (HK3.out.trans (hk4.wide (F' := fun i => Foot g v i ∨ i = gr) (fun i hi => .inr hi)) (fun i hi => .inl hi))
        refine hK.out _ _ (seg_keep HK4.out ?_)
        clear hK K hRA hm4 hT4 hk4
        try go_frame
        intro q hq
        simp only [pickI, Option.toList_some, List.cons_append, List.nil_append, List.getElem?_toArray, List.getElem?_cons_succ, List.getElem?_cons_zero]
        try go_frame
        repeat (go_big_quiet_step (fail))
        refine wpQuiet_nil ?_
        clear hq q
        have HNL : Hid ((t.put t.last ol).last ≤ 4611686018427387904 + 200 * (i + 1)) := Lib.hid (by have := add_last (t := t) (l := ol); have := HLA.out; have := HOL.out; have := H50.out; omega)
        generalize t.put t.last ol = t2 at *
        generalize t.stop t.last ol = sv at *
        clear HK HK2 HK3 HK4 HT2 HT3 HR3 q0 q1 q2 q3
        have q1 : w4.cell? ⟨p, 1, none⟩ = some (.int .u64 (pv : Int)) := cell_of_row w4 _ 1 _ _ _ HT4.out.row
        have q2 : w4.cell? ⟨p, 2, none⟩ = some (.int .u64 (tm : Int)) := cell_of_row w4 _ 2 _ _ _ HT4.out.row
        have HLK := Lib.hid (like_any HT4.out.ck HT4.out.rk pv tm HPV.out)
        have hltI := HLT.out
        go_wp2_with (first
          | (go_at_call 22; refine HLK.out.mono ?_; rintro e w9 ⟨rfl, hb9⟩)
          | fail)
        exact ⟨⟨i + 1, g, t2, by omega, rfl, by go_num, Lib.hid ((HT4.out.below hb9).bo HNL.out)⟩, by simp [intOf]; omega⟩

      · have z0 : decide (kd = 0) = false := by simpa using y0
        have z0b : (kd == 0) = false := by simpa using y0
        by_cases y1 : kd = 1
        · subst y1
          have NF : Hid (¬ (fun i => Foot g v i ∨ i = gr) p) := Lib.hid (fun h => h.elim HT.out.np HT.out.nr)
          obtain ⟨kT, hkT⟩ : ∃ k, k = (if t.takes pv tm ol = true then t.takeTo pv ol else 0) := ⟨_, rfl⟩
          obtain ⟨bT, hbT⟩ : ∃ b, b = t.takes pv tm ol := ⟨_, rfl⟩
          have HKT := Lib.hid hkT
          have HBT := Lib.hid hbT
          have hTK := take_any HT.out.ck HT.out.bel.size pv tm (HBA.out _ _ _ _ _ _ _ _ HT.out) (by have := HFAR.out; have := H50.out; omega)
          unfold Takes at hTK
          rw [← hkT, ← hbT] at hTK
          have HTK := Lib.hid hTK
          clear hTK hkT hbT
          go_wp2_with (first
            | (go_at_call 16; refine HTK.out.mono ?_; rintro e w2 ⟨rfl, hm2⟩
               obtain ⟨v2, hT2, hk2⟩ := HT.out.prog hm2
               have HT2 := Lib.hid hT2
               clear hm2 hT2 hk2)
            | fail)
          have q1 : w2.cell? ⟨p, 1, none⟩ = some (.int .u64 (pv : Int)) := cell_of_row w2 _ 1 _ _ _ HT2.out.row
          have q2 : w2.cell? ⟨p, 2, none⟩ = some (.int .u64 (tm : Int)) := cell_of_row w2 _ 2 _ _ _ HT2.out.row
          have q3 : w2.cell? ⟨p, 3, none⟩ = some (.slice oA on oc) := cell_of_row w2 _ 3 _ _ _ HT2.out.row
          have NF2 : Hid (¬ (fun i => i = gr) p) := Lib.hid HT2.out.nr
          refine wp_segs [([0, 1, 2, 3, 4, 5, 6], 7), ([], 8)] [9, 10, 11, 12, 13] (fun x => Keeps (fun i => i = gr) w2 x) (by kernel_rfl) (by kernel_rfl) (fun d _ _ _ _ h => by cases d <;> exact h) (Keeps.refl _ _).drew ?_
          intro q hq
          have F1 := fun z => keeps_cell (hq z) q1 NF2.out
          have F2 := fun z => keeps_cell (hq z) q2 NF2.out
          have F3 := fun z => keeps_cell (hq z) q3 NF2.out
          simp only [pickI, Option.toList_some, List.cons_append, List.nil_append, List.getElem?_toArray, List.getElem?_cons_succ, List.getElem?_cons_zero]
          try go_frame
          repeat (go_big_quiet_step (fail))
          refine wpQuiet_nil ?_
          clear hq q F1 F2 F3
          have HT2d := Lib.hid (HT2.out.below (Below.refl w2.heap.size w2).drew)
          refine seg_op (by simp only [List.getElem?_toArray, List.getElem?_cons_succ, List.getElem?_cons_zero]; rfl) fun K hK => ?_
          go_simp
          have HPL := plain_any (HRW.out _ HT2d.out.bel) HOL.out (by have := H50.out; omega)
          refine HPL.mono ?_
          rintro e w3 ⟨A3, c3, rfl, ho3, hb3⟩
          have HT3 := Lib.hid (HT2d.out.below hb3)
          have HR3 := Lib.hid (ownsRow_rd ho3)
          have HK3 : Hid (Keeps (fun i => i = gr) w2 w3) := Lib.hid ((Keeps.refl (fun i => i = gr) w2).drew.trans (Keeps.of_below (F := fun i => i = gr) hb3) (fun i hi => .inl hi))
          clear ho3 HPL
          refine hK.out _ _ (seg_keep HK3.out ?_)
          clear hK K hb3
          try go_frame
          intro q hq
          refine wpQuiet_nil ?_
          clear hq q
          refine seg_op (by simp only [List.getElem?_toArray, List.getElem?_cons_succ, List.getElem?_cons_zero]; rfl) fun K hK => ?_
          go_simp
          have hRT := rtake_any HT3.out.rk pv tm HR3.out rfl (by have := H50.out; have := HOL.out; omega) (by have := HFAR.out; have := H50.out; have := HOL.out; omega)
          unfold RTakes at hRT
          rw [← HKT.out, ← HBT.out] at hRT
          refine hRT.mono ?_
          rintro e w4 ⟨rfl, hm4⟩
          have hk4 : Keeps (fun i => i = gr) w3 w4 := by obtain ⟨_, _, _, hk, _⟩ := hm4; exact hk
          obtain ⟨A4, c4, hT4⟩ := HT3.out.ref hm4
          have HT4 := Lib.hid hT4
          have HK4 : Hid (Keeps (fun i => i = gr) w2 w4) := Lib.hid (HK3.out.trans hk4 (fun i hi => .inl hi))
          refine hK.out _ _ (seg_keep HK4.out ?_)
          clear hK K hRT hm4 hT4 hk4
          try go_frame
          intro q hq
          simp only [pickI, Option.toList_some, List.cons_append, List.nil_append, List.getElem?_toArray, List.getElem?_cons_succ, List.getElem?_cons_zero]
          try go_frame
          repeat (go_big_quiet_step (fail))
          refine wpQuiet_nil ?_
          clear hq q
          have HNL : Hid ((t.take pv tm ol).last ≤ 4611686018427387904 + 200 * (i + 1)) := Lib.hid (by have := take_last (t := t) (prev := pv) (term := tm) (l := ol); have := HLA.out; have := HOL.out; have := H50.out; omega)
          generalize t.take pv tm ol = t2 at *
          clear HK HK3 HK4 HT2 HT2d HT3 HR3 q0 q1 q2 q3 HKT HBT HTK
          cases bT
          · skip
            have q1 : w4.cell? ⟨p, 1, none⟩ = some (.int .u64 (pv : Int)) := cell_of_row w4 _ 1 _ _ _ HT4.out.row
            have q2 : w4.cell? ⟨p, 2, none⟩ = some (.int .u64 (tm : Int)) := cell_of_row w4 _ 2 _ _ _ HT4.out.row
            have HLK := Lib.hid (like_any HT4.out.ck HT4.out.rk pv tm HPV.out)
            have hltI := HLT.out
            go_wp2_with (first
              | (go_at_call 22; refine HLK.out.mono ?_; rintro e w9 ⟨rfl, hb9⟩)
              | fail)
            exact ⟨⟨i + 1, g, t2, by omega, rfl, by go_num, Lib.hid ((HT4.out.below hb9).bo HNL.out)⟩, by simp [intOf]; omega⟩

          · skip
            have q1 : w4.cell? ⟨p, 1, none⟩ = some (.int .u64 (pv : Int)) := cell_of_row w4 _ 1 _ _ _ HT4.out.row
            have q2 : w4.cell? ⟨p, 2, none⟩ = some (.int .u64 (tm : Int)) := cell_of_row w4 _ 2 _ _ _ HT4.out.row
            have HLK := Lib.hid (like_any HT4.out.ck HT4.out.rk pv tm HPV.out)
            have hltI := HLT.out
            go_wp2_with (first
              | (go_at_call 22; refine HLK.out.mono ?_; rintro e w9 ⟨rfl, hb9⟩)
              | fail)
            exact ⟨⟨i + 1, g, t2, by omega, rfl, by go_num, Lib.hid ((HT4.out.below hb9).bo HNL.out)⟩, by simp [intOf]; omega⟩


        · have z1 : decide (kd = 1) = false := by simpa using y1
          have z1b : (kd == 1) = false := by simpa using y1
          by_cases y2 : kd = 2
          · subst y2
            go_wp2_with (fail)
            have NF : Hid (¬ (fun i => Foot g v i ∨ i = gr) p) := Lib.hid (fun h => h.elim HT.out.np HT.out.nr)
            refine wp_segs [([0, 1, 2, 4, 5, 6], 3), ([], 7)] [8, 9] (fun x => Keeps (fun i => Foot g v i ∨ i = gr) W1 x) (by kernel_rfl) (by kernel_rfl) (fun d _ _ _ _ h => by cases d <;> exact h) HK.out.drew ?_
            intro q hq
            have F1 := fun z => keeps_cell (hq z) q1 NF.out
            simp only [pickI, Option.toList_some, List.cons_append, List.nil_append, List.getElem?_toArray, List.getElem?_cons_succ, List.getElem?_cons_zero]
            try go_frame
            repeat (go_big_quiet_step (fail))
            refine wpQuiet_nil ?_
            clear hq q F1
            refine seg_op (by simp only [List.getElem?_toArray, List.getElem?_cons_succ, List.getElem?_cons_zero]; rfl) fun K hK => ?_
            go_simp
            have T1 := HT.out.below (Below.refl W1.heap.size W1).drew
            have hAD := cut_any T1.ck T1.bel.size pv
            refine hAD.mono ?_
            rintro e w2 ⟨rfl, hm2⟩
            obtain ⟨v2, hT2, hk2⟩ := T1.prog hm2
            have HT2 := Lib.hid hT2
            have HK2 : Hid (Keeps (fun i => Foot g v i ∨ i = gr) W1 w2) := Lib.hid (HK.out.drew.trans (hk2.wide (F' := fun i => Foot g v i ∨ i = gr) (fun i hi => .inl hi)) (fun i hi => .inl hi))
            refine hK.out _ _ (seg_keep HK2.out ?_)
            clear hK K hAD hm2 hT2 hk2 T1
            try go_frame
            intro q hq
            refine wpQuiet_nil ?_
            clear hq q
            refine seg_op (by simp only [List.getElem?_toArray, List.getElem?_cons_succ, List.getElem?_cons_zero]; rfl) fun K hK => ?_
            go_simp
            have hRA := rcut_any HT2.out.rk pv
            refine hRA.mono ?_
            rintro e w4 ⟨rfl, hm4⟩
            have hk4 : Keeps (fun i => i = gr) w2 w4 := by obtain ⟨_, _, _, hk, _⟩ := hm4; exact hk
            obtain ⟨A4, c4, hT4⟩ := HT2.out.ref hm4
            have HT4 := Lib.hid hT4
            have HK4 : Hid (Keeps (fun i => Foot g v i ∨ i = gr) W1 w4) := Lib.hid (HK2.out.trans (hk4.wide (F' := fun i => Foot g v i ∨ i = gr) (fun i hi => .inr hi)) (fun i hi => .inl hi))
            refine hK.out _ _ (seg_keep HK4.out ?_)
            clear hK K hRA hm4 hT4 hk4
            try go_frame
            intro q hq
            simp only [pickI, Option.toList_some, List.cons_append, List.nil_append, List.getElem?_toArray, List.getElem?_cons_succ, List.getElem?_cons_zero]
            try go_frame
            repeat (go_big_quiet_step (fail))
            refine wpQuiet_nil ?_
            clear hq q
            have HNL : Hid ((t.cut pv).last ≤ 4611686018427387904 + 200 * (i + 1)) := Lib.hid (by rw [cut_last]; have := HLA.out; omega)
            generalize t.cut pv = t2 at *
            generalize t.cutWhy pv = sv at *
            clear HK HK2 HK4 HT2 q0 q1 q2 q3
            have q1 : w4.cell? ⟨p, 1, none⟩ = some (.int .u64 (pv : Int)) := cell_of_row w4 _ 1 _ _ _ HT4.out.row
            have q2 : w4.cell? ⟨p, 2, none⟩ = some (.int .u64 (tm : Int)) := cell_of_row w4 _ 2 _ _ _ HT4.out.row
            have HLK := Lib.hid (like_any HT4.out.ck HT4.out.rk pv tm HPV.out)
            have hltI := HLT.out
            go_wp2_with (first
              | (go_at_call 22; refine HLK.out.mono ?_; rintro e w9 ⟨rfl, hb9⟩)
              | fail)
            exact ⟨⟨i + 1, g, t2, by omega, rfl, by go_num, Lib.hid ((HT4.out.below hb9).bo HNL.out)⟩, by simp [intOf]; omega⟩

          · have z2 : decide (kd = 2) = false := by simpa using y2
            have z2b : (kd == 2) = false := by simpa using y2
            have HNL : Hid (t.last ≤ 4611686018427387904 + 200 * (i + 1)) := Lib.hid (by have := HLA.out; omega)
            go_wp2_with (first
              | (go_at_call 20; refine (clone_any HT.out.ck).mono ?_; rintro e w2 ⟨g', v', rfl, hc2, hb2⟩
                 have HS := Lib.hid (HT.out.clone hc2 hb2)
                 clear hc2 hb2)
              | (go_at_call 21; refine (last_any HS.out.two.ck).mono ?_; rintro e w3 ⟨rfl, rfl⟩)
              | (go_at_call 18; refine (cut_any HS.out.two.ck HS.out.two.bel.size t.last).mono ?_; rintro e w3 ⟨rfl, hm3⟩
                 obtain ⟨v3, hs3⟩ := HS.out.prog hm3
                 have HS3 := Lib.hid hs3
                 have HL3 : Hid ((t.cut t.last).last + 100 < 9000000000000000000) := Lib.hid (by rw [cut_last]; exact HFAR.out)
                 generalize t.cut t.last = t3 at *
                 generalize t.cutWhy t.last = sv3 at *
                 clear hm3 hs3 HS)
              | (go_at_call 13
                 have hb4 : Below w3.heap.size w3 (w3.alloc (.cells #[.int .u64 9223372036854775808, .int .i64 0, .string ⟨#[]⟩] 47)) := (Below.refl _ _).alloc (Nat.le_refl _) _
                 have hbs := Beside.lit (ty := 47) (cs := #[.int .u64 9223372036854775808, .int .i64 0, .string ⟨#[]⟩]) (l := [⟨9223372036854775808, 0, []⟩]) (n := 1) HS3.out.two.ck rfl rfl (by omega)
                 have hs4 := HS3.out.below hb4
                 have ha := add_any hs4.two.ck hs4.two.bel.size hbs (by have := HL3.out; omega)
                 unfold Puts at ha
                 refine ha.mono ?_
                 rintro e w5 ⟨rfl, hm5⟩
                 obtain ⟨v5, hs5⟩ := hs4.prog hm5
                 have HT4 := Lib.hid hs5.done
                 generalize t3.stop t3.last [⟨9223372036854775808, 0, []⟩] = sv4 at *
                 have r1 : w5.cell? ⟨p, 1, none⟩ = some (.int .u64 (pv : Int)) := cell_of_row w5 _ 1 _ _ _ HT4.out.row
                 have r2 : w5.cell? ⟨p, 2, none⟩ = some (.int .u64 (tm : Int)) := cell_of_row w5 _ 2 _ _ _ HT4.out.row
                 have HLK := Lib.hid (like_any HT4.out.ck HT4.out.rk pv tm HPV.out)
                 clear ha hbs hs4 hm5 hs5 hb4 q0 q1 q2 q3)
              | (go_at_call 22; refine HLK.out.mono ?_; rintro e w9 ⟨rfl, hb9⟩)
              | fail)
            have hltI := HLT.out
            exact ⟨⟨i + 1, g', t, by omega, rfl, by go_num, Lib.hid ((HT4.out.below hb9).bo HNL.out)⟩, by simp [intOf]; omega⟩


    · obtain rfl : i = n := by omega
      have d3 : decide ((i : Int) < (i : Int)) = false := by simp
      clear hlt
      go_wp2_with (first
        | (go_at_call 10; refine (HLV.out _).mono ?_; rintro e w3 ⟨rfl, hb3⟩)
        | fail)
      go_ret
      exact ⟨rfl, HO.out.bel.trans (hb3.mono HO.out.bel.size)⟩
theorem chainPlays_walk {w : World} (base : Nat) (hb : base < 18446744073709551616) (term : Nat) (_ : term < 18446744073709551616) {A : Option Addr} {n c : Nat} {os : List O29} (h : Slc O29.lay w A n c os) :
    Calls Try.prog 3 #[.int .u64 (base : Int), .int .u64 (term : Int), .slice A n c] w fun e w' => e = .returned (.bool true) ∧ Below w.heap.size w w' := plays_at base term hb h
namespace chainPlays
open Go.ChangeShapes Go.WideShapes Go.ChangeAt
set_option maxRecDepth 100000 in
theorem lifted (os : Os) (started : os.Started) (H : Type) (enc : TypeId × Value → H) :
    ReturnsInHanded {} Try.checked os 3 .any (Rows.chainPlaysSpec.pre6 enc Try.prog Try.f3 Rows.chainPlaysRow.domain false) (Rows.chainPlaysSpec.post enc Try.prog Try.f3 false true false false) := by
  refine returnsInHanded_of_change (C := Try.checked) own started (by kernel_rfl) Try.func3
    (ChangeSpec.witness6 (enc := enc) (C := Try.checked) false ⟨#[], #[.int .u64 0, .int .u64 0, .slice none 0 0], []⟩ 8 (by kernel_rfl) (by kernel_rfl) (by kernel_rfl) (by kernel_rfl)) ?_
  intro W base args ds gs before hval0 hW _ _
  have hval : ∀ (j : Nat) t v, Try.f3.params[j]? = some t → args[j]? = some v → Value.okWide Try.prog W .any base t v := hval0
  have hW' := hW
  obtain ⟨p, q, hA0, hV, rfl, hfz, hnd⟩ := hW
  have hA : DataW.TrodAll enc Try.prog W 0 (fun _ => true) true Try.f3.params.toList args.toList ds p := hA0
  rw [Try.params3] at hA hval
  obtain ⟨v0, vs0, d0, ds0, p0, q0, hargs, rfl, rfl, h0, r0⟩ := trodAll_cons hA
  obtain ⟨v1, vs1, d1, ds1, p1, q1, rfl, rfl, rfl, h1, r1⟩ := trodAll_cons r0
  obtain ⟨v2, vs2, d2, ds2, p2, q2, rfl, rfl, rfl, h2, r2⟩ := trodAll_cons r1
  obtain ⟨rfl, rfl, rfl⟩ := trodAll_nil r2
  obtain rfl : args = #[v0, v1, v2] := by cases args; simp_all
  obtain ⟨rfl, rfl⟩ := trodVars_none hV
  have k0 := h0
  have lt0 : ∀ x ∈ p0, x.block < W.heap.size := by obtain ⟨m, hm⟩ := k0; exact DataW.trod_lt m _ _ _ hm
  obtain ⟨x0, rfl, w0⟩ := dec_u64 Try.underlying22 (hval 0 22 v0 rfl rfl) h0
  have k1 := h1
  have lt1 : ∀ x ∈ p1, x.block < W.heap.size := by obtain ⟨m, hm⟩ := k1; exact DataW.trod_lt m _ _ _ hm
  obtain ⟨x1, rfl, w1⟩ := dec_u64 Try.underlying22 (hval 1 22 v1 rfl rfl) h1
  have k2 := h2
  have lt2 : ∀ x ∈ p2, x.block < W.heap.size := by obtain ⟨m, hm⟩ := k2; exact DataW.trod_lt m _ _ _ hm
  obtain ⟨a2, n2, c2, l2, rfl, w2⟩ := O29.dec (hval 2 23 v2 rfl rfl) h2
  clear hA0 hval0
  refine (chainPlays_walk x0 w0 x1 w1 w2).mono fun e W' ⟨he, bel⟩ => ?_
  subst he
  exact ⟨_, rfl, _, _, _, [], _, [], hW', trodAll_mk1 (shut_bool Try.underlying4 _), (trodAll_cons_mk (Below.trod laidOut (by kernel_rfl) (of_decide_eq_true (by kernel_rfl)) k0 bel lt0) (trodAll_cons_mk (Below.trod laidOut (by kernel_rfl) (of_decide_eq_true (by kernel_rfl)) k1 bel lt1) (trodAll_cons_mk (Below.trod laidOut (by kernel_rfl) (of_decide_eq_true (by kernel_rfl)) k2 bel lt2) trodAll_mk0))), rfl, bel.frame _, fun h => by cases h⟩

theorem over : Rows.chainPlaysRow.holds Try.pinned (OpenSpec.ofChange Rows.chainPlaysSpec) :=
  OpenClaim.holds_of_wide 3 Try.f3 rfl rfl rfl rfl rfl rfl rfl ⟨rfl, rfl, rfl, rfl, rfl⟩ rfl rfl rfl rfl rfl (by kernel_rfl) Try.func3 (by kernel_rfl)
    (of_decide_eq_true (by kernel_rfl)) (by unfold Func.isWrapper; first | (rw [if_pos (by decide +kernel)]; kernel_rfl) | (rw [if_neg (by decide +kernel)]; exact ⟨rfl, rfl⟩))
    (fun os started H enc _ => lifted os started H enc)
/-- The given statement. -/
theorem proved : Rows.ChainPlaysSaid := over
end chainPlays

end Go.Proofs.Ytlpckhjmbfeegaa
