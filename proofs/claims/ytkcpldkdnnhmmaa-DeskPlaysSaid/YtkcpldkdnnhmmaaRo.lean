/- A call, both ways: the same is told, and the same waits. -/
import Derived.Test.YtkcpldkdnnhmmaaRm
import Derived.Test.YtkcpldkdnnhmmaaRh
import Derived.Test.YtkcpldkdnnhmmaaRr
import Derived.Test.YtkcpldkdnnhmmaaRw
namespace Go.Proofs.Ytkcpldkdnnhmmaa
open Go.RowKit
set_option maxRecDepth 20000

theorem own_apart {w : World} {B B2 n n2 sz sz2 : Nat} {e e2 : TypeId} {v v2 : Value} {xs ys : List Value} (h1 : w.ownsRow B e sz v n xs) (h2 : w.ownsRow B2 e2 sz2 v2 n2 ys) (hne : e ≠ e2) {i : Nat} (hi : v.ownBlock = some i) : v2.ownBlock ≠ some i := by
  intro h
  rcases h2.2 with ⟨rfl, _⟩ | ⟨g, cap, cur, rfl, _, hg, _⟩
  · cases h
  · cases h
    exact own_ne_row h1 hg hne _ hi rfl
theorem apart {w : World} {B B2 g g2 hg : Nat} {v v2 : Value} {t t2 : Dk} (h : Dg w B g v t) (r : Rg w B2 g2 hg v2 t2) {i : Nat} (hi : Foot g v i) : ¬ RFoot g2 hg v2 i := by
  rintro (rfl | rfl | hj)
  · rcases hi with rfl | hi
    · have h1 := h.row
      rw [r.row] at h1
      exact absurd (Obj.cells.inj (Option.some.inj h1)).2.1 (by decide)
    · exact own_ne_row h.own r.row (by decide) _ hi rfl
  · exact h.free r.hrow hi
  · rcases hi with rfl | hi
    · exact own_ne_row r.own h.row (by decide) _ hj rfl
    · exact own_apart h.own r.own (by decide) hi hj
def Dk.stepO (t : Dk) (o : O25) : Dk :=
  if o.kd = 0 then t.write o.cl o.rq o.x else if o.kd = 1 then t.read o.cl o.rq o.fr o.ct else if o.kd = 2 then t.turn (t.round + 1)
  else if o.kd = 3 then (t.hearN o.nd o.x).wait ((t.hearN o.nd o.x).l.filter fun y => !y.upto (t.hearN o.nd o.x).sure) else t.wait (t.l.filter fun y => !y.done o.mL o.mB)
/-- What a call, both ways, makes of both desks. -/
def Done2 (w : World) (B g g2 hg : Nat) (v v2 : Value) (t' : Dk) (w' : World) : Prop := (∃ v', Dg w' B g v' t') ∧ (∃ v2', Rg w' B g2 hg v2' t') ∧ Keeps (fun i => Foot g v i ∨ RFoot g2 hg v2 i) w w'
theorem Done2.mk' {w w1 w3 w5 : World} {B g g2 hg : Nat} {v v2 : Value} {t t' : Dk} (hb : Below w.heap.size w w1) (hd : Dg w1 B g v t) (hr : Rg w1 B g2 hg v2 t) (m : Mv w1 B g v t' w3) (n : RMv w3 B g2 hg v2 t' w5) : Done2 w B g g2 hg v v2 t' w5 := by
  obtain ⟨v', h3, k3, _⟩ := m
  have hr3 := hr.keeps k3 (fun i hi hf => apart hd hr hf hi)
  obtain ⟨v2', h5, k5, _⟩ := n
  exact ⟨⟨v', h3.keeps k5 (fun i hi hf => apart h3 hr3 hi hf)⟩, ⟨v2', h5⟩, ((Keeps.of_below hb).trans (k3.wide (F' := fun i => Foot g v i ∨ RFoot g2 hg v2 i) (fun i hi => .inl hi)) (fun i hi => .inl hi)).trans (k5.wide (F' := fun i => Foot g v i ∨ RFoot g2 hg v2 i) (fun i hi => .inr hi)) (fun i hi => .inl hi)⟩
theorem Done2.then {w w5 w6 : World} {B g g2 hg : Nat} {v v2 : Value} {t' : Dk} (d : Done2 w B g g2 hg v v2 t' w5) (hb : Below w5.heap.size w5 w6) : Done2 w B g g2 hg v v2 t' w6 := by
  obtain ⟨⟨v', h1⟩, ⟨v2', h2⟩, k⟩ := d
  exact ⟨⟨v', h1.below hb⟩, ⟨v2', h2.below hb⟩, k.trans (Keeps.of_below (F := fun i => Foot g v i ∨ RFoot g2 hg v2 i) hb) (fun i hi => .inl hi)⟩
/-- The row of the call. -/
def ORow (p : Nat) (o : O25) (x : World) : Prop := x.heap[p]? = some (.cells o.cells 36 (0, 0))
set_option maxHeartbeats 8000000 in
theorem do_any {w : World} {B g g2 hg : Nat} {v v2 : Value} {t : Dk} {o : O25} (hd : Dg w B g v t) (hr : Rg w B g2 hg v2 t) (hB : B ≤ w.heap.size) (hro : t.round < 1000000) (hx : o.Reads w) :
    Calls Try.prog 10 #[.pointer (some ⟨g, 0, none⟩), .pointer (some ⟨g2, 0, none⟩), .agg o.cells] w fun e w' => e = .returned (.bool true) ∧ Done2 w B g g2 hg v v2 (t.stepO o) w' := by
  obtain ⟨W, hW, hz, r0, hb⟩ := Qu.boxes1 w o.cells 36
  have HD := Lib.hid (hd.below hb)
  have HR := Lib.hid (hr.below hb)
  have HBW := Lib.hid hb
  have HB := Lib.hid (Nat.le_trans hB hb.size)
  have HRO := Lib.hid hro
  have HX := Lib.hid hx
  have HZ := Lib.hid hz
  have HS : Hid (ORow w.heap.size o W) := Lib.hid r0
  have HNP : Hid (¬ Foot g v w.heap.size) := Lib.hid (fun hf => Nat.lt_irrefl _ (hd.foot hf).2)
  have HNR : Hid (¬ RFoot g2 hg v2 w.heap.size) := Lib.hid (fun hf => Nat.lt_irrefl _ (hr.foot hf).2)
  clear hd hr hb hB hro hx r0 hz
  unfold Dk.stepO
  obtain ⟨kd, cl, rq, x, fr, ct, nd, mL, mB⟩ := o
  dsimp only
  unfold O25.cells at hW ⊢
  dsimp only at hW ⊢
  have q0 : W.cell? ⟨w.heap.size, 0, none⟩ = some (.int .i64 kd) := cell_of_row W _ 0 _ _ _ HS.out
  by_cases y0 : kd = 0
  · rw [if_pos y0]
    subst y0
    have HW := Lib.hid hW
    rw [hW] at q0
    clear hW
    go_enter Try.func10, Try.ntmps10
    go_wp2_with (fail)
    rw [← HW.out]
    refine wp_segs [([0, 1, 2, 3, 4, 5, 6, 8, 9, 10, 11, 12, 13, 14], 7), ([], 15)] [16, 17] (ORow w.heap.size ⟨0, cl, rq, x, fr, ct, nd, mL, mB⟩) (by kernel_rfl) (by kernel_rfl) (fun d _ _ _ _ h => by cases d <;> exact h) HS.out ?_
    obtain ⟨wd, hwd⟩ : ∃ wd, wd = W.drew := ⟨_, rfl⟩
    have hbd : Below W.heap.size W wd := by rw [hwd]; exact (Below.refl _ _).drew
    rw [← hwd]
    clear hwd
    have HDd := Lib.hid (HD.out.below hbd)
    have HRd := Lib.hid (HR.out.below hbd)
    have HBd := Lib.hid (Nat.le_trans HB.out hbd.size)
    have HSd : Hid (ORow w.heap.size ⟨0, cl, rq, x, fr, ct, nd, mL, mB⟩ wd) := Lib.hid ((hbd.block _ (by have := HZ.out; omega)).trans HS.out)
    have HBDD := Lib.hid (HBW.out.trans (hbd.mono HBW.out.size))
    clear hbd
    intro q hq
    have F1 := fun z => cell_of_row (q z) _ 1 _ _ _ (hq z)
    have F2 := fun z => cell_of_row (q z) _ 2 _ _ _ (hq z)
    have F3 := fun z => cell_of_row (q z) _ 3 _ _ _ (hq z)
    unfold O25.cells at F1 F2 F3
    simp only [pickI, Option.toList_some, List.cons_append, List.nil_append, List.getElem?_toArray, List.getElem?_cons_succ, List.getElem?_cons_zero]
    try go_frame
    iterate 14 go_big_quiet_step (fail)
    refine wpQuiet_nil ?_
    clear hq q F1 F2 F3
    refine seg_op (by simp only [List.getElem?_toArray, List.getElem?_cons_succ, List.getElem?_cons_zero]; rfl) fun K hK => ?_
    go_simp
    refine (write_any HDd.out HBd.out cl rq x HX.out.1).mono ?_
    rintro e w3 ⟨rfl, hm⟩
    have HM3 := Lib.hid hm
    obtain ⟨v3, hv3, k3, _⟩ := hm
    have hr3 := HRd.out.keeps k3 (fun i hi hf => apart HDd.out HRd.out hf hi)
    have hs3 : ORow w.heap.size ⟨0, cl, rq, x, fr, ct, nd, mL, mB⟩ w3 := k3.row HSd.out HNP.out
    have HR3 := Lib.hid hr3
    have HB3 := Lib.hid (Nat.le_trans HBd.out k3.size)
    clear hv3 k3 hr3
    refine hK.out _ _ (seg_keep hs3 ?_)
    clear hK K
    intro q hq
    refine wpQuiet_nil ?_
    clear hq q
    refine seg_op (by simp only [List.getElem?_toArray, List.getElem?_cons_succ, List.getElem?_cons_zero]; rfl) fun K hK => ?_
    go_simp
    refine (rwrite_any HR3.out HB3.out cl rq x HX.out.1).mono ?_
    rintro e w5 ⟨rfl, hn⟩
    have HN5 := Lib.hid hn
    obtain ⟨v5, hv5, k5, _⟩ := hn
    have hs5 : ORow w.heap.size ⟨0, cl, rq, x, fr, ct, nd, mL, mB⟩ w5 := k5.row hs3 HNR.out
    clear hv5 k5 hs3
    refine hK.out _ _ (seg_keep hs5 ?_)
    clear hK K
    intro q hq
    simp only [pickI, Option.toList_some, List.cons_append, List.nil_append, List.getElem?_toArray, List.getElem?_cons_succ, List.getElem?_cons_zero]
    try go_frame
    iterate 2 go_big_quiet_step (fail)
    refine wpQuiet_nil ?_
    clear hq q
    clear hs5
    go_wp2
    go_ret
    exact ⟨rfl, Done2.mk' HBDD.out HDd.out HRd.out HM3.out HN5.out⟩
  · rw [if_neg y0]
    by_cases y1 : kd = 1
    · rw [if_pos y1]
      subst y1
      have HW := Lib.hid hW
      rw [hW] at q0
      clear hW
      have q1 : W.cell? ⟨w.heap.size, 1, none⟩ = some (.int .u64 (cl : Int)) := cell_of_row W _ 1 _ _ _ HS.out
      have q2 : W.cell? ⟨w.heap.size, 2, none⟩ = some (.int .u64 (rq : Int)) := cell_of_row W _ 2 _ _ _ HS.out
      have q4 : W.cell? ⟨w.heap.size, 4, none⟩ = some (.int .u32 (fr : Int)) := cell_of_row W _ 4 _ _ _ HS.out
      have q5 : W.cell? ⟨w.heap.size, 5, none⟩ = some (.int .u32 (ct : Int)) := cell_of_row W _ 5 _ _ _ HS.out
      rw [HW.out] at q1 q2 q4 q5
      go_enter Try.func10, Try.ntmps10
      go_wp2_with (first
        | (go_at_call 18; rw [← HW.out]; refine (read_any HD.out HB.out cl rq fr ct HRO.out).mono ?_; rintro e w3 ⟨rfl, hm⟩
           have HM3 := Lib.hid hm
           obtain ⟨v3, hv3, k3, _⟩ := hm
           have hr3 := HR.out.keeps k3 (fun i hi hf => apart HD.out HR.out hf hi)
           have hs3 : ORow w.heap.size ⟨1, cl, rq, x, fr, ct, nd, mL, mB⟩ w3 := k3.row HS.out HNP.out
           have p1 : w3.cell? ⟨w.heap.size, 1, none⟩ = some (.int .u64 (cl : Int)) := cell_of_row w3 _ 1 _ _ _ hs3
           have p2 : w3.cell? ⟨w.heap.size, 2, none⟩ = some (.int .u64 (rq : Int)) := cell_of_row w3 _ 2 _ _ _ hs3
           have p4 : w3.cell? ⟨w.heap.size, 4, none⟩ = some (.int .u32 (fr : Int)) := cell_of_row w3 _ 4 _ _ _ hs3
           have p5 : w3.cell? ⟨w.heap.size, 5, none⟩ = some (.int .u32 (ct : Int)) := cell_of_row w3 _ 5 _ _ _ hs3
           have HR3 := Lib.hid hr3
           have HB3 := Lib.hid (Nat.le_trans HB.out k3.size)
           clear hv3 k3 hr3 hs3)
        | (go_at_call 24; refine (rread_any HR3.out HB3.out cl rq fr ct HRO.out).mono ?_; rintro e w5 ⟨rfl, hn⟩
           have HN5 := Lib.hid hn)
        | fail)
      go_ret
      exact ⟨rfl, Done2.mk' HBW.out HD.out HR.out HM3.out HN5.out⟩
    · rw [if_neg y1]
      by_cases y2 : kd = 2
      · rw [if_pos y2]
        subst y2
        have HW := Lib.hid hW
        rw [hW] at q0
        clear hW
        have hc3 := HR.out.cell (j := 3) (u := .int .u64 ((t.round + 1 : Nat) : Int)) (t' := t.turn (t.round + 1)) rfl rfl rfl (HR.out.ok.turn _)
        have e3 := HR.out.c3
        have f3 := HR.out.fr 3
        obtain ⟨R, hR⟩ : ∃ R, R = t.round + 1 := ⟨_, rfl⟩
        rw [← hR] at hc3 ⊢
        have hRi : (t.round : Int) + 1 = (R : Int) := by omega
        have hwr : IntKind.u64.wrap ((t.round : Int) + 1) = (t.round : Int) + 1 := u64w' _ (by omega) (by have := HRO.out; omega)
        have hrb : (t.round : Int) + 1 ≤ 1000000 := by have := HRO.out; omega
        have HC3 := Lib.hid hc3
        have HRi := Lib.hid hRi
        have HRE := Lib.hid hR
        clear hc3 hRi hR
        rw [HW.out] at e3 f3
        go_enter Try.func10, Try.ntmps10
        go_wp2_with (fail)
        rw [HRi.out, ← HW.out]
        obtain ⟨W2, hW2⟩ : ∃ W2, W2 = W.setCell ⟨g2, 3, none⟩ (.int .u64 (R : Int)) := ⟨_, rfl⟩
        rw [← hW2] at HC3 ⊢
        clear hW2
        have hd2 := HD.out.keeps HC3.out.2 (fun i hi hf => apart HD.out HR.out hi hf)
        have HD2 := Lib.hid hd2
        clear hd2
        refine wp_segs [([0, 2, 3, 4, 5], 1)] [6, 7] (fun y => y.cell? ⟨g2, 3, none⟩ = some (.int .u64 (R : Int))) (by kernel_rfl) (by kernel_rfl) (fun d _ _ _ _ h => by cases d <;> exact h) HC3.out.1.c3 ?_
        obtain ⟨wd, hwd⟩ : ∃ wd, wd = W2.drew := ⟨_, rfl⟩
        have hbd : Below W2.heap.size W2 wd := by rw [hwd]; exact (Below.refl _ _).drew
        rw [← hwd]
        clear hwd
        have HDd := Lib.hid (HD2.out.below hbd)
        have HRd := Lib.hid (HC3.out.1.below hbd)
        have HBD := Lib.hid hbd
        clear hbd
        intro q hq
        have F0 := hq
        simp only [pickI, Option.toList_some, List.cons_append, List.nil_append, List.getElem?_toArray, List.getElem?_cons_succ, List.getElem?_cons_zero]
        try go_frame
        iterate 5 go_big_quiet_step (fail)
        refine wpQuiet_nil ?_
        clear hq q F0
        refine seg_op (by simp only [List.getElem?_toArray, List.getElem?_cons_succ, List.getElem?_cons_zero]; rfl) fun K hK => ?_
        go_simp
        refine (begin_any HDd.out HRO.out).mono ?_
        rintro e w3 ⟨rfl, h3, k3⟩
        rw [← HRE.out] at h3 ⊢
        have hr3 := HRd.out.keeps k3 (fun i hi hf => apart HDd.out HRd.out (.inl hf) hi)
        have HR3 := Lib.hid hr3
        have H3 := Lib.hid h3
        have K3 := Lib.hid k3
        clear hr3 h3 k3
        refine hK.out _ _ (seg_keep HR3.out.c3 ?_)
        clear hK K
        intro q hq
        simp only [pickI, Option.toList_some, List.cons_append, List.nil_append, List.getElem?_toArray, List.getElem?_cons_succ, List.getElem?_cons_zero]
        try go_frame
        iterate 2 go_big_quiet_step (fail)
        refine wpQuiet_nil ?_
        clear hq q
        go_wp2
        go_ret
        refine ⟨rfl, ⟨_, H3.out⟩, ⟨_, HR3.out⟩, ?_⟩
        exact (((Keeps.of_below HBW.out).trans (HC3.out.2.wide (F' := fun i => Foot g v i ∨ RFoot g2 hg v2 i) (fun i hi => .inr hi)) (fun i hi => .inl hi)).trans (Keeps.of_below (F := fun i => Foot g v i ∨ RFoot g2 hg v2 i) HBD.out) (fun i hi => .inl hi)).trans (K3.out.wide (F' := fun i => Foot g v i ∨ RFoot g2 hg v2 i) (fun i hi => .inl (.inl hi))) (fun i hi => .inl hi)
      · rw [if_neg y2]
        by_cases y3 : kd = 3
        · rw [if_pos y3]
          subst y3
          have HW := Lib.hid hW
          rw [hW] at q0
          clear hW
          go_enter Try.func10, Try.ntmps10
          go_wp2_with (fail)
          rw [← HW.out]
          refine wp_segs [([0, 1, 2, 3, 4, 6, 7, 8, 9, 10], 5), ([], 11), ([], 12)] [13] (ORow w.heap.size ⟨3, cl, rq, x, fr, ct, nd, mL, mB⟩) (by kernel_rfl) (by kernel_rfl) (fun d _ _ _ _ h => by cases d <;> exact h) HS.out ?_
          obtain ⟨wd, hwd⟩ : ∃ wd, wd = W.drew := ⟨_, rfl⟩
          have hbd : Below W.heap.size W wd := by rw [hwd]; exact (Below.refl _ _).drew
          rw [← hwd]
          clear hwd
          have HDd := Lib.hid (HD.out.below hbd)
          have HRd := Lib.hid (HR.out.below hbd)
          have HBd := Lib.hid (Nat.le_trans HB.out hbd.size)
          have HSd : Hid (ORow w.heap.size ⟨3, cl, rq, x, fr, ct, nd, mL, mB⟩ wd) := Lib.hid ((hbd.block _ (by have := HZ.out; omega)).trans HS.out)
          have HBDD := Lib.hid (HBW.out.trans (hbd.mono HBW.out.size))
          clear hbd
          intro q hq
          have F3 := fun z => cell_of_row (q z) _ 3 _ _ _ (hq z)
          have F6 := fun z => cell_of_row (q z) _ 6 _ _ _ (hq z)
          unfold O25.cells at F3 F6
          simp only [pickI, Option.toList_some, List.cons_append, List.nil_append, List.getElem?_toArray, List.getElem?_cons_succ, List.getElem?_cons_zero]
          try go_frame
          iterate 10 go_big_quiet_step (fail)
          refine wpQuiet_nil ?_
          clear hq q F3 F6
          refine seg_op (by simp only [List.getElem?_toArray, List.getElem?_cons_succ, List.getElem?_cons_zero]; rfl) fun K hK => ?_
          go_simp
          refine (heard_any HDd.out HBd.out nd x).mono ?_
          rintro e w3 ⟨A3, c3, rfl, ho3, hm⟩
          have HM3 := Lib.hid hm
          obtain ⟨v3, hv3, k3, _⟩ := hm
          have hr3 := HRd.out.keeps k3 (fun i hi hf => apart HDd.out HRd.out hf hi)
          have hs3 : ORow w.heap.size ⟨3, cl, rq, x, fr, ct, nd, mL, mB⟩ w3 := k3.row HSd.out HNP.out
          have HR3 := Lib.hid hr3
          have HO3 := Lib.hid ho3
          have HB3 := Lib.hid (Nat.le_trans HBd.out k3.size)
          clear hv3 k3 hr3 ho3
          refine hK.out _ _ (seg_keep hs3 ?_)
          clear hK K
          intro q hq
          refine wpQuiet_nil ?_
          clear hq q
          refine seg_op (by simp only [List.getElem?_toArray, List.getElem?_cons_succ, List.getElem?_cons_zero]; rfl) fun K hK => ?_
          go_simp
          refine (rhear_any HR3.out HB3.out nd x).mono ?_
          rintro e w5 ⟨A5, c5, rfl, ho5, hn⟩
          have HN5 := Lib.hid hn
          obtain ⟨v5, hv5, k5, _⟩ := hn
          have hs5 : ORow w.heap.size ⟨3, cl, rq, x, fr, ct, nd, mL, mB⟩ w5 := k5.row hs3 HNR.out
          have ho3 := k5.own HO3.out (fun i hi hf => by
            rcases hf with rfl | rfl | hf
            · exact own_ne_row HO3.out HR3.out.row (by decide) _ hi rfl
            · exact own_ne_row HO3.out HR3.out.hrow (by decide) _ hi rfl
            · exact own_apart HO3.out HR3.out.own (by decide) hi hf)
          have HSM := Lib.hid (same_any (ownsRow_rd ho3) (ownsRow_rd ho5) rfl (Nat.le_trans (List.length_filter_le _ _) (by have := HD.out.ok.room; rw [(hearN_l t nd x).1]; omega)))
          clear hv5 k5 hs3 ho3 ho5
          refine hK.out _ _ (seg_keep hs5 ?_)
          clear hK K
          intro q hq
          refine wpQuiet_nil ?_
          clear hq q
          refine seg_op (by simp only [List.getElem?_toArray, List.getElem?_cons_succ, List.getElem?_cons_zero]; rfl) fun K hK => ?_
          go_simp
          refine HSM.out.mono ?_
          rintro e w6 ⟨rfl, hb6⟩
          have hs6 : ORow w.heap.size ⟨3, cl, rq, x, fr, ct, nd, mL, mB⟩ w6 := (hb6.block _ (Array.getElem?_eq_some_iff.1 hs5).1).trans hs5
          have HB6 := Lib.hid hb6
          clear hb6
          refine hK.out _ _ (seg_keep hs6 ?_)
          clear hK K
          intro q hq
          simp only [pickI, Option.toList_some, List.cons_append, List.nil_append, List.getElem?_toArray, List.getElem?_cons_succ, List.getElem?_cons_zero]
          try go_frame
          iterate 1 go_big_quiet_step (fail)
          refine wpQuiet_nil ?_
          clear hq q
          clear hs6 hs5
          go_wp2
          go_ret
          exact ⟨rfl, Done2.then (Done2.mk' HBDD.out HDd.out HRd.out HM3.out HN5.out) HB6.out⟩
        · rw [if_neg y3]
          have u0 : decide (kd = 0) = false := by simpa using y0
          have u1 : decide (kd = 1) = false := by simpa using y1
          have u2 : decide (kd = 2) = false := by simpa using y2
          have u3 : decide (kd = 3) = false := by simpa using y3
          have HW := Lib.hid hW
          rw [hW] at q0
          clear hW
          go_enter Try.func10, Try.ntmps10
          go_wp2_with (fail)
          rw [← HW.out]
          refine wp_segs [([0, 1, 2, 4, 5, 6], 3), ([], 7), ([], 8)] [9] (ORow w.heap.size ⟨kd, cl, rq, x, fr, ct, nd, mL, mB⟩) (by kernel_rfl) (by kernel_rfl) (fun d _ _ _ _ h => by cases d <;> exact h) HS.out ?_
          obtain ⟨wd, hwd⟩ : ∃ wd, wd = W.drew := ⟨_, rfl⟩
          have hbd : Below W.heap.size W wd := by rw [hwd]; exact (Below.refl _ _).drew
          rw [← hwd]
          clear hwd
          have HDd := Lib.hid (HD.out.below hbd)
          have HRd := Lib.hid (HR.out.below hbd)
          have HBd := Lib.hid (Nat.le_trans HB.out hbd.size)
          have HSd : Hid (ORow w.heap.size ⟨kd, cl, rq, x, fr, ct, nd, mL, mB⟩ wd) := Lib.hid ((hbd.block _ (by have := HZ.out; omega)).trans HS.out)
          have HBDD := Lib.hid (HBW.out.trans (hbd.mono HBW.out.size))
          clear hbd
          intro q hq
          have F7 := fun z => cell_of_row (q z) _ 7 _ _ _ (hq z)
          have F8 := fun z => cell_of_row (q z) _ 8 _ _ _ (hq z)
          unfold O25.cells at F7 F8
          simp only [pickI, Option.toList_some, List.cons_append, List.nil_append, List.getElem?_toArray, List.getElem?_cons_succ, List.getElem?_cons_zero]
          try go_frame
          iterate 6 go_big_quiet_step (fail)
          refine wpQuiet_nil ?_
          clear hq q F7 F8
          refine seg_op (by simp only [List.getElem?_toArray, List.getElem?_cons_succ, List.getElem?_cons_zero]; rfl) fun K hK => ?_
          go_simp
          refine (applied_any HDd.out HBd.out mL mB HX.out.2.1 HX.out.2.2).mono ?_
          rintro e w3 ⟨A3, c3, rfl, ho3, hm⟩
          have HM3 := Lib.hid hm
          obtain ⟨v3, hv3, k3, _⟩ := hm
          have hr3 := HRd.out.keeps k3 (fun i hi hf => apart HDd.out HRd.out hf hi)
          have hs3 : ORow w.heap.size ⟨kd, cl, rq, x, fr, ct, nd, mL, mB⟩ w3 := k3.row HSd.out HNP.out
          have HR3 := Lib.hid hr3
          have HO3 := Lib.hid ho3
          have HB3 := Lib.hid (Nat.le_trans HBd.out k3.size)
          clear hv3 k3 hr3 ho3
          refine hK.out _ _ (seg_keep hs3 ?_)
          clear hK K
          intro q hq
          refine wpQuiet_nil ?_
          clear hq q
          refine seg_op (by simp only [List.getElem?_toArray, List.getElem?_cons_succ, List.getElem?_cons_zero]; rfl) fun K hK => ?_
          go_simp
          refine (rapplied_any HR3.out HB3.out mL mB HX.out.2.1 HX.out.2.2).mono ?_
          rintro e w5 ⟨A5, c5, rfl, ho5, hn⟩
          have HN5 := Lib.hid hn
          obtain ⟨v5, hv5, k5, _⟩ := hn
          have hs5 : ORow w.heap.size ⟨kd, cl, rq, x, fr, ct, nd, mL, mB⟩ w5 := k5.row hs3 HNR.out
          have ho3 := k5.own HO3.out (fun i hi hf => by
            rcases hf with rfl | rfl | hf
            · exact own_ne_row HO3.out HR3.out.row (by decide) _ hi rfl
            · exact own_ne_row HO3.out HR3.out.hrow (by decide) _ hi rfl
            · exact own_apart HO3.out HR3.out.own (by decide) hi hf)
          have HSM := Lib.hid (same_any (ownsRow_rd ho3) (ownsRow_rd ho5) rfl (Nat.le_trans (List.length_filter_le _ _) (by have := HD.out.ok.room; omega)))
          clear hv5 k5 hs3 ho3 ho5
          refine hK.out _ _ (seg_keep hs5 ?_)
          clear hK K
          intro q hq
          refine wpQuiet_nil ?_
          clear hq q
          refine seg_op (by simp only [List.getElem?_toArray, List.getElem?_cons_succ, List.getElem?_cons_zero]; rfl) fun K hK => ?_
          go_simp
          refine HSM.out.mono ?_
          rintro e w6 ⟨rfl, hb6⟩
          have hs6 : ORow w.heap.size ⟨kd, cl, rq, x, fr, ct, nd, mL, mB⟩ w6 := (hb6.block _ (Array.getElem?_eq_some_iff.1 hs5).1).trans hs5
          have HB6 := Lib.hid hb6
          clear hb6
          refine hK.out _ _ (seg_keep hs6 ?_)
          clear hK K
          intro q hq
          simp only [pickI, Option.toList_some, List.cons_append, List.nil_append, List.getElem?_toArray, List.getElem?_cons_succ, List.getElem?_cons_zero]
          try go_frame
          iterate 1 go_big_quiet_step (fail)
          refine wpQuiet_nil ?_
          clear hq q
          clear hs6 hs5
          go_wp2
          go_ret
          exact ⟨rfl, Done2.then (Done2.mk' HBDD.out HDd.out HRd.out HM3.out HN5.out) HB6.out⟩
end Go.Proofs.Ytkcpldkdnnhmmaa
