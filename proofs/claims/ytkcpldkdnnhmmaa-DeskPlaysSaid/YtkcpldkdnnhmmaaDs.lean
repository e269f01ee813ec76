/- Read: a read comes to wait. -/
import Derived.Test.YtkcpldkdnnhmmaaDz
namespace Go.Proofs.Ytkcpldkdnnhmmaa
open Go.RowKit
set_option maxRecDepth 20000

/-- Without the reads of a request. -/
def Dk.without (t : Dk) (c r : Nat) : Dk := t.wait (t.l.filter fun x => !x.rdr c r)
def Dk.readE (t : Dk) (c r : Nat) : Int := if (t.without c r).full = true then 53 else 0
def Dk.readN (t : Dk) (c r : Nat) : Nat := if (t.without c r).full = true then 0 else t.round + 1
def Dk.read (t : Dk) (c r f k : Nat) : Dk := if (t.without c r).full = true then t.without c r else ((t.without c r).turn (t.round + 1)).wait ((t.without c r).l ++ [⟨c, r, 0, f, k, t.round + 1⟩])
theorem Mv.trans1 {w w1 w2 : World} {B g : Nat} {v v1 : Value} {t2 : Dk} (m : Mv w1 B g v1 t2 w2) (h2 : Keeps (Foot g v) w w1) (h3 : v1.ownBlock = v.ownBlock ∨ ∀ q, v1.ownBlock = some q → w.heap.size ≤ q) : Mv w B g v t2 w2 := by
  obtain ⟨v2, q1, q2, q3⟩ := m
  refine ⟨v2, q1, h2.trans q2 (fun i hi => ?_), ?_⟩
  · rcases hi with hi | hi
    · exact .inl (.inl hi)
    · rcases h3 with h3 | h3
      · exact .inl (.inr (h3 ▸ hi))
      · exact .inr (h3 i hi)
  · rcases q3 with q3 | q3
    · rw [q3]; exact h3
    · exact .inr fun q hq => Nat.le_trans h2.size (q3 q hq)
set_option maxHeartbeats 2000000 in
theorem read_any {w : World} {B g : Nat} {v : Value} {t : Dk} (h : Dg w B g v t) (hB : B ≤ w.heap.size) (c r f k : Nat) (hr : t.round < 1000000) :
    Calls Try.prog 18 #[.pointer (some ⟨g, 0, none⟩), .int .u64 (c : Int), .int .u64 (r : Int), .agg #[.int .u32 (f : Int), .int .u32 (k : Int)]] w fun e w' => e = .returned (.tuple #[.int .u64 (t.readN c r : Int), .int .i64 (t.readE c r)]) ∧ Mv w B g v (t.read c r f k) w' := by
  obtain ⟨W, hW, hz, r0, r1, r2, hb⟩ := Qu.boxes3 w #[.int .u64 (c : Int)] #[.int .u64 (r : Int)] #[.int .u32 (f : Int), .int .u32 (k : Int)] 29 29 32
  have h1 := h.below hb
  have b0 := cell_of_row W _ 0 _ _ _ r0
  have b1 := cell_of_row W _ 0 _ _ _ r1
  have b2 := cell_of_row W _ 0 _ _ _ r2
  have b3 := cell_of_row W _ 1 _ _ _ r2
  have HM := Lib.hid (made_any h1)
  have HR := Lib.hid (release_any (F := 38) (caps := #[.pointer (some ⟨w.heap.size, 0, none⟩), .pointer (some ⟨w.heap.size + 1, 0, none⟩)]) (p := Wt.rdr c r) h1 (Nat.le_trans hB hb.size) (fun W' hb' x hx => readC_any x c r _ _ W' (Qu.kept hb' b0 (by omega)) (Qu.kept hb' b1 (by omega))) enters_r)
  have HB := Lib.hid hb
  have HB2 := Lib.hid hB
  have HZ := Lib.hid hz
  have B0 := Lib.hid b0
  have B1 := Lib.hid b1
  have B2 := Lib.hid b2
  have B3 := Lib.hid b3
  have HH := Lib.hid h
  have hfoot : ∀ j, Foot g v j → j < w.heap.size := fun j hj => (h.foot hj).2
  have HFT := Lib.hid hfoot
  have hrr : (t.without c r).round = t.round := rfl
  have HRR := Lib.hid hrr
  unfold Freed at HR
  unfold Dk.readN Dk.readE Dk.read
  have HWO : Hid (t.wait (t.l.filter fun x => !x.rdr c r) = t.without c r) := Lib.hid rfl
  rw [HWO.out] at HR
  generalize t.without c r = u at *
  cases hf : u.full with
  | true =>
    simp only [if_true]
    have HFL := Lib.hid hf
    clear h h1 hb hB r0 r1 r2 b0 b1 b2 b3 hz hf hfoot hr hrr
    subst hW
    go_enter Try.func18, Try.ntmps18
    go_wp2_with (first
      | (go_at_call 34; refine HM.out.mono ?_; rintro e w2 ⟨rfl, rfl⟩)
      | (go_at_call 37; refine HR.out.mono ?_; rintro e w2 ⟨A1, c1, rfl, ho2, hm2⟩
         have HM2 := Lib.hid hm2
         obtain ⟨v2, h2, k2, hv2⟩ := hm2
         have HF := full_any h2
         rw [HFL.out] at HF
         have HF := Lib.hid HF
         clear h2 k2 hv2 ho2)
      | (go_at_call 36; refine HF.out.mono ?_; rintro e w3 ⟨rfl, hb3⟩)
      | fail)
    go_ret2
    exact ⟨rfl, Mv.after HB.out (HM2.out.then hb3 rfl)⟩
  | false =>
    simp only [Bool.false_eq_true, if_false]
    have HFL := Lib.hid hf
    obtain ⟨R, hR⟩ : ∃ R, R = t.round + 1 := ⟨_, rfl⟩
    rw [← hR]
    have HRD := Lib.hid (show u.round < 1000000 by rw [hrr]; exact hr)
    have HRE := Lib.hid (show u.round + 1 = R by rw [hrr, hR])
    clear h h1 hb hB r0 r1 r2 b0 b1 b2 b3 hz hf hfoot hr hrr hR
    subst hW
    go_enter Try.func18, Try.ntmps18
    go_wp2_with (first
      | (go_at_call 34; refine HM.out.mono ?_; rintro e w2 ⟨rfl, rfl⟩)
      | (go_at_call 37; refine HR.out.mono ?_; rintro e w2 ⟨A1, c1, rfl, ho2, hm2⟩
         obtain ⟨v2, h2, k2, hv2⟩ := hm2
         have HF := full_any h2
         rw [HFL.out] at HF
         have HF := Lib.hid HF
         have H2 := Lib.hid h2
         have K2 := Lib.hid k2
         have HV2 := Lib.hid hv2
         clear h2 k2 hv2 ho2)
      | (go_at_call 36; refine HF.out.mono ?_; rintro e w4 ⟨rfl, hb4⟩
         have HB4 := Lib.hid hb4
         have HBE := begin_any (H2.out.below hb4) HRD.out
         rw [HRE.out] at HBE
         have HBE := Lib.hid HBE
         clear hb4)
      | (go_at_call 19; refine HBE.out.mono ?_; rintro e w3 ⟨rfl, h3, k3⟩
         have H3 := Lib.hid h3
         have K3 := Lib.hid k3
         clear h3 k3)
      | fail)
    obtain ⟨t5, ht5⟩ : ∃ t5, t5 = u.turn R := ⟨_, rfl⟩
    have hk5 : Keeps (Foot g v) _ w3 := (K2.out.trans (Keeps.of_below (F := Foot g v) HB4.out) (fun i hi => .inl hi)).trans (K3.out.wide (F' := Foot g v) (fun i hi => .inl hi)) (fun i hi => .inl hi)
    obtain ⟨W0, hW0⟩ : ∃ W0, W0 = ((w.alloc (.cells #[.int .u64 (c : Int)] 29)).alloc (.cells #[.int .u64 (r : Int)] 29)).alloc (.cells #[.int .u32 (f : Int), .int .u32 (k : Int)] 32) := ⟨_, rfl⟩
    rw [← hW0] at hk5 HZ B0 B1 B2 B3 HB HV2
    have hlen5 : u.l.length < 64 := by
      have := HFL.out
      unfold Dk.full at this
      simpa using this
    have HL5 : Hid (t5.l.length < 64) := Lib.hid (by rw [ht5]; exact hlen5)
    have H5a := H3.out
    rw [← ht5] at H5a
    obtain ⟨A, cc, hv5⟩ := H5a.form
    subst hv5
    have HFIN : Hid (∀ w', Mv w3 B g (.slice A t5.l.length cc) (t5.wait (t5.l ++ [⟨c, r, 0, f, k, R⟩])) w' → Mv w B g v ((u.turn R).wait (u.l ++ [⟨c, r, 0, f, k, R⟩])) w') := Lib.hid (fun w' m => by
      have m2 := Mv.after HB.out (m.trans1 hk5 HV2.out)
      rw [ht5] at m2
      exact m2)
    have H5 := Lib.hid H5a
    have hnf : ∀ j, w.heap.size ≤ j → j < w.heap.size + 3 → ¬ Foot g (.slice A t5.l.length cc) j := fun j h1 h2 hj => by
      rcases hj with rfl | hj
      · have := HFT.out j (.inl rfl)
        omega
      · rcases HV2.out with e | e
        · have := HFT.out j (.inr (e ▸ hj))
          omega
        · have := e j hj
          have := HZ.out
          omega
    have HNP : Hid (¬ Foot g (.slice A t5.l.length cc) w.heap.size) := Lib.hid (hnf _ (Nat.le_refl _) (by omega))
    have HNQ : Hid (¬ Foot g (.slice A t5.l.length cc) (w.heap.size + 1)) := Lib.hid (hnf _ (by omega) (by omega))
    have HNS : Hid (¬ Foot g (.slice A t5.l.length cc) (w.heap.size + 2)) := Lib.hid (hnf _ (by omega) (by omega))
    have hnv : ∀ j, w.heap.size ≤ j → ¬ Foot g v j := fun j h1 hj => by
      have := HFT.out j hj
      omega
    have HP : Hid (w3.cell? ⟨w.heap.size, 0, none⟩ = some (.int .u64 (c : Int))) := Lib.hid (keeps_cell hk5 B0.out (hnv _ (Nat.le_refl _)))
    have HQ : Hid (w3.cell? ⟨w.heap.size + 1, 0, none⟩ = some (.int .u64 (r : Int))) := Lib.hid (keeps_cell hk5 B1.out (hnv _ (by omega)))
    have HS0 : Hid (w3.cell? ⟨w.heap.size + 2, 0, none⟩ = some (.int .u32 (f : Int))) := Lib.hid (keeps_cell hk5 B2.out (hnv _ (by omega)))
    have HS1 : Hid (w3.cell? ⟨w.heap.size + 2, 1, none⟩ = some (.int .u32 (k : Int))) := Lib.hid (keeps_cell hk5 B3.out (hnv _ (by omega)))
    have HB3B := Lib.hid (Nat.le_trans HB2.out (Nat.le_trans HB.out.size hk5.size))
    have HLEN : Hid (t5.l.length + [(⟨c, r, 0, f, k, R⟩ : Wt)].length ≤ 64) := Lib.hid (by
      have := HL5.out
      show t5.l.length + 1 ≤ 64
      omega)
    have hr64 : t5.l.length ≤ 64 := by have := HL5.out; omega
    have HIX : Hid (∀ x ∈ t5.l ++ [(⟨c, r, 0, f, k, R⟩ : Wt)], x.ix < 18446744073709551616) := Lib.hid (fun x hx => by
      rcases List.mem_append.1 hx with hx | hx
      · exact H5.out.ok.ix x hx
      · cases List.mem_singleton.1 hx
        exact (show 0 < 18446744073709551616 by decide))
    clear hnf hnv hk5 H5a ht5 hlen5 HM HR HF HBE H2 K2 HV2 HB4 H3 K3 HFT HH HRD HRR HRE
    refine wp_treeF (Foot g (.slice A t5.l.length cc)) (.two [0, 1, 2, 3, 5, 6, 7, 8, 9] 4 10 (.one [] 10 (.one [] 11 (.one [12, 13] 14 (.fin [])))) (.one [] 4 (.one [] 11 (.one [12, 13] 14 (.fin []))))) (by kernel_rfl) (by kernel_rfl) (fun d _ _ _ _ h => by cases d <;> exact h) fun wd hbd => ?_
    intro q hq
    have F2 := fun z => keeps_cell (hq z) HP.out (HNP.out)
    have F3 := fun z => keeps_cell (hq z) HQ.out (HNQ.out)
    have F4 := fun z => keeps_cell (hq z) HS0.out (HNS.out)
    have F5 := fun z => keeps_cell (hq z) HS1.out (HNS.out)
    simp only [pickI, Option.toList_some, List.cons_append, List.nil_append, List.getElem?_toArray, List.getElem?_cons_succ, List.getElem?_cons_zero]
    try go_frame
    iterate 9 go_big_quiet_step (fail)
    refine wpQuiet_nil ?_
    clear hq q F2 F3 F4 F5
    have hWd := Lib.hid (H5.out.below hbd)
    obtain ⟨w1, hw1⟩ : ∃ w1, w1 = wd.alloc (.cells #[.int .u64 (c : Int), .int .u64 (r : Int), .int .u64 0, .int .u32 (f : Int), .int .u32 (k : Int), .int .u64 (R : Int)] 55) := ⟨_, rfl⟩
    have hb1 : Below wd.heap.size wd w1 := by rw [hw1]; exact (Below.refl _ _).alloc (Nat.le_refl _) _
    have hW1 := Lib.hid (hWd.out.below hb1)
    have hbs : (Instr.buildSlice 39 1 #[(0, .agg #[.int .u64 (c : Int), .int .u64 (r : Int), .int .u64 0, .int .u32 (f : Int), .int .u32 (k : Int), .int .u64 (R : Int)])]).run Try.prog wd = .ok (.slice (some ⟨wd.heap.size, 0, none⟩) 1 1) w1 := by
      rw [hw1]
      simp [Instr.buildSlice, go_sem]
    have hsrc : Src Try.prog 6 39 (.slice (some ⟨wd.heap.size, 0, none⟩) 1 1) 1 [.int .u64 (c : Int), .int .u64 (r : Int), .int .u64 0, .int .u32 (f : Int), .int .u32 (k : Int), .int .u64 (R : Int)] w1 := by
      rw [hw1]
      exact Src.lit' rfl Try.underlying39 #[.int .u64 (c : Int), .int .u64 (r : Int), .int .u64 0, .int .u32 (f : Int), .int .u32 (k : Int), .int .u64 (R : Int)] rfl (by simp [Value.oneCell'])
    have hk1 : Keeps (Foot g (.slice A t5.l.length cc)) w3 w1 := (Keeps.of_below hbd).trans (Keeps.of_below (F := Foot g (.slice A t5.l.length cc)) hb1) (fun i hi => .inl hi)
    have hk0 : Keeps (Foot g (.slice A t5.l.length cc)) w3 wd := Keeps.of_below hbd
    have HSRC := Lib.hid hsrc
    have HBS := Lib.hid hbs
    have HK1 := Lib.hid hk1
    have HK0 := Lib.hid hk0
    have HB1 := Lib.hid hb1
    have HBD := Lib.hid hbd
    have e0 := hWd.out.c10
    have e1 := hW1.out.c10
    clear hsrc hbs hk1 hk0 hb1 hbd hw1
    constructor
    · skip
      refine seg_op (by simp only [List.getElem?_toArray, List.getElem?_cons_succ, List.getElem?_cons_zero]; rfl) fun K hK => ?_
      go_simp
      refine hK.out _ _ ⟨HK0.out, ?_⟩
      clear hK K
      try go_frame
      intro q hq
      refine wpQuiet_nil ?_
      clear hq q
      refine seg_op (by simp only [List.getElem?_toArray, List.getElem?_cons_succ, List.getElem?_cons_zero]; rfl) fun K hK => ?_
      refine ite_ok rfl ?_
      refine wp_bslice _ 1 (.tmp 30) rfl rfl HBS.out ?_
      refine hK.out _ _ ⟨HK1.out, ?_⟩
      clear hK K
      try go_frame
      intro q hq
      refine wpQuiet_nil ?_
      clear hq q
      refine seg_op (by simp only [List.getElem?_toArray, List.getElem?_cons_succ, List.getElem?_cons_zero]; rfl) fun K hK => ?_
      rw [if_pos (by rfl)]
      refine wp_app (.tmp 25) (.tmp 31) _ _ rfl E_wt rfl rfl hW1.out.own HSRC.out (by unfold maxLen; omega) (by omega) (Nat.le_trans HB3B.out (Nat.le_trans HBD.out.size HB1.out.size)) ?_
      intro v4 w4 hown4 hg4 hat4
      obtain ⟨A4, c4, rfl⟩ := ownsRow_form hown4
      have hk4 : Keeps (fun j => (Value.slice A t5.l.length cc).ownBlock = some j) w1 w4 := (Keeps.refl _ _).grown hg4 (fun q hq => .inl hq)
      have hm5 := hW1.out.waits (l2 := t5.l ++ [⟨c, r, 0, f, k, R⟩]) hk4 (by rw [List.length_append, wts_app, wts_one1]; exact hown4) (hat4.imp id (fun e q hq => by rw [e] at hq; cases hq; exact Nat.le_refl _)) (by rw [List.length_append]; exact HLEN.out) HIX.out
      have hr4 := hk4.row hW1.out.row hW1.out.ne
      have f0 : w4.frozen? ⟨g, 10, none⟩ = false := frozen_of_row w4 g 10 _ _ hr4
      have d0 : w4.cell? ⟨g, 10, none⟩ = some (.slice A t5.l.length cc) := (keeps_cell hk4 hW1.out.c10 hW1.out.ne)
      have hk4a : Keeps (Foot g (.slice A t5.l.length cc)) w3 w4 := HK1.out.trans (hk4.wide (F' := Foot g (.slice A t5.l.length cc)) (fun j hj => .inr hj)) (fun j hj => .inl hj)
      have HM5 := Lib.hid hm5
      have HK5 := Lib.hid (hk4a.trans ((Keeps.set w4 g 10 (.slice A4 (t5.l.length + 1) c4)).wide (F' := Foot g (.slice A t5.l.length cc)) (fun j hj => .inl hj)) (fun j hj => .inl hj))
      refine hK.out _ _ ⟨hk4a, ?_⟩
      clear hK K hown4 hg4 hat4 hk4 hm5 hr4 hk4a
      try go_frame
      intro q hq
      simp only [pickI, Option.toList_some, List.cons_append, List.nil_append, List.getElem?_toArray, List.getElem?_cons_succ, List.getElem?_cons_zero]
      iterate 2 go_big_quiet_step (fail)
      refine wpQuiet_nil ?_
      clear hq q
      refine seg_op (by simp only [List.getElem?_toArray, List.getElem?_cons_succ, List.getElem?_cons_zero]; rfl) fun K hK => ?_
      go_simp
      refine hK.out _ _ ⟨HK5.out, ?_⟩
      clear hK K
      try go_frame
      intro q hq
      refine wpQuiet_nil ?_
      clear hq q
      go_wp2
      go_ret2
      exact ⟨rfl, HFIN.out _ (Mv.after (HBD.out.trans (HB1.out.mono HBD.out.size)) HM5.out)⟩
    · skip
      refine seg_op (by simp only [List.getElem?_toArray, List.getElem?_cons_succ, List.getElem?_cons_zero]; rfl) fun K hK => ?_
      refine ite_ok rfl ?_
      refine wp_bslice _ 1 (.tmp 30) rfl rfl HBS.out ?_
      refine hK.out _ _ ⟨HK1.out, ?_⟩
      clear hK K
      try go_frame
      intro q hq
      refine wpQuiet_nil ?_
      clear hq q
      refine seg_op (by simp only [List.getElem?_toArray, List.getElem?_cons_succ, List.getElem?_cons_zero]; rfl) fun K hK => ?_
      go_simp
      refine hK.out _ _ ⟨HK1.out, ?_⟩
      clear hK K
      try go_frame
      intro q hq
      refine wpQuiet_nil ?_
      clear hq q
      refine seg_op (by simp only [List.getElem?_toArray, List.getElem?_cons_succ, List.getElem?_cons_zero]; rfl) fun K hK => ?_
      rw [if_pos (by rfl)]
      refine wp_app (.tmp 25) (.tmp 31) _ _ rfl E_wt rfl rfl hW1.out.own HSRC.out (by unfold maxLen; omega) (by omega) (Nat.le_trans HB3B.out (Nat.le_trans HBD.out.size HB1.out.size)) ?_
      intro v4 w4 hown4 hg4 hat4
      obtain ⟨A4, c4, rfl⟩ := ownsRow_form hown4
      have hk4 : Keeps (fun j => (Value.slice A t5.l.length cc).ownBlock = some j) w1 w4 := (Keeps.refl _ _).grown hg4 (fun q hq => .inl hq)
      have hm5 := hW1.out.waits (l2 := t5.l ++ [⟨c, r, 0, f, k, R⟩]) hk4 (by rw [List.length_append, wts_app, wts_one1]; exact hown4) (hat4.imp id (fun e q hq => by rw [e] at hq; cases hq; exact Nat.le_refl _)) (by rw [List.length_append]; exact HLEN.out) HIX.out
      have hr4 := hk4.row hW1.out.row hW1.out.ne
      have f0 : w4.frozen? ⟨g, 10, none⟩ = false := frozen_of_row w4 g 10 _ _ hr4
      have d0 : w4.cell? ⟨g, 10, none⟩ = some (.slice A t5.l.length cc) := (keeps_cell hk4 hW1.out.c10 hW1.out.ne)
      have hk4a : Keeps (Foot g (.slice A t5.l.length cc)) w3 w4 := HK1.out.trans (hk4.wide (F' := Foot g (.slice A t5.l.length cc)) (fun j hj => .inr hj)) (fun j hj => .inl hj)
      have HM5 := Lib.hid hm5
      have HK5 := Lib.hid (hk4a.trans ((Keeps.set w4 g 10 (.slice A4 (t5.l.length + 1) c4)).wide (F' := Foot g (.slice A t5.l.length cc)) (fun j hj => .inl hj)) (fun j hj => .inl hj))
      refine hK.out _ _ ⟨hk4a, ?_⟩
      clear hK K hown4 hg4 hat4 hk4 hm5 hr4 hk4a
      try go_frame
      intro q hq
      simp only [pickI, Option.toList_some, List.cons_append, List.nil_append, List.getElem?_toArray, List.getElem?_cons_succ, List.getElem?_cons_zero]
      iterate 2 go_big_quiet_step (fail)
      refine wpQuiet_nil ?_
      clear hq q
      refine seg_op (by simp only [List.getElem?_toArray, List.getElem?_cons_succ, List.getElem?_cons_zero]; rfl) fun K hK => ?_
      go_simp
      refine hK.out _ _ ⟨HK5.out, ?_⟩
      clear hK K
      try go_frame
      intro q hq
      refine wpQuiet_nil ?_
      clear hq q
      go_wp2
      go_ret2
      exact ⟨rfl, HFIN.out _ (Mv.after (HBD.out.trans (HB1.out.mono HBD.out.size)) HM5.out)⟩
end Go.Proofs.Ytkcpldkdnnhmmaa
