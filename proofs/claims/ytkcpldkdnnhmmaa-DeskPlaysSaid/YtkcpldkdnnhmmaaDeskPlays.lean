/- DeskPlays: each call tells what the document says, and those wait, in order, which it says, for every list of calls. -/
import Derived.Test.YtkcpldkdnnhmmaaRo
namespace Go.Proofs.Ytkcpldkdnnhmmaa
open Go.RowKit
set_option maxRecDepth 20000

theorem Rg.base {w : World} {B B' g hg : Nat} {v : Value} {t : Dk} (h : Rg w B g hg v t) (hb : B' ≤ B) : Rg w B' g hg v t := ⟨h.row, own_base h.own hb, h.hrow, Nat.le_trans hb h.lo, Nat.le_trans hb h.hlo, h.ok⟩
/-- The program's desk and the reference's. -/
structure Both (w : World) (g g2 hg : Nat) (t : Dk) (k : Nat) (wr : World) : Prop where
  d : ∃ v, Dg wr w.heap.size g v t
  r : ∃ v2, Rg wr w.heap.size g2 hg v2 t
  round : t.round ≤ k
  bel : Below w.heap.size w wr
theorem step_round (t : Dk) (o : O25) : (t.stepO o).round ≤ t.round + 1 := by
  unfold Dk.stepO
  split
  · rw [write_round]; exact Nat.le_succ _
  · split
    · exact (read_round t _ _ _ _).2
    · split
      · exact Nat.le_refl _
      · split
        · show (t.hearN o.nd o.x).round ≤ _
          rw [(hearN_l t o.nd o.x).2.1]
          exact Nat.le_succ _
        · exact Nat.le_succ _
/-- What is read between two calls. -/
def Seen (p : Nat) (o : O25) (g2 : Nat) (v2 : Value) (R : Nat) (x : World) : Prop := ORow p o x ∧ x.cell? ⟨g2, 2, none⟩ = some v2 ∧ x.cell? ⟨g2, 3, none⟩ = some (.int .u64 (R : Int))
theorem Seen.below {p : Nat} {o : O25} {g2 : Nat} {v2 : Value} {R : Nat} {w w' : World} (h : Seen p o g2 v2 R w) (hb : Below w.heap.size w w') : Seen p o g2 v2 R w' :=
  ⟨(hb.block _ (Array.getElem?_eq_some_iff.1 h.1).1).trans h.1, Qu.kept hb h.2.1 (World.block_lt_of_cell? w _ h.2.1), Qu.kept hb h.2.2 (World.block_lt_of_cell? w _ h.2.2)⟩
set_option maxHeartbeats 8000000 in
theorem deskPlays_walk {w : World} (nodes : Int) (_ : (Lit.int .i64 nodes).wf = true) (self : Int) (_ : (Lit.int .i64 self).wf = true) {A : Option Addr} {n c : Nat} {os : List O25} (hl : Slc O25.lay w A n c os) :
    Calls Try.prog 3 #[.int .i64 nodes, .int .i64 self, .slice A n c] w fun e w' => e = .returned (.bool true) ∧ Below w.heap.size w w' := by
  have HL := Lib.hid lives25
  by_cases h200 : 200 < n
  · have d0 : decide (200 < (n : Int)) = true := by simp; omega
    have d1 : decide (200 < n) = true := by simpa using h200
    have d2 : 200 < (n : Int) := by omega
    clear hl
    go_enter Try.func3, Try.ntmps3
    go_wp2_with (first
      | (go_at_call 7; refine (HL.out _).mono ?_; rintro e w1 ⟨rfl, hb1⟩)
      | fail)
    go_ret
    exact ⟨rfl, hb1⟩
  · have d0 : decide (200 < (n : Int)) = false := by simp; omega
    have d1 : decide (200 < n) = false := by simpa using h200
    have d2 : ¬ 200 < (n : Int) := by omega
    have hn : n ≤ 200 := by omega
    by_cases hbad : BadN nodes self
    · have HN := Lib.hid (fun W => dnew_none nodes self W hbad)
      have HN2 := Lib.hid (fun W => rnew_none nodes self W hbad)
      unfold BadN at hbad
      clear hl
      by_cases x0 : nodes < 1
      · have y0 : decide (nodes < 1) = true := by simpa using x0
        clear hbad
        go_enter Try.func3, Try.ntmps3
        go_wp2_with (first
          | (go_at_call 8; refine (HN.out _).mono ?_; rintro e w1 ⟨rfl, rfl⟩)
          | (go_at_call 9; refine (HN2.out _).mono ?_; rintro e w1 ⟨rfl, rfl⟩)
          | (go_at_call 7; refine (HL.out _).mono ?_; rintro e w1 ⟨rfl, hb1⟩)
          | fail)
        go_ret
        exact ⟨rfl, hb1⟩
      · have y0 : decide (nodes < 1) = false := by simpa using x0
        by_cases x1 : 7 < nodes
        · have y1 : decide (7 < nodes) = true := by simpa using x1
          clear hbad
          go_enter Try.func3, Try.ntmps3
          go_wp2_with (first
            | (go_at_call 8; refine (HN.out _).mono ?_; rintro e w1 ⟨rfl, rfl⟩)
            | (go_at_call 9; refine (HN2.out _).mono ?_; rintro e w1 ⟨rfl, rfl⟩)
            | (go_at_call 7; refine (HL.out _).mono ?_; rintro e w1 ⟨rfl, hb1⟩)
            | fail)
          go_ret
          exact ⟨rfl, hb1⟩
        · have y1 : decide (7 < nodes) = false := by simpa using x1
          by_cases x2 : self < 0
          · have y2 : decide (self < 0) = true := by simpa using x2
            clear hbad
            go_enter Try.func3, Try.ntmps3
            go_wp2_with (first
              | (go_at_call 8; refine (HN.out _).mono ?_; rintro e w1 ⟨rfl, rfl⟩)
              | (go_at_call 9; refine (HN2.out _).mono ?_; rintro e w1 ⟨rfl, rfl⟩)
              | (go_at_call 7; refine (HL.out _).mono ?_; rintro e w1 ⟨rfl, hb1⟩)
              | fail)
            go_ret
            exact ⟨rfl, hb1⟩
          · have y2 : decide (self < 0) = false := by simpa using x2
            have x3 : nodes ≤ self := by omega
            have y3 : decide (nodes ≤ self) = true := by simpa using x3
            clear hbad
            go_enter Try.func3, Try.ntmps3
            go_wp2_with (first
              | (go_at_call 8; refine (HN.out _).mono ?_; rintro e w1 ⟨rfl, rfl⟩)
              | (go_at_call 9; refine (HN2.out _).mono ?_; rintro e w1 ⟨rfl, rfl⟩)
              | (go_at_call 7; refine (HL.out _).mono ?_; rintro e w1 ⟨rfl, hb1⟩)
              | fail)
            go_ret
            exact ⟨rfl, hb1⟩
    · obtain ⟨N, S, rfl, rfl, h1, h7, hs⟩ := good_nat hbad
      have HN := Lib.hid (fun W => dnew_any N S W h1 h7 hs)
      have HN2 := Lib.hid (fun W => rnew_any N S W h1 h7 hs)
      have HH := Lib.hid hl
      have HB := Lib.hid hn
      clear hbad hl h1 h7 hs hn h200
      go_enter Try.func3, Try.ntmps3
      go_wp2_with (first
        | (go_at_call 8; refine (HN.out _).mono ?_; rintro e w1 ⟨rfl, hd1, hb1⟩
           have HD1 := Lib.hid hd1
           have HB1 := Lib.hid hb1
           clear hd1 hb1)
        | (go_at_call 9; refine (HN2.out _).mono ?_; rintro e w2 ⟨g2, hg, rfl, hr2, hb2⟩
           have HA1 : Hid (Both w w.heap.size g2 hg (newDk N S) 0 w2) := Lib.hid ⟨⟨_, HD1.out.below hb2⟩, ⟨_, hr2.base HB1.out.size⟩, Nat.le_refl _, HB1.out.trans (hb2.mono HB1.out.size)⟩
           clear hr2 hb2)
        | fail)
      obtain ⟨g, hgg⟩ : ∃ g, g = w.heap.size := ⟨_, rfl⟩
      rw [← hgg]
      have HA2 : Hid (Both w g g2 hg (newDk N S) 0 w2) := by rw [hgg]; exact HA1
      clear hgg HA1
      go_loopw [40] (fun ir wr => ∃ (i : Nat) (t : Dk), i ≤ n ∧ ir = .int .i64 (i : Int) ∧ Hid (Both w g g2 hg t i wr)) (fun ir _ => n - (intOf ir).toNat)
      case atStart => exact ⟨0, newDk N S, Nat.zero_le _, rfl, HA2⟩
      case round =>
        clear HA2
        obtain ⟨i, t, hi, rfl, HA⟩ := hrel
        by_cases hlt : i < n
        · skip
          obtain ⟨o, ho⟩ : ∃ o, os[i]? = some o := ⟨_, List.getElem?_eq_getElem (by have := HH.out.len; omega)⟩
          obtain ⟨b, off, rfl, hbb, hcc⟩ := HH.out.at_ (by omega)
          have hce := fun j u (hu : (O25.lay.cells o)[j]? = some u) => (HA.out.bel.cell (p := ⟨b, off + (i * 9 + j), none⟩) hbb).trans (hcc i o ho j u hu)
          have hrd : o.Reads w := HH.out.reads o (List.mem_of_getElem? ho)
          obtain ⟨v, hv⟩ := HA.out.d
          obtain ⟨v2, hv2⟩ := HA.out.r
          obtain ⟨kd, cl, rq, x, fr, ct, nd, mL, mB⟩ := o
          have k0 := hce 0 _ rfl
          have k1 := hce 1 _ rfl
          have k2 := hce 2 _ rfl
          have k3 := hce 3 _ rfl
          have k4 := hce 4 _ rfl
          have k5 := hce 5 _ rfl
          have k6 := hce 6 _ rfl
          have k7 := hce 7 _ rfl
          have k8 := hce 8 _ rfl
          unfold O25.lay O25.cells at k0 k1 k2 k3 k4 k5 k6 k7 k8
          try dsimp only at k0 k1 k2 k3 k4 k5 k6 k7 k8
          simp only [← Nat.add_assoc, Nat.add_zero] at k0 k1 k2 k3 k4 k5 k6 k7 k8
          obtain ⟨X, hX, hz, r0, hbX⟩ := Qu.boxes1 wr #[.int .i64 kd, .int .u64 (cl : Int), .int .u64 (rq : Int), .int .u64 (x : Int), .int .u32 (fr : Int), .int .u32 (ct : Int), .int .i64 nd, .int .u64 (mL : Int), .int .u64 (mB : Int)] 36
          have HVX := Lib.hid (hv.below hbX)
          have HRX := Lib.hid (hv2.below hbX)
          have HOX : Hid (ORow wr.heap.size ⟨kd, cl, rq, x, fr, ct, nd, mL, mB⟩ X) := Lib.hid r0
          have HNP : Hid (¬ Foot g v wr.heap.size) := Lib.hid (fun hf => Nat.lt_irrefl _ (hv.foot hf).2)
          have HNR : Hid (¬ RFoot g2 hg v2 wr.heap.size) := Lib.hid (fun hf => Nat.lt_irrefl _ (hv2.foot hf).2)
          have HBX := Lib.hid hbX
          have HX := Lib.hid hX
          have HZ := Lib.hid hz
          have HRR := Lib.hid hrd
          have hlti : (i : Int) < (n : Int) := by omega
          have hii : (i : Int) ≤ 200 := by have := HB.out; omega
          have HLT := Lib.hid hlt
          have HRD := Lib.hid (show t.round < 1000000 by have := HA.out.round; have := HB.out; omega)
          have HBB := Lib.hid (show w.heap.size ≤ X.heap.size from Nat.le_trans HA.out.bel.size hbX.size)
          clear hce hv hv2 hbX r0 hz hcc ho hlt hX hrd
          go_wp2_with (fail)
          rw [← HX.out]
          refine wp_segs [([0, 1, 2], 3), ([4, 5, 6, 8, 9, 10, 11], 7), ([], 12), ([13, 14, 15, 16, 18, 19, 20, 21, 22], 17), ([23, 24, 25, 26, 28, 29, 30, 31], 27), ([32, 33, 34, 35, 37], 36), ([], 38)] [39, 40] (ORow wr.heap.size ⟨kd, cl, rq, x, fr, ct, nd, mL, mB⟩) (by kernel_rfl) (by kernel_rfl) (fun d _ _ _ _ h => by cases d <;> exact h) HOX.out ?_
          obtain ⟨wd, hwd⟩ : ∃ wd, wd = X.drew := ⟨_, rfl⟩
          have hbd : Below X.heap.size X wd := by rw [hwd]; exact (Below.refl _ _).drew
          rw [← hwd]
          clear hwd
          have HDd := Lib.hid (HVX.out.below hbd)
          have HRd := Lib.hid (HRX.out.below hbd)
          have HBd := Lib.hid (Nat.le_trans HBB.out hbd.size)
          have HOd : Hid (ORow wr.heap.size ⟨kd, cl, rq, x, fr, ct, nd, mL, mB⟩ wd) := Lib.hid ((hbd.block _ (by have := HZ.out; omega)).trans HOX.out)
          have HBDD := Lib.hid (HBX.out.trans (hbd.mono HBX.out.size))
          clear hbd
          intro q hq
          have F0 := fun z => cell_of_row (q z) _ 0 _ _ _ (hq z)
          have F1 := fun z => cell_of_row (q z) _ 1 _ _ _ (hq z)
          have F2 := fun z => cell_of_row (q z) _ 2 _ _ _ (hq z)
          have F3 := fun z => cell_of_row (q z) _ 3 _ _ _ (hq z)
          have F4 := fun z => cell_of_row (q z) _ 4 _ _ _ (hq z)
          have F5 := fun z => cell_of_row (q z) _ 5 _ _ _ (hq z)
          have F6 := fun z => cell_of_row (q z) _ 6 _ _ _ (hq z)
          have F7 := fun z => cell_of_row (q z) _ 7 _ _ _ (hq z)
          have F8 := fun z => cell_of_row (q z) _ 8 _ _ _ (hq z)
          unfold O25.cells at F0 F1 F2 F3 F4 F5 F6 F7 F8
          simp only [pickI, Option.toList_some, List.cons_append, List.nil_append, List.getElem?_toArray, List.getElem?_cons_succ, List.getElem?_cons_zero]
          try go_frame
          iterate 3 go_big_quiet_step (fail)
          refine wpQuiet_nil ?_
          clear hq q F0 F1 F2 F3 F4 F5 F6 F7 F8
          refine seg_op (by simp only [List.getElem?_toArray, List.getElem?_cons_succ, List.getElem?_cons_zero]; rfl) fun K hK => ?_
          go_simp
          refine (do_any (o := ⟨kd, cl, rq, x, fr, ct, nd, mL, mB⟩) HDd.out HRd.out HBd.out HRD.out HRR.out).mono ?_
          rintro e w3 ⟨rfl, ⟨v3, hv3⟩, ⟨v4, hv4⟩, kk3⟩
          have hrs := step_round t ⟨kd, cl, rq, x, fr, ct, nd, mL, mB⟩
          obtain ⟨t2, ht2⟩ : ∃ t2, t2 = t.stepO ⟨kd, cl, rq, x, fr, ct, nd, mL, mB⟩ := ⟨_, rfl⟩
          rw [← ht2] at hv3 hv4 hrs
          have ho3 : ORow wr.heap.size ⟨kd, cl, rq, x, fr, ct, nd, mL, mB⟩ w3 := kk3.row HOd.out (fun hf => hf.elim HNP.out HNR.out)
          obtain ⟨A4, c4, hf4⟩ := hv4.form
          subst hf4
          have hs3 : Seen wr.heap.size ⟨kd, cl, rq, x, fr, ct, nd, mL, mB⟩ g2 (.slice A4 t2.l.length c4) t2.round w3 := ⟨ho3, hv4.c2, hv4.c3⟩
          have HS3 := Lib.hid hs3
          have HV3 := Lib.hid hv3
          have HV4 := Lib.hid hv4
          have HRS := Lib.hid hrs
          have hbel3 : Below w.heap.size w w3 := HA.out.bel.trans (HBDD.out.mono HA.out.bel.size) |>.trans (kk3.below HBd.out (fun i hi => hi.elim (fun h => (HDd.out.foot h).1) (fun h => (HRd.out.foot h).1)))
          have HBEL := Lib.hid hbel3
          have hroom := hv3.ok.room
          have hri : (t2.l.length : Int) ≤ 64 := by omega
          refine hK.out _ _ ⟨Seen wr.heap.size ⟨kd, cl, rq, x, fr, ct, nd, mL, mB⟩ g2 (.slice A4 t2.l.length c4) t2.round, hs3, fun _ h => h.1, ?_⟩
          clear hK K hv3 hv4 kk3 ho3 hs3 hrs hbel3 ht2 hroom
          intro q hq
          have F2 := fun z => (hq z).2.1
          have F3 := fun z => (hq z).2.2
          simp only [pickI, Option.toList_some, List.cons_append, List.nil_append, List.getElem?_toArray, List.getElem?_cons_succ, List.getElem?_cons_zero]
          try go_frame
          iterate 7 go_big_quiet_step (fail)
          refine wpQuiet_nil ?_
          clear hq q F2 F3
          refine seg_op (by simp only [List.getElem?_toArray, List.getElem?_cons_succ, List.getElem?_cons_zero]; rfl) fun K hK => ?_
          go_simp
          refine (all_any HV3.out).mono ?_
          rintro e w5 ⟨A5, c5, rfl, ho5, hb5⟩
          have HSM := Lib.hid (same_any (ownsRow_rd ho5) ((ownsRow_rd (HV4.out.below hb5).own).more (Nat.le_refl _)) rfl (by omega))
          have HB5 := Lib.hid hb5
          refine hK.out _ _ (seg_keep (HS3.out.below hb5) ?_)
          clear hK K hb5 ho5
          intro q hq
          refine wpQuiet_nil ?_
          clear hq q
          refine seg_op (by simp only [List.getElem?_toArray, List.getElem?_cons_succ, List.getElem?_cons_zero]; rfl) fun K hK => ?_
          go_simp
          refine HSM.out.mono ?_
          rintro e w6 ⟨rfl, hb6⟩
          have HB6 := Lib.hid (HB5.out.trans (hb6.mono HB5.out.size))
          refine hK.out _ _ (seg_keep (HS3.out.below HB6.out) ?_)
          clear hK K hb6
          intro q hq
          have F2 := fun z => (hq z).2.1
          have F3 := fun z => (hq z).2.2
          simp only [pickI, Option.toList_some, List.cons_append, List.nil_append, List.getElem?_toArray, List.getElem?_cons_succ, List.getElem?_cons_zero]
          try go_frame
          iterate 9 go_big_quiet_step (fail)
          refine wpQuiet_nil ?_
          clear hq q F2 F3
          refine seg_op (by simp only [List.getElem?_toArray, List.getElem?_cons_succ, List.getElem?_cons_zero]; rfl) fun K hK => ?_
          go_simp
          refine (dlen_any (HV3.out.below HB6.out)).mono ?_
          rintro e w7 ⟨rfl, rfl⟩
          refine hK.out _ _ (seg_keep (HS3.out.below HB6.out) ?_)
          clear hK K
          intro q hq
          have F2 := fun z => (hq z).2.1
          have F3 := fun z => (hq z).2.2
          simp only [pickI, Option.toList_some, List.cons_append, List.nil_append, List.getElem?_toArray, List.getElem?_cons_succ, List.getElem?_cons_zero]
          try go_frame
          iterate 8 go_big_quiet_step (fail)
          refine wpQuiet_nil ?_
          clear hq q F2 F3
          refine seg_op (by simp only [List.getElem?_toArray, List.getElem?_cons_succ, List.getElem?_cons_zero]; rfl) fun K hK => ?_
          go_simp
          refine (round_any (HV3.out.below HB6.out)).mono ?_
          rintro e w7 ⟨rfl, rfl⟩
          refine hK.out _ _ (seg_keep (HS3.out.below HB6.out) ?_)
          clear hK K
          intro q hq
          simp only [pickI, Option.toList_some, List.cons_append, List.nil_append, List.getElem?_toArray, List.getElem?_cons_succ, List.getElem?_cons_zero]
          try go_frame
          iterate 5 go_big_quiet_step (fail)
          refine wpQuiet_nil ?_
          clear hq q
          refine seg_op (by simp only [List.getElem?_toArray, List.getElem?_cons_succ, List.getElem?_cons_zero]; rfl) fun K hK => ?_
          go_simp
          refine (sure_any (HV3.out.below HB6.out)).mono ?_
          rintro e w7 ⟨rfl, hb7⟩
          have HB7 := Lib.hid (HB6.out.trans (hb7.mono HB6.out.size))
          refine hK.out _ _ (seg_keep (HS3.out.below HB7.out) ?_)
          clear hK K hb7
          intro q hq
          refine wpQuiet_nil ?_
          clear hq q
          refine seg_op (by simp only [List.getElem?_toArray, List.getElem?_cons_succ, List.getElem?_cons_zero]; rfl) fun K hK => ?_
          go_simp
          refine (rsure_any (HV4.out.below HB7.out)).mono ?_
          rintro e w8 ⟨rfl, hb8⟩
          have HB8 := Lib.hid (HB7.out.trans (hb8.mono HB7.out.size))
          refine hK.out _ _ (seg_keep (HS3.out.below HB8.out) ?_)
          clear hK K hb8
          intro q hq
          simp only [pickI, Option.toList_some, List.cons_append, List.nil_append, List.getElem?_toArray, List.getElem?_cons_succ, List.getElem?_cons_zero]
          try go_frame
          iterate 2 go_big_quiet_step (fail)
          refine wpQuiet_nil ?_
          clear hq q
          go_wp2_with (fail)
          have hlt2 := HLT.out
          refine ⟨⟨i + 1, t2, by omega, by go_num, Lib.hid ⟨⟨_, HV3.out.below HB8.out⟩, ⟨_, HV4.out.below HB8.out⟩, Nat.le_trans HRS.out (Nat.succ_le_succ HA.out.round), HBEL.out.trans (HB8.out.mono HBEL.out.size)⟩⟩, by simp [intOf]; omega⟩
        · obtain rfl : i = n := by omega
          have d3 : decide ((i : Int) < (i : Int)) = false := by simp
          clear hlt
          go_wp2_with (first
            | (go_at_call 7; refine (HL.out _).mono ?_; rintro e w3 ⟨rfl, hb3⟩)
            | fail)
          go_ret
          exact ⟨rfl, HA.out.bel.trans (hb3.mono HA.out.bel.size)⟩
namespace deskPlays
open Go.ChangeShapes Go.WideShapes Go.ChangeAt
set_option maxRecDepth 100000 in
theorem lifted (os : Os) (started : os.Started) (H : Type) (enc : TypeId × Value → H) :
    ReturnsInHanded {} Try.checked os 3 .any (Rows.deskPlaysSpec.pre6 enc Try.prog Try.f3 Rows.deskPlaysRow.domain false) (Rows.deskPlaysSpec.post enc Try.prog Try.f3 false true false false) := by
  refine returnsInHanded_of_change (C := Try.checked) own started (by kernel_rfl) Try.func3
    (ChangeSpec.witness6 (enc := enc) (C := Try.checked) false ⟨#[], #[.int .i64 0, .int .i64 0, .slice none 0 0], []⟩ 8 (by kernel_rfl) (by kernel_rfl) (by kernel_rfl) (by kernel_rfl)) ?_
  intro W base args ds gs before hval0 hW _ _
  have hval : ∀ (j : Nat) t v, Try.f3.params[j]? = some t → args[j]? = some v → Value.okWide Try.prog W .any base t v := hval0
  have hW' := hW
  obtain ⟨p, q, hA0, hV, rfl, hfz, hnd⟩ := hW
  have hA : DataW.TrodAll enc Try.prog W 0 (fun _ => true) true Try.f3.params.toList args.toList ds p := hA0
  rw [Try.params3] at hA hval
  obtain ⟨v0, vs0, d0, ds0, p0, q0, hargs, rfl, rfl, h0, r0⟩ := trodAll_cons hA
  obtain ⟨v1, vs1, d1, ds1, p1, q1, rfl, rfl, rfl, h1, r1⟩ := trodAll_cons r0
  obtain ⟨v2, vs2, d2, ds2, p2, q2, rfl, rfl, rfl, h2, r2⟩ := trodAll_cons r1
  obtain ⟨rfl, rfl, rfl⟩ := trodAll_nil r2
  obtain rfl : args = #[v0, v1, v2] := by cases args; simp_all
  obtain ⟨rfl, rfl⟩ := trodVars_none hV
  have k0 := h0
  have lt0 : ∀ x ∈ p0, x.block < W.heap.size := by obtain ⟨m, hm⟩ := k0; exact DataW.trod_lt m _ _ _ hm
  obtain ⟨x0, rfl, w0⟩ := dec_int Try.underlying3 (hval 0 3 v0 rfl rfl) h0
  have k1 := h1
  have lt1 : ∀ x ∈ p1, x.block < W.heap.size := by obtain ⟨m, hm⟩ := k1; exact DataW.trod_lt m _ _ _ hm
  obtain ⟨x1, rfl, w1⟩ := dec_int Try.underlying3 (hval 1 3 v1 rfl rfl) h1
  have k2 := h2
  have lt2 : ∀ x ∈ p2, x.block < W.heap.size := by obtain ⟨m, hm⟩ := k2; exact DataW.trod_lt m _ _ _ hm
  obtain ⟨a2, n2, c2, l2, rfl, w2⟩ := O25.dec (hval 2 22 v2 rfl rfl) h2
  clear hA0 hval0
  refine (deskPlays_walk x0 w0 x1 w1 w2).mono fun e W' ⟨he, bel⟩ => ?_
  subst he
  exact ⟨_, rfl, _, _, _, [], _, [], hW', trodAll_mk1 (shut_bool Try.underlying4 _), (trodAll_cons_mk (Below.trod laidOut (by kernel_rfl) (of_decide_eq_true (by kernel_rfl)) k0 bel lt0) (trodAll_cons_mk (Below.trod laidOut (by kernel_rfl) (of_decide_eq_true (by kernel_rfl)) k1 bel lt1) (trodAll_cons_mk (Below.trod laidOut (by kernel_rfl) (of_decide_eq_true (by kernel_rfl)) k2 bel lt2) trodAll_mk0))), rfl, bel.frame _, fun h => by cases h⟩

theorem over : Rows.deskPlaysRow.holds Try.pinned (OpenSpec.ofChange Rows.deskPlaysSpec) :=
  OpenClaim.holds_of_wide 3 Try.f3 rfl rfl rfl rfl rfl rfl rfl ⟨rfl, rfl, rfl, rfl, rfl⟩ rfl rfl rfl rfl rfl (by kernel_rfl) Try.func3 (by kernel_rfl)
    (of_decide_eq_true (by kernel_rfl)) (by unfold Func.isWrapper; first | (rw [if_pos (by decide +kernel)]; kernel_rfl) | (rw [if_neg (by decide +kernel)]; exact ⟨rfl, rfl⟩))
    (fun os started H enc _ => lifted os started H enc)
/-- The given statement. -/
theorem proved : Rows.DeskPlaysSaid := over
end deskPlays

end Go.Proofs.Ytkcpldkdnnhmmaa
