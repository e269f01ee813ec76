/- DeskSure: a round is sure only when a majority was heard in it, or in a later one; no read of a later one is told; for every list of calls. -/
import Derived.Test.YtkcpldkdnnhmmaaDsure0
namespace Go.Proofs.Ytkcpldkdnnhmmaa
open Go.RowKit
set_option maxRecDepth 20000

set_option maxHeartbeats 8000000 in
theorem deskSure_walk {w : World} (nodes : Int) (_ : (Lit.int .i64 nodes).wf = true) (self : Int) (_ : (Lit.int .i64 self).wf = true) {A : Option Addr} {n c : Nat} {os : List O25} (hl : Slc O25.lay w A n c os) :
    Calls Try.prog 5 #[.int .i64 nodes, .int .i64 self, .slice A n c] w fun e w' => e = .returned (.bool true) ∧ Below w.heap.size w w' := by
  have HL := Lib.hid lives25
  by_cases h200 : 200 < n
  · have d0 : decide (200 < (n : Int)) = true := by simp; omega
    have d1 : decide (200 < n) = true := by simpa using h200
    have d2 : 200 < (n : Int) := by omega
    clear hl
    go_enter Try.func5, Try.ntmps5
    go_wp2_with (first
      | (go_at_call 7; refine (HL.out _).mono ?_; rintro e w1 ⟨rfl, hb1⟩)
      | fail)
    go_ret
    exact ⟨rfl, hb1⟩
  · have d0 : decide (200 < (n : Int)) = false := by simp; omega
    have d1 : decide (200 < n) = false := by simpa using h200
    have d2 : ¬ 200 < (n : Int) := by omega
    have hn : n ≤ 200 := by omega
    by_cases hbad : BadN nodes self
    · have HN := Lib.hid (fun W => dnew_none nodes self W hbad)
      unfold BadN at hbad
      clear hl
      by_cases x0 : nodes < 1
      · have y0 : decide (nodes < 1) = true := by simpa using x0
        clear hbad
        go_enter Try.func5, Try.ntmps5
        go_wp2_with (first
          | (go_at_call 8; refine (HN.out _).mono ?_; rintro e w1 ⟨rfl, rfl⟩)
          | (go_at_call 7; refine (HL.out _).mono ?_; rintro e w1 ⟨rfl, hb1⟩)
          | fail)
        go_ret
        exact ⟨rfl, hb1⟩
      · have y0 : decide (nodes < 1) = false := by simpa using x0
        by_cases x1 : 7 < nodes
        · have y1 : decide (7 < nodes) = true := by simpa using x1
          clear hbad
          go_enter Try.func5, Try.ntmps5
          go_wp2_with (first
            | (go_at_call 8; refine (HN.out _).mono ?_; rintro e w1 ⟨rfl, rfl⟩)
            | (go_at_call 7; refine (HL.out _).mono ?_; rintro e w1 ⟨rfl, hb1⟩)
            | fail)
          go_ret
          exact ⟨rfl, hb1⟩
        · have y1 : decide (7 < nodes) = false := by simpa using x1
          by_cases x2 : self < 0
          · have y2 : decide (self < 0) = true := by simpa using x2
            clear hbad
            go_enter Try.func5, Try.ntmps5
            go_wp2_with (first
              | (go_at_call 8; refine (HN.out _).mono ?_; rintro e w1 ⟨rfl, rfl⟩)
              | (go_at_call 7; refine (HL.out _).mono ?_; rintro e w1 ⟨rfl, hb1⟩)
              | fail)
            go_ret
            exact ⟨rfl, hb1⟩
          · have y2 : decide (self < 0) = false := by simpa using x2
            have x3 : nodes ≤ self := by omega
            have y3 : decide (nodes ≤ self) = true := by simpa using x3
            clear hbad
            go_enter Try.func5, Try.ntmps5
            go_wp2_with (first
              | (go_at_call 8; refine (HN.out _).mono ?_; rintro e w1 ⟨rfl, rfl⟩)
              | (go_at_call 7; refine (HL.out _).mono ?_; rintro e w1 ⟨rfl, hb1⟩)
              | fail)
            go_ret
            exact ⟨rfl, hb1⟩
    · obtain ⟨N, S, rfl, rfl, h1, h7, hs⟩ := good_nat hbad
      have HN := Lib.hid (fun W => dnew_any N S W h1 h7 hs)
      have HH := Lib.hid hl
      have HB := Lib.hid hn
      have H7 := Lib.hid h7
      have HS := Lib.hid hs
      clear hbad hl h1 h7 hs hn h200
      go_enter Try.func5, Try.ntmps5
      go_wp2_with (first
        | (go_at_call 8; refine (HN.out _).mono ?_; rintro e w1 ⟨rfl, hd1, hb1⟩
           have HA1 : Hid (At w w.heap.size w.heap.size (newDk N S) 0 w1) := Lib.hid ⟨⟨_, hd1⟩, Uq.nil, Nat.le_refl _, Nat.le_refl _, hb1.size, hb1⟩
           clear hd1 hb1)
        | (at_make; refine wpL_make rfl _ _ _ rfl (base := w1.heap.size) E_u64 7 rfl rfl (by omega) (by omega) (by omega) (by unfold maxLen; omega) (Nat.le_refl _) ?_; intro w2 hown2 hg2
           rw [made7] at hown2
           have HA2 : Hid (St w w.heap.size w1.heap.size N S (newDk N S) [0, 0, 0, 0, 0, 0, 0] 0 w2) := Lib.hid (St.first HA1.out ((Below.refl _ _).grown hg2 (Nat.le_refl _) (fun _ e => by cases e)) (own_full hown2).1)
           clear hown2 hg2)
        | fail)
      obtain ⟨g, hg⟩ : ∃ g, g = w.heap.size := ⟨_, rfl⟩
      obtain ⟨hb, hhb⟩ : ∃ hb, hb = w1.heap.size := ⟨_, rfl⟩
      rw [← hg, ← hhb] at HA2
      rw [← hg, ← hhb]
      clear hg hhb HA1
      go_loopw [45] (fun ir wr => ∃ (i : Nat) (t : Dk) (H : List Nat), i ≤ n ∧ ir = .int .i64 (i : Int) ∧ Hid (St w g hb N S t H i wr)) (fun ir _ => n - (intOf ir).toNat)
      case atStart => exact ⟨0, newDk N S, [0, 0, 0, 0, 0, 0, 0], Nat.zero_le _, rfl, HA2⟩
      case round =>
        clear HA2
        obtain ⟨i, t, H, hi, rfl, HA⟩ := hrel
        by_cases hlt : i < n
        · skip
          obtain ⟨o, ho⟩ : ∃ o, os[i]? = some o := ⟨_, List.getElem?_eq_getElem (by have := HH.out.len; omega)⟩
          obtain ⟨b, off, rfl, hbb, hcc⟩ := HH.out.at_ (by omega)
          have hce := fun j u (hu : (O25.lay.cells o)[j]? = some u) => (HA.out.ah.at_.bel.cell (p := ⟨b, off + (i * 9 + j), none⟩) hbb).trans (hcc i o ho j u hu)
          have hrd : o.Reads w := HH.out.reads o (List.mem_of_getElem? ho)
          obtain ⟨v, hv⟩ := HA.out.ah.at_.desk
          obtain ⟨kd, cl, rq, x, fr, ct, nd, mL, mB⟩ := o
          have k0 := hce 0 _ rfl
          have k1 := hce 1 _ rfl
          have k2 := hce 2 _ rfl
          have k3 := hce 3 _ rfl
          have k4 := hce 4 _ rfl
          have k5 := hce 5 _ rfl
          have k6 := hce 6 _ rfl
          have k7 := hce 7 _ rfl
          have k8 := hce 8 _ rfl
          unfold O25.lay O25.cells at k0 k1 k2 k3 k4 k5 k6 k7 k8
          try dsimp only at k0 k1 k2 k3 k4 k5 k6 k7 k8
          simp only [← Nat.add_assoc, Nat.add_zero] at k0 k1 k2 k3 k4 k5 k6 k7 k8
          obtain ⟨hx1, hx2, hx3⟩ := hrd
          dsimp only at hx1 hx2 hx3
          obtain ⟨X, hX, hz, r0, hbX⟩ := Qu.boxes1 wr #[.int .i64 kd, .int .u64 (cl : Int), .int .u64 (rq : Int), .int .u64 (x : Int), .int .u32 (fr : Int), .int .u32 (ct : Int), .int .i64 nd, .int .u64 (mL : Int), .int .u64 (mB : Int)] 36
          have hvX := hv.below hbX
          have HVX := Lib.hid hvX
          have HAX := Lib.hid (HA.out.below hbX)
          have HFT := Lib.hid (fun j (hj : Foot g v j) => (hv.foot hj).2)
          have HR0 := Lib.hid r0
          have HX := Lib.hid hX
          have hlti : (i : Int) < (n : Int) := by omega
          have hii : (i : Int) ≤ 200 := by have := HB.out; omega
          have HLT := Lib.hid hlt
          have HRD := Lib.hid (show t.round < 1000000 by have := HA.out.ah.at_.round; have := HB.out; omega)
          have HBX := Lib.hid (show g ≤ X.heap.size from Nat.le_trans HA.out.ah.at_.bl hbX.size)
          have q0 := cell_of_row X _ 0 _ _ _ r0
          have q1 := cell_of_row X _ 1 _ _ _ r0
          have q2 := cell_of_row X _ 2 _ _ _ r0
          have q3 := cell_of_row X _ 3 _ _ _ r0
          have q4 := cell_of_row X _ 4 _ _ _ r0
          have q5 := cell_of_row X _ 5 _ _ _ r0
          have q6 := cell_of_row X _ 6 _ _ _ r0
          have hs7 : (S : Int) < 7 := by have := H7.out; have := HS.out; omega
          have hs6 : (S : Int) ≤ 6 := by omega
          clear hce hv hvX hbX r0 hz hcc ho hlt
          subst hX
          by_cases y1 : kd = 1
          · subst y1
            go_wp2_with (first
              | (go_at_call 18; refine (read_any HVX.out HBX.out cl rq fr ct HRD.out).mono ?_; rintro e w3 ⟨rfl, hm⟩
                 have hst3 := HAX.out.call HVX.out hm (read_uq HAX.out.ah.at_.uq cl rq fr ct) (k' := i + 1) (Nat.le_trans (read_round t cl rq fr ct).2 (Nat.succ_le_succ HAX.out.ah.at_.round)) (read_keeps t cl rq fr ct).1 (read_keeps t cl rq fr ct).2.1 (read_keeps t cl rq fr ct).2.2 (read_round t cl rq fr ct).1
                 obtain ⟨v3, hv3, _, _⟩ := hm
                 have HST3 := Lib.hid hst3
                 have HV3 := Lib.hid hv3
                 clear hst3 hv3)
              | fail)
            obtain ⟨t2, ht2⟩ : ∃ t2, t2 = t.read cl rq fr ct := ⟨_, rfl⟩
            rw [← ht2] at HST3 HV3
            clear ht2 HVX HAX HFT HR0
            have HRO := Lib.hid (round_any HV3.out)
            have hst4 := HST3.out.mine HV3.out.ok
            have c4 := HST3.out.ah.cell (j := S) (by have := HST3.out.rec_.1; have := H7.out; have := HS.out; omega)
            have f4 := frozen_of_row w3 hb S _ _ HST3.out.ah.row
            have HST4 := Lib.hid hst4
            have hok2 := HV3.out.ok
            have hsl := sure_le t2 hok2 HST3.out.hr
            have hmj := sure_maj t2 hok2
            rw [HST3.out.n] at hmj
            have HMJ : Hid (N < 2 * cntS t2 N) := Lib.hid hmj
            have hpos : (N : Int) ≤ 7 := by have := H7.out; omega
            have HAT := Lib.hid (fun j (hj : j < N) => HST3.out.rec_.at_ hok2 j (by rw [HST3.out.n]; exact hj))
            have HHL := Lib.hid HST3.out.rec_.1
            have HSELF := Lib.hid HST3.out.self
            clear hst4 hok2 hmj
            go_wp2_with (first
              | (go_at_call 14; refine HRO.out.mono ?_; rintro e w4 ⟨rfl, rfl⟩)
              | fail)
            obtain ⟨w5, hw5⟩ : ∃ w5, w5 = w3.setCell ⟨hb, S, none⟩ (.int .u64 (t2.round : Int)) := ⟨_, rfl⟩
            rw [← hw5] at HST4 ⊢
            obtain ⟨v5, hv5⟩ := HST4.out.ah.at_.desk
            have HV5 := Lib.hid hv5
            clear hv5 hw5 HRO c4 f4
            obtain ⟨wo, rfl⟩ : ∃ wo : World, wo = wr := ⟨_, rfl⟩
            go_loopw [13, 118] (fun cr kr wr => ∃ j : Nat, j ≤ N ∧ cr = .int .i64 (cntS t2 j : Int) ∧ kr = .int .i64 (j : Int) ∧ Hid (Below w5.heap.size w5 wr)) (fun _ kr _ => N - (intOf kr).toNat)
            case atStart => exact ⟨0, Nat.zero_le _, rfl, rfl, Lib.hid (Below.refl _ _)⟩
            case round =>
              obtain ⟨j, hj, rfl, rfl, HBQ⟩ := hrel
              by_cases hjN : j < N
              · have hj7 : j < 7 := by have := H7.out; omega
                have hji : (j : Int) < 7 := by omega
                have hji6 : (j : Int) ≤ 6 := by omega
                have hjNi : (j : Int) < (N : Int) := by omega
                have dj : decide ((j : Int) < (N : Int)) = true := by simpa using hjNi
                have hcell := (HST4.out.ah.below HBQ.out).cell (j := j) (by rw [HST4.out.rec_.1]; omega)
                have hat := HAT.out j hjN
                rw [HSELF.out] at hat
                rw [hat] at hcell
                have hlb := World.block_lt_of_cell? wr _ hcell
                have HCE := Lib.hid hcell
                have HLB := Lib.hid hlb
                have hsc := cntS_succ t2 j
                have HSC := Lib.hid hsc
                have hcl := cntS_le t2 j
                have hcli : (cntS t2 j : Int) ≤ 7 := by omega
                have HSU := Lib.hid (fun W (hbW : Below wr.heap.size wr W) => sure_any ((HV5.out.below HBQ.out).below hbW))
                have HJN := Lib.hid hjN
                clear hcell hat hlb hsc hcl hjN
                generalize t2.at_ j = Y at *
                generalize cntS t2 j = C at *
                go_wp2_with (fail)
                refine wp_low wr.heap.size [([0, 1, 2, 3, 4], 5)] [6] (by kernel_rfl) (by kernel_rfl) (fun d _ _ _ _ h => by cases d <;> exact h) (Nat.le_refl _) fun wd hbd => ?_
                intro q hq
                have F1 := fun z => Qu.kept (hq z) HCE.out HLB.out
                simp only [pickI, Option.toList_some, List.cons_append, List.nil_append, List.getElem?_toArray, List.getElem?_cons_succ, List.getElem?_cons_zero]
                try go_frame
                iterate 5 go_big_quiet_step (fail)
                refine wpQuiet_nil ?_
                clear hq q F1
                refine seg_op (by simp only [List.getElem?_toArray, List.getElem?_cons_succ, List.getElem?_cons_zero]; rfl) fun K hK => ?_
                go_simp
                refine (HSU.out wd hbd).mono ?_
                rintro e w7 ⟨rfl, hb7⟩
                have HB7 := Lib.hid (hbd.trans (hb7.mono hbd.size))
                refine hK.out _ _ (seg_keep HB7.out ?_)
                clear hK K hb7 hbd
                intro q hq
                simp only [pickI, Option.toList_some, List.cons_append, List.nil_append, List.getElem?_toArray, List.getElem?_cons_succ, List.getElem?_cons_zero]
                try go_frame
                iterate 1 go_big_quiet_step (fail)
                refine wpQuiet_nil ?_
                clear hq q
                by_cases hge : t2.sure ≤ Y
                · have hgi : (t2.sure : Int) ≤ (Y : Int) := by omega
                  have dg : decide ((t2.sure : Int) ≤ (Y : Int)) = true := by simpa using hgi
                  rw [if_pos hge] at HSC
                  clear hge
                  go_wp2_with (fail)
                  go_roundw
                  case rel => exact ⟨j + 1, by have := HJN.out; omega, by rw [HSC.out]; go_num, by go_num, Lib.hid (HBQ.out.trans (HB7.out.mono HBQ.out.size))⟩
                  case measure => have := HJN.out; simp [intOf]; omega
                · have hgi : ¬ (t2.sure : Int) ≤ (Y : Int) := by omega
                  have dg : decide ((t2.sure : Int) ≤ (Y : Int)) = false := by simpa using hgi
                  rw [if_neg hge] at HSC
                  clear hge
                  go_wp2_with (fail)
                  go_roundw
                  case rel => exact ⟨j + 1, by have := HJN.out; omega, by rw [HSC.out]; go_num, by go_num, Lib.hid (HBQ.out.trans (HB7.out.mono HBQ.out.size))⟩
                  case measure => have := HJN.out; simp [intOf]; omega
              · obtain rfl : j = N := by omega
                have hmj := HMJ.out
                have hcl := cntS_le t2 j
                have z1 : ¬ 2 * (cntS t2 j : Int) ≤ (j : Int) := by omega
                have z2 : decide (2 * (cntS t2 j : Int) ≤ (j : Int)) = false := by simpa using z1
                have z3 : ¬ (t2.round : Int) < (t2.sure : Int) := by omega
                have z4 : decide ((t2.round : Int) < (t2.sure : Int)) = false := by simpa using z3
                have dj : decide ((j : Int) < (j : Int)) = false := by simp
                have hcli : (cntS t2 j : Int) ≤ 7 := by omega
                generalize cntS t2 j = C at *
                have HSU := Lib.hid (sure_any (HV5.out.below HBQ.out))
                clear hjN hmj hcl HMJ
                go_wp2_with (first
                  | (go_at_call 15; refine HSU.out.mono ?_; rintro e w7 ⟨rfl, hb7⟩
                     have HB7 := Lib.hid (HBQ.out.trans (hb7.mono HBQ.out.size))
                     have HRO := Lib.hid (round_any (HV5.out.below HB7.out))
                     clear hb7)
                  | (go_at_call 14; refine HRO.out.mono ?_; rintro e w8 ⟨rfl, rfl⟩)
                  | fail)
                have hlt2 := HLT.out
                refine ⟨⟨i + 1, t2, H.set S t2.round, by omega, by go_num, Lib.hid (HST4.out.below HB7.out)⟩, by simp [intOf]; omega⟩
          · by_cases y2 : kd = 2
            · subst y2
              go_wp2_with (first
                | (go_at_call 19; refine (begin_any HVX.out HRD.out).mono ?_; rintro e w3 ⟨rfl, hd3, hk3⟩
                   have hm : Mv _ g g v (t.turn (t.round + 1)) w3 := ⟨v, hd3, hk3.wide (fun i hi => .inl hi), .inl rfl⟩
                   have hst3 := HAX.out.call HVX.out hm HAX.out.ah.at_.uq (k' := i + 1) (Nat.succ_le_succ HAX.out.ah.at_.round) rfl rfl rfl (Nat.le_succ _)
                   have HST3 := Lib.hid hst3
                   have HV3 := Lib.hid hd3
                   clear hst3 hd3 hk3 hm)
                | fail)
              obtain ⟨t2, ht2⟩ : ∃ t2, t2 = t.turn (t.round + 1) := ⟨_, rfl⟩
              rw [← ht2] at HST3 HV3
              clear ht2 HVX HAX HFT HR0
              have HRO := Lib.hid (round_any HV3.out)
              have hst4 := HST3.out.mine HV3.out.ok
              have c4 := HST3.out.ah.cell (j := S) (by have := HST3.out.rec_.1; have := H7.out; have := HS.out; omega)
              have f4 := frozen_of_row w3 hb S _ _ HST3.out.ah.row
              have HST4 := Lib.hid hst4
              have hok2 := HV3.out.ok
              have hsl := sure_le t2 hok2 HST3.out.hr
              have hmj := sure_maj t2 hok2
              rw [HST3.out.n] at hmj
              have HMJ : Hid (N < 2 * cntS t2 N) := Lib.hid hmj
              have hpos : (N : Int) ≤ 7 := by have := H7.out; omega
              have HAT := Lib.hid (fun j (hj : j < N) => HST3.out.rec_.at_ hok2 j (by rw [HST3.out.n]; exact hj))
              have HHL := Lib.hid HST3.out.rec_.1
              have HSELF := Lib.hid HST3.out.self
              clear hst4 hok2 hmj
              go_wp2_with (first
                | (go_at_call 14; refine HRO.out.mono ?_; rintro e w4 ⟨rfl, rfl⟩)
                | fail)
              obtain ⟨w5, hw5⟩ : ∃ w5, w5 = w3.setCell ⟨hb, S, none⟩ (.int .u64 (t2.round : Int)) := ⟨_, rfl⟩
              rw [← hw5] at HST4 ⊢
              obtain ⟨v5, hv5⟩ := HST4.out.ah.at_.desk
              have HV5 := Lib.hid hv5
              clear hv5 hw5 HRO c4 f4
              obtain ⟨wo, rfl⟩ : ∃ wo : World, wo = wr := ⟨_, rfl⟩
              go_loopw [13, 118] (fun cr kr wr => ∃ j : Nat, j ≤ N ∧ cr = .int .i64 (cntS t2 j : Int) ∧ kr = .int .i64 (j : Int) ∧ Hid (Below w5.heap.size w5 wr)) (fun _ kr _ => N - (intOf kr).toNat)
              case atStart => exact ⟨0, Nat.zero_le _, rfl, rfl, Lib.hid (Below.refl _ _)⟩
              case round =>
                obtain ⟨j, hj, rfl, rfl, HBQ⟩ := hrel
                by_cases hjN : j < N
                · have hj7 : j < 7 := by have := H7.out; omega
                  have hji : (j : Int) < 7 := by omega
                  have hji6 : (j : Int) ≤ 6 := by omega
                  have hjNi : (j : Int) < (N : Int) := by omega
                  have dj : decide ((j : Int) < (N : Int)) = true := by simpa using hjNi
                  have hcell := (HST4.out.ah.below HBQ.out).cell (j := j) (by rw [HST4.out.rec_.1]; omega)
                  have hat := HAT.out j hjN
                  rw [HSELF.out] at hat
                  rw [hat] at hcell
                  have hlb := World.block_lt_of_cell? wr _ hcell
                  have HCE := Lib.hid hcell
                  have HLB := Lib.hid hlb
                  have hsc := cntS_succ t2 j
                  have HSC := Lib.hid hsc
                  have hcl := cntS_le t2 j
                  have hcli : (cntS t2 j : Int) ≤ 7 := by omega
                  have HSU := Lib.hid (fun W (hbW : Below wr.heap.size wr W) => sure_any ((HV5.out.below HBQ.out).below hbW))
                  have HJN := Lib.hid hjN
                  clear hcell hat hlb hsc hcl hjN
                  generalize t2.at_ j = Y at *
                  generalize cntS t2 j = C at *
                  go_wp2_with (fail)
                  refine wp_low wr.heap.size [([0, 1, 2, 3, 4], 5)] [6] (by kernel_rfl) (by kernel_rfl) (fun d _ _ _ _ h => by cases d <;> exact h) (Nat.le_refl _) fun wd hbd => ?_
                  intro q hq
                  have F1 := fun z => Qu.kept (hq z) HCE.out HLB.out
                  simp only [pickI, Option.toList_some, List.cons_append, List.nil_append, List.getElem?_toArray, List.getElem?_cons_succ, List.getElem?_cons_zero]
                  try go_frame
                  iterate 5 go_big_quiet_step (fail)
                  refine wpQuiet_nil ?_
                  clear hq q F1
                  refine seg_op (by simp only [List.getElem?_toArray, List.getElem?_cons_succ, List.getElem?_cons_zero]; rfl) fun K hK => ?_
                  go_simp
                  refine (HSU.out wd hbd).mono ?_
                  rintro e w7 ⟨rfl, hb7⟩
                  have HB7 := Lib.hid (hbd.trans (hb7.mono hbd.size))
                  refine hK.out _ _ (seg_keep HB7.out ?_)
                  clear hK K hb7 hbd
                  intro q hq
                  simp only [pickI, Option.toList_some, List.cons_append, List.nil_append, List.getElem?_toArray, List.getElem?_cons_succ, List.getElem?_cons_zero]
                  try go_frame
                  iterate 1 go_big_quiet_step (fail)
                  refine wpQuiet_nil ?_
                  clear hq q
                  by_cases hge : t2.sure ≤ Y
                  · have hgi : (t2.sure : Int) ≤ (Y : Int) := by omega
                    have dg : decide ((t2.sure : Int) ≤ (Y : Int)) = true := by simpa using hgi
                    rw [if_pos hge] at HSC
                    clear hge
                    go_wp2_with (fail)
                    go_roundw
                    case rel => exact ⟨j + 1, by have := HJN.out; omega, by rw [HSC.out]; go_num, by go_num, Lib.hid (HBQ.out.trans (HB7.out.mono HBQ.out.size))⟩
                    case measure => have := HJN.out; simp [intOf]; omega
                  · have hgi : ¬ (t2.sure : Int) ≤ (Y : Int) := by omega
                    have dg : decide ((t2.sure : Int) ≤ (Y : Int)) = false := by simpa using hgi
                    rw [if_neg hge] at HSC
                    clear hge
                    go_wp2_with (fail)
                    go_roundw
                    case rel => exact ⟨j + 1, by have := HJN.out; omega, by rw [HSC.out]; go_num, by go_num, Lib.hid (HBQ.out.trans (HB7.out.mono HBQ.out.size))⟩
                    case measure => have := HJN.out; simp [intOf]; omega
                · obtain rfl : j = N := by omega
                  have hmj := HMJ.out
                  have hcl := cntS_le t2 j
                  have z1 : ¬ 2 * (cntS t2 j : Int) ≤ (j : Int) := by omega
                  have z2 : decide (2 * (cntS t2 j : Int) ≤ (j : Int)) = false := by simpa using z1
                  have z3 : ¬ (t2.round : Int) < (t2.sure : Int) := by omega
                  have z4 : decide ((t2.round : Int) < (t2.sure : Int)) = false := by simpa using z3
                  have dj : decide ((j : Int) < (j : Int)) = false := by simp
                  have hcli : (cntS t2 j : Int) ≤ 7 := by omega
                  generalize cntS t2 j = C at *
                  have HSU := Lib.hid (sure_any (HV5.out.below HBQ.out))
                  clear hjN hmj hcl HMJ
                  go_wp2_with (first
                    | (go_at_call 15; refine HSU.out.mono ?_; rintro e w7 ⟨rfl, hb7⟩
                       have HB7 := Lib.hid (HBQ.out.trans (hb7.mono HBQ.out.size))
                       have HRO := Lib.hid (round_any (HV5.out.below HB7.out))
                       clear hb7)
                    | (go_at_call 14; refine HRO.out.mono ?_; rintro e w8 ⟨rfl, rfl⟩)
                    | fail)
                  have hlt2 := HLT.out
                  refine ⟨⟨i + 1, t2, H.set S t2.round, by omega, by go_num, Lib.hid (HST4.out.below HB7.out)⟩, by simp [intOf]; omega⟩
            · by_cases y3 : kd = 3
              · subst y3
                have hro := fun W (hbW : Below (wr.alloc (.cells #[.int .i64 3, .int .u64 (cl : Int), .int .u64 (rq : Int), .int .u64 (x : Int), .int .u32 (fr : Int), .int .u32 (ct : Int), .int .i64 nd, .int .u64 (mL : Int), .int .u64 (mB : Int)] 36)).heap.size (wr.alloc (.cells #[.int .i64 3, .int .u64 (cl : Int), .int .u64 (rq : Int), .int .u64 (x : Int), .int .u32 (fr : Int), .int .u32 (ct : Int), .int .i64 nd, .int .u64 (mL : Int), .int .u64 (mB : Int)] 36)) W) => round_any (HVX.out.below hbW)
                have HRO := Lib.hid hro
                have HLB := Lib.hid (World.block_lt_of_cell? _ _ q0)
                clear hro
                by_cases n0 : nd < 0
                · have dn : decide (0 ≤ nd) = false := by simp; omega
                  have dn2 : ¬ 0 ≤ nd := by omega
                  go_wp2_with (fail)
                  go_quiet ((go_at_call 14; refine (HRO.out _ (drewN_below _ _)).mono ?_; rintro e w'' ⟨he, rfl⟩; exact ⟨he, _, rfl⟩))
                  obtain ⟨X8, hX8⟩ : ∃ X8, X8 = (wr.alloc (.cells #[.int .i64 3, .int .u64 (cl : Int), .int .u64 (rq : Int), .int .u64 (x : Int), .int .u32 (fr : Int), .int .u32 (ct : Int), .int .i64 nd, .int .u64 (mL : Int), .int .u64 (mB : Int)] 36)).drewN nq := ⟨_, rfl⟩
                  have hb8 : Below (wr.alloc (.cells #[.int .i64 3, .int .u64 (cl : Int), .int .u64 (rq : Int), .int .u64 (x : Int), .int .u32 (fr : Int), .int .u32 (ct : Int), .int .i64 nd, .int .u64 (mL : Int), .int .u64 (mB : Int)] 36)).heap.size (wr.alloc (.cells #[.int .i64 3, .int .u64 (cl : Int), .int .u64 (rq : Int), .int .u64 (x : Int), .int .u32 (fr : Int), .int .u32 (ct : Int), .int .i64 nd, .int .u64 (mL : Int), .int .u64 (mB : Int)] 36)) X8 := by rw [hX8]; exact drewN_below _ _
                  rw [← hX8]
                  clear hX8
                  have HB8 := Lib.hid hb8
                  have p3 : X8.cell? ⟨wr.heap.size, 3, none⟩ = some (.int .u64 (x : Int)) := Qu.kept hb8 q3 HLB.out
                  have p6 : X8.cell? ⟨wr.heap.size, 6, none⟩ = some (.int .i64 nd) := Qu.kept hb8 q6 HLB.out
                  have HV8 := Lib.hid (HVX.out.below hb8)
                  have HB9 := Lib.hid (Nat.le_trans HBX.out hb8.size)
                  have hre : recN t H nd x = H := rec_no (by rw [HAX.out.n]; omega)
                  have HV9 := HV8
                  have HAH9 : Hid (Ah w g g hb t (recN t H nd x) i X8) := Lib.hid (by rw [hre]; exact (HAX.out.below HB8.out).ah)
                  clear hre hb8
                  go_wp2_with (first
                    | (go_at_call 20; refine (heard_any HV9.out HB9.out nd x).mono ?_; rintro e w3 ⟨A3, c3, rfl, ho3, hm⟩
                       have hst3 := St.heard HAH9.out HAX.out.n HAX.out.self HAX.out.hr HAX.out.rec_ (Nat.le_succ i) HV9.out hm
                       obtain ⟨v3, hv3, _, _⟩ := hm
                       have HST3 := Lib.hid hst3
                       have HV3 := Lib.hid hv3
                       have HO3 := Lib.hid (ownsRow_rd ho3)
                       have HN3 := Lib.hid (told_upto (t.hearN nd x))
                       have HSS := Lib.hid (show (((t.hearN nd x).wait ((t.hearN nd x).l.filter fun y => !y.upto (t.hearN nd x).sure)).sure = (t.hearN nd x).sure) from rfl)
                       have hgl : ((t.hearN nd x).l.filter (Wt.upto (t.hearN nd x).sure)).length ≤ 64 := Nat.le_trans (List.length_filter_le _ _) (by rw [(hearN_l t nd x).1]; exact HV9.out.ok.room)
                       clear hst3 hv3 ho3)
                    | fail)
                  obtain ⟨t2, ht2⟩ : ∃ t2, t2 = (t.hearN nd x).wait ((t.hearN nd x).l.filter fun y => !y.upto (t.hearN nd x).sure) := ⟨_, rfl⟩
                  rw [← ht2] at HST3 HV3 HSS
                  rw [← HSS.out] at HO3 HN3 hgl ⊢
                  generalize ((t.hearN nd x).l.filter (Wt.upto t2.sure)) = gl at *
                  obtain ⟨gn, hgn⟩ : ∃ gn, gn = gl.length := ⟨_, rfl⟩
                  rw [← hgn] at HO3 hgl ⊢
                  have HGN := Lib.hid hgn
                  obtain ⟨wo, rfl⟩ : ∃ wo : World, wo = wr := ⟨_, rfl⟩
                  clear ht2 hgn HVX HAX HFT HR0
                  go_loopw [102] (fun jr wr => ∃ j : Nat, j ≤ gn ∧ jr = .int .i64 (j : Int) ∧ Hid (Below w3.heap.size w3 wr)) (fun jr _ => gn - (intOf jr).toNat)
                  case atStart => exact ⟨0, Nat.zero_le _, rfl, Lib.hid (Below.refl _ _)⟩
                  case round =>
                    obtain ⟨j, hj, rfl, HBQ⟩ := hrel
                    by_cases hjN : j < gn
                    · obtain ⟨y, hy⟩ : ∃ y, gl[j]? = some y := ⟨_, List.getElem?_eq_getElem (by have := HGN.out; omega)⟩
                      obtain ⟨bb, oo, hA3, hbb3, hcc3⟩ := HO3.out.2.2.2 (by omega)
                      cases hA3
                      have hce := fun m u (hu : y.cells[m]? = some u) => (HBQ.out.cell (p := ⟨bb, oo + (j * 6 + m), none⟩) hbb3).trans (hcc3 _ _ (wts_get gl j y hy m u hu))
                      have hyr := HN3.out y (List.mem_of_getElem? hy)
                      obtain ⟨ycl, yrq, yix, yfr, yct, yrd⟩ := y
                      unfold Wt.cells at hce
                      dsimp only at hyr hce
                      have l0 := hce 0 _ rfl
                      have l1 := hce 1 _ rfl
                      have l2 := hce 2 _ rfl
                      have l3 := hce 3 _ rfl
                      have l4 := hce 4 _ rfl
                      have l5 := hce 5 _ rfl
                      try dsimp only at l0 l1 l2 l3 l4 l5
                      simp only [← Nat.add_assoc, Nat.add_zero] at l0 l1 l2 l3 l4 l5
                      obtain ⟨Y, hY, hYz, yr0, hYb⟩ := Qu.boxes1 wr #[.int .u64 (ycl : Int), .int .u64 (yrq : Int), .int .u64 (yix : Int), .int .u32 (yfr : Int), .int .u32 (yct : Int), .int .u64 (yrd : Int)] 55
                      have HY5 : Hid (Y.cell? ⟨wr.heap.size, 5, none⟩ = some (.int .u64 (yrd : Int))) := Lib.hid (cell_of_row Y _ 5 _ _ _ yr0)
                      have HYZ := Lib.hid hYz
                      have HYB := Lib.hid (HBQ.out.trans (hYb.mono HBQ.out.size))
                      have HSU := Lib.hid (fun W (hbW : Below Y.heap.size Y W) => sure_any (HV3.out.below (HYB.out.trans (hbW.mono HYB.out.size))))
                      have HYR := Lib.hid hyr
                      have HJN := Lib.hid hjN
                      have hji : (j : Int) < (gn : Int) := by omega
                      have hji2 : (j : Int) ≤ 64 := by omega
                      have hYE := Lib.hid hY
                      clear hce hyr hcc3 hy yr0 hYz hYb hY hjN
                      go_wp2_with (fail)
                      rw [← hYE.out]
                      refine wp_low Y.heap.size [([0, 1, 2], 3)] [4] (by kernel_rfl) (by kernel_rfl) (fun d _ _ _ _ h => by cases d <;> exact h) (Nat.le_refl _) fun wd hbd => ?_
                      intro q hq
                      have F1 := fun z => Qu.kept (hq z) HY5.out (by have := HYZ.out; omega)
                      simp only [pickI, Option.toList_some, List.cons_append, List.nil_append, List.getElem?_toArray, List.getElem?_cons_succ, List.getElem?_cons_zero]
                      try go_frame
                      iterate 3 go_big_quiet_step (fail)
                      refine wpQuiet_nil ?_
                      clear hq q F1
                      refine seg_op (by simp only [List.getElem?_toArray, List.getElem?_cons_succ, List.getElem?_cons_zero]; rfl) fun K hK => ?_
                      go_simp
                      refine (HSU.out wd hbd).mono ?_
                      rintro e w7 ⟨rfl, hb7⟩
                      have HB7 := Lib.hid (hbd.trans (hb7.mono hbd.size))
                      refine hK.out _ _ (seg_keep HB7.out ?_)
                      clear hK K hb7 hbd
                      intro q hq
                      simp only [pickI, Option.toList_some, List.cons_append, List.nil_append, List.getElem?_toArray, List.getElem?_cons_succ, List.getElem?_cons_zero]
                      try go_frame
                      iterate 1 go_big_quiet_step (fail)
                      refine wpQuiet_nil ?_
                      clear hq q
                      have hgi : ¬ (t2.sure : Int) < (yrd : Int) := by have := HYR.out; omega
                      have dg : decide ((t2.sure : Int) < (yrd : Int)) = false := by simpa using hgi
                      go_wp2_with (fail)
                      go_roundw
                      case rel => exact ⟨j + 1, by have := HJN.out; omega, by go_num, Lib.hid (HYB.out.trans (HB7.out.mono HYB.out.size))⟩
                      case measure => have := HJN.out; simp [intOf]; omega
                    · obtain rfl : j = gn := by omega
                      have HST3b := Lib.hid (HST3.out.below HBQ.out)
                      have HV3b := Lib.hid (HV3.out.below HBQ.out)
                      have dj : decide ((j : Int) < (j : Int)) = false := by simp
                      clear HST3 HV3
                      obtain ⟨w3b, rfl⟩ : ∃ w3b : World, w3b = wr := ⟨_, rfl⟩
                      have HRO := Lib.hid (round_any HV3b.out)
                      have hst4 := HST3b.out.mine HV3b.out.ok
                      have c4 := HST3b.out.ah.cell (j := S) (by have := HST3b.out.rec_.1; have := H7.out; have := HS.out; omega)
                      have f4 := frozen_of_row w3b hb S _ _ HST3b.out.ah.row
                      have HST4 := Lib.hid hst4
                      have hok2 := HV3b.out.ok
                      have hsl := sure_le t2 hok2 HST3b.out.hr
                      have hmj := sure_maj t2 hok2
                      rw [HST3b.out.n] at hmj
                      have HMJ : Hid (N < 2 * cntS t2 N) := Lib.hid hmj
                      have hpos : (N : Int) ≤ 7 := by have := H7.out; omega
                      have HAT := Lib.hid (fun j (hj : j < N) => HST3b.out.rec_.at_ hok2 j (by rw [HST3b.out.n]; exact hj))
                      have HHL := Lib.hid HST3b.out.rec_.1
                      have HSELF := Lib.hid HST3b.out.self
                      clear hst4 hok2 hmj
                      go_wp2_with (first
                        | (go_at_call 14; refine HRO.out.mono ?_; rintro e w4 ⟨rfl, rfl⟩)
                        | fail)
                      obtain ⟨w5, hw5⟩ : ∃ w5, w5 = w3b.setCell ⟨hb, S, none⟩ (.int .u64 (t2.round : Int)) := ⟨_, rfl⟩
                      rw [← hw5] at HST4 ⊢
                      obtain ⟨v5, hv5⟩ := HST4.out.ah.at_.desk
                      have HV5 := Lib.hid hv5
                      clear hv5 hw5 HRO c4 f4
                      skip
                      go_loopw [13, 118] (fun cr kr wr => ∃ j : Nat, j ≤ N ∧ cr = .int .i64 (cntS t2 j : Int) ∧ kr = .int .i64 (j : Int) ∧ Hid (Below w5.heap.size w5 wr)) (fun _ kr _ => N - (intOf kr).toNat)
                      case atStart => exact ⟨0, Nat.zero_le _, rfl, rfl, Lib.hid (Below.refl _ _)⟩
                      case round =>
                        obtain ⟨j, hj, rfl, rfl, HBQ⟩ := hrel
                        by_cases hjN : j < N
                        · have hj7 : j < 7 := by have := H7.out; omega
                          have hji : (j : Int) < 7 := by omega
                          have hji6 : (j : Int) ≤ 6 := by omega
                          have hjNi : (j : Int) < (N : Int) := by omega
                          have dj : decide ((j : Int) < (N : Int)) = true := by simpa using hjNi
                          have hcell := (HST4.out.ah.below HBQ.out).cell (j := j) (by rw [HST4.out.rec_.1]; omega)
                          have hat := HAT.out j hjN
                          rw [HSELF.out] at hat
                          rw [hat] at hcell
                          have hlb := World.block_lt_of_cell? wr _ hcell
                          have HCE := Lib.hid hcell
                          have HLB := Lib.hid hlb
                          have hsc := cntS_succ t2 j
                          have HSC := Lib.hid hsc
                          have hcl := cntS_le t2 j
                          have hcli : (cntS t2 j : Int) ≤ 7 := by omega
                          have HSU := Lib.hid (fun W (hbW : Below wr.heap.size wr W) => sure_any ((HV5.out.below HBQ.out).below hbW))
                          have HJN := Lib.hid hjN
                          clear hcell hat hlb hsc hcl hjN
                          generalize t2.at_ j = Y at *
                          generalize cntS t2 j = C at *
                          go_wp2_with (fail)
                          refine wp_low wr.heap.size [([0, 1, 2, 3, 4], 5)] [6] (by kernel_rfl) (by kernel_rfl) (fun d _ _ _ _ h => by cases d <;> exact h) (Nat.le_refl _) fun wd hbd => ?_
                          intro q hq
                          have F1 := fun z => Qu.kept (hq z) HCE.out HLB.out
                          simp only [pickI, Option.toList_some, List.cons_append, List.nil_append, List.getElem?_toArray, List.getElem?_cons_succ, List.getElem?_cons_zero]
                          try go_frame
                          iterate 5 go_big_quiet_step (fail)
                          refine wpQuiet_nil ?_
                          clear hq q F1
                          refine seg_op (by simp only [List.getElem?_toArray, List.getElem?_cons_succ, List.getElem?_cons_zero]; rfl) fun K hK => ?_
                          go_simp
                          refine (HSU.out wd hbd).mono ?_
                          rintro e w7 ⟨rfl, hb7⟩
                          have HB7 := Lib.hid (hbd.trans (hb7.mono hbd.size))
                          refine hK.out _ _ (seg_keep HB7.out ?_)
                          clear hK K hb7 hbd
                          intro q hq
                          simp only [pickI, Option.toList_some, List.cons_append, List.nil_append, List.getElem?_toArray, List.getElem?_cons_succ, List.getElem?_cons_zero]
                          try go_frame
                          iterate 1 go_big_quiet_step (fail)
                          refine wpQuiet_nil ?_
                          clear hq q
                          by_cases hge : t2.sure ≤ Y
                          · have hgi : (t2.sure : Int) ≤ (Y : Int) := by omega
                            have dg : decide ((t2.sure : Int) ≤ (Y : Int)) = true := by simpa using hgi
                            rw [if_pos hge] at HSC
                            clear hge
                            go_wp2_with (fail)
                            go_roundw
                            case rel => exact ⟨j + 1, by have := HJN.out; omega, by rw [HSC.out]; go_num, by go_num, Lib.hid (HBQ.out.trans (HB7.out.mono HBQ.out.size))⟩
                            case measure => have := HJN.out; simp [intOf]; omega
                          · have hgi : ¬ (t2.sure : Int) ≤ (Y : Int) := by omega
                            have dg : decide ((t2.sure : Int) ≤ (Y : Int)) = false := by simpa using hgi
                            rw [if_neg hge] at HSC
                            clear hge
                            go_wp2_with (fail)
                            go_roundw
                            case rel => exact ⟨j + 1, by have := HJN.out; omega, by rw [HSC.out]; go_num, by go_num, Lib.hid (HBQ.out.trans (HB7.out.mono HBQ.out.size))⟩
                            case measure => have := HJN.out; simp [intOf]; omega
                        · obtain rfl : j = N := by omega
                          have hmj := HMJ.out
                          have hcl := cntS_le t2 j
                          have z1 : ¬ 2 * (cntS t2 j : Int) ≤ (j : Int) := by omega
                          have z2 : decide (2 * (cntS t2 j : Int) ≤ (j : Int)) = false := by simpa using z1
                          have z3 : ¬ (t2.round : Int) < (t2.sure : Int) := by omega
                          have z4 : decide ((t2.round : Int) < (t2.sure : Int)) = false := by simpa using z3
                          have dj : decide ((j : Int) < (j : Int)) = false := by simp
                          have hcli : (cntS t2 j : Int) ≤ 7 := by omega
                          generalize cntS t2 j = C at *
                          have HSU := Lib.hid (sure_any (HV5.out.below HBQ.out))
                          clear hjN hmj hcl HMJ
                          go_wp2_with (first
                            | (go_at_call 15; refine HSU.out.mono ?_; rintro e w7 ⟨rfl, hb7⟩
                               have HB7 := Lib.hid (HBQ.out.trans (hb7.mono HBQ.out.size))
                               have HRO := Lib.hid (round_any (HV5.out.below HB7.out))
                               clear hb7)
                            | (go_at_call 14; refine HRO.out.mono ?_; rintro e w8 ⟨rfl, rfl⟩)
                            | fail)
                          have hlt2 := HLT.out
                          refine ⟨⟨i + 1, t2, (recN t H nd x).set S t2.round, by omega, by go_num, Lib.hid (HST4.out.below HB7.out)⟩, by simp [intOf]; omega⟩
                · have dn : decide (0 ≤ nd) = true := by simp; omega
                  have dn2 : 0 ≤ nd := by omega
                  by_cases n1 : nd < (N : Int)
                  · have dm : decide (nd < (N : Int)) = true := by simpa using n1
                    by_cases n2 : x ≤ t.round
                    · obtain ⟨k, rfl⟩ : ∃ k : Nat, nd = (k : Int) := ⟨nd.toNat, by omega⟩
                      have hkN : k < N := by omega
                      have hk7 : k < 7 := by have := H7.out; omega
                      have hki : (k : Int) < 7 := by omega
                      have hki6 : (k : Int) ≤ 6 := by omega
                      have de : (x : Int) ≤ (t.round : Int) := by omega
                      have de2 : decide ((x : Int) ≤ (t.round : Int)) = true := by simpa using de
                      go_wp2_with (fail)
                      go_quiet ((go_at_call 14; refine (HRO.out _ (drewN_below _ _)).mono ?_; rintro e w'' ⟨he, rfl⟩; exact ⟨he, _, rfl⟩))
                      obtain ⟨X8, hX8⟩ : ∃ X8, X8 = (wr.alloc (.cells #[.int .i64 3, .int .u64 (cl : Int), .int .u64 (rq : Int), .int .u64 (x : Int), .int .u32 (fr : Int), .int .u32 (ct : Int), .int .i64 (k : Int), .int .u64 (mL : Int), .int .u64 (mB : Int)] 36)).drewN nq := ⟨_, rfl⟩
                      have hb8 : Below (wr.alloc (.cells #[.int .i64 3, .int .u64 (cl : Int), .int .u64 (rq : Int), .int .u64 (x : Int), .int .u32 (fr : Int), .int .u32 (ct : Int), .int .i64 (k : Int), .int .u64 (mL : Int), .int .u64 (mB : Int)] 36)).heap.size (wr.alloc (.cells #[.int .i64 3, .int .u64 (cl : Int), .int .u64 (rq : Int), .int .u64 (x : Int), .int .u32 (fr : Int), .int .u32 (ct : Int), .int .i64 (k : Int), .int .u64 (mL : Int), .int .u64 (mB : Int)] 36)) X8 := by rw [hX8]; exact drewN_below _ _
                      rw [← hX8]
                      clear hX8
                      have HB8 := Lib.hid hb8
                      have p3 : X8.cell? ⟨wr.heap.size, 3, none⟩ = some (.int .u64 (x : Int)) := Qu.kept hb8 q3 HLB.out
                      have p6 : X8.cell? ⟨wr.heap.size, 6, none⟩ = some (.int .i64 (k : Int)) := Qu.kept hb8 q6 HLB.out
                      have HV8 := Lib.hid (HVX.out.below hb8)
                      have HB9 := Lib.hid (Nat.le_trans HBX.out hb8.size)
                      go_wp2_with (fail)
                      have hah8 := (HAX.out.below HB8.out).ah
                      have hrl := HAX.out.rec_.1
                      have ch := hah8.cell (j := k) (by omega)
                      obtain ⟨hk0, e0⟩ : ∃ y, y = H.getD k 0 := ⟨_, rfl⟩
                      rw [← e0] at ch
                      have E0 := Lib.hid e0
                      have HRL := Lib.hid hrl
                      have HAH8 := Lib.hid hah8
                      clear e0 hrl hah8
                      go_still_tail 12, (by kernel_rfl)
                      change wpList _ _ _ _ _ X8.drew
                      have hbd : Below X8.heap.size X8 X8.drew := (Below.refl _ _).drew
                      have hah9 := HAH8.out.below hbd
                      have hv9 := HV8.out.below hbd
                      have p3d := Qu.kept hbd p3 (Nat.lt_of_lt_of_le HLB.out HB8.out.size)
                      have p6d := Qu.kept hbd p6 (Nat.lt_of_lt_of_le HLB.out HB8.out.size)
                      have hszd : g ≤ X8.drew.heap.size := Nat.le_trans HB9.out hbd.size
                      have hhb : hb < wr.heap.size := HA.out.ah.lt
                      generalize X8.drew = wD at *
                      have cd := hah9.cell (j := k) (by rw [HRL.out]; omega)
                      rw [← E0.out] at cd
                      have fd := frozen_of_row wD hb k _ _ hah9.row
                      have hmx : max (hk0 : Int) (x : Int) = ((max hk0 x : Nat) : Int) := by omega
                      have hput := hah9.put k (max hk0 x)
                      have hre : recN t H (k : Int) x = H.set k (max (H.getD k 0) x) := rec_yes (by rw [HAX.out.n]; exact hkN) n2
                      rw [← E0.out] at hre
                      rw [← hre] at hput
                      have hkk := Keeps.set wD hb k (.int .u64 ((max hk0 x : Nat) : Int))
                      have HV9 := Lib.hid (hv9.keeps hkk (fun i hi e => hv9.free hah9.row (e ▸ hi)))
                      have p3e := keeps_cell hkk p3d (by omega)
                      have p6e := keeps_cell hkk p6d (by omega)
                      have HAH9 := Lib.hid hput
                      have HB9c := Lib.hid (Nat.le_trans hszd hkk.size)
                      have HB9 := HB9c
                      have HMX := Lib.hid hmx
                      clear hre hput hah9 hv9 hbd hkk hb8 n2 hmx
                      rw [HMX.out]
                      generalize max hk0 x = mx at *
                      go_wp2_with (first
                        | (go_at_call 20; refine (heard_any HV9.out HB9.out (k : Int) x).mono ?_; rintro e w3 ⟨A3, c3, rfl, ho3, hm⟩
                           have hst3 := St.heard HAH9.out HAX.out.n HAX.out.self HAX.out.hr HAX.out.rec_ (Nat.le_succ i) HV9.out hm
                           obtain ⟨v3, hv3, _, _⟩ := hm
                           have HST3 := Lib.hid hst3
                           have HV3 := Lib.hid hv3
                           have HO3 := Lib.hid (ownsRow_rd ho3)
                           have HN3 := Lib.hid (told_upto (t.hearN (k : Int) x))
                           have HSS := Lib.hid (show (((t.hearN (k : Int) x).wait ((t.hearN (k : Int) x).l.filter fun y => !y.upto (t.hearN (k : Int) x).sure)).sure = (t.hearN (k : Int) x).sure) from rfl)
                           have hgl : ((t.hearN (k : Int) x).l.filter (Wt.upto (t.hearN (k : Int) x).sure)).length ≤ 64 := Nat.le_trans (List.length_filter_le _ _) (by rw [(hearN_l t (k : Int) x).1]; exact HV9.out.ok.room)
                           clear hst3 hv3 ho3)
                        | fail)
                      obtain ⟨t2, ht2⟩ : ∃ t2, t2 = (t.hearN (k : Int) x).wait ((t.hearN (k : Int) x).l.filter fun y => !y.upto (t.hearN (k : Int) x).sure) := ⟨_, rfl⟩
                      rw [← ht2] at HST3 HV3 HSS
                      rw [← HSS.out] at HO3 HN3 hgl ⊢
                      generalize ((t.hearN (k : Int) x).l.filter (Wt.upto t2.sure)) = gl at *
                      obtain ⟨gn, hgn⟩ : ∃ gn, gn = gl.length := ⟨_, rfl⟩
                      rw [← hgn] at HO3 hgl ⊢
                      have HGN := Lib.hid hgn
                      obtain ⟨wo, rfl⟩ : ∃ wo : World, wo = wr := ⟨_, rfl⟩
                      clear ht2 hgn HVX HAX HFT HR0
                      go_loopw [102] (fun jr wr => ∃ j : Nat, j ≤ gn ∧ jr = .int .i64 (j : Int) ∧ Hid (Below w3.heap.size w3 wr)) (fun jr _ => gn - (intOf jr).toNat)
                      case atStart => exact ⟨0, Nat.zero_le _, rfl, Lib.hid (Below.refl _ _)⟩
                      case round =>
                        obtain ⟨j, hj, rfl, HBQ⟩ := hrel
                        by_cases hjN : j < gn
                        · obtain ⟨y, hy⟩ : ∃ y, gl[j]? = some y := ⟨_, List.getElem?_eq_getElem (by have := HGN.out; omega)⟩
                          obtain ⟨bb, oo, hA3, hbb3, hcc3⟩ := HO3.out.2.2.2 (by omega)
                          cases hA3
                          have hce := fun m u (hu : y.cells[m]? = some u) => (HBQ.out.cell (p := ⟨bb, oo + (j * 6 + m), none⟩) hbb3).trans (hcc3 _ _ (wts_get gl j y hy m u hu))
                          have hyr := HN3.out y (List.mem_of_getElem? hy)
                          obtain ⟨ycl, yrq, yix, yfr, yct, yrd⟩ := y
                          unfold Wt.cells at hce
                          dsimp only at hyr hce
                          have l0 := hce 0 _ rfl
                          have l1 := hce 1 _ rfl
                          have l2 := hce 2 _ rfl
                          have l3 := hce 3 _ rfl
                          have l4 := hce 4 _ rfl
                          have l5 := hce 5 _ rfl
                          try dsimp only at l0 l1 l2 l3 l4 l5
                          simp only [← Nat.add_assoc, Nat.add_zero] at l0 l1 l2 l3 l4 l5
                          obtain ⟨Y, hY, hYz, yr0, hYb⟩ := Qu.boxes1 wr #[.int .u64 (ycl : Int), .int .u64 (yrq : Int), .int .u64 (yix : Int), .int .u32 (yfr : Int), .int .u32 (yct : Int), .int .u64 (yrd : Int)] 55
                          have HY5 : Hid (Y.cell? ⟨wr.heap.size, 5, none⟩ = some (.int .u64 (yrd : Int))) := Lib.hid (cell_of_row Y _ 5 _ _ _ yr0)
                          have HYZ := Lib.hid hYz
                          have HYB := Lib.hid (HBQ.out.trans (hYb.mono HBQ.out.size))
                          have HSU := Lib.hid (fun W (hbW : Below Y.heap.size Y W) => sure_any (HV3.out.below (HYB.out.trans (hbW.mono HYB.out.size))))
                          have HYR := Lib.hid hyr
                          have HJN := Lib.hid hjN
                          have hji : (j : Int) < (gn : Int) := by omega
                          have hji2 : (j : Int) ≤ 64 := by omega
                          have hYE := Lib.hid hY
                          clear hce hyr hcc3 hy yr0 hYz hYb hY hjN
                          go_wp2_with (fail)
                          rw [← hYE.out]
                          refine wp_low Y.heap.size [([0, 1, 2], 3)] [4] (by kernel_rfl) (by kernel_rfl) (fun d _ _ _ _ h => by cases d <;> exact h) (Nat.le_refl _) fun wd hbd => ?_
                          intro q hq
                          have F1 := fun z => Qu.kept (hq z) HY5.out (by have := HYZ.out; omega)
                          simp only [pickI, Option.toList_some, List.cons_append, List.nil_append, List.getElem?_toArray, List.getElem?_cons_succ, List.getElem?_cons_zero]
                          try go_frame
                          iterate 3 go_big_quiet_step (fail)
                          refine wpQuiet_nil ?_
                          clear hq q F1
                          refine seg_op (by simp only [List.getElem?_toArray, List.getElem?_cons_succ, List.getElem?_cons_zero]; rfl) fun K hK => ?_
                          go_simp
                          refine (HSU.out wd hbd).mono ?_
                          rintro e w7 ⟨rfl, hb7⟩
                          have HB7 := Lib.hid (hbd.trans (hb7.mono hbd.size))
                          refine hK.out _ _ (seg_keep HB7.out ?_)
                          clear hK K hb7 hbd
                          intro q hq
                          simp only [pickI, Option.toList_some, List.cons_append, List.nil_append, List.getElem?_toArray, List.getElem?_cons_succ, List.getElem?_cons_zero]
                          try go_frame
                          iterate 1 go_big_quiet_step (fail)
                          refine wpQuiet_nil ?_
                          clear hq q
                          have hgi : ¬ (t2.sure : Int) < (yrd : Int) := by have := HYR.out; omega
                          have dg : decide ((t2.sure : Int) < (yrd : Int)) = false := by simpa using hgi
                          go_wp2_with (fail)
                          go_roundw
                          case rel => exact ⟨j + 1, by have := HJN.out; omega, by go_num, Lib.hid (HYB.out.trans (HB7.out.mono HYB.out.size))⟩
                          case measure => have := HJN.out; simp [intOf]; omega
                        · obtain rfl : j = gn := by omega
                          have HST3b := Lib.hid (HST3.out.below HBQ.out)
                          have HV3b := Lib.hid (HV3.out.below HBQ.out)
                          have dj : decide ((j : Int) < (j : Int)) = false := by simp
                          clear HST3 HV3
                          obtain ⟨w3b, rfl⟩ : ∃ w3b : World, w3b = wr := ⟨_, rfl⟩
                          have HRO := Lib.hid (round_any HV3b.out)
                          have hst4 := HST3b.out.mine HV3b.out.ok
                          have c4 := HST3b.out.ah.cell (j := S) (by have := HST3b.out.rec_.1; have := H7.out; have := HS.out; omega)
                          have f4 := frozen_of_row w3b hb S _ _ HST3b.out.ah.row
                          have HST4 := Lib.hid hst4
                          have hok2 := HV3b.out.ok
                          have hsl := sure_le t2 hok2 HST3b.out.hr
                          have hmj := sure_maj t2 hok2
                          rw [HST3b.out.n] at hmj
                          have HMJ : Hid (N < 2 * cntS t2 N) := Lib.hid hmj
                          have hpos : (N : Int) ≤ 7 := by have := H7.out; omega
                          have HAT := Lib.hid (fun j (hj : j < N) => HST3b.out.rec_.at_ hok2 j (by rw [HST3b.out.n]; exact hj))
                          have HHL := Lib.hid HST3b.out.rec_.1
                          have HSELF := Lib.hid HST3b.out.self
                          clear hst4 hok2 hmj
                          go_wp2_with (first
                            | (go_at_call 14; refine HRO.out.mono ?_; rintro e w4 ⟨rfl, rfl⟩)
                            | fail)
                          obtain ⟨w5, hw5⟩ : ∃ w5, w5 = w3b.setCell ⟨hb, S, none⟩ (.int .u64 (t2.round : Int)) := ⟨_, rfl⟩
                          rw [← hw5] at HST4 ⊢
                          obtain ⟨v5, hv5⟩ := HST4.out.ah.at_.desk
                          have HV5 := Lib.hid hv5
                          clear hv5 hw5 HRO c4 f4
                          skip
                          go_loopw [13, 118] (fun cr kr wr => ∃ j : Nat, j ≤ N ∧ cr = .int .i64 (cntS t2 j : Int) ∧ kr = .int .i64 (j : Int) ∧ Hid (Below w5.heap.size w5 wr)) (fun _ kr _ => N - (intOf kr).toNat)
                          case atStart => exact ⟨0, Nat.zero_le _, rfl, rfl, Lib.hid (Below.refl _ _)⟩
                          case round =>
                            obtain ⟨j, hj, rfl, rfl, HBQ⟩ := hrel
                            by_cases hjN : j < N
                            · have hj7 : j < 7 := by have := H7.out; omega
                              have hji : (j : Int) < 7 := by omega
                              have hji6 : (j : Int) ≤ 6 := by omega
                              have hjNi : (j : Int) < (N : Int) := by omega
                              have dj : decide ((j : Int) < (N : Int)) = true := by simpa using hjNi
                              have hcell := (HST4.out.ah.below HBQ.out).cell (j := j) (by rw [HST4.out.rec_.1]; omega)
                              have hat := HAT.out j hjN
                              rw [HSELF.out] at hat
                              rw [hat] at hcell
                              have hlb := World.block_lt_of_cell? wr _ hcell
                              have HCE := Lib.hid hcell
                              have HLB := Lib.hid hlb
                              have hsc := cntS_succ t2 j
                              have HSC := Lib.hid hsc
                              have hcl := cntS_le t2 j
                              have hcli : (cntS t2 j : Int) ≤ 7 := by omega
                              have HSU := Lib.hid (fun W (hbW : Below wr.heap.size wr W) => sure_any ((HV5.out.below HBQ.out).below hbW))
                              have HJN := Lib.hid hjN
                              clear hcell hat hlb hsc hcl hjN
                              generalize t2.at_ j = Y at *
                              generalize cntS t2 j = C at *
                              go_wp2_with (fail)
                              refine wp_low wr.heap.size [([0, 1, 2, 3, 4], 5)] [6] (by kernel_rfl) (by kernel_rfl) (fun d _ _ _ _ h => by cases d <;> exact h) (Nat.le_refl _) fun wd hbd => ?_
                              intro q hq
                              have F1 := fun z => Qu.kept (hq z) HCE.out HLB.out
                              simp only [pickI, Option.toList_some, List.cons_append, List.nil_append, List.getElem?_toArray, List.getElem?_cons_succ, List.getElem?_cons_zero]
                              try go_frame
                              iterate 5 go_big_quiet_step (fail)
                              refine wpQuiet_nil ?_
                              clear hq q F1
                              refine seg_op (by simp only [List.getElem?_toArray, List.getElem?_cons_succ, List.getElem?_cons_zero]; rfl) fun K hK => ?_
                              go_simp
                              refine (HSU.out wd hbd).mono ?_
                              rintro e w7 ⟨rfl, hb7⟩
                              have HB7 := Lib.hid (hbd.trans (hb7.mono hbd.size))
                              refine hK.out _ _ (seg_keep HB7.out ?_)
                              clear hK K hb7 hbd
                              intro q hq
                              simp only [pickI, Option.toList_some, List.cons_append, List.nil_append, List.getElem?_toArray, List.getElem?_cons_succ, List.getElem?_cons_zero]
                              try go_frame
                              iterate 1 go_big_quiet_step (fail)
                              refine wpQuiet_nil ?_
                              clear hq q
                              by_cases hge : t2.sure ≤ Y
                              · have hgi : (t2.sure : Int) ≤ (Y : Int) := by omega
                                have dg : decide ((t2.sure : Int) ≤ (Y : Int)) = true := by simpa using hgi
                                rw [if_pos hge] at HSC
                                clear hge
                                go_wp2_with (fail)
                                go_roundw
                                case rel => exact ⟨j + 1, by have := HJN.out; omega, by rw [HSC.out]; go_num, by go_num, Lib.hid (HBQ.out.trans (HB7.out.mono HBQ.out.size))⟩
                                case measure => have := HJN.out; simp [intOf]; omega
                              · have hgi : ¬ (t2.sure : Int) ≤ (Y : Int) := by omega
                                have dg : decide ((t2.sure : Int) ≤ (Y : Int)) = false := by simpa using hgi
                                rw [if_neg hge] at HSC
                                clear hge
                                go_wp2_with (fail)
                                go_roundw
                                case rel => exact ⟨j + 1, by have := HJN.out; omega, by rw [HSC.out]; go_num, by go_num, Lib.hid (HBQ.out.trans (HB7.out.mono HBQ.out.size))⟩
                                case measure => have := HJN.out; simp [intOf]; omega
                            · obtain rfl : j = N := by omega
                              have hmj := HMJ.out
                              have hcl := cntS_le t2 j
                              have z1 : ¬ 2 * (cntS t2 j : Int) ≤ (j : Int) := by omega
                              have z2 : decide (2 * (cntS t2 j : Int) ≤ (j : Int)) = false := by simpa using z1
                              have z3 : ¬ (t2.round : Int) < (t2.sure : Int) := by omega
                              have z4 : decide ((t2.round : Int) < (t2.sure : Int)) = false := by simpa using z3
                              have dj : decide ((j : Int) < (j : Int)) = false := by simp
                              have hcli : (cntS t2 j : Int) ≤ 7 := by omega
                              generalize cntS t2 j = C at *
                              have HSU := Lib.hid (sure_any (HV5.out.below HBQ.out))
                              clear hjN hmj hcl HMJ
                              go_wp2_with (first
                                | (go_at_call 15; refine HSU.out.mono ?_; rintro e w7 ⟨rfl, hb7⟩
                                   have HB7 := Lib.hid (HBQ.out.trans (hb7.mono HBQ.out.size))
                                   have HRO := Lib.hid (round_any (HV5.out.below HB7.out))
                                   clear hb7)
                                | (go_at_call 14; refine HRO.out.mono ?_; rintro e w8 ⟨rfl, rfl⟩)
                                | fail)
                              have hlt2 := HLT.out
                              refine ⟨⟨i + 1, t2, (recN t H (k : Int) x).set S t2.round, by omega, by go_num, Lib.hid (HST4.out.below HB7.out)⟩, by simp [intOf]; omega⟩
                    · have de : ¬ (x : Int) ≤ (t.round : Int) := by omega
                      have de2 : decide ((x : Int) ≤ (t.round : Int)) = false := by simpa using de
                      go_wp2_with (fail)
                      go_quiet ((go_at_call 14; refine (HRO.out _ (drewN_below _ _)).mono ?_; rintro e w'' ⟨he, rfl⟩; exact ⟨he, _, rfl⟩))
                      obtain ⟨X8, hX8⟩ : ∃ X8, X8 = (wr.alloc (.cells #[.int .i64 3, .int .u64 (cl : Int), .int .u64 (rq : Int), .int .u64 (x : Int), .int .u32 (fr : Int), .int .u32 (ct : Int), .int .i64 nd, .int .u64 (mL : Int), .int .u64 (mB : Int)] 36)).drewN nq := ⟨_, rfl⟩
                      have hb8 : Below (wr.alloc (.cells #[.int .i64 3, .int .u64 (cl : Int), .int .u64 (rq : Int), .int .u64 (x : Int), .int .u32 (fr : Int), .int .u32 (ct : Int), .int .i64 nd, .int .u64 (mL : Int), .int .u64 (mB : Int)] 36)).heap.size (wr.alloc (.cells #[.int .i64 3, .int .u64 (cl : Int), .int .u64 (rq : Int), .int .u64 (x : Int), .int .u32 (fr : Int), .int .u32 (ct : Int), .int .i64 nd, .int .u64 (mL : Int), .int .u64 (mB : Int)] 36)) X8 := by rw [hX8]; exact drewN_below _ _
                      rw [← hX8]
                      clear hX8
                      have HB8 := Lib.hid hb8
                      have p3 : X8.cell? ⟨wr.heap.size, 3, none⟩ = some (.int .u64 (x : Int)) := Qu.kept hb8 q3 HLB.out
                      have p6 : X8.cell? ⟨wr.heap.size, 6, none⟩ = some (.int .i64 nd) := Qu.kept hb8 q6 HLB.out
                      have HV8 := Lib.hid (HVX.out.below hb8)
                      have HB9 := Lib.hid (Nat.le_trans HBX.out hb8.size)
                      have hre : recN t H nd x = H := rec_no (by rw [HAX.out.n]; omega)
                      have HV9 := HV8
                      have HAH9 : Hid (Ah w g g hb t (recN t H nd x) i X8) := Lib.hid (by rw [hre]; exact (HAX.out.below HB8.out).ah)
                      clear hre hb8
                      go_wp2_with (first
                        | (go_at_call 20; refine (heard_any HV9.out HB9.out nd x).mono ?_; rintro e w3 ⟨A3, c3, rfl, ho3, hm⟩
                           have hst3 := St.heard HAH9.out HAX.out.n HAX.out.self HAX.out.hr HAX.out.rec_ (Nat.le_succ i) HV9.out hm
                           obtain ⟨v3, hv3, _, _⟩ := hm
                           have HST3 := Lib.hid hst3
                           have HV3 := Lib.hid hv3
                           have HO3 := Lib.hid (ownsRow_rd ho3)
                           have HN3 := Lib.hid (told_upto (t.hearN nd x))
                           have HSS := Lib.hid (show (((t.hearN nd x).wait ((t.hearN nd x).l.filter fun y => !y.upto (t.hearN nd x).sure)).sure = (t.hearN nd x).sure) from rfl)
                           have hgl : ((t.hearN nd x).l.filter (Wt.upto (t.hearN nd x).sure)).length ≤ 64 := Nat.le_trans (List.length_filter_le _ _) (by rw [(hearN_l t nd x).1]; exact HV9.out.ok.room)
                           clear hst3 hv3 ho3)
                        | fail)
                      obtain ⟨t2, ht2⟩ : ∃ t2, t2 = (t.hearN nd x).wait ((t.hearN nd x).l.filter fun y => !y.upto (t.hearN nd x).sure) := ⟨_, rfl⟩
                      rw [← ht2] at HST3 HV3 HSS
                      rw [← HSS.out] at HO3 HN3 hgl ⊢
                      generalize ((t.hearN nd x).l.filter (Wt.upto t2.sure)) = gl at *
                      obtain ⟨gn, hgn⟩ : ∃ gn, gn = gl.length := ⟨_, rfl⟩
                      rw [← hgn] at HO3 hgl ⊢
                      have HGN := Lib.hid hgn
                      obtain ⟨wo, rfl⟩ : ∃ wo : World, wo = wr := ⟨_, rfl⟩
                      clear ht2 hgn HVX HAX HFT HR0
                      go_loopw [102] (fun jr wr => ∃ j : Nat, j ≤ gn ∧ jr = .int .i64 (j : Int) ∧ Hid (Below w3.heap.size w3 wr)) (fun jr _ => gn - (intOf jr).toNat)
                      case atStart => exact ⟨0, Nat.zero_le _, rfl, Lib.hid (Below.refl _ _)⟩
                      case round =>
                        obtain ⟨j, hj, rfl, HBQ⟩ := hrel
                        by_cases hjN : j < gn
                        · obtain ⟨y, hy⟩ : ∃ y, gl[j]? = some y := ⟨_, List.getElem?_eq_getElem (by have := HGN.out; omega)⟩
                          obtain ⟨bb, oo, hA3, hbb3, hcc3⟩ := HO3.out.2.2.2 (by omega)
                          cases hA3
                          have hce := fun m u (hu : y.cells[m]? = some u) => (HBQ.out.cell (p := ⟨bb, oo + (j * 6 + m), none⟩) hbb3).trans (hcc3 _ _ (wts_get gl j y hy m u hu))
                          have hyr := HN3.out y (List.mem_of_getElem? hy)
                          obtain ⟨ycl, yrq, yix, yfr, yct, yrd⟩ := y
                          unfold Wt.cells at hce
                          dsimp only at hyr hce
                          have l0 := hce 0 _ rfl
                          have l1 := hce 1 _ rfl
                          have l2 := hce 2 _ rfl
                          have l3 := hce 3 _ rfl
                          have l4 := hce 4 _ rfl
                          have l5 := hce 5 _ rfl
                          try dsimp only at l0 l1 l2 l3 l4 l5
                          simp only [← Nat.add_assoc, Nat.add_zero] at l0 l1 l2 l3 l4 l5
                          obtain ⟨Y, hY, hYz, yr0, hYb⟩ := Qu.boxes1 wr #[.int .u64 (ycl : Int), .int .u64 (yrq : Int), .int .u64 (yix : Int), .int .u32 (yfr : Int), .int .u32 (yct : Int), .int .u64 (yrd : Int)] 55
                          have HY5 : Hid (Y.cell? ⟨wr.heap.size, 5, none⟩ = some (.int .u64 (yrd : Int))) := Lib.hid (cell_of_row Y _ 5 _ _ _ yr0)
                          have HYZ := Lib.hid hYz
                          have HYB := Lib.hid (HBQ.out.trans (hYb.mono HBQ.out.size))
                          have HSU := Lib.hid (fun W (hbW : Below Y.heap.size Y W) => sure_any (HV3.out.below (HYB.out.trans (hbW.mono HYB.out.size))))
                          have HYR := Lib.hid hyr
                          have HJN := Lib.hid hjN
                          have hji : (j : Int) < (gn : Int) := by omega
                          have hji2 : (j : Int) ≤ 64 := by omega
                          have hYE := Lib.hid hY
                          clear hce hyr hcc3 hy yr0 hYz hYb hY hjN
                          go_wp2_with (fail)
                          rw [← hYE.out]
                          refine wp_low Y.heap.size [([0, 1, 2], 3)] [4] (by kernel_rfl) (by kernel_rfl) (fun d _ _ _ _ h => by cases d <;> exact h) (Nat.le_refl _) fun wd hbd => ?_
                          intro q hq
                          have F1 := fun z => Qu.kept (hq z) HY5.out (by have := HYZ.out; omega)
                          simp only [pickI, Option.toList_some, List.cons_append, List.nil_append, List.getElem?_toArray, List.getElem?_cons_succ, List.getElem?_cons_zero]
                          try go_frame
                          iterate 3 go_big_quiet_step (fail)
                          refine wpQuiet_nil ?_
                          clear hq q F1
                          refine seg_op (by simp only [List.getElem?_toArray, List.getElem?_cons_succ, List.getElem?_cons_zero]; rfl) fun K hK => ?_
                          go_simp
                          refine (HSU.out wd hbd).mono ?_
                          rintro e w7 ⟨rfl, hb7⟩
                          have HB7 := Lib.hid (hbd.trans (hb7.mono hbd.size))
                          refine hK.out _ _ (seg_keep HB7.out ?_)
                          clear hK K hb7 hbd
                          intro q hq
                          simp only [pickI, Option.toList_some, List.cons_append, List.nil_append, List.getElem?_toArray, List.getElem?_cons_succ, List.getElem?_cons_zero]
                          try go_frame
                          iterate 1 go_big_quiet_step (fail)
                          refine wpQuiet_nil ?_
                          clear hq q
                          have hgi : ¬ (t2.sure : Int) < (yrd : Int) := by have := HYR.out; omega
                          have dg : decide ((t2.sure : Int) < (yrd : Int)) = false := by simpa using hgi
                          go_wp2_with (fail)
                          go_roundw
                          case rel => exact ⟨j + 1, by have := HJN.out; omega, by go_num, Lib.hid (HYB.out.trans (HB7.out.mono HYB.out.size))⟩
                          case measure => have := HJN.out; simp [intOf]; omega
                        · obtain rfl : j = gn := by omega
                          have HST3b := Lib.hid (HST3.out.below HBQ.out)
                          have HV3b := Lib.hid (HV3.out.below HBQ.out)
                          have dj : decide ((j : Int) < (j : Int)) = false := by simp
                          clear HST3 HV3
                          obtain ⟨w3b, rfl⟩ : ∃ w3b : World, w3b = wr := ⟨_, rfl⟩
                          have HRO := Lib.hid (round_any HV3b.out)
                          have hst4 := HST3b.out.mine HV3b.out.ok
                          have c4 := HST3b.out.ah.cell (j := S) (by have := HST3b.out.rec_.1; have := H7.out; have := HS.out; omega)
                          have f4 := frozen_of_row w3b hb S _ _ HST3b.out.ah.row
                          have HST4 := Lib.hid hst4
                          have hok2 := HV3b.out.ok
                          have hsl := sure_le t2 hok2 HST3b.out.hr
                          have hmj := sure_maj t2 hok2
                          rw [HST3b.out.n] at hmj
                          have HMJ : Hid (N < 2 * cntS t2 N) := Lib.hid hmj
                          have hpos : (N : Int) ≤ 7 := by have := H7.out; omega
                          have HAT := Lib.hid (fun j (hj : j < N) => HST3b.out.rec_.at_ hok2 j (by rw [HST3b.out.n]; exact hj))
                          have HHL := Lib.hid HST3b.out.rec_.1
                          have HSELF := Lib.hid HST3b.out.self
                          clear hst4 hok2 hmj
                          go_wp2_with (first
                            | (go_at_call 14; refine HRO.out.mono ?_; rintro e w4 ⟨rfl, rfl⟩)
                            | fail)
                          obtain ⟨w5, hw5⟩ : ∃ w5, w5 = w3b.setCell ⟨hb, S, none⟩ (.int .u64 (t2.round : Int)) := ⟨_, rfl⟩
                          rw [← hw5] at HST4 ⊢
                          obtain ⟨v5, hv5⟩ := HST4.out.ah.at_.desk
                          have HV5 := Lib.hid hv5
                          clear hv5 hw5 HRO c4 f4
                          skip
                          go_loopw [13, 118] (fun cr kr wr => ∃ j : Nat, j ≤ N ∧ cr = .int .i64 (cntS t2 j : Int) ∧ kr = .int .i64 (j : Int) ∧ Hid (Below w5.heap.size w5 wr)) (fun _ kr _ => N - (intOf kr).toNat)
                          case atStart => exact ⟨0, Nat.zero_le _, rfl, rfl, Lib.hid (Below.refl _ _)⟩
                          case round =>
                            obtain ⟨j, hj, rfl, rfl, HBQ⟩ := hrel
                            by_cases hjN : j < N
                            · have hj7 : j < 7 := by have := H7.out; omega
                              have hji : (j : Int) < 7 := by omega
                              have hji6 : (j : Int) ≤ 6 := by omega
                              have hjNi : (j : Int) < (N : Int) := by omega
                              have dj : decide ((j : Int) < (N : Int)) = true := by simpa using hjNi
                              have hcell := (HST4.out.ah.below HBQ.out).cell (j := j) (by rw [HST4.out.rec_.1]; omega)
                              have hat := HAT.out j hjN
                              rw [HSELF.out] at hat
                              rw [hat] at hcell
                              have hlb := World.block_lt_of_cell? wr _ hcell
                              have HCE := Lib.hid hcell
                              have HLB := Lib.hid hlb
                              have hsc := cntS_succ t2 j
                              have HSC := Lib.hid hsc
                              have hcl := cntS_le t2 j
                              have hcli : (cntS t2 j : Int) ≤ 7 := by omega
                              have HSU := Lib.hid (fun W (hbW : Below wr.heap.size wr W) => sure_any ((HV5.out.below HBQ.out).below hbW))
                              have HJN := Lib.hid hjN
                              clear hcell hat hlb hsc hcl hjN
                              generalize t2.at_ j = Y at *
                              generalize cntS t2 j = C at *
                              go_wp2_with (fail)
                              refine wp_low wr.heap.size [([0, 1, 2, 3, 4], 5)] [6] (by kernel_rfl) (by kernel_rfl) (fun d _ _ _ _ h => by cases d <;> exact h) (Nat.le_refl _) fun wd hbd => ?_
                              intro q hq
                              have F1 := fun z => Qu.kept (hq z) HCE.out HLB.out
                              simp only [pickI, Option.toList_some, List.cons_append, List.nil_append, List.getElem?_toArray, List.getElem?_cons_succ, List.getElem?_cons_zero]
                              try go_frame
                              iterate 5 go_big_quiet_step (fail)
                              refine wpQuiet_nil ?_
                              clear hq q F1
                              refine seg_op (by simp only [List.getElem?_toArray, List.getElem?_cons_succ, List.getElem?_cons_zero]; rfl) fun K hK => ?_
                              go_simp
                              refine (HSU.out wd hbd).mono ?_
                              rintro e w7 ⟨rfl, hb7⟩
                              have HB7 := Lib.hid (hbd.trans (hb7.mono hbd.size))
                              refine hK.out _ _ (seg_keep HB7.out ?_)
                              clear hK K hb7 hbd
                              intro q hq
                              simp only [pickI, Option.toList_some, List.cons_append, List.nil_append, List.getElem?_toArray, List.getElem?_cons_succ, List.getElem?_cons_zero]
                              try go_frame
                              iterate 1 go_big_quiet_step (fail)
                              refine wpQuiet_nil ?_
                              clear hq q
                              by_cases hge : t2.sure ≤ Y
                              · have hgi : (t2.sure : Int) ≤ (Y : Int) := by omega
                                have dg : decide ((t2.sure : Int) ≤ (Y : Int)) = true := by simpa using hgi
                                rw [if_pos hge] at HSC
                                clear hge
                                go_wp2_with (fail)
                                go_roundw
                                case rel => exact ⟨j + 1, by have := HJN.out; omega, by rw [HSC.out]; go_num, by go_num, Lib.hid (HBQ.out.trans (HB7.out.mono HBQ.out.size))⟩
                                case measure => have := HJN.out; simp [intOf]; omega
                              · have hgi : ¬ (t2.sure : Int) ≤ (Y : Int) := by omega
                                have dg : decide ((t2.sure : Int) ≤ (Y : Int)) = false := by simpa using hgi
                                rw [if_neg hge] at HSC
                                clear hge
                                go_wp2_with (fail)
                                go_roundw
                                case rel => exact ⟨j + 1, by have := HJN.out; omega, by rw [HSC.out]; go_num, by go_num, Lib.hid (HBQ.out.trans (HB7.out.mono HBQ.out.size))⟩
                                case measure => have := HJN.out; simp [intOf]; omega
                            · obtain rfl : j = N := by omega
                              have hmj := HMJ.out
                              have hcl := cntS_le t2 j
                              have z1 : ¬ 2 * (cntS t2 j : Int) ≤ (j : Int) := by omega
                              have z2 : decide (2 * (cntS t2 j : Int) ≤ (j : Int)) = false := by simpa using z1
                              have z3 : ¬ (t2.round : Int) < (t2.sure : Int) := by omega
                              have z4 : decide ((t2.round : Int) < (t2.sure : Int)) = false := by simpa using z3
                              have dj : decide ((j : Int) < (j : Int)) = false := by simp
                              have hcli : (cntS t2 j : Int) ≤ 7 := by omega
                              generalize cntS t2 j = C at *
                              have HSU := Lib.hid (sure_any (HV5.out.below HBQ.out))
                              clear hjN hmj hcl HMJ
                              go_wp2_with (first
                                | (go_at_call 15; refine HSU.out.mono ?_; rintro e w7 ⟨rfl, hb7⟩
                                   have HB7 := Lib.hid (HBQ.out.trans (hb7.mono HBQ.out.size))
                                   have HRO := Lib.hid (round_any (HV5.out.below HB7.out))
                                   clear hb7)
                                | (go_at_call 14; refine HRO.out.mono ?_; rintro e w8 ⟨rfl, rfl⟩)
                                | fail)
                              have hlt2 := HLT.out
                              refine ⟨⟨i + 1, t2, (recN t H nd x).set S t2.round, by omega, by go_num, Lib.hid (HST4.out.below HB7.out)⟩, by simp [intOf]; omega⟩
                  · have dm : decide (nd < (N : Int)) = false := by simpa using n1
                    go_wp2_with (fail)
                    go_quiet ((go_at_call 14; refine (HRO.out _ (drewN_below _ _)).mono ?_; rintro e w'' ⟨he, rfl⟩; exact ⟨he, _, rfl⟩))
                    obtain ⟨X8, hX8⟩ : ∃ X8, X8 = (wr.alloc (.cells #[.int .i64 3, .int .u64 (cl : Int), .int .u64 (rq : Int), .int .u64 (x : Int), .int .u32 (fr : Int), .int .u32 (ct : Int), .int .i64 nd, .int .u64 (mL : Int), .int .u64 (mB : Int)] 36)).drewN nq := ⟨_, rfl⟩
                    have hb8 : Below (wr.alloc (.cells #[.int .i64 3, .int .u64 (cl : Int), .int .u64 (rq : Int), .int .u64 (x : Int), .int .u32 (fr : Int), .int .u32 (ct : Int), .int .i64 nd, .int .u64 (mL : Int), .int .u64 (mB : Int)] 36)).heap.size (wr.alloc (.cells #[.int .i64 3, .int .u64 (cl : Int), .int .u64 (rq : Int), .int .u64 (x : Int), .int .u32 (fr : Int), .int .u32 (ct : Int), .int .i64 nd, .int .u64 (mL : Int), .int .u64 (mB : Int)] 36)) X8 := by rw [hX8]; exact drewN_below _ _
                    rw [← hX8]
                    clear hX8
                    have HB8 := Lib.hid hb8
                    have p3 : X8.cell? ⟨wr.heap.size, 3, none⟩ = some (.int .u64 (x : Int)) := Qu.kept hb8 q3 HLB.out
                    have p6 : X8.cell? ⟨wr.heap.size, 6, none⟩ = some (.int .i64 nd) := Qu.kept hb8 q6 HLB.out
                    have HV8 := Lib.hid (HVX.out.below hb8)
                    have HB9 := Lib.hid (Nat.le_trans HBX.out hb8.size)
                    have hre : recN t H nd x = H := rec_no (by rw [HAX.out.n]; omega)
                    have HV9 := HV8
                    have HAH9 : Hid (Ah w g g hb t (recN t H nd x) i X8) := Lib.hid (by rw [hre]; exact (HAX.out.below HB8.out).ah)
                    clear hre hb8
                    go_wp2_with (first
                      | (go_at_call 20; refine (heard_any HV9.out HB9.out nd x).mono ?_; rintro e w3 ⟨A3, c3, rfl, ho3, hm⟩
                         have hst3 := St.heard HAH9.out HAX.out.n HAX.out.self HAX.out.hr HAX.out.rec_ (Nat.le_succ i) HV9.out hm
                         obtain ⟨v3, hv3, _, _⟩ := hm
                         have HST3 := Lib.hid hst3
                         have HV3 := Lib.hid hv3
                         have HO3 := Lib.hid (ownsRow_rd ho3)
                         have HN3 := Lib.hid (told_upto (t.hearN nd x))
                         have HSS := Lib.hid (show (((t.hearN nd x).wait ((t.hearN nd x).l.filter fun y => !y.upto (t.hearN nd x).sure)).sure = (t.hearN nd x).sure) from rfl)
                         have hgl : ((t.hearN nd x).l.filter (Wt.upto (t.hearN nd x).sure)).length ≤ 64 := Nat.le_trans (List.length_filter_le _ _) (by rw [(hearN_l t nd x).1]; exact HV9.out.ok.room)
                         clear hst3 hv3 ho3)
                      | fail)
                    obtain ⟨t2, ht2⟩ : ∃ t2, t2 = (t.hearN nd x).wait ((t.hearN nd x).l.filter fun y => !y.upto (t.hearN nd x).sure) := ⟨_, rfl⟩
                    rw [← ht2] at HST3 HV3 HSS
                    rw [← HSS.out] at HO3 HN3 hgl ⊢
                    generalize ((t.hearN nd x).l.filter (Wt.upto t2.sure)) = gl at *
                    obtain ⟨gn, hgn⟩ : ∃ gn, gn = gl.length := ⟨_, rfl⟩
                    rw [← hgn] at HO3 hgl ⊢
                    have HGN := Lib.hid hgn
                    obtain ⟨wo, rfl⟩ : ∃ wo : World, wo = wr := ⟨_, rfl⟩
                    clear ht2 hgn HVX HAX HFT HR0
                    go_loopw [102] (fun jr wr => ∃ j : Nat, j ≤ gn ∧ jr = .int .i64 (j : Int) ∧ Hid (Below w3.heap.size w3 wr)) (fun jr _ => gn - (intOf jr).toNat)
                    case atStart => exact ⟨0, Nat.zero_le _, rfl, Lib.hid (Below.refl _ _)⟩
                    case round =>
                      obtain ⟨j, hj, rfl, HBQ⟩ := hrel
                      by_cases hjN : j < gn
                      · obtain ⟨y, hy⟩ : ∃ y, gl[j]? = some y := ⟨_, List.getElem?_eq_getElem (by have := HGN.out; omega)⟩
                        obtain ⟨bb, oo, hA3, hbb3, hcc3⟩ := HO3.out.2.2.2 (by omega)
                        cases hA3
                        have hce := fun m u (hu : y.cells[m]? = some u) => (HBQ.out.cell (p := ⟨bb, oo + (j * 6 + m), none⟩) hbb3).trans (hcc3 _ _ (wts_get gl j y hy m u hu))
                        have hyr := HN3.out y (List.mem_of_getElem? hy)
                        obtain ⟨ycl, yrq, yix, yfr, yct, yrd⟩ := y
                        unfold Wt.cells at hce
                        dsimp only at hyr hce
                        have l0 := hce 0 _ rfl
                        have l1 := hce 1 _ rfl
                        have l2 := hce 2 _ rfl
                        have l3 := hce 3 _ rfl
                        have l4 := hce 4 _ rfl
                        have l5 := hce 5 _ rfl
                        try dsimp only at l0 l1 l2 l3 l4 l5
                        simp only [← Nat.add_assoc, Nat.add_zero] at l0 l1 l2 l3 l4 l5
                        obtain ⟨Y, hY, hYz, yr0, hYb⟩ := Qu.boxes1 wr #[.int .u64 (ycl : Int), .int .u64 (yrq : Int), .int .u64 (yix : Int), .int .u32 (yfr : Int), .int .u32 (yct : Int), .int .u64 (yrd : Int)] 55
                        have HY5 : Hid (Y.cell? ⟨wr.heap.size, 5, none⟩ = some (.int .u64 (yrd : Int))) := Lib.hid (cell_of_row Y _ 5 _ _ _ yr0)
                        have HYZ := Lib.hid hYz
                        have HYB := Lib.hid (HBQ.out.trans (hYb.mono HBQ.out.size))
                        have HSU := Lib.hid (fun W (hbW : Below Y.heap.size Y W) => sure_any (HV3.out.below (HYB.out.trans (hbW.mono HYB.out.size))))
                        have HYR := Lib.hid hyr
                        have HJN := Lib.hid hjN
                        have hji : (j : Int) < (gn : Int) := by omega
                        have hji2 : (j : Int) ≤ 64 := by omega
                        have hYE := Lib.hid hY
                        clear hce hyr hcc3 hy yr0 hYz hYb hY hjN
                        go_wp2_with (fail)
                        rw [← hYE.out]
                        refine wp_low Y.heap.size [([0, 1, 2], 3)] [4] (by kernel_rfl) (by kernel_rfl) (fun d _ _ _ _ h => by cases d <;> exact h) (Nat.le_refl _) fun wd hbd => ?_
                        intro q hq
                        have F1 := fun z => Qu.kept (hq z) HY5.out (by have := HYZ.out; omega)
                        simp only [pickI, Option.toList_some, List.cons_append, List.nil_append, List.getElem?_toArray, List.getElem?_cons_succ, List.getElem?_cons_zero]
                        try go_frame
                        iterate 3 go_big_quiet_step (fail)
                        refine wpQuiet_nil ?_
                        clear hq q F1
                        refine seg_op (by simp only [List.getElem?_toArray, List.getElem?_cons_succ, List.getElem?_cons_zero]; rfl) fun K hK => ?_
                        go_simp
                        refine (HSU.out wd hbd).mono ?_
                        rintro e w7 ⟨rfl, hb7⟩
                        have HB7 := Lib.hid (hbd.trans (hb7.mono hbd.size))
                        refine hK.out _ _ (seg_keep HB7.out ?_)
                        clear hK K hb7 hbd
                        intro q hq
                        simp only [pickI, Option.toList_some, List.cons_append, List.nil_append, List.getElem?_toArray, List.getElem?_cons_succ, List.getElem?_cons_zero]
                        try go_frame
                        iterate 1 go_big_quiet_step (fail)
                        refine wpQuiet_nil ?_
                        clear hq q
                        have hgi : ¬ (t2.sure : Int) < (yrd : Int) := by have := HYR.out; omega
                        have dg : decide ((t2.sure : Int) < (yrd : Int)) = false := by simpa using hgi
                        go_wp2_with (fail)
                        go_roundw
                        case rel => exact ⟨j + 1, by have := HJN.out; omega, by go_num, Lib.hid (HYB.out.trans (HB7.out.mono HYB.out.size))⟩
                        case measure => have := HJN.out; simp [intOf]; omega
                      · obtain rfl : j = gn := by omega
                        have HST3b := Lib.hid (HST3.out.below HBQ.out)
                        have HV3b := Lib.hid (HV3.out.below HBQ.out)
                        have dj : decide ((j : Int) < (j : Int)) = false := by simp
                        clear HST3 HV3
                        obtain ⟨w3b, rfl⟩ : ∃ w3b : World, w3b = wr := ⟨_, rfl⟩
                        have HRO := Lib.hid (round_any HV3b.out)
                        have hst4 := HST3b.out.mine HV3b.out.ok
                        have c4 := HST3b.out.ah.cell (j := S) (by have := HST3b.out.rec_.1; have := H7.out; have := HS.out; omega)
                        have f4 := frozen_of_row w3b hb S _ _ HST3b.out.ah.row
                        have HST4 := Lib.hid hst4
                        have hok2 := HV3b.out.ok
                        have hsl := sure_le t2 hok2 HST3b.out.hr
                        have hmj := sure_maj t2 hok2
                        rw [HST3b.out.n] at hmj
                        have HMJ : Hid (N < 2 * cntS t2 N) := Lib.hid hmj
                        have hpos : (N : Int) ≤ 7 := by have := H7.out; omega
                        have HAT := Lib.hid (fun j (hj : j < N) => HST3b.out.rec_.at_ hok2 j (by rw [HST3b.out.n]; exact hj))
                        have HHL := Lib.hid HST3b.out.rec_.1
                        have HSELF := Lib.hid HST3b.out.self
                        clear hst4 hok2 hmj
                        go_wp2_with (first
                          | (go_at_call 14; refine HRO.out.mono ?_; rintro e w4 ⟨rfl, rfl⟩)
                          | fail)
                        obtain ⟨w5, hw5⟩ : ∃ w5, w5 = w3b.setCell ⟨hb, S, none⟩ (.int .u64 (t2.round : Int)) := ⟨_, rfl⟩
                        rw [← hw5] at HST4 ⊢
                        obtain ⟨v5, hv5⟩ := HST4.out.ah.at_.desk
                        have HV5 := Lib.hid hv5
                        clear hv5 hw5 HRO c4 f4
                        skip
                        go_loopw [13, 118] (fun cr kr wr => ∃ j : Nat, j ≤ N ∧ cr = .int .i64 (cntS t2 j : Int) ∧ kr = .int .i64 (j : Int) ∧ Hid (Below w5.heap.size w5 wr)) (fun _ kr _ => N - (intOf kr).toNat)
                        case atStart => exact ⟨0, Nat.zero_le _, rfl, rfl, Lib.hid (Below.refl _ _)⟩
                        case round =>
                          obtain ⟨j, hj, rfl, rfl, HBQ⟩ := hrel
                          by_cases hjN : j < N
                          · have hj7 : j < 7 := by have := H7.out; omega
                            have hji : (j : Int) < 7 := by omega
                            have hji6 : (j : Int) ≤ 6 := by omega
                            have hjNi : (j : Int) < (N : Int) := by omega
                            have dj : decide ((j : Int) < (N : Int)) = true := by simpa using hjNi
                            have hcell := (HST4.out.ah.below HBQ.out).cell (j := j) (by rw [HST4.out.rec_.1]; omega)
                            have hat := HAT.out j hjN
                            rw [HSELF.out] at hat
                            rw [hat] at hcell
                            have hlb := World.block_lt_of_cell? wr _ hcell
                            have HCE := Lib.hid hcell
                            have HLB := Lib.hid hlb
                            have hsc := cntS_succ t2 j
                            have HSC := Lib.hid hsc
                            have hcl := cntS_le t2 j
                            have hcli : (cntS t2 j : Int) ≤ 7 := by omega
                            have HSU := Lib.hid (fun W (hbW : Below wr.heap.size wr W) => sure_any ((HV5.out.below HBQ.out).below hbW))
                            have HJN := Lib.hid hjN
                            clear hcell hat hlb hsc hcl hjN
                            generalize t2.at_ j = Y at *
                            generalize cntS t2 j = C at *
                            go_wp2_with (fail)
                            refine wp_low wr.heap.size [([0, 1, 2, 3, 4], 5)] [6] (by kernel_rfl) (by kernel_rfl) (fun d _ _ _ _ h => by cases d <;> exact h) (Nat.le_refl _) fun wd hbd => ?_
                            intro q hq
                            have F1 := fun z => Qu.kept (hq z) HCE.out HLB.out
                            simp only [pickI, Option.toList_some, List.cons_append, List.nil_append, List.getElem?_toArray, List.getElem?_cons_succ, List.getElem?_cons_zero]
                            try go_frame
                            iterate 5 go_big_quiet_step (fail)
                            refine wpQuiet_nil ?_
                            clear hq q F1
                            refine seg_op (by simp only [List.getElem?_toArray, List.getElem?_cons_succ, List.getElem?_cons_zero]; rfl) fun K hK => ?_
                            go_simp
                            refine (HSU.out wd hbd).mono ?_
                            rintro e w7 ⟨rfl, hb7⟩
                            have HB7 := Lib.hid (hbd.trans (hb7.mono hbd.size))
                            refine hK.out _ _ (seg_keep HB7.out ?_)
                            clear hK K hb7 hbd
                            intro q hq
                            simp only [pickI, Option.toList_some, List.cons_append, List.nil_append, List.getElem?_toArray, List.getElem?_cons_succ, List.getElem?_cons_zero]
                            try go_frame
                            iterate 1 go_big_quiet_step (fail)
                            refine wpQuiet_nil ?_
                            clear hq q
                            by_cases hge : t2.sure ≤ Y
                            · have hgi : (t2.sure : Int) ≤ (Y : Int) := by omega
                              have dg : decide ((t2.sure : Int) ≤ (Y : Int)) = true := by simpa using hgi
                              rw [if_pos hge] at HSC
                              clear hge
                              go_wp2_with (fail)
                              go_roundw
                              case rel => exact ⟨j + 1, by have := HJN.out; omega, by rw [HSC.out]; go_num, by go_num, Lib.hid (HBQ.out.trans (HB7.out.mono HBQ.out.size))⟩
                              case measure => have := HJN.out; simp [intOf]; omega
                            · have hgi : ¬ (t2.sure : Int) ≤ (Y : Int) := by omega
                              have dg : decide ((t2.sure : Int) ≤ (Y : Int)) = false := by simpa using hgi
                              rw [if_neg hge] at HSC
                              clear hge
                              go_wp2_with (fail)
                              go_roundw
                              case rel => exact ⟨j + 1, by have := HJN.out; omega, by rw [HSC.out]; go_num, by go_num, Lib.hid (HBQ.out.trans (HB7.out.mono HBQ.out.size))⟩
                              case measure => have := HJN.out; simp [intOf]; omega
                          · obtain rfl : j = N := by omega
                            have hmj := HMJ.out
                            have hcl := cntS_le t2 j
                            have z1 : ¬ 2 * (cntS t2 j : Int) ≤ (j : Int) := by omega
                            have z2 : decide (2 * (cntS t2 j : Int) ≤ (j : Int)) = false := by simpa using z1
                            have z3 : ¬ (t2.round : Int) < (t2.sure : Int) := by omega
                            have z4 : decide ((t2.round : Int) < (t2.sure : Int)) = false := by simpa using z3
                            have dj : decide ((j : Int) < (j : Int)) = false := by simp
                            have hcli : (cntS t2 j : Int) ≤ 7 := by omega
                            generalize cntS t2 j = C at *
                            have HSU := Lib.hid (sure_any (HV5.out.below HBQ.out))
                            clear hjN hmj hcl HMJ
                            go_wp2_with (first
                              | (go_at_call 15; refine HSU.out.mono ?_; rintro e w7 ⟨rfl, hb7⟩
                                 have HB7 := Lib.hid (HBQ.out.trans (hb7.mono HBQ.out.size))
                                 have HRO := Lib.hid (round_any (HV5.out.below HB7.out))
                                 clear hb7)
                              | (go_at_call 14; refine HRO.out.mono ?_; rintro e w8 ⟨rfl, rfl⟩)
                              | fail)
                            have hlt2 := HLT.out
                            refine ⟨⟨i + 1, t2, (recN t H nd x).set S t2.round, by omega, by go_num, Lib.hid (HST4.out.below HB7.out)⟩, by simp [intOf]; omega⟩
              · have u1 : decide (kd = 1) = false := by simpa using y1
                have u2 : decide (kd = 2) = false := by simpa using y2
                have u3 : decide (kd = 3) = false := by simpa using y3
                have HST3 := Lib.hid (St.step HAX.out (Nat.le_succ i))
                have HV3 := HVX
                have w3eq : True := trivial
                have HRO := Lib.hid (round_any HV3.out)
                have hst4 := HST3.out.mine HV3.out.ok
                have c4 := HST3.out.ah.cell (j := S) (by have := HST3.out.rec_.1; have := H7.out; have := HS.out; omega)
                have f4 := frozen_of_row _ hb S _ _ HST3.out.ah.row
                have HST4 := Lib.hid hst4
                have hok2 := HV3.out.ok
                have hsl := sure_le t hok2 HST3.out.hr
                have hmj := sure_maj t hok2
                rw [HST3.out.n] at hmj
                have HMJ : Hid (N < 2 * cntS t N) := Lib.hid hmj
                have hpos : (N : Int) ≤ 7 := by have := H7.out; omega
                have HAT := Lib.hid (fun j (hj : j < N) => HST3.out.rec_.at_ hok2 j (by rw [HST3.out.n]; exact hj))
                have HHL := Lib.hid HST3.out.rec_.1
                have HSELF := Lib.hid HST3.out.self
                clear hst4 hok2 hmj
                go_wp2_with (first
                  | (go_at_call 14; refine HRO.out.mono ?_; rintro e w4 ⟨rfl, rfl⟩)
                  | fail)
                obtain ⟨w5, hw5⟩ : ∃ w5, w5 = (wr.alloc (.cells #[.int .i64 kd, .int .u64 (cl : Int), .int .u64 (rq : Int), .int .u64 (x : Int), .int .u32 (fr : Int), .int .u32 (ct : Int), .int .i64 nd, .int .u64 (mL : Int), .int .u64 (mB : Int)] 36)).setCell ⟨hb, S, none⟩ (.int .u64 (t.round : Int)) := ⟨_, rfl⟩
                rw [← hw5] at HST4 ⊢
                obtain ⟨v5, hv5⟩ := HST4.out.ah.at_.desk
                have HV5 := Lib.hid hv5
                clear hv5 hw5 HRO c4 f4
                obtain ⟨wo, rfl⟩ : ∃ wo : World, wo = wr := ⟨_, rfl⟩
                go_loopw [13, 118] (fun cr kr wr => ∃ j : Nat, j ≤ N ∧ cr = .int .i64 (cntS t j : Int) ∧ kr = .int .i64 (j : Int) ∧ Hid (Below w5.heap.size w5 wr)) (fun _ kr _ => N - (intOf kr).toNat)
                case atStart => exact ⟨0, Nat.zero_le _, rfl, rfl, Lib.hid (Below.refl _ _)⟩
                case round =>
                  obtain ⟨j, hj, rfl, rfl, HBQ⟩ := hrel
                  by_cases hjN : j < N
                  · have hj7 : j < 7 := by have := H7.out; omega
                    have hji : (j : Int) < 7 := by omega
                    have hji6 : (j : Int) ≤ 6 := by omega
                    have hjNi : (j : Int) < (N : Int) := by omega
                    have dj : decide ((j : Int) < (N : Int)) = true := by simpa using hjNi
                    have hcell := (HST4.out.ah.below HBQ.out).cell (j := j) (by rw [HST4.out.rec_.1]; omega)
                    have hat := HAT.out j hjN
                    rw [HSELF.out] at hat
                    rw [hat] at hcell
                    have hlb := World.block_lt_of_cell? wr _ hcell
                    have HCE := Lib.hid hcell
                    have HLB := Lib.hid hlb
                    have hsc := cntS_succ t j
                    have HSC := Lib.hid hsc
                    have hcl := cntS_le t j
                    have hcli : (cntS t j : Int) ≤ 7 := by omega
                    have HSU := Lib.hid (fun W (hbW : Below wr.heap.size wr W) => sure_any ((HV5.out.below HBQ.out).below hbW))
                    have HJN := Lib.hid hjN
                    clear hcell hat hlb hsc hcl hjN
                    generalize t.at_ j = Y at *
                    generalize cntS t j = C at *
                    go_wp2_with (fail)
                    refine wp_low wr.heap.size [([0, 1, 2, 3, 4], 5)] [6] (by kernel_rfl) (by kernel_rfl) (fun d _ _ _ _ h => by cases d <;> exact h) (Nat.le_refl _) fun wd hbd => ?_
                    intro q hq
                    have F1 := fun z => Qu.kept (hq z) HCE.out HLB.out
                    simp only [pickI, Option.toList_some, List.cons_append, List.nil_append, List.getElem?_toArray, List.getElem?_cons_succ, List.getElem?_cons_zero]
                    try go_frame
                    iterate 5 go_big_quiet_step (fail)
                    refine wpQuiet_nil ?_
                    clear hq q F1
                    refine seg_op (by simp only [List.getElem?_toArray, List.getElem?_cons_succ, List.getElem?_cons_zero]; rfl) fun K hK => ?_
                    go_simp
                    refine (HSU.out wd hbd).mono ?_
                    rintro e w7 ⟨rfl, hb7⟩
                    have HB7 := Lib.hid (hbd.trans (hb7.mono hbd.size))
                    refine hK.out _ _ (seg_keep HB7.out ?_)
                    clear hK K hb7 hbd
                    intro q hq
                    simp only [pickI, Option.toList_some, List.cons_append, List.nil_append, List.getElem?_toArray, List.getElem?_cons_succ, List.getElem?_cons_zero]
                    try go_frame
                    iterate 1 go_big_quiet_step (fail)
                    refine wpQuiet_nil ?_
                    clear hq q
                    by_cases hge : t.sure ≤ Y
                    · have hgi : (t.sure : Int) ≤ (Y : Int) := by omega
                      have dg : decide ((t.sure : Int) ≤ (Y : Int)) = true := by simpa using hgi
                      rw [if_pos hge] at HSC
                      clear hge
                      go_wp2_with (fail)
                      go_roundw
                      case rel => exact ⟨j + 1, by have := HJN.out; omega, by rw [HSC.out]; go_num, by go_num, Lib.hid (HBQ.out.trans (HB7.out.mono HBQ.out.size))⟩
                      case measure => have := HJN.out; simp [intOf]; omega
                    · have hgi : ¬ (t.sure : Int) ≤ (Y : Int) := by omega
                      have dg : decide ((t.sure : Int) ≤ (Y : Int)) = false := by simpa using hgi
                      rw [if_neg hge] at HSC
                      clear hge
                      go_wp2_with (fail)
                      go_roundw
                      case rel => exact ⟨j + 1, by have := HJN.out; omega, by rw [HSC.out]; go_num, by go_num, Lib.hid (HBQ.out.trans (HB7.out.mono HBQ.out.size))⟩
                      case measure => have := HJN.out; simp [intOf]; omega
                  · obtain rfl : j = N := by omega
                    have hmj := HMJ.out
                    have hcl := cntS_le t j
                    have z1 : ¬ 2 * (cntS t j : Int) ≤ (j : Int) := by omega
                    have z2 : decide (2 * (cntS t j : Int) ≤ (j : Int)) = false := by simpa using z1
                    have z3 : ¬ (t.round : Int) < (t.sure : Int) := by omega
                    have z4 : decide ((t.round : Int) < (t.sure : Int)) = false := by simpa using z3
                    have dj : decide ((j : Int) < (j : Int)) = false := by simp
                    have hcli : (cntS t j : Int) ≤ 7 := by omega
                    generalize cntS t j = C at *
                    have HSU := Lib.hid (sure_any (HV5.out.below HBQ.out))
                    clear hjN hmj hcl HMJ
                    go_wp2_with (first
                      | (go_at_call 15; refine HSU.out.mono ?_; rintro e w7 ⟨rfl, hb7⟩
                         have HB7 := Lib.hid (HBQ.out.trans (hb7.mono HBQ.out.size))
                         have HRO := Lib.hid (round_any (HV5.out.below HB7.out))
                         clear hb7)
                      | (go_at_call 14; refine HRO.out.mono ?_; rintro e w8 ⟨rfl, rfl⟩)
                      | fail)
                    have hlt2 := HLT.out
                    refine ⟨⟨i + 1, t, H.set S t.round, by omega, by go_num, Lib.hid (HST4.out.below HB7.out)⟩, by simp [intOf]; omega⟩
        · obtain rfl : i = n := by omega
          have d3 : decide ((i : Int) < (i : Int)) = false := by simp
          clear hlt
          go_wp2_with (first
            | (go_at_call 7; refine (HL.out _).mono ?_; rintro e w3 ⟨rfl, hb3⟩)
            | fail)
          go_ret
          exact ⟨rfl, HA.out.ah.at_.bel.trans (hb3.mono HA.out.ah.at_.bel.size)⟩
namespace deskSure
open Go.ChangeShapes Go.WideShapes Go.ChangeAt
set_option maxRecDepth 100000 in
theorem lifted (os : Os) (started : os.Started) (H : Type) (enc : TypeId × Value → H) :
    ReturnsInHanded {} Try.checked os 5 .any (Rows.deskSureSpec.pre6 enc Try.prog Try.f5 Rows.deskSureRow.domain false) (Rows.deskSureSpec.post enc Try.prog Try.f5 false true false false) := by
  refine returnsInHanded_of_change (C := Try.checked) own started (by kernel_rfl) Try.func5
    (ChangeSpec.witness6 (enc := enc) (C := Try.checked) false ⟨#[], #[.int .i64 0, .int .i64 0, .slice none 0 0], []⟩ 8 (by kernel_rfl) (by kernel_rfl) (by kernel_rfl) (by kernel_rfl)) ?_
  intro W base args ds gs before hval0 hW _ _
  have hval : ∀ (j : Nat) t v, Try.f5.params[j]? = some t → args[j]? = some v → Value.okWide Try.prog W .any base t v := hval0
  have hW' := hW
  obtain ⟨p, q, hA0, hV, rfl, hfz, hnd⟩ := hW
  have hA : DataW.TrodAll enc Try.prog W 0 (fun _ => true) true Try.f5.params.toList args.toList ds p := hA0
  rw [Try.params5] at hA hval
  obtain ⟨v0, vs0, d0, ds0, p0, q0, hargs, rfl, rfl, h0, r0⟩ := trodAll_cons hA
  obtain ⟨v1, vs1, d1, ds1, p1, q1, rfl, rfl, rfl, h1, r1⟩ := trodAll_cons r0
  obtain ⟨v2, vs2, d2, ds2, p2, q2, rfl, rfl, rfl, h2, r2⟩ := trodAll_cons r1
  obtain ⟨rfl, rfl, rfl⟩ := trodAll_nil r2
  obtain rfl : args = #[v0, v1, v2] := by cases args; simp_all
  obtain ⟨rfl, rfl⟩ := trodVars_none hV
  have k0 := h0
  have lt0 : ∀ x ∈ p0, x.block < W.heap.size := by obtain ⟨m, hm⟩ := k0; exact DataW.trod_lt m _ _ _ hm
  obtain ⟨x0, rfl, w0⟩ := dec_int Try.underlying3 (hval 0 3 v0 rfl rfl) h0
  have k1 := h1
  have lt1 : ∀ x ∈ p1, x.block < W.heap.size := by obtain ⟨m, hm⟩ := k1; exact DataW.trod_lt m _ _ _ hm
  obtain ⟨x1, rfl, w1⟩ := dec_int Try.underlying3 (hval 1 3 v1 rfl rfl) h1
  have k2 := h2
  have lt2 : ∀ x ∈ p2, x.block < W.heap.size := by obtain ⟨m, hm⟩ := k2; exact DataW.trod_lt m _ _ _ hm
  obtain ⟨a2, n2, c2, l2, rfl, w2⟩ := O25.dec (hval 2 22 v2 rfl rfl) h2
  clear hA0 hval0
  refine (deskSure_walk x0 w0 x1 w1 w2).mono fun e W' ⟨he, bel⟩ => ?_
  subst he
  exact ⟨_, rfl, _, _, _, [], _, [], hW', trodAll_mk1 (shut_bool Try.underlying4 _), (trodAll_cons_mk (Below.trod laidOut (by kernel_rfl) (of_decide_eq_true (by kernel_rfl)) k0 bel lt0) (trodAll_cons_mk (Below.trod laidOut (by kernel_rfl) (of_decide_eq_true (by kernel_rfl)) k1 bel lt1) (trodAll_cons_mk (Below.trod laidOut (by kernel_rfl) (of_decide_eq_true (by kernel_rfl)) k2 bel lt2) trodAll_mk0))), rfl, bel.frame _, fun h => by cases h⟩

theorem over : Rows.deskSureRow.holds Try.pinned (OpenSpec.ofChange Rows.deskSureSpec) :=
  OpenClaim.holds_of_wide 5 Try.f5 rfl rfl rfl rfl rfl rfl rfl ⟨rfl, rfl, rfl, rfl, rfl⟩ rfl rfl rfl rfl rfl (by kernel_rfl) Try.func5 (by kernel_rfl)
    (of_decide_eq_true (by kernel_rfl)) (by unfold Func.isWrapper; first | (rw [if_pos (by decide +kernel)]; kernel_rfl) | (rw [if_neg (by decide +kernel)]; exact ⟨rfl, rfl⟩))
    (fun os started H enc _ => lifted os started H enc)
/-- The given statement. -/
theorem proved : Rows.DeskSureSaid := over
end deskSure

end Go.Proofs.Ytkcpldkdnnhmmaa
