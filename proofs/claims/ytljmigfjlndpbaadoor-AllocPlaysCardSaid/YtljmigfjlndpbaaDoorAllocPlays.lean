/- AllocPlays: whatever is taken and given, each call tells what the document says, and just those are taken which it says; a clone goes its own way. For every number of places, every list of calls, every place asked for. -/
import Derived.Test.YtljmigfjlndpbaaDoorAplay
import Derived.Deep.DeepCutAuto
import Derived.Deep.CutBlock
import Derived.Test.YtljmigfjlndpbaaDoorMtie
import Derived.Test.YtljmigfjlndpbaaDoorCards
import Derived.Test.YtljmigfjlndpbaaDoorTie
namespace Go.Proofs.YtljmigfjlndpbaaDoor
open Go.RowKit

/-- Behind a call. -/
def Cut (w : World) (k r b n p : Nat) (x y : Int) (av : Value) (wx : World) : Prop := ∃ g R a, av = .pointer (some ⟨g, 0, none⟩) ∧ Two w wx g R k r b a a p x y ∧ a.n = n
theorem take_n' (a : Av) : a.take.2.n = a.n := Av.take_n a
set_option maxHeartbeats 4000000 in
set_option maxRecDepth 8000 in
theorem plays_late (n : Nat) (A : Option Addr) (n2 c2 : Nat) (ps : List (Int × Int)) (at_ : Int) (w : World) (h2 : Rd w w.heap.size 2 A n2 c2 (pairs ps)) (hps : ps.length = n2) (hwf : Hid (∀ p ∈ ps, (Lit.int .i64 p.2).wf = true)) (hat : (Lit.int .i64 at_).wf = true) (hn1 : 1 ≤ n) (hn : n ≤ 1000) (hn2 : n2 ≤ 60) (hT : Tab w) :
    Calls Tryd.prog 3 #[.int .i64 (n : Int), .slice A n2 c2, .int .i64 at_] w fun e w' => e = .returned (.bool true) ∧ Below w.heap.size w w' := by
  have d1 : decide (60 < n2) = false := by simp; omega
  have d2 : decide (1000 < (n : Int)) = false := by simp; omega
  have d3 : decide (1000 < n) = false := by simp; omega
  have d4 : ¬ 60 < n2 := by omega
  have d5 : ¬ 1000 < n := by omega
  have HPS := Lib.hid hps
  have HN := Lib.hid (anew_any n w hn1 (by omega) hT.1)
  have HT := Lib.hid hT
  have HR0 := Lib.hid (show 1 ≤ n ∧ n ≤ 65536 by omega)
  have HAT := Lib.hid hat
  have H2 := Lib.hid h2
  have HN2 := Lib.hid hn2
  clear hps hT hn1 hat h2 hn hn2
  go_enter Tryd.func3, Tryd.ntmps3
  go_wp2_with (first
    | (go_at_call 7; go_loud (refine HN.out.mono ?_); clear HN; rintro e w1 ⟨g0, R0, k, a0, rfl, hA0, hF0, hb0, hg0, hRR0⟩)
    | fail)
  have HW := Lib.hid (rnew_any n w1 HR0.out.1 HR0.out.2 (by have := HT.out.1; have := hb0.size; omega) hF0 ⟨k, hA0.ok⟩)
  have HA0 := Lib.hid hA0
  have HF0 := Lib.hid hF0
  have HB0 := Lib.hid hb0
  have HG0 := Lib.hid (And.intro hg0 hRR0)
  clear hA0 hF0 hb0 hg0 hRR0
  go_wp2_with (first
    | (go_at_call 8; go_loud (refine HW.out.mono ?_); clear HW; rintro e w2 ⟨r, b, rfl, hQ, hbQ, hr, hbb⟩)
    | fail)
  have HO : Hid (One w w2 g0 R0 k r b a0 a0) := by
    have l0 := HA0.out.lt
    have s0 := HB0.out.size
    have q0 := HG0.out
    exact Lib.hid ⟨HA0.out.below hbQ, hQ, by omega, by omega, HB0.out.trans (hbQ.mono s0)⟩
  clear hQ hbQ hr hbb HA0 HB0 HG0
  go_loopw [7, 56] (fun av ir wr => ∃ i g R a, i ≤ n2 ∧ ir = .int .i64 ((i : Nat) : Int) ∧ av = .pointer (some ⟨g, 0, none⟩) ∧ Hid (One w wr g R k r b a a) ∧ Hid (a.n = n)) (fun _ ir _ => n2 - (intOf ir).toNat)
  case atStart => exact ⟨0, g0, R0, a0, Nat.zero_le _, rfl, rfl, HO, Lib.hid HF0.out.1⟩
  case round =>
    clear HO HF0
    obtain ⟨i, g, R, a, hi, rfl, rfl, HO, HAN⟩ := hrel
    by_cases hlt : i < n2
    · obtain ⟨⟨kd, nn⟩, hp⟩ : ∃ p, ps[i]? = some p := ⟨_, List.getElem?_eq_getElem (by rw [HPS.out]; exact hlt)⟩
      have hnn := Lib.hid (hwf.out _ (List.mem_of_getElem? hp))
      have hpg := pairs_get ps i (kd, nn) hp
      obtain ⟨bb, o, rfl, hbl, hcell⟩ := (H2.out.below HO.out.bel).2.2.2 (by omega)
      have c0 : wr.cell? ⟨bb, o + i * 2, none⟩ = some (.int .i64 kd) := hcell _ _ hpg.1
      have c1 : wr.cell? ⟨bb, o + i * 2 + 1, none⟩ = some (.int .i64 nn) := by rw [Nat.add_assoc]; exact hcell _ _ hpg.2
      clear hp hpg hcell
      obtain ⟨p, hp⟩ : ∃ p, p = wr.heap.size := ⟨_, rfl⟩
      have hb64 := hnn.out
      simp [Lit.wf, IntKind.min, IntKind.max, IntKind.signed, IntKind.bits] at hb64
      have HB64 := Lib.hid hb64
      clear hb64
      go_upto_block 2 with (fail)
      rw [← hp]
      have HPP := Lib.hid hp
      clear hp
      go_cut [7, 12] (fun av gv wx => gv = .bool true ∧ Cut w k r b n p kd nn av wx)
      case first =>
        have HT2 : Hid (Two w (wr.alloc (.cells #[.int .i64 kd, .int .i64 nn] 30)) g R k r b a a p kd nn) := by rw [HPP.out]; exact Lib.hid (HO.out.box kd nn rfl)
        generalize wr.alloc (.cells #[.int .i64 kd, .int .i64 nn] 30) = W at *
        by_cases k0 : kd = 0
        · have e0 : (kd == 0) = true := by simpa using k0
          clear k0
          have HTk := Lib.hid (atake_any HT2.out.one.A (HT2.out.one.tab HT.out))
          go_wp2_with (first
            | (go_at_call 9; go_loud (refine HTk.out.mono ?_); clear HTk; rintro e w3 ⟨rfl, hA3, hg3⟩)
            | fail)
          have HT3 := Lib.hid (HT2.out.prog hA3 hg3)
          have HRk := Lib.hid (rtake_any HT3.out.one.Q)
          have HNN := Lib.hid ((Av.take_n a).trans HAN.out)
          clear hA3 hg3
          unfold RTook at HRk
          have q0 : (a.take.1.1 == a.take.1.1) = true := beq_self_eq_true _
          have q1 : (a.take.1.2 == a.take.1.2) = true := beq_self_eq_true _
          go_wp2_with (first
            | (go_at_call 10; go_loud (refine HRk.out.mono ?_); clear HRk; rintro e w4 ⟨rfl, hQ4, hg4⟩)
            | fail)
          go_meet
          case rel => exact ⟨rfl, g, R, _, rfl, HT3.out.ref hQ4 hg4, HNN.out⟩
        · have e0 : (kd == 0) = false := by simpa using k0
          by_cases k1 : kd = 1
          · have e1 : (kd == 1) = true := by simpa using k1
            clear k0 k1
            have HSm := Lib.hid (asome_any HT2.out.one.A (HT2.out.one.tab HT.out) nn HB64.out.1 HB64.out.2)
            have cN := HT2.out.box.c1
            go_wp2_with (first
              | (go_at_call 11; go_loud (refine HSm.out.mono ?_); clear HSm cN; rintro e w3 ⟨v3, rfl, hown3, hA3, hg3⟩; have cM := (HT2.out.prog hA3 hg3).box.c1)
              | fail)
            obtain ⟨A3, c3, rfl⟩ := ownsRow_form hown3
            have HO3 := Lib.hid hown3
            have HT3 := Lib.hid (HT2.out.prog hA3 hg3)
            have HRS := Lib.hid (rsome_any HT3.out.one.Q nn HB64.out.1 HB64.out.2)
            have HNN := Lib.hid ((Av.some_n (a.someN nn) a).trans HAN.out)
            have HSN := Lib.hid (show a.someN nn ≤ 110000 from by
              have h1 := popAll_le a.ws
              have h2 := HT2.out.one.A.ok.len
              have h3 := HT2.out.one.A.ok.small
              unfold Av.someN Av.free
              split
              · omega
              · split
                · omega
                · omega)
            clear hA3 hg3 hown3
            go_wp2_with (first
              | (go_at_call 12; go_loud (refine HRS.out.mono ?_); clear HRS; rintro e w4 ⟨v4, rfl, hown4, hQ4, hg4⟩)
              | fail)
            obtain ⟨A4, c4, rfl⟩ := ownsRow_form hown4
            have hlb := HT2.out.one.Q.lt.2
            have hk3 := HO3.out.kept hg4 (.inr (fun e => by have := ownsRow_block HO3.out b e; omega))
            have HI := Lib.hid (ints_any (ownsRow_rd hk3) (ownsRow_rd hown4) HSN.out)
            have HT4 := Lib.hid (HT3.out.ref hQ4 hg4)
            clear hlb hk3 hown4 hQ4 hg4 HO3
            have q1 : (a.someE nn == a.someE nn) = true := beq_self_eq_true _
            go_wp2_with (first
              | (go_at_call 13; go_loud (refine HI.out.mono ?_); clear HI; rintro e w5 ⟨rfl, hb5⟩)
              | fail)
            go_meet
            case rel => exact ⟨rfl, g, R, _, rfl, HT4.out.below hb5, HNN.out⟩
          · have e1 : (kd == 1) = false := by simpa using k1
            by_cases k2 : kd = 2
            · have e2 : (kd == 2) = true := by simpa using k2
              clear k0 k1 k2
              go_wp2_with (fail)
              refine wp_segs [([0, 1, 2, 4, 5, 6], 3), ([], 7)] [8, 9] (fun x => x.cell? ⟨p, 1, none⟩ = some (.int .i64 nn)) (by kernel_rfl) (by kernel_rfl) (fun d _ _ _ _ h => by cases d <;> exact h) HT2.out.drew.box.c1 ?_
              intro f hf
              have F1 : ∀ z, (f z).cell? ⟨p, 1, none⟩ = some (.int .i64 nn) := hf
              simp only [pickI, Option.toList_some, List.cons_append, List.nil_append, List.getElem?_toArray, List.getElem?_cons_succ, List.getElem?_cons_zero]
              repeat (go_big_quiet_step (fail))
              refine wpQuiet_nil ?_
              clear F1 hf f
              refine seg_op (by simp only [List.getElem?_toArray, List.getElem?_cons_succ, List.getElem?_cons_zero]; rfl) fun K hK => ?_
              go_simp
              refine (ahold_any HT2.out.drew.one.A nn HB64.out.1 HB64.out.2).mono ?_
              rintro e w3 ⟨rfl, hA3, hg3⟩
              have HT3 := Lib.hid (HT2.out.drew.prog hA3 hg3)
              refine hK.out _ _ ⟨_, HT3.out.box.c1, fun _ h => h, ?_⟩
              clear hK K hA3 hg3
              intro f hf
              refine wpQuiet_nil ?_
              clear hf f
              refine seg_op (by simp only [List.getElem?_toArray, List.getElem?_cons_succ, List.getElem?_cons_zero]; rfl) fun K hK => ?_
              go_simp
              refine (rhold_any HT3.out.one.Q nn HB64.out.1 HB64.out.2).mono ?_
              rintro e w4 ⟨rfl, hQ4, hg4⟩
              have HT4 := Lib.hid (HT3.out.ref hQ4 hg4)
              have HNN := Lib.hid ((hold_n a nn).trans HAN.out)
              clear hQ4 hg4
              generalize (a.hold nn).1 = m at *
              have qm : (m == m) = true := beq_self_eq_true _
              refine hK.out _ _ ⟨_, HT4.out.box.c1, fun _ h => h, ?_⟩
              clear hK K
              intro f hf
              simp only [pickI, Option.toList_some, List.cons_append, List.nil_append, List.getElem?_toArray, List.getElem?_cons_succ, List.getElem?_cons_zero]
              repeat (go_big_quiet_step (fail))
              refine wpQuiet_nil ?_
              clear hf f
              go_wp2_with (fail)
              go_meet
              case rel => exact ⟨rfl, g, R, _, rfl, HT4.out, HNN.out⟩
            · have e2 : (kd == 2) = false := by simpa using k2
              by_cases k3 : kd = 3
              · have e3 : (kd == 3) = true := by simpa using k3
                clear k0 k1 k2 k3
                go_wp2_with (fail)
                refine wp_segs [([0, 1, 2, 4, 5, 6], 3), ([], 7)] [8, 9] (fun x => x.cell? ⟨p, 1, none⟩ = some (.int .i64 nn)) (by kernel_rfl) (by kernel_rfl) (fun d _ _ _ _ h => by cases d <;> exact h) HT2.out.drew.box.c1 ?_
                intro f hf
                have F1 : ∀ z, (f z).cell? ⟨p, 1, none⟩ = some (.int .i64 nn) := hf
                simp only [pickI, Option.toList_some, List.cons_append, List.nil_append, List.getElem?_toArray, List.getElem?_cons_succ, List.getElem?_cons_zero]
                repeat (go_big_quiet_step (fail))
                refine wpQuiet_nil ?_
                clear F1 hf f
                refine seg_op (by simp only [List.getElem?_toArray, List.getElem?_cons_succ, List.getElem?_cons_zero]; rfl) fun K hK => ?_
                go_simp
                refine (agive_any HT2.out.drew.one.A nn HB64.out.1 HB64.out.2).mono ?_
                rintro e w3 ⟨rfl, hA3, hg3⟩
                have HT3 := Lib.hid (HT2.out.drew.prog hA3 hg3)
                refine hK.out _ _ ⟨_, HT3.out.box.c1, fun _ h => h, ?_⟩
                clear hK K hA3 hg3
                intro f hf
                refine wpQuiet_nil ?_
                clear hf f
                refine seg_op (by simp only [List.getElem?_toArray, List.getElem?_cons_succ, List.getElem?_cons_zero]; rfl) fun K hK => ?_
                go_simp
                refine (rgive_any HT3.out.one.Q nn HB64.out.1 HB64.out.2).mono ?_
                rintro e w4 ⟨rfl, hQ4, hg4⟩
                have HT4 := Lib.hid (HT3.out.ref hQ4 hg4)
                have HNN := Lib.hid ((give_n a nn).trans HAN.out)
                clear hQ4 hg4
                generalize (a.give nn).1 = m at *
                have qm : (m == m) = true := beq_self_eq_true _
                refine hK.out _ _ ⟨_, HT4.out.box.c1, fun _ h => h, ?_⟩
                clear hK K
                intro f hf
                simp only [pickI, Option.toList_some, List.cons_append, List.nil_append, List.getElem?_toArray, List.getElem?_cons_succ, List.getElem?_cons_zero]
                repeat (go_big_quiet_step (fail))
                refine wpQuiet_nil ?_
                clear hf f
                go_wp2_with (fail)
                go_meet
                case rel => exact ⟨rfl, g, R, _, rfl, HT4.out, HNN.out⟩
              · have e3 : (kd == 3) = false := by simpa using k3
                clear k0 k1 k2 k3
                have hk0 : 0 < k := by
                  have h1 := HT2.out.one.A.ok.room
                  have h2 := HAN.out
                  have h3 := HR0.out.1
                  omega
                have HCl := Lib.hid (aclone_any HT2.out.one.A hk0)
                clear hk0
                go_wp2_with (first
                  | (go_at_call 18; go_loud (refine HCl.out.mono ?_); clear HCl; rintro e w3 ⟨g', R', a', rfl, hA3, hn3, hw3, hb3, hg3, hR3⟩)
                  | fail)
                have HA3 := Lib.hid hA3
                have HB3 := Lib.hid hb3
                have HS3 := Lib.hid (And.intro hn3 hw3)
                have HL3 := Lib.hid (And.intro hg3 hR3)
                have HFr := Lib.hid (afree_any (HT2.out.one.A.below HB3.out))
                clear hA3 hn3 hw3 hb3 hg3 hR3
                go_wp2_with (first
                  | (go_at_call 19; go_loud (refine HFr.out.mono ?_); clear HFr; rintro e w4 ⟨rfl, hb4⟩)
                  | fail)
                have hb4' : Below W.heap.size W w4 := HB3.out.trans (hb4.mono HB3.out.size)
                have HSm := Lib.hid (asome_any (HT2.out.one.A.below hb4') ((HT2.out.one.below hb4').tab HT.out) (a.free : Int) (by omega) (by
                  have h1 := popAll_le a.ws
                  have h2 := HT2.out.one.A.ok.len
                  have h3 := HT2.out.one.A.ok.small
                  unfold Av.free
                  omega))
                have HA4 := Lib.hid (HA3.out.below hb4)
                have HB4 := Lib.hid hb4'
                clear hb4 hb4' HA3 HB3
                go_wp2_with (first
                  | (go_at_call 11; go_loud (refine HSm.out.mono ?_); clear HSm; rintro e w5 ⟨v5, rfl, _, hA5, hg5⟩)
                  | fail)
                have HGv := Lib.hid (agive_any hA5 0 (by decide) (by decide))
                have HG5 := Lib.hid hg5
                clear hA5 hg5
                go_wp2_with (first
                  | (go_at_call 16; go_loud (refine HGv.out.mono ?_); clear HGv; rintro e w6 ⟨rfl, hA6, hg6⟩)
                  | fail)
                go_meet
                case rel => exact ⟨rfl, g', R', a', rfl, HT2.out.swap HA4.out HS3.out.1 HS3.out.2 HB4.out HL3.out.2 HL3.out.1 (grownBy_trans HG5.out hg6 (.inl rfl)), HS3.out.1.trans HAN.out⟩
      case rest =>
        obtain ⟨rfl, g', R', a', rfl, hTw, hn'⟩ := hcut
        have HTW := Lib.hid hTw
        have HNN := Lib.hid hn'
        clear hTw hn' c0 c1
        generalize wc = Y at *
        obtain ⟨F, hF⟩ : ∃ F, F = a'.free := ⟨_, rfl⟩
        obtain ⟨b1, hb1⟩ : ∃ b1, b1 = a'.has nn := ⟨_, rfl⟩
        obtain ⟨b2, hb2⟩ : ∃ b2, b2 = a'.has at_ := ⟨_, rfl⟩
        have HFE := Lib.hid hF
        have HB1 := Lib.hid hb1
        have HB2 := Lib.hid hb2
        clear hF hb1 hb2
        have hat := HAT.out
        simp [Lit.wf, IntKind.min, IntKind.max, IntKind.signed, IntKind.bits] at hat
        have HA64 := Lib.hid hat
        clear hat
        have qF : ((F : Int) != (F : Int)) = false := bne_self_eq_false _
        have qn : ((n : Int) != (n : Int)) = false := bne_self_eq_false _
        have q1 : (b1 != b1) = false := bne_self_eq_false _
        have q2 : (b2 != b2) = false := bne_self_eq_false _
        go_wp2_with (fail)
        refine wp_segs [([0, 1, 2, 3, 5], 4), ([], 6), ([7, 8, 9, 10, 12], 11), ([13, 14, 15, 16, 17, 18, 20, 21, 22], 19), ([], 23), ([24, 25, 26, 27, 28, 30, 31], 29), ([], 32)] [33, 34] (fun x => x.cell? ⟨p, 1, none⟩ = some (.int .i64 nn)) (by kernel_rfl) (by kernel_rfl) (fun d _ _ _ _ h => by cases d <;> exact h) HTW.out.drew.box.c1 ?_
        have HT1 := Lib.hid HTW.out.drew
        generalize Y.drew = x0 at *
        intro f hf
        have F1 : ∀ z, (f z).cell? ⟨p, 1, none⟩ = some (.int .i64 nn) := hf
        simp only [pickI, Option.toList_some, List.cons_append, List.nil_append, List.getElem?_toArray, List.getElem?_cons_succ, List.getElem?_cons_zero]
        repeat (go_big_quiet_step (fail))
        refine wpQuiet_nil ?_
        clear F1 hf f
        refine seg_op (by simp only [List.getElem?_toArray, List.getElem?_cons_succ, List.getElem?_cons_zero]; rfl) fun K hK => ?_
        go_simp
        refine ((show Calls _ _ _ _ _ from HFE.out ▸ afree_any HT1.out.one.A)).mono ?_
        rintro e x2 ⟨rfl, hx2⟩
        have HT2 := Lib.hid (HT1.out.below hx2)
        refine hK.out _ _ ⟨_, HT2.out.box.c1, fun _ h => h, ?_⟩
        clear hK K hx2
        intro f hf
        refine wpQuiet_nil ?_
        clear hf f
        refine seg_op (by simp only [List.getElem?_toArray, List.getElem?_cons_succ, List.getElem?_cons_zero]; rfl) fun K hK => ?_
        go_simp
        refine ((show Calls _ _ _ _ _ from HFE.out ▸ rfree_any HT2.out.one.Q)).mono ?_
        rintro e x3 ⟨rfl, rfl⟩
        refine hK.out _ _ ⟨_, HT2.out.box.c1, fun _ h => h, ?_⟩
        clear hK K
        intro f hf
        have F1 : ∀ z, (f z).cell? ⟨p, 1, none⟩ = some (.int .i64 nn) := hf
        simp only [pickI, Option.toList_some, List.cons_append, List.nil_append, List.getElem?_toArray, List.getElem?_cons_succ, List.getElem?_cons_zero]
        repeat (go_big_quiet_step (fail))
        refine wpQuiet_nil ?_
        clear F1 hf f
        refine seg_op (by simp only [List.getElem?_toArray, List.getElem?_cons_succ, List.getElem?_cons_zero]; rfl) fun K hK => ?_
        go_simp
        refine ((show Calls _ _ _ _ _ from HNN.out ▸ alen_any HT2.out.one.A)).mono ?_
        rintro e x4 ⟨rfl, rfl⟩
        refine hK.out _ _ ⟨_, HT2.out.box.c1, fun _ h => h, ?_⟩
        clear hK K
        intro f hf
        have F1 : ∀ z, (f z).cell? ⟨p, 1, none⟩ = some (.int .i64 nn) := hf
        simp only [pickI, Option.toList_some, List.cons_append, List.nil_append, List.getElem?_toArray, List.getElem?_cons_succ, List.getElem?_cons_zero]
        repeat (go_big_quiet_step (fail))
        refine wpQuiet_nil ?_
        clear F1 hf f
        refine seg_op (by simp only [List.getElem?_toArray, List.getElem?_cons_succ, List.getElem?_cons_zero]; rfl) fun K hK => ?_
        go_simp
        refine ((show Calls _ _ _ _ _ from HB1.out ▸ ahas_any HT2.out.one.A nn HB64.out.1 HB64.out.2)).mono ?_
        rintro e x5 ⟨rfl, hx5⟩
        have HT5 := Lib.hid (HT2.out.below hx5)
        refine hK.out _ _ ⟨_, HT5.out.box.c1, fun _ h => h, ?_⟩
        clear hK K hx5
        intro f hf
        refine wpQuiet_nil ?_
        clear hf f
        refine seg_op (by simp only [List.getElem?_toArray, List.getElem?_cons_succ, List.getElem?_cons_zero]; rfl) fun K hK => ?_
        go_simp
        refine ((show Calls _ _ _ _ _ from HB1.out ▸ rhas_any HT5.out.one.Q nn HB64.out.1 HB64.out.2)).mono ?_
        rintro e x6 ⟨rfl, rfl⟩
        refine hK.out _ _ ⟨_, HT5.out.box.c1, fun _ h => h, ?_⟩
        clear hK K
        intro f hf
        have F1 : ∀ z, (f z).cell? ⟨p, 1, none⟩ = some (.int .i64 nn) := hf
        simp only [pickI, Option.toList_some, List.cons_append, List.nil_append, List.getElem?_toArray, List.getElem?_cons_succ, List.getElem?_cons_zero]
        repeat (go_big_quiet_step (fail))
        refine wpQuiet_nil ?_
        clear F1 hf f
        refine seg_op (by simp only [List.getElem?_toArray, List.getElem?_cons_succ, List.getElem?_cons_zero]; rfl) fun K hK => ?_
        go_simp
        refine ((show Calls _ _ _ _ _ from HB2.out ▸ ahas_any HT5.out.one.A at_ HA64.out.1 HA64.out.2)).mono ?_
        rintro e x7 ⟨rfl, hx7⟩
        have HT7 := Lib.hid (HT5.out.below hx7)
        refine hK.out _ _ ⟨_, HT7.out.box.c1, fun _ h => h, ?_⟩
        clear hK K hx7
        intro f hf
        refine wpQuiet_nil ?_
        clear hf f
        refine seg_op (by simp only [List.getElem?_toArray, List.getElem?_cons_succ, List.getElem?_cons_zero]; rfl) fun K hK => ?_
        go_simp
        refine ((show Calls _ _ _ _ _ from HB2.out ▸ rhas_any HT7.out.one.Q at_ HA64.out.1 HA64.out.2)).mono ?_
        rintro e x8 ⟨rfl, rfl⟩
        refine hK.out _ _ ⟨_, HT7.out.box.c1, fun _ h => h, ?_⟩
        clear hK K
        intro f hf
        have F1 : ∀ z, (f z).cell? ⟨p, 1, none⟩ = some (.int .i64 nn) := hf
        simp only [pickI, Option.toList_some, List.cons_append, List.nil_append, List.getElem?_toArray, List.getElem?_cons_succ, List.getElem?_cons_zero]
        repeat (go_big_quiet_step (fail))
        refine wpQuiet_nil ?_
        clear F1 hf f
        go_wp2_with (fail)
        go_roundw
        case rel => exact ⟨i + 1, g', R', a', by omega, by go_num, rfl, Lib.hid HT7.out.one, HNN⟩
        case measure => simp [intOf]; omega
    · obtain rfl : i = n2 := by omega
      have HLV := Lib.hid (lives13 wr (HO.out.tab HT.out))
      go_wp2_with (first
        | (go_at_call 6; refine HLV.out.mono ?_; rintro e w3 ⟨rfl, hb3⟩)
        | fail)
      go_ret
      exact ⟨rfl, HO.out.bel.trans (hb3.mono HO.out.bel.size)⟩
set_option maxRecDepth 8000 in
theorem plays_early (n : Int) (A : Option Addr) (n2 c2 : Nat) (at_ : Int) (w : World) (h : 60 < n2 ∨ (1000 < n ∧ n ≤ 65536)) (hT : Tab w) :
    Calls Tryd.prog 3 #[.int .i64 n, .slice A n2 c2, .int .i64 at_] w fun e w' => e = .returned (.bool true) ∧ Below w.heap.size w w' := by
  have HL := Lib.hid (lives13 w hT)
  clear hT
  by_cases h1 : 60 < n2
  · have d1 : decide (60 < n2) = true := by simpa using h1
    clear h
    go_enter Tryd.func3, Tryd.ntmps3
    go_wp2_with (first
      | (go_at_call 6; refine HL.out.mono ?_; rintro e w3 ⟨rfl, hb3⟩)
      | fail)
    go_ret
    exact ⟨rfl, hb3⟩
  · have d1 : decide (60 < n2) = false := by simpa using h1
    have d2 : decide (1000 < n) = true := by simp; omega
    have d3 : decide (n ≤ 65536) = true := by simp; omega
    clear h
    go_enter Tryd.func3, Tryd.ntmps3
    go_wp2_with (first
      | (go_at_call 6; refine HL.out.mono ?_; rintro e w3 ⟨rfl, hb3⟩)
      | fail)
    go_ret
    exact ⟨rfl, hb3⟩
set_option maxRecDepth 8000 in
theorem plays_none (n : Int) (A : Option Addr) (n2 c2 : Nat) (at_ : Int) (w : World) (h : ¬ 60 < n2) (hn : n < 1 ∨ 65536 < n) (hT : Tab w) :
    Calls Tryd.prog 3 #[.int .i64 n, .slice A n2 c2, .int .i64 at_] w fun e w' => e = .returned (.bool true) ∧ Below w.heap.size w w' := by
  have HL := Lib.hid (lives13 w hT)
  have HN := Lib.hid (anew_none n w hn)
  have HR := Lib.hid (rnew_none n w hn)
  have d1 : decide (60 < n2) = false := by simpa using h
  by_cases h1 : n < 1
  · have d2 : decide (1000 < n) = false := by simp; omega
    clear hT hn
    go_enter Tryd.func3, Tryd.ntmps3
    go_wp2_with (first
      | (go_at_call 6; refine HL.out.mono ?_; rintro e w3 ⟨rfl, hb3⟩)
      | (go_at_call 7; refine HN.out.mono ?_; rintro e w1 ⟨rfl, rfl⟩)
      | (go_at_call 8; refine HR.out.mono ?_; rintro e w1 ⟨rfl, rfl⟩)
      | fail)
    go_ret
    exact ⟨rfl, hb3⟩
  · have d2 : decide (1000 < n) = true := by simp; omega
    have d3 : decide (n ≤ 65536) = false := by simp; omega
    clear hT hn
    go_enter Tryd.func3, Tryd.ntmps3
    go_wp2_with (first
      | (go_at_call 6; refine HL.out.mono ?_; rintro e w3 ⟨rfl, hb3⟩)
      | (go_at_call 7; refine HN.out.mono ?_; rintro e w1 ⟨rfl, rfl⟩)
      | (go_at_call 8; refine HR.out.mono ?_; rintro e w1 ⟨rfl, rfl⟩)
      | fail)
    go_ret
    exact ⟨rfl, hb3⟩
theorem allocPlays_walk {w : World} (n : Int) (_hn : (Lit.int .i64 n).wf = true) (A : Option Addr) (n2 c2 : Nat) (ps : List (Int × Int)) (h2 : Rd w w.heap.size 2 A n2 c2 (pairs ps)) (hps : ps.length = n2 ∧ ∀ p ∈ ps, (Lit.int .i64 p.2).wf = true) (at_ : Int) (hat : (Lit.int .i64 at_).wf = true) (hT : Tab w) :
    Calls Tryd.prog 3 #[.int .i64 n, .slice A n2 c2, .int .i64 at_] w fun e w' => e = .returned (.bool true) ∧ Below w.heap.size w w' := by
  by_cases h : 60 < n2 ∨ (1000 < n ∧ n ≤ 65536)
  · exact plays_early n A n2 c2 at_ w h hT
  · by_cases h1 : n < 1 ∨ 65536 < n
    · exact plays_none n A n2 c2 at_ w (by omega) h1 hT
    · obtain ⟨m, rfl⟩ : ∃ m : Nat, n = (m : Int) := ⟨n.toNat, by omega⟩
      exact plays_late m A n2 c2 ps at_ w h2 hps.1 (Lib.hid hps.2) hat (by omega) (by omega) (by omega) hT
namespace allocPlays
open Go.ChangeShapes Go.WideShapes Go.ChangeAt
set_option maxRecDepth 100000 in
theorem lifted (os : Os) (started : os.Started) (H : Type) (enc : TypeId × Value → H) :
    ReturnsInHanded {} Tryd.checked os 3 .any (fun w args => (Rows.allocPlaysSpec.pre enc Tryd.prog Tryd.f3 [] false w args ∧ laidMetH Tryd.prog laidL w) ∧ sizedMet enc Tryd.prog Tryd.f3 (OpenSpec.ofChange Rows.allocPlaysSpec) false w args)
      (Rows.allocPlaysSpec.post enc Tryd.prog Tryd.f3 false true false false) := by
  refine returnsInHanded_of_change_and (C := Tryd.checked) (X := fun w _ => laidMetH Tryd.prog laidL w) (fun _ _ _ hh h => h.of_heap hh) own started (by kernel_rfl) Tryd.func3
    (ChangeSpec.witness_shaped (enc := enc) (C := Tryd.checked) (os := os) (X := fun w _ => laidMetH Tryd.prog laidL w) false (World.doorLaid Tryd.prog 400 os) #[.int .i64 0, .slice none 0 0, .int .i64 0] 8 rfl (World.shaped_of_RefB (by kernel_rfl) (by kernel_rfl)) (by kernel_rfl) (by kernel_rfl) (by kernel_rfl) (door_met os _)) ?_
  intro W base args ds gs before hval0 hW _ _ hL _
  have hval : ∀ (j : Nat) t v, Tryd.f3.params[j]? = some t → args[j]? = some v → Value.okWide Tryd.prog W .any base t v := hval0
  have hW' := hW
  obtain ⟨p, q, hA0, hV, rfl, hfz, hnd⟩ := hW
  have hA : DataW.TrodAll enc Tryd.prog W 0 (fun _ => true) true Tryd.f3.params.toList args.toList ds p := hA0
  rw [Tryd.params3] at hA hval
  obtain ⟨v0, vs0, d0, ds0, p0, q0, hargs, rfl, rfl, h0, r0⟩ := trodAll_cons hA
  obtain ⟨v1, vs1, d1, ds1, p1, q1, rfl, rfl, rfl, h1, r1⟩ := trodAll_cons r0
  obtain ⟨v2, vs2, d2, ds2, p2, q2, rfl, rfl, rfl, h2, r2⟩ := trodAll_cons r1
  obtain ⟨rfl, rfl, rfl⟩ := trodAll_nil r2
  obtain rfl : args = #[v0, v1, v2] := by cases args; simp_all
  obtain ⟨rfl, rfl⟩ := trodVars_none hV
  have k0 := h0
  have lt0 : ∀ x ∈ p0, x.block < W.heap.size := by obtain ⟨m, hm⟩ := k0; exact DataW.trod_lt m _ _ _ hm
  obtain ⟨x0, rfl, w0⟩ := dec_int Tryd.underlying3 (hval 0 3 v0 rfl rfl) h0
  have k1 := h1
  have lt1 : ∀ x ∈ p1, x.block < W.heap.size := by obtain ⟨m, hm⟩ := k1; exact DataW.trod_lt m _ _ _ hm
  obtain ⟨a1, n1, c1, l1, rfl, w1, b1⟩ := dec_pairs2 Tryd.underlying22 Tryd.underlying30 (by kernel_rfl) (by kernel_rfl) Tryd.underlying3 Tryd.underlying3 (hval 1 22 v1 rfl rfl) h1
  have k2 := h2
  have lt2 : ∀ x ∈ p2, x.block < W.heap.size := by obtain ⟨m, hm⟩ := k2; exact DataW.trod_lt m _ _ _ hm
  obtain ⟨x2, rfl, w2⟩ := dec_int Tryd.underlying3 (hval 2 3 v2 rfl rfl) h2
  clear hA0 hval0
  have hT := of_laid hL
  refine (allocPlays_walk x0 w0 a1 n1 c1 l1 w1 b1 x2 w2 hT).mono fun e W' ⟨he, bel⟩ => ?_
  subst he
  exact ⟨_, rfl, _, _, _, [], _, [], hW', trodAll_mk1 (shut_bool Tryd.underlying4 _), (trodAll_cons_mk (Below.trod laidOut (by kernel_rfl) (of_decide_eq_true (by kernel_rfl)) k0 bel lt0) (trodAll_cons_mk (Below.trod laidOut (by kernel_rfl) (of_decide_eq_true (by kernel_rfl)) k1 bel lt1) (trodAll_cons_mk (Below.trod laidOut (by kernel_rfl) (of_decide_eq_true (by kernel_rfl)) k2 bel lt2) trodAll_mk0))), rfl, bel.frame _, fun h => by cases h⟩

theorem over : Rows.allocPlaysRow.holds Tryd.pinned (OpenSpec.ofChange Rows.allocPlaysSpec) :=
  OpenClaim.holds_of_wide 3 Tryd.f3 rfl rfl rfl rfl rfl rfl rfl ⟨rfl, rfl, rfl, rfl, rfl⟩ rfl rfl rfl rfl rfl (by kernel_rfl) Tryd.func3 (by kernel_rfl)
    (of_decide_eq_true (by kernel_rfl)) (by unfold Func.isWrapper; first | (rw [if_pos (by decide +kernel)]; kernel_rfl) | (rw [if_neg (by decide +kernel)]; exact ⟨rfl, rfl⟩))
    (fun os started H enc _ => lifted os started H enc)
theorem row_tie : Rows.allocPlaysRow.laidByTextAt .later Tryd.pinned [.data] true := allocPlays_row_tie
/-- The given statement: the card. -/
theorem proved : Rows.AllocPlaysCardSaid :=
  Claim7.holds_tied_plain_at .later [] [.data] true Rows.allocPlaysCard.stood.harness false
    over (fun _ h => by cases h) (by kernel_rfl) (fun _ h => by cases h) row_tie rfl ⟨rfl, rfl⟩ (by kernel_rfl) rfl
    (fun f fn hf hfn => by
      obtain rfl : f = 3 := Option.some.inj ((show Tryd.prog.funcNamed Rows.allocPlaysRow.func = some 3 by kernel_rfl).symm.trans hf) |>.symm
      obtain rfl : fn = Tryd.f3 := (Option.some.inj (Tryd.func3.symm.trans hfn)).symm
      exact ⟨by kernel_rfl, fun j t ht => by
        rw [Tryd.params3] at ht
        have hm : t ∈ [3, 22, 3] := by simpa using Array.mem_of_getElem? ht
        have hall : ([3, 22, 3].all fun u => !Tryd.prog.wantsStandIn u) = true := by kernel_rfl
        exact (show Tryd.prog.wantsStandIn t = false by simpa using List.all_eq_true.1 hall t hm)⟩)
    (by kernel_rfl)
end allocPlays

end Go.Proofs.YtljmigfjlndpbaaDoor
