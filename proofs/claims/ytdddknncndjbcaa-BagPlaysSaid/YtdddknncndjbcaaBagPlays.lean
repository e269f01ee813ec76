/- BagPlays: whatever is put, taken and doubled, each call tells what the document says, and just that is there which it says, in order; a clone goes its own way. For every room, every list of calls and every place. -/
import Derived.Test.YtdddknncndjbcaaBagp
namespace Go.Proofs.Ytdddknncndjbcaa
open Go.RowKit

set_option maxRecDepth 8000 in
theorem plays_early (n : Int) (A : Option Addr) (n2 c2 : Nat) (at_ : Int) (w : World) (h : 300 < n2) :
    Calls Try.prog 3 #[.int .i64 n, .slice A n2 c2, .int .i64 at_] w fun e w' => e = .returned (.bool true) ∧ Below w.heap.size w w' := by
  have HL := Lib.hid (lives18 w)
  have d3 : decide (300 < n2) = true := by simp; omega
  have d4 : ¬ n2 ≤ 300 := by omega
  have d6 : decide (300 < (n2 : Int)) = true := by simp; omega
  go_enter Try.func3, Try.ntmps3
  go_wp2_with (first
    | (go_at_call 5; refine HL.out.mono ?_; rintro e w3 ⟨rfl, hb3⟩)
    | fail)
  go_ret
  exact ⟨rfl, hb3⟩
set_option maxRecDepth 8000 in
theorem plays_none (n : Int) (A : Option Addr) (n2 c2 : Nat) (at_ : Int) (w : World) (h : n2 ≤ 300) (hn : n < 1 ∨ 256 < n) :
    Calls Try.prog 3 #[.int .i64 n, .slice A n2 c2, .int .i64 at_] w fun e w' => e = .returned (.bool true) ∧ Below w.heap.size w w' := by
  have HL := Lib.hid (lives18 w)
  have HN := Lib.hid (bnew_none n w hn)
  have d3 : decide (300 < n2) = false := by simp; omega
  have d4 : ¬ 300 < n2 := by omega
  by_cases h1 : n < 1
  · have q1 : decide (n < 1) = true := by simpa using h1
    clear hn
    go_enter Try.func3, Try.ntmps3
    go_wp2_with (first
      | (go_at_call 6; refine HN.out.mono ?_; rintro e w3 ⟨rfl, rfl⟩)
      | (go_at_call 5; refine HL.out.mono ?_; rintro e w3 ⟨rfl, hb3⟩)
      | fail)
    go_ret
    exact ⟨rfl, hb3⟩
  · have h2 : 256 < n := by omega
    have q1 : decide (n < 1) = false := by simpa using h1
    have q2 : decide (256 < n) = true := by simpa using h2
    clear hn
    go_enter Try.func3, Try.ntmps3
    go_wp2_with (first
      | (go_at_call 6; refine HN.out.mono ?_; rintro e w3 ⟨rfl, rfl⟩)
      | (go_at_call 5; refine HL.out.mono ?_; rintro e w3 ⟨rfl, hb3⟩)
      | fail)
    go_ret
    exact ⟨rfl, hb3⟩
/-- Behind a call. -/
def Cut (B : Nat) (w : World) (p : Nat) (kd nn : Int) (m i : Nat) (br vr lr : Value) (wx : World) : Prop := ∃ g bv A c t, br = .pointer (some ⟨g, 0, none⟩) ∧ vr = .slice A t.l.length c ∧ lr = .int .u64 (t.lost : Int) ∧ PS B w wx p kd nn g bv (.slice A t.l.length c) t t.l ∧ t.most = m ∧ t.lost ≤ i + 1
theorem Cut.mk {B : Nat} {w : World} {p : Nat} {kd nn : Int} {m i g : Nat} {bv v : Value} {t : Bv} {wx : World} (h : PS B w wx p kd nn g bv v t t.l) (hm : t.most = m) (hl : t.lost ≤ i + 1) : Cut B w p kd nn m i (.pointer (some ⟨g, 0, none⟩)) v (.int .u64 (t.lost : Int)) wx := by
  obtain ⟨A, c, rfl⟩ := ownsRow_form h.rs.own
  exact ⟨g, bv, A, c, t, rfl, rfl, rfl, h, hm, hl⟩
set_option maxHeartbeats 8000000 in
set_option maxRecDepth 8000 in
theorem plays_late (m : Nat) (A : Option Addr) (n2 c2 : Nat) (at_ : Int) (ps : List (Int × Int)) (w : World) (h2 : Rd w w.heap.size 2 A n2 c2 (pairs ps)) (hps : ps.length = n2) (_ : Hid (∀ p ∈ ps, (Lit.int .i64 p.2).wf = true)) (hn2 : n2 ≤ 300) (hm1 : 1 ≤ m) (hm2 : m ≤ 256) :
    Calls Try.prog 3 #[.int .i64 (m : Int), .slice A n2 c2, .int .i64 at_] w fun e w' => e = .returned (.bool true) ∧ Below w.heap.size w w' := by
  have d1 : decide (300 < n2) = false := by simp; omega
  have d4 : ¬ 300 < n2 := by omega
  have q1 : decide ((m : Int) < 1) = false := by simp; omega
  have q2 : decide (256 < (m : Int)) = false := by simp; omega
  have q3 : decide (m < 1) = false := by simp; omega
  have q4 : decide (256 < m) = false := by simp; omega
  have q5 : ¬ m < 1 := by omega
  have q6 : ¬ 256 < m := by omega
  have HPS := Lib.hid hps
  have HN := Lib.hid (bnew_any m w hm1 hm2)
  have H2 := Lib.hid h2
  have HN2 := Lib.hid hn2
  have HM := Lib.hid hm2
  clear hps h2 hn2 hm1 hm2
  go_enter Try.func3, Try.ntmps3
  obtain ⟨B, hB⟩ : ∃ B, B = w.heap.size := ⟨_, rfl⟩
  unfold New at HN
  rw [← hB] at HN H2
  have HB := Lib.hid hB
  clear hB
  go_wp2_with (first
    | (go_at_call 6; refine HN.out.mono ?_; clear HN; rintro e w2 ⟨rfl, hb2, hbl⟩
       have S0 : Hid (RS B w w2 B (.slice none 0 0) (.slice none 0 0) ⟨[], m, 0⟩ []) := Lib.hid ⟨hb2, World.ownsRow_nil _ _ _ _, (fun q hq => by cases hq), hbl, by have := hb2.lt; omega⟩
       clear hb2 hbl)
    | fail)
  clear q1 q2 q3 q4 q5 q6
  go_loopw [7, 8, 9, 43] (fun br vr lr ir wr => ∃ i g bv A4 c4 t, i ≤ n2 ∧ ir = .int .i64 ((i : Nat) : Int) ∧ br = .pointer (some ⟨g, 0, none⟩) ∧ vr = .slice A4 t.l.length c4 ∧ lr = .int .u64 (t.lost : Int) ∧ Hid (RS B w wr g bv (.slice A4 t.l.length c4) t t.l) ∧ Hid (t.most = m ∧ t.lost ≤ i)) (fun _ _ _ ir _ => n2 - (intOf ir).toNat)
  case atStart => exact ⟨0, B, _, none, 0, ⟨[], m, 0⟩, Nat.zero_le _, rfl, rfl, rfl, rfl, S0, Lib.hid ⟨rfl, Nat.le_refl _⟩⟩
  case round =>
    clear S0
    obtain ⟨i, g, bv, A4, c4, t, hi, rfl, rfl, rfl, rfl, S, HTM⟩ := hrel
    by_cases hlt : i < n2
    · obtain ⟨⟨kd, nn⟩, hp⟩ : ∃ p, ps[i]? = some p := ⟨_, List.getElem?_eq_getElem (by rw [HPS.out]; exact hlt)⟩
      have hpg := pairs_get ps i (kd, nn) hp
      obtain ⟨bb, o, rfl, hbl, hcell⟩ := (H2.out.below S.out.bel).2.2.2 (by omega)
      have c0 : wr.cell? ⟨bb, o + i * 2, none⟩ = some (.int .i64 kd) := hcell _ _ hpg.1
      have c1 : wr.cell? ⟨bb, o + i * 2 + 1, none⟩ = some (.int .i64 nn) := by rw [Nat.add_assoc]; exact hcell _ _ hpg.2
      clear hp hpg hcell hbl
      have hlen : t.l.length ≤ 256 := by have := S.out.bag.room; have := S.out.bag.most; omega
      have hl3 : (t.l.length : Int) ≤ 1000 := by omega
      have HLE := Lib.hid hlen
      clear hlen
      obtain ⟨p, hp⟩ : ∃ p, p = wr.heap.size := ⟨_, rfl⟩
      go_upto_region 13 with (fail)
      rw [← hp]
      have HP2 : Hid (PS B w (wr.alloc (.cells #[.int .i64 kd, .int .i64 nn] 29)) p kd nn g bv (.slice A4 t.l.length c4) t t.l) := Lib.hid (by rw [hp]; exact S.out.boxed kd nn)
      have HPP := Lib.hid hp
      clear hp c0 c1
      generalize wr.alloc (.cells #[.int .i64 kd, .int .i64 nn] 29) = W at *
      have e0 := HP2.out.box.c0
      have e1 := HP2.out.box.c1
      go_cut [12] (fun u wx => u = .bool (t.inb nn) ∧ wx = W)
      case first => as_aux_lemma =>
        by_cases hn0 : nn < 0
        · have hin := inb_neg (t := t) hn0
          have f0 : decide (0 ≤ nn) = false := by simp; omega
          go_wp2_with (fail)
          go_meet
          case rel => exact ⟨by rw [hin], rfl⟩
        · obtain ⟨k, rfl⟩ : ∃ k : Nat, nn = (k : Int) := ⟨nn.toNat, by omega⟩
          have hin := inb_nat (t := t) k
          by_cases hk : k < t.l.length
          · have f1 : decide ((k : Int) < (t.l.length : Int)) = true := by simp; omega
            have HIN := Lib.hid hin
            clear hin
            go_wp2_with (fail)
            go_meet
            case rel => exact ⟨by rw [HIN.out]; simp [hk], rfl⟩
          · have f1 : decide ((k : Int) < (t.l.length : Int)) = false := by simp; omega
            have HIN := Lib.hid hin
            clear hin
            go_wp2_with (fail)
            go_meet
            case rel => exact ⟨by rw [HIN.out]; simp [hk], rfl⟩
      case rest =>
        obtain ⟨rfl, hwc⟩ := hcut
        rw [hwc]
        clear hwc
        obtain ⟨ib, hib⟩ : ∃ ib, ib = t.inb nn := ⟨_, rfl⟩
        rw [← hib]
        have HIB := Lib.hid hib
        clear hib
        go_upto_block 2 with (fail)
        go_cut [7, 8, 9, 13] (fun br vr lr gr wx => gr = .bool true ∧ Cut B w p kd nn m i br vr lr wx)
        case first =>
          have hlost : t.lost < 1000000 := by have := HTM.out.2; have := HN2.out; omega
          have HLO := Lib.hid hlost
          have hBW := HP2.out.rs.size
          have hls : (t.lost : Int) ≤ 1000 := by have := HTM.out.2; have := HN2.out; omega
          have HT1 := HTM.out.1
          have HT2 := HTM.out.2
          by_cases k0 : kd = 0
          · as_aux_lemma =>
            subst k0
            have HC := Lib.hid (bput_any HP2.out.rs.bag hBW nn hlost)
            clear hlost hBW
            cases hf : t.full with
            | true =>
              have hroom : decide (t.l.length < m) = false := by unfold Bv.full at hf; simp at hf ⊢; omega
              have hroom2 : ¬ t.l.length < m := by simpa using hroom
              have hroom3 : decide ((t.l.length : Int) < (m : Int)) = false := by simp; omega
              rw [hf, show t.put nn = t.lose by unfold Bv.put; rw [hf]; rfl] at HC
              clear hf
              go_wp2_with (first
                | (go_at_call 7; refine HC.out.mono ?_; clear HC; rintro e w3 ⟨rfl, hm3⟩; obtain ⟨bv3, hP3⟩ := HP2.out.turn hm3; have HP3 := Lib.hid hP3; clear hm3 hP3)
                | fail)
              go_meet
              case rel => exact ⟨rfl, Cut.mk (t := t.lose) HP3.out HT1 (Nat.succ_le_succ HT2)⟩
            | false =>
              have hroom : decide (t.l.length < m) = true := by unfold Bv.full at hf; simp at hf ⊢; omega
              have hroom2 : t.l.length < m := by simpa using hroom
              have hroom3 : decide ((t.l.length : Int) < (m : Int)) = true := by simp; omega
              rw [hf, show t.put nn = t.add nn by unfold Bv.put; rw [hf]; rfl] at HC
              clear hf
              go_wp2_with (first
                | (go_at_call 7; refine HC.out.mono ?_; clear HC; rintro e w3 ⟨rfl, hm3⟩; obtain ⟨bv3, hP3⟩ := HP2.out.turn hm3; have e3 := hP3.box.c1; have HP3 := Lib.hid hP3; clear hm3 hP3)
                | (at_builtin; refine law_app HP3.out (Nat.lt_of_le_of_lt HLE.out (by decide)) rfl (.tmp 79) (.tmp 82) rfl rfl rfl ?_; intro v4 w4 hP4; have HP4 := Lib.hid hP4; clear hP4)
                | fail)
              go_meet
              case rel => exact ⟨rfl, Cut.mk (t := t.add nn) HP4.out HT1 (Nat.le_succ_of_le HT2)⟩
          · have E0 : (kd == 0) = false := by simpa using k0
            by_cases k1 : kd = 1
            · as_aux_lemma =>
              subst k1
              have HC := Lib.hid (btake_any HP2.out.rs.bag nn)
              clear hlost hBW k0
              cases ib with
              | false =>
                have hin : t.inb nn = false := HIB.out.symm
                rw [hin, show t.take nn = t by unfold Bv.take; rw [hin]; rfl, show t.get nn = 0 by unfold Bv.get; rw [hin]; rfl] at HC
                clear hin
                go_wp2_with (first
                  | (go_at_call 8; refine HC.out.mono ?_; clear HC; rintro e w3 ⟨rfl, hm3⟩; obtain ⟨bv3, hP3⟩ := HP2.out.turn hm3; have HP3 := Lib.hid hP3; clear hm3 hP3)
                  | fail)
                go_meet
                case rel => exact ⟨rfl, Cut.mk HP3.out HT1 (Nat.le_succ_of_le HT2)⟩
              | true =>
                have hin : t.inb nn = true := HIB.out.symm
                obtain ⟨k, rfl⟩ : ∃ k : Nat, nn = (k : Int) := ⟨nn.toNat, by unfold Bv.inb at hin; simp at hin; omega⟩
                have hk : k < t.l.length := by rw [inb_nat] at hin; simpa using hin
                rw [hin, take_in hin, get_in hin] at HC
                obtain ⟨q, rfl⟩ := own_zero HP2.out.rs.own hk
                have yy : (t.l.getD k 0 == t.l.getD k 0) = true := beq_self_eq_true _
                have HK := Lib.hid hk
                have hk3 : (k : Int) ≤ 1000 := by have := HLE.out; omega
                obtain ⟨y, hy⟩ : ∃ y, y = t.l.getD k 0 := ⟨_, rfl⟩
                rw [← hy] at HC yy
                have HY := Lib.hid hy
                clear hin hy
                go_wp2_with (first
                  | (go_at_call 8; refine HC.out.mono ?_; clear HC; rintro e w3 ⟨rfl, hm3⟩; obtain ⟨bv3, hP3⟩ := HP2.out.turn hm3; have e3 := hP3.box.c1; have e4 := hP3.at_ HK.out; rw [← HY.out] at e4; have HP3 := Lib.hid hP3; clear hm3 hP3)
                  | fail)
                obtain ⟨j, hj⟩ : ∃ j, j = k + 1 := ⟨_, rfl⟩
                obtain ⟨A, hA, hsrc⟩ := tail_src HP3.out.rs.own hj HK.out
                have hpre := ownsRow_pre HP3.out.rs.own (Nat.le_of_lt HK.out)
                have hcap := (ownsRow_rd HP3.out.rs.own).1
                have r1 : ((k : Int) + 1) = (j : Int) := by omega
                have r2 : k ≤ t.l.length := by have := HK.out; omega
                have r3 : j ≤ t.l.length := by have := HK.out; omega
                have r4 : k ≤ c4 := by omega
                have r5 : j ≤ c4 := by omega
                have HPR := Lib.hid hpre
                have HSR := Lib.hid hsrc
                have HJ := Lib.hid hj
                clear hpre hsrc hj hcap
                refine wp_segs [([1, 2, 3, 4, 6, 7, 8, 9, 10], 0), ([], 5), ([], 11)] [12] (fun x => x.cell? ⟨p, 1, none⟩ = some (.int .i64 (k : Int))) (by kernel_rfl) (by kernel_rfl) (fun d _ _ _ _ h => by cases d <;> exact h) e3 ?_
                intro f hf
                have F1 : ∀ z, (f z).cell? ⟨p, 1, none⟩ = some (.int .i64 (k : Int)) := hf
                simp only [pickI, Option.toList_some, List.cons_append, List.nil_append, List.getElem?_toArray, List.getElem?_cons_succ, List.getElem?_cons_zero]
                repeat (go_big_quiet_step (fail))
                refine wpQuiet_nil ?_
                clear F1 hf f
                refine seg_op (by simp only [List.getElem?_toArray, List.getElem?_cons_zero]; rfl) fun K hK => ?_
                go_simp
                refine hK.out _ _ ⟨(fun x => x.cell? ⟨p, 1, none⟩ = some (.int .i64 (k : Int))), (HP3.out.below ((Below.refl _ _).alloc (Nat.le_refl _) _)).box.c1, fun _ h => h, ?_⟩
                clear hK K
                intro f hf
                refine wpQuiet_nil ?_
                clear hf f
                refine seg_op (by simp only [List.getElem?_toArray, List.getElem?_cons_succ, List.getElem?_cons_zero]; rfl) fun K hK => ?_
                rw [if_pos (by rfl)]
                refine anew_first HP3.out HK.out (Nat.lt_of_le_of_lt HLE.out (by decide)) (.tmp 119) (.tmp 123) rfl rfl rfl ?_
                intro v5 w5 ho5 hb5
                have HO5 := Lib.hid ho5
                have HB5 := Lib.hid hb5
                have e5 := (HP3.out.below hb5).box.c1
                clear ho5 hb5
                refine hK.out _ _ ⟨(fun x => x.cell? ⟨p, 1, none⟩ = some (.int .i64 (k : Int))), e5, fun _ h => h, ?_⟩
                clear hK K
                intro f hf
                refine wpQuiet_nil ?_
                clear hf f
                refine seg_op (by simp only [List.getElem?_toArray, List.getElem?_cons_succ, List.getElem?_cons_zero]; rfl) fun K hK => ?_
                rw [if_pos (by rfl)]
                refine anew_next HP3.out HK.out HJ.out (Nat.lt_of_le_of_lt HLE.out (by decide)) (.tmp 124) (.tmp 129) rfl rfl rfl HO5.out HB5.out HSR.out ?_
                intro v6 w6 hP6
                have HP6 := Lib.hid hP6
                refine hK.out _ _ ⟨(fun x => x.cell? ⟨p, 1, none⟩ = some (.int .i64 (k : Int))), hP6.box.c1, fun _ h => h, ?_⟩
                clear hK K hP6
                go_frame
                intro f hf
                simp only [pickI, Option.toList_some, List.cons_append, List.nil_append, List.getElem?_toArray, List.getElem?_cons_succ, List.getElem?_cons_zero]
                repeat (go_big_quiet_step (fail))
                refine wpQuiet_nil ?_
                clear hf f
                go_wp2_with (fail)
                go_meet
                case rel => exact ⟨rfl, Cut.mk (t := { t with l := t.l.take k ++ t.l.drop (k + 1) }) HP6.out HT1 (Nat.le_succ_of_le HT2)⟩
            · have E1 : (kd == 1) = false := by simpa using k1
              by_cases k2 : kd = 2
              · as_aux_lemma =>
                subst k2
                have HC := Lib.hid (bdouble_any HP2.out.rs.bag hBW nn)
                clear hlost hBW k0 k1
                cases ib with
                | false =>
                  have hin : t.inb nn = false := HIB.out.symm
                  rw [show t.double nn = t by unfold Bv.double; rw [hin]; rfl, show t.why nn = 40 by unfold Bv.why; rw [hin]; rfl] at HC
                  clear hin
                  go_wp2_with (first
                    | (go_at_call 9; refine HC.out.mono ?_; clear HC; rintro e w3 ⟨rfl, hm3⟩; obtain ⟨bv3, hP3⟩ := HP2.out.turn hm3; have HP3 := Lib.hid hP3; clear hm3 hP3)
                    | fail)
                  go_meet
                  case rel => exact ⟨rfl, Cut.mk HP3.out HT1 (Nat.le_succ_of_le HT2)⟩
                | true =>
                  have hin : t.inb nn = true := HIB.out.symm
                  obtain ⟨k, rfl⟩ : ∃ k : Nat, nn = (k : Int) := ⟨nn.toNat, by unfold Bv.inb at hin; simp at hin; omega⟩
                  have hk : k < t.l.length := by rw [inb_nat] at hin; simpa using hin
                  obtain ⟨q, rfl⟩ := own_zero HP2.out.rs.own hk
                  have hrm := HP2.out.rs.bag.room
                  cases hf : t.full with
                  | true =>
                    rw [show t.double (k : Int) = t by unfold Bv.double; rw [hin, hf]; rfl, show t.why (k : Int) = 31 by unfold Bv.why; rw [hin, hf]; rfl] at HC
                    have heq : ((t.l.length : Int) == (m : Int)) = true := by unfold Bv.full at hf; simp at hf ⊢; omega
                    have heq2 : (t.l.length == m) = true := by unfold Bv.full at hf; simp at hf ⊢; omega
                    have heq3 : t.l.length = m := by simpa using heq2
                    clear hin hf hrm hk heq3
                    go_wp2_with (first
                      | (go_at_call 9; refine HC.out.mono ?_; clear HC; rintro e w3 ⟨rfl, hm3⟩; obtain ⟨bv3, hP3⟩ := HP2.out.turn hm3; have HP3 := Lib.hid hP3; clear hm3 hP3)
                      | fail)
                    go_meet
                    case rel => exact ⟨rfl, Cut.mk HP3.out HT1 (Nat.le_succ_of_le HT2)⟩
                  | false =>
                    rw [show t.double (k : Int) = t.add (t.l.getD k 0) by unfold Bv.double; rw [hin, hf, get_in hin]; rfl, show t.why (k : Int) = 0 by unfold Bv.why; rw [hin, hf]; rfl] at HC
                    have heq : ((t.l.length : Int) == (m : Int)) = false := by unfold Bv.full at hf; simp at hf ⊢; omega
                    have heq2 : (t.l.length == m) = false := by unfold Bv.full at hf; simp at hf ⊢; omega
                    have HK := Lib.hid hk
                    have hk3 : (k : Int) ≤ 1000 := by have := HLE.out; omega
                    obtain ⟨y, hy⟩ : ∃ y, y = t.l.getD k 0 := ⟨_, rfl⟩
                    rw [← hy] at HC
                    have HY := Lib.hid hy
                    clear hin hy hf hrm
                    go_wp2_with (first
                      | (go_at_call 9; refine HC.out.mono ?_; clear HC; rintro e w3 ⟨rfl, hm3⟩; obtain ⟨bv3, hP3⟩ := HP2.out.turn hm3; have e3 := hP3.box.c1; have e4 := hP3.at_ HK.out; rw [← HY.out] at e4; have HP3 := Lib.hid hP3; clear hm3 hP3)
                      | (at_builtin; refine law_app HP3.out (Nat.lt_of_le_of_lt HLE.out (by decide)) rfl (.tmp 139) (.tmp 145) rfl rfl rfl ?_; intro v4 w4 hP4; have HP4 := Lib.hid hP4; clear hP4)
                      | fail)
                    go_meet
                    case rel => exact ⟨rfl, Cut.mk (t := t.add y) HP4.out HT1 (Nat.le_succ_of_le HT2)⟩
              · have E2 : (kd == 2) = false := by simpa using k2
                by_cases k3 : kd = 3
                · as_aux_lemma =>
                  subst k3
                  have HC := Lib.hid (bclear_any HP2.out.rs.bag)
                  clear hlost hBW k0 k1 k2
                  have heq : ((t.l.length : Int) == (t.l.length : Int)) = true := beq_self_eq_true _
                  go_wp2_with (first
                    | (go_at_call 10; refine HC.out.mono ?_; clear HC; rintro e w3 ⟨rfl, hm3⟩; obtain ⟨bv3, hP3⟩ := HP2.out.turn hm3; have HP3 := Lib.hid hP3; clear hm3 hP3)
                    | fail)
                  go_meet
                  case rel => exact ⟨rfl, Cut.mk (t := t.clear) (HP3.out.law (lw' := []) (Keeps.refl _ _) (World.ownsRow_nil _ _ _ _) (.inr fun q hq => by cases hq)) HT1 (Nat.le_succ_of_le HT2)⟩
                · as_aux_lemma =>
                  have E3 : (kd == 3) = false := by simpa using k3
                  have HC := Lib.hid (bclone_any HP2.out.rs.bag hlost)
                  clear hlost hBW k0 k1 k2 k3
                  unfold Cloned at HC
                  go_wp2_with (first
                    | (go_at_call 11; refine HC.out.mono ?_; clear HC; rintro e w3 ⟨g2, v2, rfl, hb3, hl3⟩
                       have HB3 := Lib.hid hb3
                       have HL3 := Lib.hid hl3
                       have HCl := Lib.hid (bclear_any (HP2.out.below hl3).rs.bag)
                       clear hb3 hl3)
                    | (go_at_call 10; refine HCl.out.mono ?_; clear HCl; rintro e w4 ⟨rfl, hm4⟩
                       obtain ⟨bv4, hP4, hB4, hv4⟩ := HP2.out.aside HL3.out HB3.out hm4
                       have HPu := Lib.hid (bput_any hP4.rs.bag hP4.rs.size 99 HLO.out)
                       have HP4 := Lib.hid hP4
                       have HB4 := Lib.hid hB4
                       have HV4 := Lib.hid hv4
                       clear hP4 hB4 hv4 hm4)
                    | (go_at_call 7; refine HPu.out.mono ?_; clear HPu; rintro e w5 ⟨rfl, hm5⟩
                       obtain ⟨bv5, hP5⟩ := HP4.out.turn hm5
                       have hB5 := HB4.out.survive hm5 HV4.out
                       have HP5 := Lib.hid hP5
                       have HB5 := Lib.hid hB5
                       clear hP5 hB5 hm5)
                    | fail)
                  go_meet
                  case rel => exact ⟨rfl, Cut.mk (HP2.out.became HP5.out HB5.out) HT1 (Nat.le_succ_of_le HT2)⟩
        case rest =>
          obtain ⟨rfl, g', bv', A', c', t', rfl, rfl, rfl, hP, hm', hl'⟩ := hcut
          have HP := Lib.hid hP
          have HTM' := Lib.hid (And.intro hm' hl')
          clear hP hm' hl' e0 e1
          generalize wc = Y at *
          have hlen' : t'.l.length ≤ 256 := by have := HP.out.rs.bag.room; have := HP.out.rs.bag.most; omega
          have hl3' : (t'.l.length : Int) ≤ 1000 := by omega
          have HLE' := Lib.hid hlen'
          clear hlen'
          have HAt := Lib.hid (at_any HP.out.rs.bag at_)
          obtain ⟨y, hy⟩ : ∃ y, y = t'.get at_ := ⟨_, rfl⟩
          obtain ⟨ob, hob⟩ : ∃ ob, ob = t'.inb at_ := ⟨_, rfl⟩
          rw [← hy, ← hob] at HAt
          have HY := Lib.hid hy
          have HOB := Lib.hid hob
          clear hy hob
          go_upto_region 43 with (first
            | (go_at_call 12; refine HAt.out.mono ?_; clear HAt; rintro e w3 ⟨rfl, rfl⟩)
            | fail)
          go_cut [21] (fun u wx => u = .bool ob ∧ wx = Y)
          case first => as_aux_lemma =>
            by_cases hn0 : at_ < 0
            · have hin := inb_neg (t := t') hn0
              have f0 : decide (0 ≤ at_) = false := by simp; omega
              have HIN := Lib.hid hin
              clear hin
              go_wp2_with (fail)
              go_meet
              case rel => exact ⟨by rw [HOB.out, HIN.out], rfl⟩
            · obtain ⟨k, hk0⟩ : ∃ k : Nat, at_ = (k : Int) := ⟨at_.toNat, by omega⟩
              have hin := inb_nat (t := t') k
              rw [← hk0] at hin
              have HIN := Lib.hid hin
              clear hin
              have f0 : decide (0 ≤ at_) = true := by simp; omega
              by_cases hk : k < t'.l.length
              · have f1 : decide (at_ < (t'.l.length : Int)) = true := by simp; omega
                clear hk0
                go_wp2_with (fail)
                go_meet
                case rel => exact ⟨by rw [HOB.out, HIN.out]; simp [hk], rfl⟩
              · have f1 : decide (at_ < (t'.l.length : Int)) = false := by simp; omega
                clear hk0
                go_wp2_with (fail)
                go_meet
                case rel => exact ⟨by rw [HOB.out, HIN.out]; simp [hk], rfl⟩
          case rest =>
            obtain ⟨rfl, hwc⟩ := hcut
            rw [hwc]
            clear hwc
            have HAll := Lib.hid (lall_any HP.out.rs.bag)
            unfold AllIs at HAll
            have z1 : (ob != ob) = false := bne_self_eq_false _
            have z2 : ((t'.l.length : Int) != (t'.l.length : Int)) = false := bne_self_eq_false _
            have z3 : ((t'.lost : Int) != (t'.lost : Int)) = false := bne_self_eq_false _
            have z4 : (y != y) = false := bne_self_eq_false _
            cases ob with
            | false => as_aux_lemma =>
              go_wp2_with (first
                | (go_at_call 14; refine HAll.out.mono ?_; clear HAll; rintro e w3 ⟨A3, c3, rfl, hr3, hb3⟩
                   have HI := Lib.hid (ints_any hr3 (ownsRow_rd (HP.out.rs.below hb3).own) (Nat.le_trans HLE'.out (by decide)))
                   have HP3 := Lib.hid (HP.out.rs.below hb3)
                   clear hr3 hb3)
                | (go_at_call 13; refine HI.out.mono ?_; clear HI; rintro e w4 ⟨rfl, hb4⟩
                   have HP4 := Lib.hid (HP3.out.below hb4)
                   clear hb4)
                | (go_at_call 15; refine (len_any HP4.out.bag).mono ?_; rintro e w5 ⟨rfl, rfl⟩)
                | (go_at_call 16; refine (lost_any HP4.out.bag).mono ?_; rintro e w5 ⟨rfl, rfl⟩)
                | fail)
              go_roundw
              case rel => exact ⟨i + 1, g', bv', A', c', t', by omega, by go_num, rfl, rfl, rfl, HP4, HTM'⟩
              case measure => simp [intOf]; omega
            | true => as_aux_lemma =>
              have hin : t'.inb at_ = true := HOB.out.symm
              obtain ⟨k, rfl⟩ : ∃ k : Nat, at_ = (k : Int) := ⟨at_.toNat, by unfold Bv.inb at hin; simp at hin; omega⟩
              have hk : k < t'.l.length := by rw [inb_nat] at hin; simpa using hin
              obtain ⟨q, rfl⟩ := own_zero HP.out.rs.own hk
              have hy2 : t'.l.getD k 0 = y := by rw [HY.out, get_in hin]
              have HY2 := Lib.hid hy2
              have HK := Lib.hid hk
              have hk3 : (k : Int) ≤ 1000 := by have := HLE'.out; omega
              clear hin hy2
              go_wp2_with (first
                | (go_at_call 14; refine HAll.out.mono ?_; clear HAll; rintro e w3 ⟨A3, c3, rfl, hr3, hb3⟩
                   have HI := Lib.hid (ints_any hr3 (ownsRow_rd (HP.out.rs.below hb3).own) (Nat.le_trans HLE'.out (by decide)))
                   have HP3 := Lib.hid (HP.out.below hb3)
                   clear hr3 hb3)
                | (go_at_call 13; refine HI.out.mono ?_; clear HI; rintro e w4 ⟨rfl, hb4⟩
                   have HP4 := Lib.hid (HP3.out.below hb4)
                   have e4 := HP4.out.at_ HK.out
                   rw [HY2.out] at e4
                   clear hb4)
                | (go_at_call 15; refine (len_any HP4.out.rs.bag).mono ?_; rintro e w5 ⟨rfl, rfl⟩)
                | (go_at_call 16; refine (lost_any HP4.out.rs.bag).mono ?_; rintro e w5 ⟨rfl, rfl⟩)
                | fail)
              go_roundw
              case rel => exact ⟨i + 1, g', bv', _, c', t', by omega, by go_num, rfl, rfl, rfl, Lib.hid HP4.out.rs, HTM'⟩
              case measure => simp [intOf]; omega
    · obtain rfl : i = n2 := by omega
      have HLV := Lib.hid (lives18 wr)
      go_wp2_with (first
        | (go_at_call 5; refine HLV.out.mono ?_; rintro e w3 ⟨rfl, hb3⟩)
        | fail)
      go_ret
      have h3 := S.out.bel
      have h4 := S.out.size
      rw [HB.out] at h3 h4
      exact ⟨rfl, h3.trans (hb3.mono h4)⟩
theorem bagPlays_walk {w : World} (n : Int) (_ : (Lit.int .i64 n).wf = true) (A : Option Addr) (n2 c2 : Nat) (ps : List (Int × Int)) (h2 : Rd w w.heap.size 2 A n2 c2 (pairs ps)) (hps : ps.length = n2 ∧ ∀ p ∈ ps, (Lit.int .i64 p.2).wf = true) (at_ : Int) (_ : (Lit.int .i64 at_).wf = true) :
    Calls Try.prog 3 #[.int .i64 n, .slice A n2 c2, .int .i64 at_] w fun e w' => e = .returned (.bool true) ∧ Below w.heap.size w w' := by
  by_cases h : 300 < n2
  · exact plays_early n A n2 c2 at_ w h
  · by_cases hn : n < 1 ∨ 256 < n
    · exact plays_none n A n2 c2 at_ w (by omega) hn
    · obtain ⟨m, rfl⟩ : ∃ m : Nat, n = (m : Int) := ⟨n.toNat, by omega⟩
      exact plays_late m A n2 c2 at_ ps w h2 hps.1 (Lib.hid hps.2) (by omega) (by omega) (by omega)
namespace bagPlays
open Go.ChangeShapes Go.WideShapes Go.ChangeAt
set_option maxRecDepth 100000 in
theorem lifted (os : Os) (started : os.Started) (H : Type) (enc : TypeId × Value → H) :
    ReturnsInHanded {} Try.checked os 3 .any (Rows.bagPlaysSpec.pre6 enc Try.prog Try.f3 Rows.bagPlaysRow.domain false) (Rows.bagPlaysSpec.post enc Try.prog Try.f3 false true false false) := by
  refine returnsInHanded_of_change (C := Try.checked) own started (by kernel_rfl) Try.func3
    (ChangeSpec.witness6 (enc := enc) (C := Try.checked) false ⟨#[], #[.int .i64 0, .slice none 0 0, .int .i64 0], []⟩ 8 (by kernel_rfl) (by kernel_rfl) (by kernel_rfl) (by kernel_rfl)) ?_
  intro W base args ds gs before hval0 hW _ _
  have hval : ∀ (j : Nat) t v, Try.f3.params[j]? = some t → args[j]? = some v → Value.okWide Try.prog W .any base t v := hval0
  have hW' := hW
  obtain ⟨p, q, hA0, hV, rfl, hfz, hnd⟩ := hW
  have hA : DataW.TrodAll enc Try.prog W 0 (fun _ => true) true Try.f3.params.toList args.toList ds p := hA0
  rw [Try.params3] at hA hval
  obtain ⟨v0, vs0, d0, ds0, p0, q0, hargs, rfl, rfl, h0, r0⟩ := trodAll_cons hA
  obtain ⟨v1, vs1, d1, ds1, p1, q1, rfl, rfl, rfl, h1, r1⟩ := trodAll_cons r0
  obtain ⟨v2, vs2, d2, ds2, p2, q2, rfl, rfl, rfl, h2, r2⟩ := trodAll_cons r1
  obtain ⟨rfl, rfl, rfl⟩ := trodAll_nil r2
  obtain rfl : args = #[v0, v1, v2] := by cases args; simp_all
  obtain ⟨rfl, rfl⟩ := trodVars_none hV
  have k0 := h0
  have lt0 : ∀ x ∈ p0, x.block < W.heap.size := by obtain ⟨m, hm⟩ := k0; exact DataW.trod_lt m _ _ _ hm
  obtain ⟨x0, rfl, w0⟩ := dec_int Try.underlying3 (hval 0 3 v0 rfl rfl) h0
  have k1 := h1
  have lt1 : ∀ x ∈ p1, x.block < W.heap.size := by obtain ⟨m, hm⟩ := k1; exact DataW.trod_lt m _ _ _ hm
  obtain ⟨a1, n1, c1, l1, rfl, w1, b1⟩ := dec_pairs2 Try.underlying22 Try.underlying29 (by kernel_rfl) (by kernel_rfl) Try.underlying3 Try.underlying3 (hval 1 22 v1 rfl rfl) h1
  have k2 := h2
  have lt2 : ∀ x ∈ p2, x.block < W.heap.size := by obtain ⟨m, hm⟩ := k2; exact DataW.trod_lt m _ _ _ hm
  obtain ⟨x2, rfl, w2⟩ := dec_int Try.underlying3 (hval 2 3 v2 rfl rfl) h2
  clear hA0 hval0
  refine (bagPlays_walk x0 w0 a1 n1 c1 l1 w1 b1 x2 w2).mono fun e W' ⟨he, bel⟩ => ?_
  subst he
  exact ⟨_, rfl, _, _, _, [], _, [], hW', trodAll_mk1 (shut_bool Try.underlying4 _), (trodAll_cons_mk (Below.trod laidOut (by kernel_rfl) (of_decide_eq_true (by kernel_rfl)) k0 bel lt0) (trodAll_cons_mk (Below.trod laidOut (by kernel_rfl) (of_decide_eq_true (by kernel_rfl)) k1 bel lt1) (trodAll_cons_mk (Below.trod laidOut (by kernel_rfl) (of_decide_eq_true (by kernel_rfl)) k2 bel lt2) trodAll_mk0))), rfl, bel.frame _, fun h => by cases h⟩

theorem over : Rows.bagPlaysRow.holds Try.pinned (OpenSpec.ofChange Rows.bagPlaysSpec) :=
  OpenClaim.holds_of_wide 3 Try.f3 rfl rfl rfl rfl rfl rfl rfl ⟨rfl, rfl, rfl, rfl, rfl⟩ rfl rfl rfl rfl rfl (by kernel_rfl) Try.func3 (by kernel_rfl)
    (of_decide_eq_true (by kernel_rfl)) (by unfold Func.isWrapper; first | (rw [if_pos (by decide +kernel)]; kernel_rfl) | (rw [if_neg (by decide +kernel)]; exact ⟨rfl, rfl⟩))
    (fun os started H enc _ => lifted os started H enc)
/-- The given statement. -/
theorem proved : Rows.BagPlaysSaid := over
end bagPlays

end Go.Proofs.Ytdddknncndjbcaa
