/- DeskOnce: who came to wait is told once, or waits still, or was asked for anew, for every list of calls. -/
import Derived.Test.YtkcpldkdnnhmmaaDonce0
namespace Go.Proofs.Ytkcpldkdnnhmmaa
open Go.RowKit
set_option maxRecDepth 20000

set_option maxHeartbeats 8000000 in
theorem deskOnce_walk {w : World} (nodes : Int) (_ : (Lit.int .i64 nodes).wf = true) (self : Int) (_ : (Lit.int .i64 self).wf = true) {A : Option Addr} {n c : Nat} {os : List O25} (hl : Slc O25.lay w A n c os) :
    Calls Try.prog 4 #[.int .i64 nodes, .int .i64 self, .slice A n c] w fun e w' => e = .returned (.bool true) ∧ Below w.heap.size w w' := by
  have HL := Lib.hid lives25
  by_cases h200 : 200 < n
  · have d0 : decide (200 < (n : Int)) = true := by simp; omega
    have d1 : decide (200 < n) = true := by simpa using h200
    have d2 : 200 < (n : Int) := by omega
    clear hl
    go_enter Try.func4, Try.ntmps4
    go_wp2_with (first
      | (go_at_call 7; refine (HL.out _).mono ?_; rintro e w1 ⟨rfl, hb1⟩)
      | fail)
    go_ret
    exact ⟨rfl, hb1⟩
  · have d0 : decide (200 < (n : Int)) = false := by simp; omega
    have d1 : decide (200 < n) = false := by simpa using h200
    have d2 : ¬ 200 < (n : Int) := by omega
    have hn : n ≤ 200 := by omega
    by_cases hbad : BadN nodes self
    · have HN := Lib.hid (fun W => dnew_none nodes self W hbad)
      unfold BadN at hbad
      clear hl
      by_cases x0 : nodes < 1
      · have y0 : decide (nodes < 1) = true := by simpa using x0
        clear hbad
        go_enter Try.func4, Try.ntmps4
        go_wp2_with (first
          | (go_at_call 8; refine (HN.out _).mono ?_; rintro e w1 ⟨rfl, rfl⟩)
          | (go_at_call 7; refine (HL.out _).mono ?_; rintro e w1 ⟨rfl, hb1⟩)
          | fail)
        go_ret
        exact ⟨rfl, hb1⟩
      · have y0 : decide (nodes < 1) = false := by simpa using x0
        by_cases x1 : 7 < nodes
        · have y1 : decide (7 < nodes) = true := by simpa using x1
          clear hbad
          go_enter Try.func4, Try.ntmps4
          go_wp2_with (first
            | (go_at_call 8; refine (HN.out _).mono ?_; rintro e w1 ⟨rfl, rfl⟩)
            | (go_at_call 7; refine (HL.out _).mono ?_; rintro e w1 ⟨rfl, hb1⟩)
            | fail)
          go_ret
          exact ⟨rfl, hb1⟩
        · have y1 : decide (7 < nodes) = false := by simpa using x1
          by_cases x2 : self < 0
          · have y2 : decide (self < 0) = true := by simpa using x2
            clear hbad
            go_enter Try.func4, Try.ntmps4
            go_wp2_with (first
              | (go_at_call 8; refine (HN.out _).mono ?_; rintro e w1 ⟨rfl, rfl⟩)
              | (go_at_call 7; refine (HL.out _).mono ?_; rintro e w1 ⟨rfl, hb1⟩)
              | fail)
            go_ret
            exact ⟨rfl, hb1⟩
          · have y2 : decide (self < 0) = false := by simpa using x2
            have x3 : nodes ≤ self := by omega
            have y3 : decide (nodes ≤ self) = true := by simpa using x3
            clear hbad
            go_enter Try.func4, Try.ntmps4
            go_wp2_with (first
              | (go_at_call 8; refine (HN.out _).mono ?_; rintro e w1 ⟨rfl, rfl⟩)
              | (go_at_call 7; refine (HL.out _).mono ?_; rintro e w1 ⟨rfl, hb1⟩)
              | fail)
            go_ret
            exact ⟨rfl, hb1⟩
    · obtain ⟨N, S, rfl, rfl, h1, h7, hs⟩ := good_nat hbad
      have HN := Lib.hid (fun W => dnew_any N S W h1 h7 hs)
      have HH := Lib.hid hl
      have HB := Lib.hid hn
      clear hbad hl h1 h7 hs hn h200
      go_enter Try.func4, Try.ntmps4
      go_wp2_with (first
        | (go_at_call 8; refine (HN.out _).mono ?_; rintro e w1 ⟨rfl, hd1, hb1⟩
           have HA1 : Hid (At w w.heap.size w.heap.size (newDk N S) 0 w1) := Lib.hid ⟨⟨_, hd1⟩, Uq.nil, Nat.le_refl _, Nat.le_refl _, hb1.size, hb1⟩
           clear hd1 hb1)
        | fail)
      obtain ⟨g, hg⟩ : ∃ g, g = w.heap.size := ⟨_, rfl⟩
      have HG := Lib.hid hg
      rw [← hg] at HA1 ⊢
      clear hg
      go_loopw [8, 9, 44] (fun cr tr ir wr => ∃ (i came told : Nat) (t : Dk), i ≤ n ∧ cr = .int .i64 (came : Int) ∧ tr = .int .i64 (told : Int) ∧ ir = .int .i64 (i : Int) ∧ came ≤ i ∧ Hid (told + t.l.length ≤ came) ∧ Hid (At w g g t i wr)) (fun _ _ ir _ => n - (intOf ir).toNat)
      case atStart => exact ⟨0, 0, 0, newDk N S, Nat.zero_le _, rfl, rfl, rfl, Nat.le_refl _, Lib.hid (Nat.le_refl _), HA1⟩
      case round =>
        clear HA1
        obtain ⟨i, came, told, t, hi, rfl, rfl, rfl, hci, HTC, HA⟩ := hrel
        by_cases hlt : i < n
        · skip
          obtain ⟨o, ho⟩ : ∃ o, os[i]? = some o := ⟨_, List.getElem?_eq_getElem (by have := HH.out.len; omega)⟩
          obtain ⟨b, off, rfl, hbb, hcc⟩ := HH.out.at_ (by omega)
          have hce := fun j u (hu : (O25.lay.cells o)[j]? = some u) => (HA.out.bel.cell (p := ⟨b, off + (i * 9 + j), none⟩) hbb).trans (hcc i o ho j u hu)
          have hrd : o.Reads w := HH.out.reads o (List.mem_of_getElem? ho)
          obtain ⟨v, hv⟩ := HA.out.desk
          obtain ⟨kd, cl, rq, x, fr, ct, nd, mL, mB⟩ := o
          have k0 := hce 0 _ rfl
          have k1 := hce 1 _ rfl
          have k2 := hce 2 _ rfl
          have k3 := hce 3 _ rfl
          have k4 := hce 4 _ rfl
          have k5 := hce 5 _ rfl
          have k6 := hce 6 _ rfl
          have k7 := hce 7 _ rfl
          have k8 := hce 8 _ rfl
          unfold O25.lay O25.cells at k0 k1 k2 k3 k4 k5 k6 k7 k8
          try dsimp only at k0 k1 k2 k3 k4 k5 k6 k7 k8
          simp only [← Nat.add_assoc, Nat.add_zero] at k0 k1 k2 k3 k4 k5 k6 k7 k8
          obtain ⟨hx1, hx2, hx3⟩ := hrd
          dsimp only at hx1 hx2 hx3
          obtain ⟨X, hX, hz, r0, hbX⟩ := Qu.boxes1 wr #[.int .i64 kd, .int .u64 (cl : Int), .int .u64 (rq : Int), .int .u64 (x : Int), .int .u32 (fr : Int), .int .u32 (ct : Int), .int .i64 nd, .int .u64 (mL : Int), .int .u64 (mB : Int)] 36
          have hvX := hv.below hbX
          have HVX := Lib.hid hvX
          have HLX := Lib.hid (dlen_any hvX)
          have HAX := Lib.hid (HA.out.below hbX)
          have HFT := Lib.hid (fun j (hj : Foot g v j) => (hv.foot hj).2)
          have HR0 := Lib.hid r0
          have HX := Lib.hid hX
          have hroom := hv.ok.room
          have hri : (t.l.length : Int) ≤ 64 := by omega
          have hcame : (came : Int) ≤ 200 := by have := HB.out; omega
          have htold : (told : Int) ≤ 200 := by have := HTC.out; omega
          have hlti : (i : Int) < (n : Int) := by omega
          have hii : (i : Int) ≤ 200 := by have := HB.out; omega
          have HLT := Lib.hid hlt
          have HRD := Lib.hid (show t.round < 1000000 by have := HA.out.round; have := HB.out; omega)
          have HBX := Lib.hid (show g ≤ X.heap.size from Nat.le_trans HA.out.bl hbX.size)
          have q0 := cell_of_row X _ 0 _ _ _ r0
          have q1 := cell_of_row X _ 1 _ _ _ r0
          have q2 := cell_of_row X _ 2 _ _ _ r0
          have q3 := cell_of_row X _ 3 _ _ _ r0
          have q4 := cell_of_row X _ 4 _ _ _ r0
          have q5 := cell_of_row X _ 5 _ _ _ r0
          have q6 := cell_of_row X _ 6 _ _ _ r0
          have q7 := cell_of_row X _ 7 _ _ _ r0
          have q8 := cell_of_row X _ 8 _ _ _ r0
          clear hce hv hvX hbX r0 hz hcc ho hlt hX hroom
          go_wp2_with (fail)
          rw [← HX.out]
          refine HLX.out.mono ?_
          rintro e w2 ⟨rfl, rfl⟩
          by_cases y0 : kd = 0
          · subst y0
            go_wp2_with (first
              | (go_at_call 17; refine (write_any HVX.out HBX.out cl rq x hx1).mono ?_; rintro e w3 ⟨rfl, hm⟩
                 obtain ⟨t2, ht2⟩ : ∃ t2, t2 = t.write cl rq x := ⟨_, rfl⟩
                 rw [← ht2] at hm
                 have ha3 := HAX.out.next HVX.out hm (by rw [ht2]; exact (write_uq HAX.out.uq cl rq x)) (k' := i + 1) (by rw [ht2]; exact (by rw [write_round]; exact Nat.le_succ_of_le HAX.out.round))
                 have HA3 := Lib.hid ha3
                 have HT2 := Lib.hid ht2
                 skip
                 obtain ⟨v3, hv3, kk3, _⟩ := hm
                 have HL3 := Lib.hid (dlen_any hv3)
                 have z0 := keeps_cell kk3 q0 (fun hj => Nat.lt_irrefl _ (HFT.out _ hj))
                 have hlen := write_len t cl rq x
                 rw [← ht2] at hlen
                 have hroom3 := hv3.ok.room
                 clear ht2 hv3 kk3 ha3)
              | fail)
            refine HL3.out.mono ?_
            rintro e w4 ⟨rfl, rfl⟩
            obtain ⟨kk, hk1, hk2, hk3⟩ : ∃ kk : Nat, max ((t2.l.length : Int) - (t.l.length : Int)) 0 = (kk : Int) ∧ kk ≤ 1 ∧ t2.l.length ≤ t.l.length + kk := ⟨(max ((t2.l.length : Int) - (t.l.length : Int)) 0).toNat, by omega, by omega, by omega⟩
            have f1 : ¬ (t.l.length : Int) + 1 < (t2.l.length : Int) := by omega
            have f2 : ¬ (t2.l.length : Int) < (t.l.length : Int) - 1 := by omega
            have f3 : decide ((t.l.length : Int) + 1 < (t2.l.length : Int)) = false := by simpa using f1
            have f4 : decide ((t2.l.length : Int) < (t.l.length : Int) - 1) = false := by simpa using f2
            have HK1 := Lib.hid hk1
            have hkk : (kk : Int) ≤ 1 := by omega
            have HK3 := Lib.hid hk3
            have HK2 := Lib.hid hk2
            have hl2i : (t2.l.length : Int) ≤ 64 := by omega
            clear hk1 hk2 hk3 hroom3
            go_wp2_with (fail)
            have hlt2 := HLT.out
            have hk1 := HK1.out
            have hk2 := HK2.out
            have hk3 := HK3.out
            have htc := HTC.out
            refine ⟨⟨i + 1, came + kk, told + 0, t2, by omega, by rw [hk1]; go_num, by go_num, by go_num, by omega, Lib.hid (by omega), HA3.out⟩, by simp [intOf]; omega⟩
          · skip
            by_cases y1 : kd = 1
            · subst y1
              go_wp2_with (first
                | (go_at_call 18; refine (read_any HVX.out HBX.out cl rq fr ct HRD.out).mono ?_; rintro e w3 ⟨rfl, hm⟩
                   obtain ⟨t2, ht2⟩ : ∃ t2, t2 = t.read cl rq fr ct := ⟨_, rfl⟩
                   rw [← ht2] at hm
                   have ha3 := HAX.out.next HVX.out hm (by rw [ht2]; exact (read_uq HAX.out.uq cl rq fr ct)) (k' := i + 1) (by rw [ht2]; exact (Nat.le_trans (read_round t cl rq fr ct).2 (Nat.succ_le_succ HAX.out.round)))
                   have HA3 := Lib.hid ha3
                   have HT2 := Lib.hid ht2
                   skip
                   obtain ⟨v3, hv3, kk3, _⟩ := hm
                   have HL3 := Lib.hid (dlen_any hv3)
                   have z0 := keeps_cell kk3 q0 (fun hj => Nat.lt_irrefl _ (HFT.out _ hj))
                   have hlen := read_len HAX.out.uq cl rq fr ct
                   rw [← ht2] at hlen
                   have hroom3 := hv3.ok.room
                   clear ht2 hv3 kk3 ha3)
                | fail)
              refine HL3.out.mono ?_
              rintro e w4 ⟨rfl, rfl⟩
              obtain ⟨kk, hk1, hk2, hk3⟩ : ∃ kk : Nat, max ((t2.l.length : Int) - (t.l.length : Int)) 0 = (kk : Int) ∧ kk ≤ 1 ∧ t2.l.length ≤ t.l.length + kk := ⟨(max ((t2.l.length : Int) - (t.l.length : Int)) 0).toNat, by omega, by omega, by omega⟩
              have f1 : ¬ (t.l.length : Int) + 1 < (t2.l.length : Int) := by omega
              have f2 : ¬ (t2.l.length : Int) < (t.l.length : Int) - 1 := by omega
              have f3 : decide ((t.l.length : Int) + 1 < (t2.l.length : Int)) = false := by simpa using f1
              have f4 : decide ((t2.l.length : Int) < (t.l.length : Int) - 1) = false := by simpa using f2
              have HK1 := Lib.hid hk1
              have hkk : (kk : Int) ≤ 1 := by omega
              have HK3 := Lib.hid hk3
              have HK2 := Lib.hid hk2
              have hl2i : (t2.l.length : Int) ≤ 64 := by omega
              clear hk1 hk2 hk3 hroom3
              go_wp2_with (fail)
              have hlt2 := HLT.out
              have hk1 := HK1.out
              have hk2 := HK2.out
              have hk3 := HK3.out
              have htc := HTC.out
              refine ⟨⟨i + 1, came + kk, told + 0, t2, by omega, by rw [hk1]; go_num, by go_num, by go_num, by omega, Lib.hid (by omega), HA3.out⟩, by simp [intOf]; omega⟩
            · skip
              by_cases y2 : kd = 2
              · subst y2
                go_wp2_with (first
                  | (go_at_call 19; refine (begin_any HVX.out HRD.out).mono ?_; rintro e w3 ⟨rfl, hd3, hk3⟩
                     have hm : Mv X g g v (t.turn (t.round + 1)) w3 := ⟨v, hd3, hk3.wide (fun i hi => .inl hi), .inl rfl⟩
                     obtain ⟨t2, ht2⟩ : ∃ t2, t2 = t.turn (t.round + 1) := ⟨_, rfl⟩
                     rw [← ht2] at hm
                     have ha3 := HAX.out.next HVX.out hm (by rw [ht2]; exact HAX.out.uq) (k' := i + 1) (by rw [ht2]; exact (Nat.succ_le_succ HAX.out.round))
                     have HA3 := Lib.hid ha3
                     have HT2 := Lib.hid ht2
                     skip
                     obtain ⟨v3, hv3, kk3, _⟩ := hm
                     have HL3 := Lib.hid (dlen_any hv3)
                     have z0 := keeps_cell kk3 q0 (fun hj => Nat.lt_irrefl _ (HFT.out _ hj))
                     have hlen : t2.l.length = t.l.length := by rw [ht2]; rfl
                     have hroom3 := hv3.ok.room
                     clear ht2 hv3 kk3 ha3)
                  | fail)
                refine HL3.out.mono ?_
                rintro e w4 ⟨rfl, rfl⟩
                rw [hlen]
                obtain ⟨kk, hk1, hk2, hk3⟩ : ∃ kk : Nat, max ((t.l.length : Int) - (t.l.length : Int)) 0 = (kk : Int) ∧ kk = 0 ∧ t2.l.length ≤ t.l.length + kk := ⟨0, by omega, rfl, by omega⟩
                have HK1 := Lib.hid hk1
                have hkk : (kk : Int) ≤ 1 := by omega
                have HK3 := Lib.hid hk3
                have HK2 := Lib.hid hk2
                have hl2i : (t2.l.length : Int) ≤ 64 := by omega
                clear hk1 hk2 hk3 hroom3
                go_wp2_with (fail)
                have hlt2 := HLT.out
                have hk1 := HK1.out
                have hk2 := HK2.out
                have hk3 := HK3.out
                have htc := HTC.out
                refine ⟨⟨i + 1, came + kk, told + 0, t2, by omega, by rw [hk2]; go_num, by go_num, by go_num, by omega, Lib.hid (by omega), HA3.out⟩, by simp [intOf]; omega⟩
              · skip
                by_cases y3 : kd = 3
                · subst y3
                  go_wp2_with (first
                    | (go_at_call 20; refine (heard_any HVX.out HBX.out nd x).mono ?_; rintro e w3 ⟨A3, c3, rfl, ho3, hm⟩
                       obtain ⟨t2, ht2⟩ : ∃ t2, t2 = (t.hearN nd x).wait ((t.hearN nd x).l.filter fun y => !y.upto (t.hearN nd x).sure) := ⟨_, rfl⟩
                       rw [← ht2] at hm
                       have ha3 := HAX.out.next HVX.out hm (by rw [ht2]; exact ((show Uq (t.hearN nd x).l by rw [(hearN_l t nd x).1]; exact HAX.out.uq).filter _)) (k' := i + 1) (by rw [ht2]; exact (by show (t.hearN nd x).round ≤ i + 1; rw [(hearN_l t nd x).2.1]; exact Nat.le_succ_of_le HAX.out.round))
                       have HA3 := Lib.hid ha3
                       have HT2 := Lib.hid ht2
                       skip
                       obtain ⟨v3, hv3, kk3, _⟩ := hm
                       have HL3 := Lib.hid (dlen_any hv3)
                       have z0 := keeps_cell kk3 q0 (fun hj => Nat.lt_irrefl _ (HFT.out _ hj))
                       have hlen := part_len (t.hearN nd x).l (Wt.upto (t.hearN nd x).sure)
                       rw [(hearN_l t nd x).1] at hlen
                       have hl2 : t2.l.length = ((t.hearN nd x).l.filter fun y => !y.upto (t.hearN nd x).sure).length := by rw [ht2]; rfl
                       rw [(hearN_l t nd x).1] at hl2
                       obtain ⟨m, hm3⟩ : ∃ m, m = ((t.hearN nd x).l.filter (Wt.upto (t.hearN nd x).sure)).length := ⟨_, rfl⟩
                       rw [← hm3]
                       rw [(hearN_l t nd x).1] at hm3
                       rw [← hm3, ← hl2] at hlen
                       obtain ⟨l2, hl3⟩ : ∃ l2, l2 = t2.l.length := ⟨_, rfl⟩
                       have HLL := Lib.hid hlen
                       clear hm3 hl2 ho3
                       have hroom3 := hv3.ok.room
                       clear ht2 hv3 kk3 ha3)
                    | fail)
                  refine HL3.out.mono ?_
                  rintro e w4 ⟨rfl, rfl⟩
                  have hm64 : (m : Int) ≤ 64 := by omega
                  obtain ⟨kk, hk1, hk2, hk3⟩ : ∃ kk : Nat, max ((t2.l.length : Int) - (t.l.length : Int)) 0 = (kk : Int) ∧ kk = 0 ∧ t2.l.length + m ≤ t.l.length + kk := ⟨0, by omega, rfl, by omega⟩
                  have f1 : (t.l.length : Int) - (m : Int) = (t2.l.length : Int) := by omega
                  have HK1 := Lib.hid hk1
                  have hkk : (kk : Int) ≤ 1 := by omega
                  have HK3 := Lib.hid hk3
                  have HK2 := Lib.hid hk2
                  have hl2i : (t2.l.length : Int) ≤ 64 := by omega
                  clear hk1 hk2 hk3 hroom3
                  go_wp2_with (fail)
                  have hlt2 := HLT.out
                  have hk1 := HK1.out
                  have hk2 := HK2.out
                  have hk3 := HK3.out
                  have htc := HTC.out
                  refine ⟨⟨i + 1, came + kk, told + m, t2, by omega, by rw [hk1]; go_num, by go_num, by go_num, by omega, Lib.hid (by omega), HA3.out⟩, by simp [intOf]; omega⟩
                · skip
                  by_cases y4 : 3 < kd
                  · have u4 : decide (1 < kd) = true := by simp; omega
                    have u4b : 1 < kd := by omega
                    have e0 : decide (kd = 0) = false := by simp; omega
                    have e1 : decide (kd = 1) = false := by simp; omega
                    have e2 : decide (kd = 2) = false := by simp; omega
                    have e3 : decide (kd = 3) = false := by simp; omega
                    go_wp2_with (first
                      | (go_at_call 21; refine (applied_any HVX.out HBX.out mL mB hx2 hx3).mono ?_; rintro e w3 ⟨A3, c3, rfl, ho3, hm⟩
                         obtain ⟨t2, ht2⟩ : ∃ t2, t2 = t.wait (t.l.filter fun y => !y.done mL mB) := ⟨_, rfl⟩
                         rw [← ht2] at hm
                         have ha3 := HAX.out.next HVX.out hm (by rw [ht2]; exact (HAX.out.uq.filter _)) (k' := i + 1) (by rw [ht2]; exact (Nat.le_succ_of_le HAX.out.round))
                         have HA3 := Lib.hid ha3
                         have HT2 := Lib.hid ht2
                         skip
                         obtain ⟨v3, hv3, kk3, _⟩ := hm
                         have HL3 := Lib.hid (dlen_any hv3)
                         have z0 := keeps_cell kk3 q0 (fun hj => Nat.lt_irrefl _ (HFT.out _ hj))
                         have hlen := part_len t.l (Wt.done mL mB)
                         have hl2 : t2.l.length = (t.l.filter fun y => !y.done mL mB).length := by rw [ht2]; rfl
                         obtain ⟨m, hm3⟩ : ∃ m, m = (t.l.filter (Wt.done mL mB)).length := ⟨_, rfl⟩
                         rw [← hm3]
                         rw [← hm3, ← hl2] at hlen
                         obtain ⟨l2, hl3⟩ : ∃ l2, l2 = t2.l.length := ⟨_, rfl⟩
                         have HLL := Lib.hid hlen
                         clear hm3 hl2 ho3
                         have hroom3 := hv3.ok.room
                         clear ht2 hv3 kk3 ha3)
                      | fail)
                    refine HL3.out.mono ?_
                    rintro e w4 ⟨rfl, rfl⟩
                    have hm64 : (m : Int) ≤ 64 := by omega
                    obtain ⟨kk, hk1, hk2, hk3⟩ : ∃ kk : Nat, max ((t2.l.length : Int) - (t.l.length : Int)) 0 = (kk : Int) ∧ kk = 0 ∧ t2.l.length + m ≤ t.l.length + kk := ⟨0, by omega, rfl, by omega⟩
                    have f1 : (t.l.length : Int) - (m : Int) = (t2.l.length : Int) := by omega
                    have HK1 := Lib.hid hk1
                    have hkk : (kk : Int) ≤ 1 := by omega
                    have HK3 := Lib.hid hk3
                    have HK2 := Lib.hid hk2
                    have hl2i : (t2.l.length : Int) ≤ 64 := by omega
                    clear hk1 hk2 hk3 hroom3
                    go_wp2_with (fail)
                    have hlt2 := HLT.out
                    have hk1 := HK1.out
                    have hk2 := HK2.out
                    have hk3 := HK3.out
                    have htc := HTC.out
                    refine ⟨⟨i + 1, came + kk, told + m, t2, by omega, by rw [hk1]; go_num, by go_num, by go_num, by omega, Lib.hid (by omega), HA3.out⟩, by simp [intOf]; omega⟩
                  · skip
                    have u5 : kd < 0 := by omega
                    have u5b : decide (kd < 0) = true := by simp; omega
                    have u5c : decide (1 < kd) = false := by simp; omega
                    have u5d : ¬ 1 < kd := by omega
                    have e0 : decide (kd = 0) = false := by simp; omega
                    have e1 : decide (kd = 1) = false := by simp; omega
                    have e2 : decide (kd = 2) = false := by simp; omega
                    have e3 : decide (kd = 3) = false := by simp; omega
                    go_wp2_with (first
                      | (go_at_call 21; refine (applied_any HVX.out HBX.out mL mB hx2 hx3).mono ?_; rintro e w3 ⟨A3, c3, rfl, ho3, hm⟩
                         obtain ⟨t2, ht2⟩ : ∃ t2, t2 = t.wait (t.l.filter fun y => !y.done mL mB) := ⟨_, rfl⟩
                         rw [← ht2] at hm
                         have ha3 := HAX.out.next HVX.out hm (by rw [ht2]; exact (HAX.out.uq.filter _)) (k' := i + 1) (by rw [ht2]; exact (Nat.le_succ_of_le HAX.out.round))
                         have HA3 := Lib.hid ha3
                         have HT2 := Lib.hid ht2
                         skip
                         obtain ⟨v3, hv3, kk3, _⟩ := hm
                         have HL3 := Lib.hid (dlen_any hv3)
                         have z0 := keeps_cell kk3 q0 (fun hj => Nat.lt_irrefl _ (HFT.out _ hj))
                         have hlen := part_len t.l (Wt.done mL mB)
                         have hl2 : t2.l.length = (t.l.filter fun y => !y.done mL mB).length := by rw [ht2]; rfl
                         obtain ⟨m, hm3⟩ : ∃ m, m = (t.l.filter (Wt.done mL mB)).length := ⟨_, rfl⟩
                         rw [← hm3]
                         rw [← hm3, ← hl2] at hlen
                         obtain ⟨l2, hl3⟩ : ∃ l2, l2 = t2.l.length := ⟨_, rfl⟩
                         have HLL := Lib.hid hlen
                         clear hm3 hl2 ho3
                         have hroom3 := hv3.ok.room
                         clear ht2 hv3 kk3 ha3)
                      | fail)
                    refine HL3.out.mono ?_
                    rintro e w4 ⟨rfl, rfl⟩
                    have hm64 : (m : Int) ≤ 64 := by omega
                    obtain ⟨kk, hk1, hk2, hk3⟩ : ∃ kk : Nat, max ((t2.l.length : Int) - (t.l.length : Int)) 0 = (kk : Int) ∧ kk = 0 ∧ t2.l.length + m ≤ t.l.length + kk := ⟨0, by omega, rfl, by omega⟩
                    have f1 : (t.l.length : Int) - (m : Int) = (t2.l.length : Int) := by omega
                    have HK1 := Lib.hid hk1
                    have hkk : (kk : Int) ≤ 1 := by omega
                    have HK3 := Lib.hid hk3
                    have HK2 := Lib.hid hk2
                    have hl2i : (t2.l.length : Int) ≤ 64 := by omega
                    clear hk1 hk2 hk3 hroom3
                    go_wp2_with (fail)
                    have hlt2 := HLT.out
                    have hk1 := HK1.out
                    have hk2 := HK2.out
                    have hk3 := HK3.out
                    have htc := HTC.out
                    refine ⟨⟨i + 1, came + kk, told + m, t2, by omega, by rw [hk1]; go_num, by go_num, by go_num, by omega, Lib.hid (by omega), HA3.out⟩, by simp [intOf]; omega⟩
        · obtain rfl : i = n := by omega
          have d3 : decide ((i : Int) < (i : Int)) = false := by simp
          obtain ⟨v, hv⟩ := HA.out.desk
          have HLE := Lib.hid (dlen_any hv)
          have hroom := hv.ok.room
          have htc := HTC.out
          have e1 : (told : Int) ≤ (came : Int) := by omega
          have e2 : decide ((told : Int) ≤ (came : Int)) = true := by simp; omega
          have e3 : decide ((t.l.length : Int) ≤ 64) = true := by simp; omega
          have e4 : (t.l.length : Int) ≤ 64 := by omega
          clear hv hlt hroom htc
          go_wp2_with (first
            | (go_at_call 13; refine HLE.out.mono ?_; rintro e w2 ⟨rfl, rfl⟩)
            | (go_at_call 7; refine (HL.out _).mono ?_; rintro e w3 ⟨rfl, hb3⟩)
            | fail)
          go_ret
          exact ⟨rfl, HA.out.bel.trans (hb3.mono HA.out.bel.size)⟩
namespace deskOnce
open Go.ChangeShapes Go.WideShapes Go.ChangeAt
set_option maxRecDepth 100000 in
theorem lifted (os : Os) (started : os.Started) (H : Type) (enc : TypeId × Value → H) :
    ReturnsInHanded {} Try.checked os 4 .any (Rows.deskOnceSpec.pre6 enc Try.prog Try.f4 Rows.deskOnceRow.domain false) (Rows.deskOnceSpec.post enc Try.prog Try.f4 false true false false) := by
  refine returnsInHanded_of_change (C := Try.checked) own started (by kernel_rfl) Try.func4
    (ChangeSpec.witness6 (enc := enc) (C := Try.checked) false ⟨#[], #[.int .i64 0, .int .i64 0, .slice none 0 0], []⟩ 8 (by kernel_rfl) (by kernel_rfl) (by kernel_rfl) (by kernel_rfl)) ?_
  intro W base args ds gs before hval0 hW _ _
  have hval : ∀ (j : Nat) t v, Try.f4.params[j]? = some t → args[j]? = some v → Value.okWide Try.prog W .any base t v := hval0
  have hW' := hW
  obtain ⟨p, q, hA0, hV, rfl, hfz, hnd⟩ := hW
  have hA : DataW.TrodAll enc Try.prog W 0 (fun _ => true) true Try.f4.params.toList args.toList ds p := hA0
  rw [Try.params4] at hA hval
  obtain ⟨v0, vs0, d0, ds0, p0, q0, hargs, rfl, rfl, h0, r0⟩ := trodAll_cons hA
  obtain ⟨v1, vs1, d1, ds1, p1, q1, rfl, rfl, rfl, h1, r1⟩ := trodAll_cons r0
  obtain ⟨v2, vs2, d2, ds2, p2, q2, rfl, rfl, rfl, h2, r2⟩ := trodAll_cons r1
  obtain ⟨rfl, rfl, rfl⟩ := trodAll_nil r2
  obtain rfl : args = #[v0, v1, v2] := by cases args; simp_all
  obtain ⟨rfl, rfl⟩ := trodVars_none hV
  have k0 := h0
  have lt0 : ∀ x ∈ p0, x.block < W.heap.size := by obtain ⟨m, hm⟩ := k0; exact DataW.trod_lt m _ _ _ hm
  obtain ⟨x0, rfl, w0⟩ := dec_int Try.underlying3 (hval 0 3 v0 rfl rfl) h0
  have k1 := h1
  have lt1 : ∀ x ∈ p1, x.block < W.heap.size := by obtain ⟨m, hm⟩ := k1; exact DataW.trod_lt m _ _ _ hm
  obtain ⟨x1, rfl, w1⟩ := dec_int Try.underlying3 (hval 1 3 v1 rfl rfl) h1
  have k2 := h2
  have lt2 : ∀ x ∈ p2, x.block < W.heap.size := by obtain ⟨m, hm⟩ := k2; exact DataW.trod_lt m _ _ _ hm
  obtain ⟨a2, n2, c2, l2, rfl, w2⟩ := O25.dec (hval 2 22 v2 rfl rfl) h2
  clear hA0 hval0
  refine (deskOnce_walk x0 w0 x1 w1 w2).mono fun e W' ⟨he, bel⟩ => ?_
  subst he
  exact ⟨_, rfl, _, _, _, [], _, [], hW', trodAll_mk1 (shut_bool Try.underlying4 _), (trodAll_cons_mk (Below.trod laidOut (by kernel_rfl) (of_decide_eq_true (by kernel_rfl)) k0 bel lt0) (trodAll_cons_mk (Below.trod laidOut (by kernel_rfl) (of_decide_eq_true (by kernel_rfl)) k1 bel lt1) (trodAll_cons_mk (Below.trod laidOut (by kernel_rfl) (of_decide_eq_true (by kernel_rfl)) k2 bel lt2) trodAll_mk0))), rfl, bel.frame _, fun h => by cases h⟩

theorem over : Rows.deskOnceRow.holds Try.pinned (OpenSpec.ofChange Rows.deskOnceSpec) :=
  OpenClaim.holds_of_wide 4 Try.f4 rfl rfl rfl rfl rfl rfl rfl ⟨rfl, rfl, rfl, rfl, rfl⟩ rfl rfl rfl rfl rfl (by kernel_rfl) Try.func4 (by kernel_rfl)
    (of_decide_eq_true (by kernel_rfl)) (by unfold Func.isWrapper; first | (rw [if_pos (by decide +kernel)]; kernel_rfl) | (rw [if_neg (by decide +kernel)]; exact ⟨rfl, rfl⟩))
    (fun os started H enc _ => lifted os started H enc)
/-- The given statement. -/
theorem proved : Rows.DeskOnceSaid := over
end deskOnce

end Go.Proofs.Ytkcpldkdnnhmmaa
