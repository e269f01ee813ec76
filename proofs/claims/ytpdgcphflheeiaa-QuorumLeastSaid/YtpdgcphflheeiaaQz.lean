/- slices.pdqsortOrdered, and slices.Sort: what is sorted is sorted. -/
import Derived.Test.YtpdgcphflheeiaaQg
import Derived.Test.YtpdgcphflheeiaaQr
import Derived.Sort.AssemblyPlain

namespace Go.Proofs.Ytpdgcphflheeiaa
open Go.RowKit
open Go.Sort (PermIn SortedIn swp permIn_trans permIn_refl insertionSort heapSort reverseRange partition partitionEqual partialInsertionSort)

theorem swoN : Go.Sort.SWO ltN := ⟨fun x => by unfold ltN; simp, fun x y z h1 h2 => by unfold ltN at *; simp at *; omega, fun x y z h1 h2 => by unfold ltN at *; simp at *; omega⟩
/-- What a sort of a range leaves. -/
def Pd (w : World) (g a b : Nat) (d : Array Nat) (e : Ending) (w' : World) : Prop := ∃ R, e = .returned (.tuple #[]) ∧ Arr w' g R ∧ PermIn a b d R ∧ SortedIn ltN a b R ∧ Trn w g w'
/-- What stands between two rounds: whoever sorts the range that is left has sorted all. -/
structure Gd1 (w : World) (g n a b : Nat) (d : Array Nat) (a1 b1 : Nat) (d1 : Array Nat) (wr : World) : Prop where
  arr : Arr wr g d1
  sz : d1.size = n
  trn : Trn w g wr
  bel : Go.Sort.Below ltN a1 b1 d1
  fin : ∀ R, PermIn a1 b1 d1 R → SortedIn ltN a1 b1 R → PermIn a b d R ∧ SortedIn ltN a b R
def Gq (w : World) (g n a b : Nat) (d : Array Nat) (a1 b1 : Nat) (wr : World) : Prop := ∃ d1, Gd1 w g n a b d a1 b1 d1 wr
section
variable {w wr w2 : World} {g n a b a1 b1 : Nat} {d d1 d2 : Array Nat}
theorem Gd1.perm (h : Gd1 w g n a b d a1 b1 d1 wr) (hb : b1 ≤ n) (hp : PermIn a1 b1 d1 d2) (ha : Arr w2 g d2) (ht : Trn wr g w2) : Gd1 w g n a b d a1 b1 d2 w2 :=
  ⟨ha, hp.1.trans h.sz, h.trn.trans ht, h.bel.perm (by rw [h.sz]; exact hb) hp, fun R hR hs => h.fin R (permIn_trans _ _ _ _ _ hp hR) hs⟩
theorem Gd1.below (h : Gd1 w g n a b d a1 b1 d1 wr) (hb : Below wr.heap.size wr w2) : Gd1 w g n a b d a1 b1 d1 w2 := ⟨h.arr.below hb, h.sz, h.trn.below hb, h.bel, h.fin⟩
theorem Gd1.drewN (h : Gd1 w g n a b d a1 b1 d1 wr) (m : Nat) : Gd1 w g n a b d a1 b1 d1 (wr.drewN m) := ⟨h.arr.drewN m, h.sz, h.trn.drewN m, h.bel, h.fin⟩
theorem Gd1.done (h : Gd1 w g n a b d a1 b1 d1 wr) (hp : PermIn a1 b1 d1 d2) (hs : SortedIn ltN a1 b1 d2) (ha : Arr w2 g d2) (ht : Trn wr g w2) : Pd w g a b d (.returned (.tuple #[])) w2 :=
  ⟨d2, rfl, ha, (h.fin d2 hp hs).1, (h.fin d2 hp hs).2, h.trn.trans ht⟩
end
set_option maxHeartbeats 16000000 in
set_option maxRecDepth 100000 in
theorem pdq_any {g n c : Nat} (hn : n ≤ 199) (m : Nat) : ∀ (w : World) (d : Array Nat) (a b l : Nat), b - a ≤ m → a ≤ b → b ≤ n → l ≤ 8 → Arr w g d → d.size = n → Go.Sort.Below ltN a b d →
    Calls Try.prog 30 #[.slice (some ⟨g, 0, none⟩) n c, .int .i64 (a : Int), .int .i64 (b : Int), .int .i64 (l : Int)] w (Pd w g a b d) := by
  induction m using Nat.strongRecOn with
  | ind m ih =>
  intro w d a b l hm hab hb hl h hd hB
  have IH := Lib.hid ih
  have H0 : Hid (Gq w g n a b d a b w) := Lib.hid ⟨d, h, hd, Trn.refl w g, hB, fun R h1 h2 => ⟨h1, h2⟩⟩
  have HD := Lib.hid hd
  clear h hd hB ih
  go_enter Try.func30, Try.ntmps30
  go_wp2_with (fail)
  go_loopw [1, 2, 3, 8, 9] (fun ar br lr xr yr wr => ∃ (a1 b1 l1 : Nat) (wb wp : Bool), a ≤ a1 ∧ a1 ≤ b1 ∧ b1 ≤ b ∧ l1 ≤ 8 ∧ ar = .int .i64 (a1 : Int) ∧ br = .int .i64 (b1 : Int) ∧ lr = .int .i64 (l1 : Int) ∧ xr = .bool wb ∧ yr = .bool wp ∧ Hid (Gq w g n a b d a1 b1 wr)) (fun ar br _ _ _ _ => (intOf br - intOf ar).toNat)
  case atStart => exact ⟨a, b, l, true, true, Nat.le_refl _, hab, Nat.le_refl _, hl, rfl, rfl, rfl, rfl, rfl, H0⟩
  case round =>
    clear H0 hl
    obtain ⟨a1, b1, l1, wb, wp, ha1, hab1, hb1, hl1, rfl, rfl, rfl, rfl, rfl, HQ⟩ := hrel
    obtain ⟨d1, hg1⟩ := HQ.out
    have i1 : (a1 : Int) ≤ (b1 : Int) := by omega
    have i2 : (b1 : Int) ≤ 199 := by omega
    have i3 : (l1 : Int) ≤ 8 := by omega
    clear HQ
    by_cases h12 : b1 - a1 ≤ 12
    · have t1 : decide ((b1 : Int) - (a1 : Int) ≤ 12) = true := decide_eq_true (by omega)
      have t2 : (b1 : Int) - (a1 : Int) ≤ 12 := by omega
      have HI := Lib.hid (ins_any (c := c) a1 b1 hg1.arr hg1.sz hab1 (by omega) (by omega))
      have hs := Go.Sort.insertionSort_holds (lt := ltN) swoN d1 a1 b1 hab1 (by rw [hg1.sz]; omega)
      have HG := Lib.hid hg1
      have HS := Lib.hid hs
      clear hg1 hs h12
      generalize insertionSort ltN d1 a1 b1 = d2 at *
      go_wp2_with (first
        | (go_at_call 34; (with_reducible refine HI.out.mono ?_); rintro e w5 ⟨rfl, ha5, ht5⟩)
        | fail)
      (try simp only [Exit.inBlock, Exit.then])
      refine bodyPost_ret (results_none rfl _ _ _) rfl ?_
      exact HG.out.done HS.out.1 HS.out.2 ha5 ht5
    · have t1 : decide ((b1 : Int) - (a1 : Int) ≤ 12) = false := decide_eq_false (by omega)
      have t2 : ¬ (b1 : Int) - (a1 : Int) ≤ 12 := by omega
      have h13 : a1 + 12 < b1 := by omega
      by_cases hl0 : l1 = 0
      · subst hl0
        have HI := Lib.hid (heap_any (c := c) a1 b1 hg1.arr hg1.sz (by omega) (by omega) (by omega))
        have hs := Go.Sort.heapSort_holds (lt := ltN) swoN d1 a1 b1 hab1 (by rw [hg1.sz]; omega)
        have HG := Lib.hid hg1
        have HS := Lib.hid hs
        clear hg1 hs h12
        generalize heapSort ltN d1 a1 b1 = d2 at *
        go_wp2_with (first
          | (go_at_call 35; (with_reducible refine HI.out.mono ?_); rintro e w5 ⟨rfl, ha5, ht5⟩)
          | fail)
        (try simp only [Exit.inBlock, Exit.then])
        refine bodyPost_ret (results_none rfl _ _ _) rfl ?_
        exact HG.out.done HS.out.1 HS.out.2 ha5 ht5
      · have z1 : ((l1 : Int) == 0) = false := by simp; omega
        have z2 : ¬ l1 = 0 := hl0
        have z3 : ¬ (l1 : Int) = 0 := by omega
        have i4 : (1 : Int) ≤ (l1 : Int) := by omega
        have HG1 := Lib.hid hg1
        clear hg1 h12 hl0
        go_upto_if 35 with (fail)
        go_cut [3, 8, 34, 35] from 36 to 41 (fun lr br cr dr wq => ∃ l2 : Nat, l2 ≤ 8 ∧ lr = .int .i64 (l2 : Int) ∧ br = .bool wb ∧ Hid (Gq w g n a b d a1 b1 wq))
        case first =>
          have HBK := Lib.hid (break_any (c := c) a1 b1 HG1.out.arr HG1.out.sz (by omega) hn h13)
          cases wb with
          | true =>
            go_wp2_with (fail)
            go_meet
            case rel => exact ⟨l1, hl1, rfl, rfl, Lib.hid ⟨d1, HG1.out⟩⟩
          | false =>
            go_wp2_with (first
              | (go_at_call 36; (with_reducible refine HBK.out.mono ?_); rintro e w5 ⟨d2, rfl, ha5, hp5, ht5⟩; have HN := Lib.hid (show Gq w g n a b d a1 b1 w5 from ⟨d2, HG1.out.perm (by omega) hp5 ha5 ht5⟩); clear ha5 hp5 ht5)
              | fail)
            go_meet
            case rel => exact ⟨l1 - 1, by omega, by congr 1; omega, rfl, HN⟩
        case rest =>
          obtain ⟨l2, hl2, rfl, rfl, HQ2⟩ := hcut
          clear HG1 z1 z2 z3 i4 i3 hl1
          obtain ⟨d2, hg2⟩ := HQ2.out
          have HCH := Lib.hid (choose_any (c := c) a1 b1 hg2.arr hg2.sz (by omega) (by omega) h13)
          have HG2 := Lib.hid hg2
          clear hg2 HQ2
          go_upto_if 50 with (first
            | (go_at_call 37; (with_reducible refine HCH.out.mono ?_); clear HCH; rintro e w6 ⟨pv, hh, rfl, hp1, hp2, hh3, hb6⟩; have HG3 := Lib.hid (HG2.out.below hb6); clear hb6 HG2)
            | fail)
          have p1 : (pv : Int) ≤ 199 := by omega
          go_cut [11, 12, 49, 50] from 51 to 60 (fun pr hr _ _ wq => ∃ (p2 : Nat) (h2 : Int), a1 + 1 ≤ p2 ∧ p2 + 1 < b1 ∧ pr = .int .i64 (p2 : Int) ∧ hr = .int .i64 h2 ∧ (h2 = 0 ∨ h2 = 1) ∧ Hid (Gq w g n a b d a1 b1 wq))
          case first =>
            rcases hh3 with rfl | rfl | rfl
            · go_wp2_with (fail)
              go_meet
              case rel => exact ⟨pv, 0, hp1, hp2, rfl, rfl, .inl rfl, Lib.hid ⟨d2, HG3.out⟩⟩
            · go_wp2_with (fail)
              go_meet
              case rel => exact ⟨pv, 1, hp1, hp2, rfl, rfl, .inr rfl, Lib.hid ⟨d2, HG3.out⟩⟩
            · have HRV := Lib.hid (rev_any (c := c) a1 b1 HG3.out.arr HG3.out.sz (by omega) (by omega) (by omega))
              have HRP := Lib.hid (Go.Sort.reverseRange_holds d2 a1 b1 (by omega) (by rw [HG3.out.sz]; omega))
              go_wp2_with (first
                | (go_at_call 38; (with_reducible refine HRV.out.mono ?_); rintro e w7 ⟨rfl, ha7, ht7⟩; have HN := Lib.hid (show Gq w g n a b d a1 b1 w7 from ⟨_, HG3.out.perm (by omega) HRP.out ha7 ht7⟩); clear ha7 ht7)
                | fail)
              go_meet
              case rel => exact ⟨b1 - 1 - (pv - a1), 1, by omega, by omega, by congr 1; omega, rfl, .inr rfl, HN⟩
          case rest =>
            obtain ⟨p2, h2, hp3, hp4, rfl, rfl, hh2, HQ3⟩ := hcut
            clear HG3 hp1 hp2 hh3 p1
            have p3 : (p2 : Int) ≤ 199 := by omega
            go_upto_region 15 with (fail)
            go_cut [8, 9, 12, 68] from 61 to 67 (fun br pr hr tr wq => ∃ (t : Bool) (h3 : Int), br = .bool wb ∧ pr = .bool wp ∧ hr = .int .i64 h3 ∧ tr = .bool t ∧ Hid (Gq w g n a b d a1 b1 wq))
            case first =>
              rcases hh2 with rfl | rfl <;> cases wb <;> cases wp
              all_goals
                go_wp2_with (fail)
                go_meet
                case rel => exact ⟨_, _, rfl, rfl, rfl, rfl, HQ3⟩
            case rest =>
              obtain ⟨t, h3, rfl, rfl, rfl, rfl, HQ4⟩ := hcut
              clear HQ3 hh2
              obtain ⟨d3, hg3⟩ := HQ4.out
              have HG4 := Lib.hid hg3
              clear hg3 HQ4
              go_upto_if 68 with (fail)
              go_cut [68] from 69 to 72 (fun _ wq => Hid (Gq w g n a b d a1 b1 wq))
              case first =>
                cases t with
                | false =>
                  go_wp2_with (fail)
                  go_meet
                  case rel => exact Lib.hid ⟨d3, HG4.out⟩
                | true =>
                  have HPI := Lib.hid (pins_any (c := c) a1 b1 HG4.out.arr HG4.out.sz (by omega) (by omega) (by omega))
                  have HPP := Lib.hid (Go.Sort.partialInsertionSort_holds (lt := ltN) swoN d3 a1 b1 (by omega) (by rw [HG4.out.sz]; omega) HG4.out.bel)
                  generalize partialInsertionSort ltN d3 a1 b1 = P at *
                  obtain ⟨d4, u⟩ := P
                  dsimp only at HPI HPP
                  cases u with
                  | true =>
                    go_wp2_with (first
                      | (go_at_call 39; (with_reducible refine HPI.out.mono ?_); rintro e w8 ⟨rfl, ha8, ht8⟩)
                      | fail)
                    (try simp only [Exit.inBlock, Exit.then])
                    refine bodyPost_ret (results_none rfl _ _ _) rfl ?_
                    exact HG4.out.done HPP.out.1 (by first | exact HPP.out.2 trivial | exact HPP.out.2 rfl) ha8 ht8
                  | false =>
                    go_wp2_with (first
                      | (go_at_call 39; (with_reducible refine HPI.out.mono ?_); rintro e w8 ⟨rfl, ha8, ht8⟩; have HN := Lib.hid (show Gq w g n a b d a1 b1 w8 from ⟨_, HG4.out.perm (by omega) HPP.out.1 ha8 ht8⟩); clear ha8 ht8)
                      | fail)
                    go_meet
                    case rel => exact HN
              case rest =>
                obtain ⟨d5, hg5⟩ := hcut.out
                clear hcut HG4
                have HG5 := Lib.hid hg5
                clear hg5
                go_upto_region 17 with (fail)
                go_cut [87] from 73 to 86 (fun tr wq => ∃ t : Bool, tr = .bool t ∧ Hid (Gd1 w g n a b d a1 b1 d5 wq) ∧ Hid (t = true → 0 < a1 ∧ ltN d5[a1 - 1]! d5[p2]! = false))
                case first =>
                  rcases Nat.eq_zero_or_pos a1 with h0 | h0
                  · subst h0
                    have q1 : decide ((0 : Int) < ((0 : Nat) : Int)) = false := by decide
                    go_quiet (fail)
                    go_wp2_with (fail)
                    go_meet
                    case rel => exact ⟨false, rfl, Lib.hid (HG5.out.drewN _), Lib.hid (fun h => by cases h)⟩
                  · obtain ⟨q, hqa⟩ : ∃ q, a1 = q + 1 := ⟨a1 - 1, by omega⟩
                    have hsz := HG5.out.sz
                    have c0 := HG5.out.arr.cell q (by omega)
                    have c1 := HG5.out.arr.cell p2 (by omega)
                    have q1 : decide ((0 : Int) < (a1 : Int)) = true := decide_eq_true (by omega)
                    have q2 : decide (0 < a1) = true := decide_eq_true h0
                    have q3 : (0 : Int) < (a1 : Int) := by omega
                    have q4 : (a1 : Int) - 1 = (q : Int) := by omega
                    have b3 : q < n := by omega
                    have b4 : (q : Int) < (n : Int) := by omega
                    have b5 : p2 < n := by omega
                    have b6 : (p2 : Int) < (n : Int) := by omega
                    have hq := fun W => qless d5[q]! d5[p2]! W
                    have q5 : a1 - 1 = q := by omega
                    have w1 : IntKind.i64.wrap ((a1 : Int) - 1) = (a1 : Int) - 1 := IntWalk.i64_in _ (by omega)
                    have HQ5 := Lib.hid q5
                    clear hsz q5 hqa
                    generalize hx : d5[q]! = x at *
                    generalize hy : d5[p2]! = y at *
                    cases hb : ltN x y with
                    | true =>
                      rw [hb] at hq
                      clear hb hx hy
                      go_quiet ((go_at_call 40; exact Calls.quiet_of_same (hq _)))
                      go_wp2_with (fail)
                      go_meet
                      case rel => exact ⟨false, rfl, Lib.hid (HG5.out.drewN _), Lib.hid (fun h => by cases h)⟩
                    | false =>
                      rw [hb] at hq
                      have HH0 := Lib.hid h0
                      have HBB := Lib.hid (show ltN d5[a1 - 1]! y = false by rw [HQ5.out, hx]; exact hb)
                      clear hb hx hy
                      go_quiet ((go_at_call 40; exact Calls.quiet_of_same (hq _)))
                      go_wp2_with (fail)
                      go_meet
                      case rel => exact ⟨true, rfl, Lib.hid (HG5.out.drewN _), Lib.hid (fun _ => ⟨HH0.out, HBB.out⟩)⟩
                case rest =>
                  obtain ⟨t, rfl, HG6, HT⟩ := hcut
                  clear HG5
                  cases t with
                  | true =>
                    obtain ⟨ha0, hnl⟩ := HT.out rfl
                    have HE := Lib.hid (eqlo_any (c := c) a1 b1 p2 HG6.out.arr HG6.out.sz (by omega) (by omega) (by omega) (by omega))
                    obtain ⟨PP, hPP⟩ : ∃ PP, partitionEqual ltN d5 a1 b1 p2 = PP := ⟨_, rfl⟩
                    have hr := Go.Sort.round_eq (lt := ltN) (mid := PP.1) (d4 := PP.2) swoN (Go.Sort.partitionEqual_holds ltN) ha0 (by omega : a1 ≤ p2) (by omega : p2 < b1) (by rw [HG6.out.sz]; omega) HG6.out.bel hnl hPP
                    rw [hPP] at HE
                    obtain ⟨r1, r2, r3, r4, r5⟩ := hr
                    have HN := Lib.hid (fun (w9 : World) (ha9 : Arr w9 g PP.2) (ht9 : Trn wc g w9) => show Gq w g n a b d PP.1 b1 w9 from ⟨PP.2, ha9, r3.trans HG6.out.sz, HG6.out.trn.trans ht9, r4, fun R h1 h2 => HG6.out.fin R (r5 R h1 h2).1 (r5 R h1 h2).2⟩)
                    clear hPP r3 r4 r5 hnl HT
                    generalize PP.1 = mid2 at *
                    generalize PP.2 = d7 at *
                    go_wp2_with (first
                      | (go_at_call 41; (with_reducible refine HE.out.mono ?_); rintro e w9 ⟨rfl, ha9, ht9⟩; have HN9 := Lib.hid (HN.out _ ha9 ht9); clear ha9 ht9)
                      | fail)
                    go_roundw
                    case rel => exact ⟨mid2, b1, l2, wb, wp, by omega, by omega, hb1, hl2, rfl, rfl, rfl, rfl, rfl, HN9⟩
                    case measure => simp [intOf]; omega
                  | false =>
                    have HE := Lib.hid (part_any (c := c) a1 b1 p2 HG6.out.arr HG6.out.sz (by omega) (by omega) (by omega) (by omega))
                    obtain ⟨PP, hPP⟩ : ∃ PP, partition ltN d5 a1 b1 p2 = PP := ⟨_, rfl⟩
                    have hr := Go.Sort.round_part (lt := ltN) (mid := PP.1) (ap := PP.2.1) (d4 := PP.2.2) swoN (Go.Sort.partition_holds ltN) (by omega : a1 ≤ p2) (by omega : p2 < b1) (by rw [HG6.out.sz]; omega) HG6.out.bel hPP
                    rw [hPP] at HE
                    obtain ⟨r1, r2, r3, r4, r5, r6, r7⟩ := hr
                    have HSZ := Lib.hid (r3.trans HG6.out.sz)
                    have HN := Lib.hid (fun (w9 : World) (ht9 : Trn wc g w9) => (HG6.out.trn.trans ht9 : Trn w g w9))
                    have HFN := Lib.hid HG6.out.fin
                    have HR4 := Lib.hid r4
                    have HR5 := Lib.hid r5
                    have HR6 := Lib.hid r6
                    have HR7 := Lib.hid r7
                    clear hPP r3 r4 r5 r6 r7 HT HG6
                    generalize PP.1 = mid2 at *
                    generalize PP.2.1 = ap at *
                    generalize PP.2.2 = d7 at *
                    have i5 : (mid2 : Int) < (b1 : Int) := by omega
                    have i6 : (a1 : Int) ≤ (mid2 : Int) := by omega
                    by_cases hlr : mid2 - a1 < b1 - mid2
                    · have s1 : decide ((mid2 : Int) - (a1 : Int) < (b1 : Int) - (mid2 : Int)) = true := decide_eq_true (by omega)
                      have s2 : (mid2 : Int) - (a1 : Int) < (b1 : Int) - (mid2 : Int) := by omega
                      go_wp2_with (first
                        | (go_at_call 42; (with_reducible refine HE.out.mono ?_); rintro e w9 ⟨rfl, ha9, ht9⟩
                           have HI := Lib.hid (IH.out (mid2 - a1) (by omega) w9 d7 a1 mid2 l2 (Nat.le_refl _) r1 (by omega) hl2 ha9 HSZ.out HR4.out)
                           have HT9 := Lib.hid (HN.out _ ht9)
                           clear ha9 ht9)
                        | (go_at_call 30; (with_reducible refine HI.out.mono ?_); rintro e w10 ⟨L, rfl, ha10, hp10, hs10, ht10⟩
                           have HX := Lib.hid (HR6.out L hp10 hs10)
                           have HG10 := Lib.hid (show Gq w g n a b d (mid2 + 1) b1 w10 from ⟨L, ha10, hp10.1.trans HSZ.out, HT9.out.trans ht10, HX.out.1, fun R h1 h2 => HFN.out R (HX.out.2 R h1 h2).1 (HX.out.2 R h1 h2).2⟩)
                           clear ha10 hp10 hs10 ht10 HX)
                        | fail)
                      go_roundw
                      case rel => exact ⟨mid2 + 1, b1, l2, _, ap, by omega, by omega, hb1, hl2, by go_num, rfl, rfl, rfl, rfl, HG10⟩
                      case measure => simp [intOf]; omega
                    · have s1 : decide ((mid2 : Int) - (a1 : Int) < (b1 : Int) - (mid2 : Int)) = false := decide_eq_false (by omega)
                      have s2 : ¬ (mid2 : Int) - (a1 : Int) < (b1 : Int) - (mid2 : Int) := by omega
                      go_wp2_with (first
                        | (go_at_call 42; (with_reducible refine HE.out.mono ?_); rintro e w9 ⟨rfl, ha9, ht9⟩
                           have hI := IH.out (b1 - (mid2 + 1)) (by omega) w9 d7 (mid2 + 1) b1 l2 (Nat.le_refl _) (by omega) (by omega) hl2 ha9 HSZ.out HR5.out
                           rw [show ((mid2 + 1 : Nat) : Int) = (mid2 : Int) + 1 by omega] at hI
                           have HI := Lib.hid hI
                           have HT9 := Lib.hid (HN.out _ ht9)
                           clear ha9 ht9 hI)
                        | (go_at_call 30; (with_reducible refine HI.out.mono ?_); rintro e w10 ⟨L, rfl, ha10, hp10, hs10, ht10⟩
                           have HX := Lib.hid (HR7.out L hp10 hs10)
                           have HG10 := Lib.hid (show Gq w g n a b d a1 mid2 w10 from ⟨L, ha10, hp10.1.trans HSZ.out, HT9.out.trans ht10, HX.out.1, fun R h1 h2 => HFN.out R (HX.out.2 R h1 h2).1 (HX.out.2 R h1 h2).2⟩)
                           clear ha10 hp10 hs10 ht10 HX)
                        | fail)
                      go_roundw
                      case rel => exact ⟨a1, mid2, l2, _, ap, ha1, r1, by omega, hl2, rfl, rfl, rfl, rfl, rfl, HG10⟩
                      case measure => simp [intOf]; omega
end Go.Proofs.Ytpdgcphflheeiaa
