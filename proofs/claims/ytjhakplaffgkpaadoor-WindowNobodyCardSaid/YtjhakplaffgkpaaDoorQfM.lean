/- slices.partialInsertionSortOrdered. Where a sort parts: order2, median, medianAdjacent, choosePivot, each as a number within a range. slices.choosePivotOrdered. -/
import Derived.Test.YtjhakplaffgkpaaDoorQyM
import Derived.Sort.LotA
namespace Go.Proofs.YtjhakplaffgkpaaDoor.Qu
open Go.RowKit
open Go.Sort (scanSorted shiftDown shiftUp partialIns partialInsertionSort swp)

theorem ss_go {d : Array Nat} {b i : Nat} (h : i < b) (hp : ltN d[i]! d[i - 1]! = false) : scanSorted ltN d b i = scanSorted ltN d b (i + 1) := by
  rw [scanSorted, if_pos (by simp [h, hp])]
theorem ss_end {d : Array Nat} {b i : Nat} (h : ¬ i < b) : scanSorted ltN d b i = i := by
  rw [scanSorted, if_neg (by simp [h])]
theorem ss_no {d : Array Nat} {b i : Nat} (hp : ltN d[i]! d[i - 1]! = true) : scanSorted ltN d b i = i := by
  rw [scanSorted, if_neg (by simp [hp])]
theorem sd_go {d : Array Nat} {j : Nat} (hp : ltN d[j + 1]! d[j]! = true) : shiftDown ltN (j + 1) d = shiftDown ltN j (swp d (j + 1) j) := by
  rw [shiftDown, if_neg (by simp [hp])]
theorem sd_no {d : Array Nat} {j : Nat} (hp : ltN d[j + 1]! d[j]! = false) : shiftDown ltN (j + 1) d = d := by
  rw [shiftDown, if_pos (by simp [hp])]
theorem su_go {d : Array Nat} {b j : Nat} (h : j < b) (hp : ltN d[j]! d[j - 1]! = true) : shiftUp ltN b j d = shiftUp ltN b (j + 1) (swp d j (j - 1)) := by
  rw [shiftUp, if_pos h, if_neg (by simp [hp])]
theorem su_no {d : Array Nat} {b j : Nat} (h : j < b) (hp : ltN d[j]! d[j - 1]! = false) : shiftUp ltN b j d = d := by
  rw [shiftUp, if_pos h, if_pos (by simp [hp])]
theorem su_end {d : Array Nat} {b j : Nat} (h : ¬ j < b) : shiftUp ltN b j d = d := by
  rw [shiftUp, if_neg h]
theorem sd_size : ∀ (j : Nat) (d : Array Nat), (shiftDown ltN j d).size = d.size
  | 0, _ => rfl
  | j + 1, d => by
    cases h : ltN d[j + 1]! d[j]! with
    | false => rw [sd_no h]
    | true => rw [sd_go h, sd_size j, swp_size]
theorem su_size (b : Nat) : ∀ (m j : Nat) (d : Array Nat), b - j ≤ m → (shiftUp ltN b j d).size = d.size
  | 0, j, d, h => by rw [su_end (by omega)]
  | m + 1, j, d, h => by
    by_cases hj : j < b
    · cases hl : ltN d[j]! d[j - 1]! with
      | false => rw [su_no hj hl]
      | true => rw [su_go hj hl, su_size b m _ _ (by omega), swp_size]
    · rw [su_end hj]
theorem ss_ge (d : Array Nat) (b : Nat) : ∀ (m i : Nat), b - i ≤ m → i ≤ scanSorted ltN d b i ∧ (i ≤ b → scanSorted ltN d b i ≤ b)
  | 0, i, h => by rw [ss_end (by omega)]; exact ⟨Nat.le_refl _, fun h => h⟩
  | m + 1, i, h => by
    by_cases hi : i < b
    · cases hl : ltN d[i]! d[i - 1]! with
      | true => rw [ss_no hl]; exact ⟨Nat.le_refl _, fun h => h⟩
      | false =>
        rw [ss_go hi hl]
        have := ss_ge d b m (i + 1) (by omega)
        exact ⟨by omega, fun _ => this.2 (by omega)⟩
    · rw [ss_end hi]; exact ⟨Nat.le_refl _, fun h => h⟩
def ParL (w : World) (g n a b : Nat) (R : Array Nat × Bool) (s i : Nat) (wr : World) : Prop := ∃ d, Arr wr g d ∧ d.size = n ∧ Trn w g wr ∧ partialIns ltN a b s i d = R
def SdL (w : World) (g n : Nat) (D : Array Nat) (j : Nat) (wr : World) : Prop := ∃ d, Arr wr g d ∧ d.size = n ∧ Trn w g wr ∧ shiftDown ltN j d = D
def SuL (w : World) (g n b : Nat) (D : Array Nat) (j : Nat) (wr : World) : Prop := ∃ d, Arr wr g d ∧ d.size = n ∧ Trn w g wr ∧ shiftUp ltN b j d = D
set_option maxHeartbeats 8000000 in
set_option maxRecDepth 100000 in
theorem pins_any {w : World} {g n c : Nat} {d : Array Nat} (a b : Nat) (h : Arr w g d) (hd : d.size = n) (hab : a < b) (hb : b ≤ n) (hn : n ≤ 1000000) :
    Calls Tryd.prog 58 #[.slice (some ⟨g, 0, none⟩) n c, .int .i64 (a : Int), .int .i64 (b : Int)] w fun e w' => e = .returned (.bool (partialInsertionSort ltN d a b).2) ∧ Arr w' g (partialInsertionSort ltN d a b).1 ∧ Trn w g w' := by
  have H0 : Hid (ParL w g n a b (partialInsertionSort ltN d a b) 5 (a + 1) w) := Lib.hid ⟨d, h, hd, Trn.refl w g, rfl⟩
  generalize partialInsertionSort ltN d a b = R at *
  have hbI : (b : Int) ≤ 1000000 := by omega
  have haI : (a : Int) < (b : Int) := by omega
  clear h hd
  go_enter Tryd.func58, Tryd.ntmps58
  go_wp2_with (fail)
  go_loopw [7, 8] (fun ir sr wr => ∃ s i : Nat, s ≤ 5 ∧ a < i ∧ i ≤ b ∧ ir = .int .i64 (i : Int) ∧ sr = .int .i64 (5 - (s : Int)) ∧ Hid (ParL w g n a b R s i wr)) (fun _ sr _ => (5 - intOf sr).toNat)
  case atStart => exact ⟨5, a + 1, by omega, by omega, by omega, by go_num, by first | rfl | go_num, H0⟩
  case round =>
    clear H0
    obtain ⟨s, i, hs, hai, hib, rfl, rfl, HL⟩ := hrel
    obtain ⟨d2, ha2, hs2, ht2, he2⟩ := HL.out
    cases s with
    | zero =>
      have he3 : (d2, false) = R := he2
      subst he3
      have HA := Lib.hid ha2
      have HT := Lib.hid ht2
      have e1 : (5 : Int) - ((0 : Nat) : Int) = 5 := by omega
      rw [e1]
      clear ha2 ht2 hs2 he2 HL e1
      go_wp2_with (fail)
      go_ret
      exact ⟨rfl, HA.out, HT.out⟩
    | succ s =>
      have e1 : (5 : Int) - ((s + 1 : Nat) : Int) < 5 := by omega
      have e2 : decide ((5 : Int) - ((s + 1 : Nat) : Int) < 5) = true := by simpa using e1
      generalize hsr : (5 : Int) - ((s + 1 : Nat) : Int) = sr at *
      have HSR := Lib.hid hsr
      have sr0 : 0 ≤ sr := by omega
      clear hsr
      go_upto_block 2 with (fail)
      obtain ⟨I, hI⟩ : ∃ I, I = scanSorted ltN d2 b i := ⟨_, rfl⟩
      have hge := ss_ge d2 b _ i (Nat.le_refl _)
      rw [← hI] at hge
      obtain ⟨g1, g2⟩ := hge
      have g2 := g2 hib
      have he3 := he2
      rw [Go.Sort.partialIns_succ, ← hI] at he3
      have HE3 := Lib.hid he3
      have HI : Hid (scanSorted ltN d2 b i = I) := Lib.hid hI.symm
      have HS2 := Lib.hid hs2
      have ST : Hid (AT w g d2 wr) := Lib.hid ⟨ha2, ht2⟩
      have hsz : d2.size = n := hs2
      clear hI ha2 ht2 hs2 he2 he3 HL
      go_cut [7] from 17 to 34 (fun xr wq => xr = .int .i64 ((I : Nat) : Int) ∧ Hid (AT w g d2 wq))
      case first =>
        go_wp2_with (fail)
        go_loopw [7] (fun xr wq => ∃ k : Nat, a < k ∧ k ≤ b ∧ xr = .int .i64 (k : Int) ∧ Hid (AT w g d2 wq) ∧ Hid (scanSorted ltN d2 b k = I)) (fun xr _ => b - (intOf xr).toNat)
        case atStart => exact ⟨i, hai, hib, rfl, ST, HI⟩
        case round =>
          obtain ⟨k, hk1, hk2, rfl, ST2, HR⟩ := hrel
          clear ST
          obtain ⟨ha2, ht2⟩ := ST2.out
          by_cases hkb : k < b
          · obtain ⟨k, rfl⟩ : ∃ q, k = q + 1 := ⟨k - 1, by omega⟩
            have c0 := ha2.cell (k + 1) (by omega)
            have c1 := ha2.cell k (by omega)
            have q1 : decide ((k : Int) + 1 < (b : Int)) = true := by simp; omega
            have q2 : decide (k + 1 < b) = true := by simpa using hkb
            have b3 : k + 1 < n := by omega
            have b4 : (k : Int) + 1 < (n : Int) := by omega
            have b5 : k < n := by omega
            have b6 : (k : Int) < (n : Int) := by omega
            have hq := fun W => qless d2[k + 1]! d2[k]! W
            have HA := Lib.hid ha2
            have HT := Lib.hid ht2
            clear ha2 ht2 ST2
            generalize hx : d2[k + 1]! = x at *
            generalize hy : d2[k]! = y at *
            cases hb : ltN x y with
            | true =>
              rw [hb] at hq
              have HE := Lib.hid (show k + 1 = I by rw [← HR.out]; exact (ss_no (by rw [Nat.add_sub_cancel, hx, hy]; exact hb)).symm)
              clear hb hx hy HR
              go_wp2_with (fail)
              go_quiet ((go_at_call 59; exact Calls.quiet_of_same (hq _)))
              go_wp2_with (fail)
              go_meet
              case rel => exact ⟨by rw [← HE.out], Lib.hid ⟨HA.out.drewN _, HT.out.drewN _⟩⟩
            | false =>
              rw [hb] at hq
              have HE := Lib.hid (show scanSorted ltN d2 b (k + 1 + 1) = I by rw [← HR.out]; exact (ss_go hkb (by rw [Nat.add_sub_cancel, hx, hy]; exact hb)).symm)
              clear hb hx hy HR
              go_wp2_with (fail)
              go_quiet ((go_at_call 59; exact Calls.quiet_of_same (hq _)))
              go_wp2_with (fail)
              go_roundw
              case rel => exact ⟨k + 1 + 1, by omega, by omega, by go_num, Lib.hid ⟨HA.out.drewN _, HT.out.drewN _⟩, HE⟩
              case measure => simp [intOf]; omega
          · have q1 : decide ((k : Int) < (b : Int)) = false := by simp; omega
            have q2 : decide (k < b) = false := by simpa using hkb
            have HE := Lib.hid (show k = I by rw [← HR.out]; exact (ss_end hkb).symm)
            have HA := Lib.hid ha2
            have HT := Lib.hid ht2
            clear ha2 ht2 ST2 HR hkb
            go_wp2_with (fail)
            go_quiet (fail)
            go_wp2_with (fail)
            go_meet
            case rel => exact ⟨by rw [HE.out], Lib.hid ⟨HA.out.drewN _, HT.out.drewN _⟩⟩
      case rest =>
        obtain ⟨rfl, ST3⟩ := hcut
        clear ST HI
        obtain ⟨ha3, ht3⟩ := ST3.out
        by_cases hIb : I = b
        · have e3 := HE3.out
          rw [if_pos hIb] at e3
          subst e3
          have q1 : ((I : Int) == (b : Int)) = true := by simp; omega
          have HA := Lib.hid ha3
          have HT := Lib.hid ht3
          clear ha3 ht3 HE3 ST3
          subst hIb
          go_wp2_with (fail)
          go_ret
          exact ⟨rfl, HA.out, HT.out⟩
        · have e3 := HE3.out
          rw [if_neg hIb] at e3
          have q1 : ((I : Int) == (b : Int)) = false := by simp; omega
          have q3 : ¬ (I : Int) = (b : Int) := by omega
          by_cases h50 : b - a < 50
          · rw [if_pos h50] at e3
            subst e3
            have q2 : decide ((b : Int) - (a : Int) < 50) = true := by simp; omega
            have HA := Lib.hid ha3
            have HT := Lib.hid ht3
            clear ha3 ht3 HE3 ST3
            go_wp2_with (fail)
            go_ret
            exact ⟨rfl, HA.out, HT.out⟩
          · rw [if_neg h50] at e3
            have q2 : decide ((b : Int) - (a : Int) < 50) = false := by simp; omega
            have q4 : ¬ (b : Int) - (a : Int) < 50 := by omega
            obtain ⟨k, rfl⟩ : ∃ q, I = q + 1 := ⟨I - 1, by omega⟩
            rw [Nat.add_sub_cancel] at e3
            have HE4 := Lib.hid e3
            have hkb : k + 1 < b := by omega
            have HSW := Lib.hid ((ha3.swp (i := k + 1) (j := k) (by omega) (by omega)).drew)
            have HS3 := Lib.hid (show (swp d2 (k + 1) k).size = n by rw [swp_size]; exact hsz)
            have c0 := ha3.cell (k + 1) (by omega)
            have z0 := ha3.free (k + 1) (by omega)
            have c1 := ha3.cell k (by omega)
            have z1 := ha3.free k (by omega)
            have b3 : k + 1 < n := by omega
            have b4 : (k : Int) + 1 < (n : Int) := by omega
            have b5 : k < n := by omega
            have b6 : (k : Int) < (n : Int) := by omega
            have b7 : (k : Int) + 1 < (b : Int) := by omega
            have b8 : (a : Int) < (k : Int) + 1 := by omega
            have HT := Lib.hid ht3
            clear ha3 ht3 HE3 ST3 e3 hIb h50 hsz
            generalize swp d2 (k + 1) k = d3 at *
            generalize d2[k + 1]! = x at *
            generalize d2[k]! = y at *
            go_wp2_with (fail)
            go_big_region
            all_goals go_upto_if 61 with (fail)
            have ST4 : Hid (AT w g d3 ((((wc.setCell ⟨g, k + 1, none⟩ (.int .u64 (y : Int))).setCell ⟨g, k, none⟩ (.int .u64 (x : Int))).drew))) := Lib.hid ⟨HSW.out, ((HT.out.set _ _).set _ _).drew⟩
            have hfd : Go.Sort.fixDown ltN a (k + 1) d3 = if k + 1 - a ≥ 2 then shiftDown ltN k d3 else d3 := by unfold Go.Sort.fixDown; rw [Nat.add_sub_cancel]
            have hfs : (Go.Sort.fixDown ltN a (k + 1) d3).size = n := by
              rw [hfd]
              split
              · rw [sd_size]; exact HS3.out
              · exact HS3.out
            have HFD := Lib.hid hfd
            have HFS := Lib.hid hfs
            clear hfd hfs c0 c1 z0 z1 HSW HT
            generalize Go.Sort.fixDown ltN a (k + 1) d3 = d4 at *
            generalize hY : ((((wc.setCell ⟨g, k + 1, none⟩ (.int .u64 (y : Int))).setCell ⟨g, k, none⟩ (.int .u64 (x : Int))).drew)) = Y at *
            clear hY
            go_cut [9, 61] from 62 to 94 (fun _ _ wq => Hid (AT w g d4 wq))
            case first =>
              by_cases h2 : k + 1 - a ≥ 2
              · have f1 := HFD.out
                rw [if_pos h2] at f1
                have t1 : decide ((2 : Int) ≤ (k : Int) + 1 - (a : Int)) = true := decide_eq_true (by omega)
                have t2 : (2 : Int) ≤ (k : Int) + 1 - (a : Int) := by omega
                have HF := Lib.hid f1.symm
                have hs3 := HS3.out
                have H5 : Hid (SdL w g n d4 k Y) := Lib.hid ⟨d3, ST4.out.1, hs3, ST4.out.2, HF.out⟩
                clear f1 HFD ST4 hs3 HS3 HF
                go_wp2_with (fail)
                go_loopw [9] (fun jr wq => ∃ j : Nat, j ≤ k ∧ jr = .int .i64 (j : Int) ∧ Hid (SdL w g n d4 j wq)) (fun jr _ => (intOf jr).toNat)
                case atStart => exact ⟨k, Nat.le_refl _, rfl, H5⟩
                case round =>
                  clear H5
                  obtain ⟨j, hj, rfl, HJ⟩ := hrel
                  obtain ⟨d5, ha5, hs5, ht5, he5⟩ := HJ.out
                  clear HJ
                  cases j with
                  | zero =>
                    have HE : Hid (d5 = d4) := Lib.hid he5
                    have HA := Lib.hid ha5
                    have HT := Lib.hid ht5
                    clear ha5 hs5 ht5 he5
                    go_wp2_with (fail)
                    go_meet
                    case rel => exact Lib.hid ⟨HE.out ▸ HA.out, HT.out⟩
                  | succ j =>
                    have e7 : ((j + 1 : Nat) : Int) = (j : Int) + 1 := by omega
                    rw [e7]
                    have r1 : decide ((1 : Int) ≤ (j : Int) + 1) = true := decide_eq_true (by omega)
                    have b13 : j + 1 < n := by omega
                    have b14 : (j : Int) + 1 < (n : Int) := by omega
                    have b15 : j < n := by omega
                    have b16 : (j : Int) < (n : Int) := by omega
                    have c0 := ha5.cell (j + 1) (by omega)
                    have z0 := ha5.free (j + 1) (by omega)
                    have c1 := ha5.cell j (by omega)
                    have z1 := ha5.free j (by omega)
                    have hq := fun W => qless d5[j + 1]! d5[j]! W
                    have HSW := Lib.hid (fun m => (ha5.drewN m).swp (i := j + 1) (j := j) (by omega) (by omega))
                    have HA := Lib.hid ha5
                    have HT := Lib.hid ht5
                    have HS := Lib.hid hs5
                    have HE5 := Lib.hid he5
                    clear ha5 ht5 hs5 he5 e7
                    generalize hx : d5[j + 1]! = x at *
                    generalize hy : d5[j]! = y at *
                    cases hb : ltN x y with
                    | false =>
                      rw [hb] at hq
                      have HE := Lib.hid (show d5 = d4 by rw [← HE5.out]; exact (sd_no (by rw [hx, hy]; exact hb)).symm)
                      clear hb hx hy HE5 HSW
                      go_wp2_with (fail)
                      go_quiet ((go_at_call 59; exact Calls.quiet_of_same (hq _)))
                      go_wp2_with (fail)
                      go_meet
                      case rel => exact Lib.hid ⟨HE.out ▸ HA.out.drewN _, HT.out.drewN _⟩
                    | true =>
                      rw [hb] at hq
                      have HE := Lib.hid (show shiftDown ltN j (swp d5 (j + 1) j) = d4 by rw [← HE5.out]; exact (sd_go (by rw [hx, hy]; exact hb)).symm)
                      clear hb hx hy HE5
                      go_wp2_with (fail)
                      go_quiet ((go_at_call 59; exact Calls.quiet_of_same (hq _)))
                      go_wp2_with (fail)
                      go_big_region
                      all_goals go_wp2
                      all_goals go_roundw
                      case rel => exact ⟨j, by omega, rfl, Lib.hid ⟨_, HSW.out _, by rw [swp_size]; exact HS.out, ((HT.out.drewN _).set _ _).set _ _, HE.out⟩⟩
                      case measure => simp [intOf]
              · have f1 := HFD.out
                rw [if_neg h2] at f1
                subst f1
                have t1 : decide ((2 : Int) ≤ (k : Int) + 1 - (a : Int)) = false := decide_eq_false (by omega)
                have t2 : ¬ (2 : Int) ≤ (k : Int) + 1 - (a : Int) := by omega
                go_wp2_with (fail)
                go_meet
                case rel => exact ST4
            case rest =>
              clear ST4 HFD HS3
              have ST6 := hcut
              clear hcut
              go_upto_if 98 with (fail)
              have hfd : Go.Sort.fixUp ltN b (k + 1) d4 = if b - (k + 1) ≥ 2 then shiftUp ltN b (k + 1 + 1) d4 else d4 := rfl
              have hfs : (Go.Sort.fixUp ltN b (k + 1) d4).size = n := by
                rw [hfd]
                split
                · rw [su_size b _ _ _ (Nat.le_refl _)]; exact HFS.out
                · exact HFS.out
              have HFU := Lib.hid hfd
              have HS8 := Lib.hid hfs
              clear hfd hfs
              generalize Go.Sort.fixUp ltN b (k + 1) d4 = d6 at *
              by_cases h2 : b - (k + 1) ≥ 2
              · have f1 := HFU.out
                rw [if_pos h2] at f1
                have t1 : decide ((2 : Int) ≤ (b : Int) - ((k : Int) + 1)) = true := decide_eq_true (by omega)
                have t2 : (2 : Int) ≤ (b : Int) - ((k : Int) + 1) := by omega
                have HF := Lib.hid f1.symm
                have hs3 := HFS.out
                have H5 : Hid (SuL w g n b d6 (k + 1 + 1) _) := Lib.hid ⟨d4, ST6.out.1, hs3, ST6.out.2, HF.out⟩
                clear f1 HFU ST6 hs3 HFS HF
                go_wp2_with (fail)
                go_loopw [10] (fun jr wq => ∃ j : Nat, 1 ≤ j ∧ j ≤ b ∧ jr = .int .i64 (j : Int) ∧ Hid (SuL w g n b d6 j wq)) (fun jr _ => b - (intOf jr).toNat)
                case atStart => exact ⟨k + 1 + 1, by omega, by omega, by go_num, H5⟩
                case round =>
                  clear H5
                  obtain ⟨j, hj1, hj2, rfl, HJ⟩ := hrel
                  obtain ⟨d5, ha5, hs5, ht5, he5⟩ := HJ.out
                  clear HJ
                  by_cases hjb : j < b
                  · obtain ⟨j, rfl⟩ : ∃ q, j = q + 1 := ⟨j - 1, by omega⟩
                    have e7 : ((j + 1 : Nat) : Int) = (j : Int) + 1 := by omega
                    rw [e7]
                    have r1 : decide ((j : Int) + 1 < (b : Int)) = true := by simp; omega
                    have r2 : decide (j + 1 < b) = true := by simpa using hjb
                    have b13 : j + 1 < n := by omega
                    have b14 : (j : Int) + 1 < (n : Int) := by omega
                    have b15 : j < n := by omega
                    have b16 : (j : Int) < (n : Int) := by omega
                    have c0 := ha5.cell (j + 1) (by omega)
                    have z0 := ha5.free (j + 1) (by omega)
                    have c1 := ha5.cell j (by omega)
                    have z1 := ha5.free j (by omega)
                    have hq := fun W => qless d5[j + 1]! d5[j]! W
                    have HSW := Lib.hid (fun m => (ha5.drewN m).swp (i := j + 1) (j := j) (by omega) (by omega))
                    have HA := Lib.hid ha5
                    have HT := Lib.hid ht5
                    have HS := Lib.hid hs5
                    have HE5 := Lib.hid he5
                    clear ha5 ht5 hs5 he5 e7
                    generalize hx : d5[j + 1]! = x at *
                    generalize hy : d5[j]! = y at *
                    cases hb : ltN x y with
                    | false =>
                      rw [hb] at hq
                      have HE := Lib.hid (show d5 = d6 by rw [← HE5.out]; exact (su_no hjb (by rw [Nat.add_sub_cancel, hx, hy]; exact hb)).symm)
                      clear hb hx hy HE5 HSW
                      go_wp2_with (fail)
                      go_quiet ((go_at_call 59; exact Calls.quiet_of_same (hq _)))
                      go_wp2_with (fail)
                      go_roundw
                      case rel => exact ⟨s, k + 1, by omega, by omega, by omega, by go_num, by have := HSR.out; first | (rw [← this]; congr 1; omega) | (congr 1; omega), Lib.hid ⟨d6, HE.out ▸ HA.out.drewN _, HS8.out, HT.out.drewN _, HE4.out⟩⟩
                      case measure => have := HSR.out; simp [intOf]; omega
                    | true =>
                      rw [hb] at hq
                      have HE := Lib.hid (show shiftUp ltN b (j + 1 + 1) (swp d5 (j + 1) j) = d6 by rw [← HE5.out]; exact (su_go hjb (by rw [Nat.add_sub_cancel, hx, hy]; exact hb)).symm)
                      clear hb hx hy HE5
                      go_wp2_with (fail)
                      go_quiet ((go_at_call 59; exact Calls.quiet_of_same (hq _)))
                      go_wp2_with (fail)
                      go_big_region
                      all_goals go_wp2
                      all_goals go_roundw
                      case rel => exact ⟨j + 1 + 1, by omega, by omega, by go_num, Lib.hid ⟨_, HSW.out _, by rw [swp_size]; exact HS.out, ((HT.out.drewN _).set _ _).set _ _, HE.out⟩⟩
                      case measure => simp [intOf]; omega
                  · have HE : Hid (d5 = d6) := Lib.hid (by rw [← he5, su_end hjb])
                    have r1 : decide ((j : Int) < (b : Int)) = false := by simp; omega
                    have r2 : decide (j < b) = false := by simpa using hjb
                    have HA := Lib.hid ha5
                    have HT := Lib.hid ht5
                    clear ha5 hs5 ht5 he5 hjb
                    go_wp2_with (fail)
                    go_roundw
                    case rel => exact ⟨s, k + 1, by omega, by omega, by omega, by go_num, by have := HSR.out; first | (rw [← this]; congr 1; omega) | (congr 1; omega), Lib.hid ⟨d6, HE.out ▸ HA.out, HS8.out, HT.out, HE4.out⟩⟩
                    case measure => have := HSR.out; simp [intOf]; omega
              · have f1 := HFU.out
                rw [if_neg h2] at f1
                subst f1
                have t1 : decide ((2 : Int) ≤ (b : Int) - ((k : Int) + 1)) = false := decide_eq_false (by omega)
                have t2 : ¬ (2 : Int) ≤ (b : Int) - ((k : Int) + 1) := by omega
                go_wp2_with (fail)
                go_roundw
                case rel => exact ⟨s, k + 1, by omega, by omega, by omega, by go_num, by have := HSR.out; first | (rw [← this]; congr 1; omega) | (congr 1; omega), Lib.hid ⟨d6, ST6.out.1, HS8.out, ST6.out.2, HE4.out⟩⟩
                case measure => have := HSR.out; simp [intOf]; omega
end Go.Proofs.YtjhakplaffgkpaaDoor.Qu

namespace Go.Proofs.YtjhakplaffgkpaaDoor.Qu
open Go.RowKit

/-- A variable that counts. -/
def Cnt (w : World) (p k : Nat) : Prop := ∃ s : Nat, s ≤ k ∧ w.cell? ⟨p, 0, none⟩ = some (.int .i64 (s : Int)) ∧ w.frozen? ⟨p, 0, none⟩ = false
theorem Cnt.drewN {w : World} {p k : Nat} (h : Cnt w p k) (n : Nat) : Cnt (w.drewN n) p k := h
theorem Arr.far {w w1 : World} {g p : Nat} {d : Array Nat} (h : Arr w g d) (hg : Trn w p w1) (hn : g ≠ p) : Arr w1 g d := by
  have hb := hg.block g h.here (by intro e; exact hn (Option.some.inj e))
  refine ⟨Nat.lt_of_lt_of_le h.here hg.size, fun i hi => ?_, fun i hi => ?_⟩
  · rw [← h.cell i hi]; exact World.cell?_of_block (a := ⟨g, i, none⟩) hb
  · rw [← h.free i hi]; exact World.frozen?_of_block (a := ⟨g, i, none⟩) hb
/-- Two numbers within a range, and the count turned. -/
def O2 (w : World) (p k lo hi : Nat) (e : Ending) (w' : World) : Prop := ∃ x y : Nat, e = .returned (.tuple #[.int .i64 (x : Int), .int .i64 (y : Int)]) ∧ lo ≤ x ∧ x < hi ∧ lo ≤ y ∧ y < hi ∧ Cnt w' p (k + 1) ∧ Trn w p w'
set_option maxHeartbeats 1000000 in
theorem order2_any {w : World} {g n c p k lo hi : Nat} {d : Array Nat} (x y : Nat) (h : Arr w g d) (hd : d.size = n) (_ : n ≤ 1000000) (hk : k ≤ 1000) (hc : Cnt w p k) (hhi : hi ≤ n) (h1 : lo ≤ x) (h2 : x < hi) (h3 : lo ≤ y) (h4 : y < hi) :
    Calls Tryd.prog 69 #[.slice (some ⟨g, 0, none⟩) n c, .int .i64 (x : Int), .int .i64 (y : Int), .pointer (some ⟨p, 0, none⟩)] w (O2 w p k lo hi) := by
  have c0 := h.cell y (by omega)
  have c1 := h.cell x (by omega)
  obtain ⟨s, hs, p0, p1⟩ := hc
  have b1 : x < n := by omega
  have b2 : (x : Int) < (n : Int) := by omega
  have b3 : y < n := by omega
  have b4 : (y : Int) < (n : Int) := by omega
  have hsI : (s : Int) ≤ 1000 := by omega
  have hq := fun W => qless d[y]! d[x]! W
  clear h hd
  generalize d[y]! = u at *
  generalize d[x]! = v at *
  cases hb : ltN u v with
  | true =>
    rw [hb] at hq
    clear hb
    have HF : ∀ m, Hid (O2 w p k lo hi (.returned (.tuple #[.int .i64 (y : Int), .int .i64 (x : Int)])) ((w.drewN m).setCell ⟨p, 0, none⟩ (.int .i64 ((s : Int) + 1)))) := fun m =>
      Lib.hid ⟨y, x, rfl, h3, h4, h1, h2, ⟨s + 1, by omega, by rw [World.cell?_setCell_same _ _ _ (show (w.drewN m).cell? _ = _ from p0)]; congr 1, by rw [World.frozen?_setCell]; exact p1⟩, ((Trn.refl w p).drewN m).set _ _⟩
    have HF := Lib.hid HF
    clear h1 h2 h3 h4 hs hk
    go_enter Tryd.func69, Tryd.ntmps69
    go_wp2_with (fail)
    go_quiet ((go_at_call 59; exact Calls.quiet_of_same (hq _)))
    go_wp2_with (fail)
    go_ret2
    exact (HF.out _).out
  | false =>
    rw [hb] at hq
    clear hb
    have HF : ∀ m, Hid (O2 w p k lo hi (.returned (.tuple #[.int .i64 (x : Int), .int .i64 (y : Int)])) (w.drewN m)) := fun m =>
      Lib.hid ⟨x, y, rfl, h1, h2, h3, h4, ⟨s, by omega, p0, p1⟩, (Trn.refl w p).drewN m⟩
    have HF := Lib.hid HF
    clear h1 h2 h3 h4 hs hk
    go_enter Tryd.func69, Tryd.ntmps69
    go_wp2_with (fail)
    go_quiet ((go_at_call 59; exact Calls.quiet_of_same (hq _)))
    go_wp2_with (fail)
    go_ret2
    exact (HF.out _).out
/-- One number within a range, and the count turned. -/
def M1 (w : World) (p k lo hi : Nat) (e : Ending) (w' : World) : Prop := ∃ x : Nat, e = .returned (.int .i64 (x : Int)) ∧ lo ≤ x ∧ x < hi ∧ Cnt w' p k ∧ Trn w p w'
theorem median_any {w : World} {g n c p k lo hi : Nat} {d : Array Nat} (x y z : Nat) (h : Arr w g d) (hd : d.size = n) (hn : n ≤ 1000000) (hk : k ≤ 100) (hc : Cnt w p k) (hgp : g ≠ p) (hhi : hi ≤ n) (h1 : lo ≤ x) (h2 : x < hi) (h3 : lo ≤ y) (h4 : y < hi) (h5 : lo ≤ z) (h6 : z < hi) :
    Calls Tryd.prog 67 #[.slice (some ⟨g, 0, none⟩) n c, .int .i64 (x : Int), .int .i64 (y : Int), .int .i64 (z : Int), .pointer (some ⟨p, 0, none⟩)] w (M1 w p (k + 3) lo hi) := by
  have HO := Lib.hid (fun (W : World) (k : Nat) (x y : Nat) (h : Arr W g d) (hk : k ≤ 1000) (hc : Cnt W p k) => order2_any (c := c) (lo := lo) (hi := hi) x y h hd hn hk hc hhi)
  have HA := Lib.hid h
  have HC := Lib.hid (HO.out w k x y h (by omega) hc h1 h2 h3 h4)
  clear h hd hc
  go_enter Tryd.func67, Tryd.ntmps67
  go_wp2_with (first
    | (go_at_call 69; (with_reducible refine HC.out.mono ?_); clear HC; rintro e w1 ⟨x1, y1, rfl, g1, g2, g3, g4, hc1, ht1⟩
       have HA1 := Lib.hid (HA.out.far ht1 hgp)
       have HT1 := Lib.hid ht1
       have HC1 := Lib.hid (HO.out w1 (k + 1) y1 z HA1.out (by omega) hc1 g3 g4 h5 h6)
       clear hc1 ht1)
    | (go_at_call 69; (with_reducible refine HC1.out.mono ?_); clear HC1; rintro e w2 ⟨x2, y2, rfl, g5, g6, g7, g8, hc2, ht2⟩
       have HA2 := Lib.hid (HA1.out.far ht2 hgp)
       have HT2 := Lib.hid (HT1.out.trans ht2)
       have HC2 := Lib.hid (HO.out w2 (k + 2) x1 x2 HA2.out (by omega) hc2 g1 g2 g5 g6)
       clear hc2 ht2)
    | (go_at_call 69; (with_reducible refine HC2.out.mono ?_); clear HC2; rintro e w3 ⟨x3, y3, rfl, g9, g10, g11, g12, hc3, ht3⟩)
    | fail)
  go_ret
  exact ⟨y3, rfl, g11, g12, hc3, HT2.out.trans ht3⟩
theorem medadj_any {w : World} {g n c p k lo hi : Nat} {d : Array Nat} (x : Nat) (h : Arr w g d) (hd : d.size = n) (hn : n ≤ 1000000) (hk : k ≤ 100) (hc : Cnt w p k) (hgp : g ≠ p) (hhi : hi ≤ n) (h0 : 1 ≤ x) (h1 : lo ≤ x - 1) (h2 : x + 1 < hi) :
    Calls Tryd.prog 66 #[.slice (some ⟨g, 0, none⟩) n c, .int .i64 (x : Int), .pointer (some ⟨p, 0, none⟩)] w (M1 w p (k + 3) lo hi) := by
  obtain ⟨q, rfl⟩ : ∃ q, x = q + 1 := ⟨x - 1, by omega⟩
  have HM := median_any (c := c) (lo := lo) (hi := hi) q (q + 1) (q + 1 + 1) h hd hn hk hc hgp hhi (by omega) (by omega) (by omega) (by omega) (by omega) (by omega)
  rw [show ((q + 1 + 1 : Nat) : Int) = (q : Int) + 1 + 1 by omega, show ((q + 1 : Nat) : Int) = (q : Int) + 1 by omega] at HM
  rw [show ((q + 1 : Nat) : Int) = (q : Int) + 1 by omega]
  have HM := Lib.hid HM
  have hqI : (q : Int) ≤ 1000000 := by omega
  clear h hd hc h0 h1 h2
  go_enter Tryd.func66, Tryd.ntmps66
  go_wp2_with (first
    | (go_at_call 67; (with_reducible refine HM.out.mono ?_); rintro e w1 ⟨r, rfl, g1, g2, hc1, ht1⟩)
    | fail)
  go_ret
  exact ⟨r, rfl, g1, g2, hc1, ht1⟩
end Go.Proofs.YtjhakplaffgkpaaDoor.Qu

namespace Go.Proofs.YtjhakplaffgkpaaDoor.Qu
open Go.RowKit

/-- Where to part, and a hint. -/
def Pv (w : World) (a b : Nat) (e : Ending) (w' : World) : Prop := ∃ (x : Nat) (h : Int), e = .returned (.tuple #[.int .i64 (x : Int), .int .i64 h]) ∧ a + 1 ≤ x ∧ x + 1 < b ∧ (h = 0 ∨ h = 1 ∨ h = 2) ∧ Below w.heap.size w w'
set_option maxHeartbeats 4000000 in
theorem choose_any {w : World} {g n c : Nat} {d : Array Nat} (a b : Nat) (h : Arr w g d) (hd : d.size = n) (hb : b ≤ n) (hn : n ≤ 1000000) (hab : a + 12 < b) :
    Calls Tryd.prog 56 #[.slice (some ⟨g, 0, none⟩) n c, .int .i64 (a : Int), .int .i64 (b : Int)] w (Pv w a b) := by
  obtain ⟨l, hl⟩ : ∃ l, b = a + l := ⟨b - a, by omega⟩
  obtain ⟨q, hq⟩ : ∃ q, q = l / 4 := ⟨_, rfl⟩
  have eb : (b : Int) - (a : Int) = (l : Int) := by omega
  have eq : (l : Int) / 4 = (q : Int) := by omega
  obtain ⟨W, hW, hWs, r0, hwW⟩ := boxes1 w #[.int .i64 0] 3
  have hA : Arr W g d := h.below hwW
  have hC : Cnt W w.heap.size 0 := ⟨0, Nat.le_refl _, cell_of_row W _ 0 _ _ _ r0, frozen_of_row W _ 0 _ _ r0⟩
  have hgp : g ≠ w.heap.size := by have := h.here; omega
  have HWB := Lib.hid hwW
  have HAW := Lib.hid hA
  have HGP := Lib.hid hgp
  have hm := Lib.hid (fun (V : World) (k x y z : Nat) (h : Arr V g d) (hk : k ≤ 100) (hc : Cnt V w.heap.size k) (h1 : a + 1 ≤ x) (h2 : x < b - 1) (h3 : a + 1 ≤ y) (h4 : y < b - 1) (h5 : a + 1 ≤ z) (h6 : z < b - 1) =>
    median_any (c := c) (lo := a + 1) (hi := b - 1) x y z h hd hn hk hc hgp (by omega) h1 h2 h3 h4 h5 h6)
  have hj := Lib.hid (fun (V : World) (k x : Nat) (h : Arr V g d) (hk : k ≤ 100) (hc : Cnt V w.heap.size k) (h0 : 1 ≤ x) (h1 : a + 1 ≤ x - 1) (h2 : x + 1 < b - 1) =>
    medadj_any (c := c) (lo := a + 1) (hi := b - 1) x h hd hn hk hc hgp (by omega) h0 h1 h2)
  have v1 : ((a + q : Nat) : Int) = (a : Int) + (q : Int) := by omega
  have v2 : ((a + q * 2 : Nat) : Int) = (a : Int) + (q : Int) * 2 := by omega
  have v3 : ((a + q * 3 : Nat) : Int) = (a : Int) + (q : Int) * 3 := by omega
  have haI : (a : Int) ≤ 1000000 := by omega
  have hbI : (b : Int) ≤ 1000000 := by omega
  have hqI : (q : Int) ≤ 1000000 := by omega
  have hlI : (l : Int) ≤ 1000000 := by omega
  have t1 : decide ((8 : Int) ≤ (l : Int)) = true := decide_eq_true (by omega)
  have t2 : decide (8 ≤ l) = true := decide_eq_true (by omega)
  have hl8 : (8 : Int) ≤ (l : Int) := by omega
  have HLL := Lib.hid hl
  have HQQ := Lib.hid hq
  have HL13 : 13 ≤ l := by omega
  have HC := Lib.hid hC
  by_cases h50 : 50 ≤ l
  · have t3 : decide ((50 : Int) ≤ (l : Int)) = true := decide_eq_true (by omega)
    have t4 : decide (50 ≤ l) = true := decide_eq_true h50
    have H1 := hj.out W 0 (a + q) hA (by omega) hC (by omega) (by omega) (by omega)
    rw [v1] at H1
    have H1 := Lib.hid H1
    have H2 : Hid (∀ V, Arr V g d → Cnt V w.heap.size 3 → Calls Tryd.prog 66 #[.slice (some ⟨g, 0, none⟩) n c, .int .i64 ((a : Int) + (q : Int) * 2), .pointer (some ⟨w.heap.size, 0, none⟩)] V (M1 V w.heap.size (3 + 3) (a + 1) (b - 1))) := Lib.hid (fun V hv hcv => by
      have := hj.out V 3 (a + q * 2) hv (by omega) hcv (by omega) (by omega) (by omega)
      rw [v2] at this
      exact this)
    have H3 : Hid (∀ V, Arr V g d → Cnt V w.heap.size 6 → Calls Tryd.prog 66 #[.slice (some ⟨g, 0, none⟩) n c, .int .i64 ((a : Int) + (q : Int) * 3), .pointer (some ⟨w.heap.size, 0, none⟩)] V (M1 V w.heap.size (6 + 3) (a + 1) (b - 1))) := Lib.hid (fun V hv hcv => by
      have := hj.out V 6 (a + q * 3) hv (by omega) hcv (by omega) (by omega) (by omega)
      rw [v3] at this
      exact this)
    clear h hd hl hq hA hC hj v1 v2 v3 r0 hWs hwW hgp h50 HC
    go_enter Tryd.func56, Tryd.ntmps56
    go_upto_region 3 with (fail)
    rw [← hW]
    clear hW
    go_upto_region 12 with (first
      | (go_at_call 66; (with_reducible refine H1.out.mono ?_); clear H1; rintro e w1 ⟨x1, rfl, g1, g2, hc1, ht1⟩
         have HA1 := Lib.hid (HAW.out.far ht1 HGP.out)
         have HT1 := Lib.hid ht1
         have HH2 := Lib.hid (H2.out w1 HA1.out hc1)
         clear hc1 ht1 H2)
      | (go_at_call 66; (with_reducible refine HH2.out.mono ?_); clear HH2; rintro e w2 ⟨x2, rfl, g3, g4, hc2, ht2⟩
         have HA2 := Lib.hid (HA1.out.far ht2 HGP.out)
         have HT2 := Lib.hid (HT1.out.trans ht2)
         have HH3 := Lib.hid (H3.out w2 HA2.out hc2)
         clear hc2 ht2 H3)
      | (go_at_call 66; (with_reducible refine HH3.out.mono ?_); clear HH3; rintro e w3 ⟨x3, rfl, g5, g6, hc3, ht3⟩
         have HA3 := Lib.hid (HA2.out.far ht3 HGP.out)
         have HT3 := Lib.hid (HT2.out.trans ht3)
         have HH4 := Lib.hid (hm.out w3 9 x1 x2 x3 HA3.out (by omega) hc3 g1 g2 g3 g4 g5 g6)
         clear hc3 ht3)
      | (go_at_call 67; (with_reducible refine HH4.out.mono ?_); clear HH4; rintro e w4 ⟨r, rfl, g7, g8, hc4, ht4⟩
         have HT4 := Lib.hid (HT3.out.trans ht4)
         obtain ⟨s, _, p0, _⟩ := hc4
         clear ht4)
      | fail)
    have HBel := Lib.hid (HWB.out.grown HT4.out HWB.out.size (fun x e => by cases e; exact Nat.le_refl _))
    have hr1 : a + 1 ≤ r := g7
    have hr2 : r + 1 < b := by omega
    rcases Nat.lt_trichotomy s 0 with hs | hs | hs
    · omega
    · subst hs
      clear t1 t2 t3 t4 hl8
      go_wp2_with (fail)
      go_ret2
      exact ⟨r, _, rfl, hr1, hr2, .inr (.inl rfl), HBel.out⟩
    · by_cases hs12 : s = 12
      · subst hs12
        clear t1 t2 t3 t4 hl8
        go_wp2_with (fail)
        go_ret2
        exact ⟨r, _, rfl, hr1, hr2, .inr (.inr rfl), HBel.out⟩
      · have n1 : ((s : Int) == 0) = false := by simp; omega
        have n2 : ((s : Int) == 12) = false := by simp; omega
        have n3 : ¬ s = 0 := by omega
        clear t1 t2 t3 t4 hl8 hs
        go_wp2_with (fail)
        go_ret2
        exact ⟨r, _, rfl, hr1, hr2, .inl rfl, HBel.out⟩
  · have t3 : decide ((50 : Int) ≤ (l : Int)) = false := decide_eq_false (by omega)
    have t4 : decide (50 ≤ l) = false := decide_eq_false h50
    have H1 := hm.out W 0 (a + q) (a + q * 2) (a + q * 3) hA (by omega) hC (by omega) (by omega) (by omega) (by omega) (by omega) (by omega)
    rw [v1, v2, v3] at H1
    have H1 := Lib.hid H1
    clear h hd hl hq hA hC hj v1 v2 v3 r0 hWs hwW hgp h50 HC
    go_enter Tryd.func56, Tryd.ntmps56
    go_upto_region 3 with (fail)
    rw [← hW]
    clear hW
    go_upto_region 12 with (first
      | (go_at_call 67; (with_reducible refine H1.out.mono ?_); clear H1; rintro e w4 ⟨r, rfl, g7, g8, hc4, ht4⟩
         have HT4 := Lib.hid ht4
         obtain ⟨s, _, p0, _⟩ := hc4
         clear ht4)
      | fail)
    have HBel := Lib.hid (HWB.out.grown HT4.out HWB.out.size (fun x e => by cases e; exact Nat.le_refl _))
    have hr1 : a + 1 ≤ r := g7
    have hr2 : r + 1 < b := by omega
    rcases Nat.lt_trichotomy s 0 with hs | hs | hs
    · omega
    · subst hs
      clear t1 t2 t3 t4 hl8
      go_wp2_with (fail)
      go_ret2
      exact ⟨r, _, rfl, hr1, hr2, .inr (.inl rfl), HBel.out⟩
    · by_cases hs12 : s = 12
      · subst hs12
        clear t1 t2 t3 t4 hl8
        go_wp2_with (fail)
        go_ret2
        exact ⟨r, _, rfl, hr1, hr2, .inr (.inr rfl), HBel.out⟩
      · have n1 : ((s : Int) == 0) = false := by simp; omega
        have n2 : ((s : Int) == 12) = false := by simp; omega
        have n3 : ¬ s = 0 := by omega
        clear t1 t2 t3 t4 hl8 hs
        go_wp2_with (fail)
        go_ret2
        exact ⟨r, _, rfl, hr1, hr2, .inl rfl, HBel.out⟩
end Go.Proofs.YtjhakplaffgkpaaDoor.Qu
