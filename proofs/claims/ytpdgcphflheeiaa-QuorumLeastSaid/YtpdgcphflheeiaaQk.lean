/- slices.partialInsertionSortOrdered. -/
import Derived.Test.YtpdgcphflheeiaaQy
import Derived.Sort.LotA
namespace Go.Proofs.Ytpdgcphflheeiaa
open Go.RowKit
open Go.Sort (scanSorted shiftDown shiftUp partialIns partialInsertionSort swp)

theorem ss_go {d : Array Nat} {b i : Nat} (h : i < b) (hp : ltN d[i]! d[i - 1]! = false) : scanSorted ltN d b i = scanSorted ltN d b (i + 1) := by
  rw [scanSorted, if_pos (by simp [h, hp])]
theorem ss_end {d : Array Nat} {b i : Nat} (h : ¬ i < b) : scanSorted ltN d b i = i := by
  rw [scanSorted, if_neg (by simp [h])]
theorem ss_no {d : Array Nat} {b i : Nat} (hp : ltN d[i]! d[i - 1]! = true) : scanSorted ltN d b i = i := by
  rw [scanSorted, if_neg (by simp [hp])]
theorem sd_go {d : Array Nat} {j : Nat} (hp : ltN d[j + 1]! d[j]! = true) : shiftDown ltN (j + 1) d = shiftDown ltN j (swp d (j + 1) j) := by
  rw [shiftDown, if_neg (by simp [hp])]
theorem sd_no {d : Array Nat} {j : Nat} (hp : ltN d[j + 1]! d[j]! = false) : shiftDown ltN (j + 1) d = d := by
  rw [shiftDown, if_pos (by simp [hp])]
theorem su_go {d : Array Nat} {b j : Nat} (h : j < b) (hp : ltN d[j]! d[j - 1]! = true) : shiftUp ltN b j d = shiftUp ltN b (j + 1) (swp d j (j - 1)) := by
  rw [shiftUp, if_pos h, if_neg (by simp [hp])]
theorem su_no {d : Array Nat} {b j : Nat} (h : j < b) (hp : ltN d[j]! d[j - 1]! = false) : shiftUp ltN b j d = d := by
  rw [shiftUp, if_pos h, if_pos (by simp [hp])]
theorem su_end {d : Array Nat} {b j : Nat} (h : ¬ j < b) : shiftUp ltN b j d = d := by
  rw [shiftUp, if_neg h]
theorem sd_size : ∀ (j : Nat) (d : Array Nat), (shiftDown ltN j d).size = d.size
  | 0, _ => rfl
  | j + 1, d => by
    cases h : ltN d[j + 1]! d[j]! with
    | false => rw [sd_no h]
    | true => rw [sd_go h, sd_size j, swp_size]
theorem su_size (b : Nat) : ∀ (m j : Nat) (d : Array Nat), b - j ≤ m → (shiftUp ltN b j d).size = d.size
  | 0, j, d, h => by rw [su_end (by omega)]
  | m + 1, j, d, h => by
    by_cases hj : j < b
    · cases hl : ltN d[j]! d[j - 1]! with
      | false => rw [su_no hj hl]
      | true => rw [su_go hj hl, su_size b m _ _ (by omega), swp_size]
    · rw [su_end hj]
theorem ss_ge (d : Array Nat) (b : Nat) : ∀ (m i : Nat), b - i ≤ m → i ≤ scanSorted ltN d b i ∧ (i ≤ b → scanSorted ltN d b i ≤ b)
  | 0, i, h => by rw [ss_end (by omega)]; exact ⟨Nat.le_refl _, fun h => h⟩
  | m + 1, i, h => by
    by_cases hi : i < b
    · cases hl : ltN d[i]! d[i - 1]! with
      | true => rw [ss_no hl]; exact ⟨Nat.le_refl _, fun h => h⟩
      | false =>
        rw [ss_go hi hl]
        have := ss_ge d b m (i + 1) (by omega)
        exact ⟨by omega, fun _ => this.2 (by omega)⟩
    · rw [ss_end hi]; exact ⟨Nat.le_refl _, fun h => h⟩
def ParL (w : World) (g n a b : Nat) (R : Array Nat × Bool) (s i : Nat) (wr : World) : Prop := ∃ d, Arr wr g d ∧ d.size = n ∧ Trn w g wr ∧ partialIns ltN a b s i d = R
def SdL (w : World) (g n : Nat) (D : Array Nat) (j : Nat) (wr : World) : Prop := ∃ d, Arr wr g d ∧ d.size = n ∧ Trn w g wr ∧ shiftDown ltN j d = D
def SuL (w : World) (g n b : Nat) (D : Array Nat) (j : Nat) (wr : World) : Prop := ∃ d, Arr wr g d ∧ d.size = n ∧ Trn w g wr ∧ shiftUp ltN b j d = D
set_option maxHeartbeats 8000000 in
set_option maxRecDepth 100000 in
theorem pins_any {w : World} {g n c : Nat} {d : Array Nat} (a b : Nat) (h : Arr w g d) (hd : d.size = n) (hab : a < b) (hb : b ≤ n) (hn : n ≤ 1000000) :
    Calls Try.prog 39 #[.slice (some ⟨g, 0, none⟩) n c, .int .i64 (a : Int), .int .i64 (b : Int)] w fun e w' => e = .returned (.bool (partialInsertionSort ltN d a b).2) ∧ Arr w' g (partialInsertionSort ltN d a b).1 ∧ Trn w g w' := by
  have H0 : Hid (ParL w g n a b (partialInsertionSort ltN d a b) 5 (a + 1) w) := Lib.hid ⟨d, h, hd, Trn.refl w g, rfl⟩
  generalize partialInsertionSort ltN d a b = R at *
  have hbI : (b : Int) ≤ 1000000 := by omega
  have haI : (a : Int) < (b : Int) := by omega
  clear h hd
  go_enter Try.func39, Try.ntmps39
  go_wp2_with (fail)
  go_loopw [7, 8] (fun ir sr wr => ∃ s i : Nat, s ≤ 5 ∧ a < i ∧ i ≤ b ∧ ir = .int .i64 (i : Int) ∧ sr = .int .i64 (5 - (s : Int)) ∧ Hid (ParL w g n a b R s i wr)) (fun _ sr _ => (5 - intOf sr).toNat)
  case atStart => exact ⟨5, a + 1, by omega, by omega, by omega, by go_num, by first | rfl | go_num, H0⟩
  case round =>
    clear H0
    obtain ⟨s, i, hs, hai, hib, rfl, rfl, HL⟩ := hrel
    obtain ⟨d2, ha2, hs2, ht2, he2⟩ := HL.out
    cases s with
    | zero =>
      have he3 : (d2, false) = R := he2
      subst he3
      have HA := Lib.hid ha2
      have HT := Lib.hid ht2
      have e1 : (5 : Int) - ((0 : Nat) : Int) = 5 := by omega
      rw [e1]
      clear ha2 ht2 hs2 he2 HL e1
      go_wp2_with (fail)
      go_ret
      exact ⟨rfl, HA.out, HT.out⟩
    | succ s =>
      have e1 : (5 : Int) - ((s + 1 : Nat) : Int) < 5 := by omega
      have e2 : decide ((5 : Int) - ((s + 1 : Nat) : Int) < 5) = true := by simpa using e1
      generalize hsr : (5 : Int) - ((s + 1 : Nat) : Int) = sr at *
      have HSR := Lib.hid hsr
      have sr0 : 0 ≤ sr := by omega
      clear hsr
      go_upto_block 2 with (fail)
      obtain ⟨I, hI⟩ : ∃ I, I = scanSorted ltN d2 b i := ⟨_, rfl⟩
      have hge := ss_ge d2 b _ i (Nat.le_refl _)
      rw [← hI] at hge
      obtain ⟨g1, g2⟩ := hge
      have g2 := g2 hib
      have he3 := he2
      rw [Go.Sort.partialIns_succ, ← hI] at he3
      have HE3 := Lib.hid he3
      have HI : Hid (scanSorted ltN d2 b i = I) := Lib.hid hI.symm
      have HS2 := Lib.hid hs2
      have ST : Hid (AT w g d2 wr) := Lib.hid ⟨ha2, ht2⟩
      have hsz : d2.size = n := hs2
      clear hI ha2 ht2 hs2 he2 he3 HL
      go_cut [7] from 17 to 34 (fun xr wq => xr = .int .i64 ((I : Nat) : Int) ∧ Hid (AT w g d2 wq))
      case first =>
        go_wp2_with (fail)
        go_loopw [7] (fun xr wq => ∃ k : Nat, a < k ∧ k ≤ b ∧ xr = .int .i64 (k : Int) ∧ Hid (AT w g d2 wq) ∧ Hid (scanSorted ltN d2 b k = I)) (fun xr _ => b - (intOf xr).toNat)
        case atStart => exact ⟨i, hai, hib, rfl, ST, HI⟩
        case round =>
          obtain ⟨k, hk1, hk2, rfl, ST2, HR⟩ := hrel
          clear ST
          obtain ⟨ha2, ht2⟩ := ST2.out
          by_cases hkb : k < b
          · obtain ⟨k, rfl⟩ : ∃ q, k = q + 1 := ⟨k - 1, by omega⟩
            have c0 := ha2.cell (k + 1) (by omega)
            have c1 := ha2.cell k (by omega)
            have q1 : decide ((k : Int) + 1 < (b : Int)) = true := by simp; omega
            have q2 : decide (k + 1 < b) = true := by simpa using hkb
            have b3 : k + 1 < n := by omega
            have b4 : (k : Int) + 1 < (n : Int) := by omega
            have b5 : k < n := by omega
            have b6 : (k : Int) < (n : Int) := by omega
            have hq := fun W => qless d2[k + 1]! d2[k]! W
            have HA := Lib.hid ha2
            have HT := Lib.hid ht2
            clear ha2 ht2 ST2
            generalize hx : d2[k + 1]! = x at *
            generalize hy : d2[k]! = y at *
            cases hb : ltN x y with
            | true =>
              rw [hb] at hq
              have HE := Lib.hid (show k + 1 = I by rw [← HR.out]; exact (ss_no (by rw [Nat.add_sub_cancel, hx, hy]; exact hb)).symm)
              clear hb hx hy HR
              go_wp2_with (fail)
              go_quiet ((go_at_call 40; exact Calls.quiet_of_same (hq _)))
              go_wp2_with (fail)
              go_meet
              case rel => exact ⟨by rw [← HE.out], Lib.hid ⟨HA.out.drewN _, HT.out.drewN _⟩⟩
            | false =>
              rw [hb] at hq
              have HE := Lib.hid (show scanSorted ltN d2 b (k + 1 + 1) = I by rw [← HR.out]; exact (ss_go hkb (by rw [Nat.add_sub_cancel, hx, hy]; exact hb)).symm)
              clear hb hx hy HR
              go_wp2_with (fail)
              go_quiet ((go_at_call 40; exact Calls.quiet_of_same (hq _)))
              go_wp2_with (fail)
              go_roundw
              case rel => exact ⟨k + 1 + 1, by omega, by omega, by go_num, Lib.hid ⟨HA.out.drewN _, HT.out.drewN _⟩, HE⟩
              case measure => simp [intOf]; omega
          · have q1 : decide ((k : Int) < (b : Int)) = false := by simp; omega
            have q2 : decide (k < b) = false := by simpa using hkb
            have HE := Lib.hid (show k = I by rw [← HR.out]; exact (ss_end hkb).symm)
            have HA := Lib.hid ha2
            have HT := Lib.hid ht2
            clear ha2 ht2 ST2 HR hkb
            go_wp2_with (fail)
            go_quiet (fail)
            go_wp2_with (fail)
            go_meet
            case rel => exact ⟨by rw [HE.out], Lib.hid ⟨HA.out.drewN _, HT.out.drewN _⟩⟩
      case rest =>
        obtain ⟨rfl, ST3⟩ := hcut
        clear ST HI
        obtain ⟨ha3, ht3⟩ := ST3.out
        by_cases hIb : I = b
        · have e3 := HE3.out
          rw [if_pos hIb] at e3
          subst e3
          have q1 : ((I : Int) == (b : Int)) = true := by simp; omega
          have HA := Lib.hid ha3
          have HT := Lib.hid ht3
          clear ha3 ht3 HE3 ST3
          subst hIb
          go_wp2_with (fail)
          go_ret
          exact ⟨rfl, HA.out, HT.out⟩
        · have e3 := HE3.out
          rw [if_neg hIb] at e3
          have q1 : ((I : Int) == (b : Int)) = false := by simp; omega
          have q3 : ¬ (I : Int) = (b : Int) := by omega
          by_cases h50 : b - a < 50
          · rw [if_pos h50] at e3
            subst e3
            have q2 : decide ((b : Int) - (a : Int) < 50) = true := by simp; omega
            have HA := Lib.hid ha3
            have HT := Lib.hid ht3
            clear ha3 ht3 HE3 ST3
            go_wp2_with (fail)
            go_ret
            exact ⟨rfl, HA.out, HT.out⟩
          · rw [if_neg h50] at e3
            have q2 : decide ((b : Int) - (a : Int) < 50) = false := by simp; omega
            have q4 : ¬ (b : Int) - (a : Int) < 50 := by omega
            obtain ⟨k, rfl⟩ : ∃ q, I = q + 1 := ⟨I - 1, by omega⟩
            rw [Nat.add_sub_cancel] at e3
            have HE4 := Lib.hid e3
            have hkb : k + 1 < b := by omega
            have HSW := Lib.hid ((ha3.swp (i := k + 1) (j := k) (by omega) (by omega)).drew)
            have HS3 := Lib.hid (show (swp d2 (k + 1) k).size = n by rw [swp_size]; exact hsz)
            have c0 := ha3.cell (k + 1) (by omega)
            have z0 := ha3.free (k + 1) (by omega)
            have c1 := ha3.cell k (by omega)
            have z1 := ha3.free k (by omega)
            have b3 : k + 1 < n := by omega
            have b4 : (k : Int) + 1 < (n : Int) := by omega
            have b5 : k < n := by omega
            have b6 : (k : Int) < (n : Int) := by omega
            have b7 : (k : Int) + 1 < (b : Int) := by omega
            have b8 : (a : Int) < (k : Int) + 1 := by omega
            have HT := Lib.hid ht3
            clear ha3 ht3 HE3 ST3 e3 hIb h50 hsz
            generalize swp d2 (k + 1) k = d3 at *
            generalize d2[k + 1]! = x at *
            generalize d2[k]! = y at *
            go_wp2_with (fail)
            go_big_region
            all_goals go_upto_if 61 with (fail)
            have ST4 : Hid (AT w g d3 ((((wc.setCell ⟨g, k + 1, none⟩ (.int .u64 (y : Int))).setCell ⟨g, k, none⟩ (.int .u64 (x : Int))).drew))) := Lib.hid ⟨HSW.out, ((HT.out.set _ _).set _ _).drew⟩
            have hfd : Go.Sort.fixDown ltN a (k + 1) d3 = if k + 1 - a ≥ 2 then shiftDown ltN k d3 else d3 := by unfold Go.Sort.fixDown; rw [Nat.add_sub_cancel]
            have hfs : (Go.Sort.fixDown ltN a (k + 1) d3).size = n := by
              rw [hfd]
              split
              · rw [sd_size]; exact HS3.out
              · exact HS3.out
            have HFD := Lib.hid hfd
            have HFS := Lib.hid hfs
            clear hfd hfs c0 c1 z0 z1 HSW HT
            generalize Go.Sort.fixDown ltN a (k + 1) d3 = d4 at *
            generalize hY : ((((wc.setCell ⟨g, k + 1, none⟩ (.int .u64 (y : Int))).setCell ⟨g, k, none⟩ (.int .u64 (x : Int))).drew)) = Y at *
            clear hY
            go_cut [9, 61] from 62 to 94 (fun _ _ wq => Hid (AT w g d4 wq))
            case first =>
              by_cases h2 : k + 1 - a ≥ 2
              · have f1 := HFD.out
                rw [if_pos h2] at f1
                have t1 : decide ((2 : Int) ≤ (k : Int) + 1 - (a : Int)) = true := decide_eq_true (by omega)
                have t2 : (2 : Int) ≤ (k : Int) + 1 - (a : Int) := by omega
                have HF := Lib.hid f1.symm
                have hs3 := HS3.out
                have H5 : Hid (SdL w g n d4 k Y) := Lib.hid ⟨d3, ST4.out.1, hs3, ST4.out.2, HF.out⟩
                clear f1 HFD ST4 hs3 HS3 HF
                go_wp2_with (fail)
                go_loopw [9] (fun jr wq => ∃ j : Nat, j ≤ k ∧ jr = .int .i64 (j : Int) ∧ Hid (SdL w g n d4 j wq)) (fun jr _ => (intOf jr).toNat)
                case atStart => exact ⟨k, Nat.le_refl _, rfl, H5⟩
                case round =>
                  clear H5
                  obtain ⟨j, hj, rfl, HJ⟩ := hrel
                  obtain ⟨d5, ha5, hs5, ht5, he5⟩ := HJ.out
                  clear HJ
                  cases j with
                  | zero =>
                    have HE : Hid (d5 = d4) := Lib.hid he5
                    have HA := Lib.hid ha5
                    have HT := Lib.hid ht5
                    clear ha5 hs5 ht5 he5
                    go_wp2_with (fail)
                    go_meet
                    case rel => exact Lib.hid ⟨HE.out ▸ HA.out, HT.out⟩
                  | succ j =>
                    have e7 : ((j + 1 : Nat) : Int) = (j : Int) + 1 := by omega
                    rw [e7]
                    have r1 : decide ((1 : Int) ≤ (j : Int) + 1) = true := decide_eq_true (by omega)
                    have b13 : j + 1 < n := by omega
                    have b14 : (j : Int) + 1 < (n : Int) := by omega
                    have b15 : j < n := by omega
                    have b16 : (j : Int) < (n : Int) := by omega
                    have c0 := ha5.cell (j + 1) (by omega)
                    have z0 := ha5.free (j + 1) (by omega)
                    have c1 := ha5.cell j (by omega)
                    have z1 := ha5.free j (by omega)
                    have hq := fun W => qless d5[j + 1]! d5[j]! W
                    have HSW := Lib.hid (fun m => (ha5.drewN m).swp (i := j + 1) (j := j) (by omega) (by omega))
                    have HA := Lib.hid ha5
                    have HT := Lib.hid ht5
                    have HS := Lib.hid hs5
                    have HE5 := Lib.hid he5
                    clear ha5 ht5 hs5 he5 e7
                    generalize hx : d5[j + 1]! = x at *
                    generalize hy : d5[j]! = y at *
                    cases hb : ltN x y with
                    | false =>
                      rw [hb] at hq
                      have HE := Lib.hid (show d5 = d4 by rw [← HE5.out]; exact (sd_no (by rw [hx, hy]; exact hb)).symm)
                      clear hb hx hy HE5 HSW
                      go_wp2_with (fail)
                      go_quiet ((go_at_call 40; exact Calls.quiet_of_same (hq _)))
                      go_wp2_with (fail)
                      go_meet
                      case rel => exact Lib.hid ⟨HE.out ▸ HA.out.drewN _, HT.out.drewN _⟩
                    | true =>
                      rw [hb] at hq
                      have HE := Lib.hid (show shiftDown ltN j (swp d5 (j + 1) j) = d4 by rw [← HE5.out]; exact (sd_go (by rw [hx, hy]; exact hb)).symm)
                      clear hb hx hy HE5
                      go_wp2_with (fail)
                      go_quiet ((go_at_call 40; exact Calls.quiet_of_same (hq _)))
                      go_wp2_with (fail)
                      go_big_region
                      all_goals go_wp2
                      all_goals go_roundw
                      case rel => exact ⟨j, by omega, rfl, Lib.hid ⟨_, HSW.out _, by rw [swp_size]; exact HS.out, ((HT.out.drewN _).set _ _).set _ _, HE.out⟩⟩
                      case measure => simp [intOf]
              · have f1 := HFD.out
                rw [if_neg h2] at f1
                subst f1
                have t1 : decide ((2 : Int) ≤ (k : Int) + 1 - (a : Int)) = false := decide_eq_false (by omega)
                have t2 : ¬ (2 : Int) ≤ (k : Int) + 1 - (a : Int) := by omega
                go_wp2_with (fail)
                go_meet
                case rel => exact ST4
            case rest =>
              clear ST4 HFD HS3
              have ST6 := hcut
              clear hcut
              go_upto_if 98 with (fail)
              have hfd : Go.Sort.fixUp ltN b (k + 1) d4 = if b - (k + 1) ≥ 2 then shiftUp ltN b (k + 1 + 1) d4 else d4 := rfl
              have hfs : (Go.Sort.fixUp ltN b (k + 1) d4).size = n := by
                rw [hfd]
                split
                · rw [su_size b _ _ _ (Nat.le_refl _)]; exact HFS.out
                · exact HFS.out
              have HFU := Lib.hid hfd
              have HS8 := Lib.hid hfs
              clear hfd hfs
              generalize Go.Sort.fixUp ltN b (k + 1) d4 = d6 at *
              by_cases h2 : b - (k + 1) ≥ 2
              · have f1 := HFU.out
                rw [if_pos h2] at f1
                have t1 : decide ((2 : Int) ≤ (b : Int) - ((k : Int) + 1)) = true := decide_eq_true (by omega)
                have t2 : (2 : Int) ≤ (b : Int) - ((k : Int) + 1) := by omega
                have HF := Lib.hid f1.symm
                have hs3 := HFS.out
                have H5 : Hid (SuL w g n b d6 (k + 1 + 1) _) := Lib.hid ⟨d4, ST6.out.1, hs3, ST6.out.2, HF.out⟩
                clear f1 HFU ST6 hs3 HFS HF
                go_wp2_with (fail)
                go_loopw [10] (fun jr wq => ∃ j : Nat, 1 ≤ j ∧ j ≤ b ∧ jr = .int .i64 (j : Int) ∧ Hid (SuL w g n b d6 j wq)) (fun jr _ => b - (intOf jr).toNat)
                case atStart => exact ⟨k + 1 + 1, by omega, by omega, by go_num, H5⟩
                case round =>
                  clear H5
                  obtain ⟨j, hj1, hj2, rfl, HJ⟩ := hrel
                  obtain ⟨d5, ha5, hs5, ht5, he5⟩ := HJ.out
                  clear HJ
                  by_cases hjb : j < b
                  · obtain ⟨j, rfl⟩ : ∃ q, j = q + 1 := ⟨j - 1, by omega⟩
                    have e7 : ((j + 1 : Nat) : Int) = (j : Int) + 1 := by omega
                    rw [e7]
                    have r1 : decide ((j : Int) + 1 < (b : Int)) = true := by simp; omega
                    have r2 : decide (j + 1 < b) = true := by simpa using hjb
                    have b13 : j + 1 < n := by omega
                    have b14 : (j : Int) + 1 < (n : Int) := by omega
                    have b15 : j < n := by omega
                    have b16 : (j : Int) < (n : Int) := by omega
                    have c0 := ha5.cell (j + 1) (by omega)
                    have z0 := ha5.free (j + 1) (by omega)
                    have c1 := ha5.cell j (by omega)
                    have z1 := ha5.free j (by omega)
                    have hq := fun W => qless d5[j + 1]! d5[j]! W
                    have HSW := Lib.hid (fun m => (ha5.drewN m).swp (i := j + 1) (j := j) (by omega) (by omega))
                    have HA := Lib.hid ha5
                    have HT := Lib.hid ht5
                    have HS := Lib.hid hs5
                    have HE5 := Lib.hid he5
                    clear ha5 ht5 hs5 he5 e7
                    generalize hx : d5[j + 1]! = x at *
                    generalize hy : d5[j]! = y at *
                    cases hb : ltN x y with
                    | false =>
                      rw [hb] at hq
                      have HE := Lib.hid (show d5 = d6 by rw [← HE5.out]; exact (su_no hjb (by rw [Nat.add_sub_cancel, hx, hy]; exact hb)).symm)
                      clear hb hx hy HE5 HSW
                      go_wp2_with (fail)
                      go_quiet ((go_at_call 40; exact Calls.quiet_of_same (hq _)))
                      go_wp2_with (fail)
                      go_roundw
                      case rel => exact ⟨s, k + 1, by omega, by omega, by omega, by go_num, by have := HSR.out; first | (rw [← this]; congr 1; omega) | (congr 1; omega), Lib.hid ⟨d6, HE.out ▸ HA.out.drewN _, HS8.out, HT.out.drewN _, HE4.out⟩⟩
                      case measure => have := HSR.out; simp [intOf]; omega
                    | true =>
                      rw [hb] at hq
                      have HE := Lib.hid (show shiftUp ltN b (j + 1 + 1) (swp d5 (j + 1) j) = d6 by rw [← HE5.out]; exact (su_go hjb (by rw [Nat.add_sub_cancel, hx, hy]; exact hb)).symm)
                      clear hb hx hy HE5
                      go_wp2_with (fail)
                      go_quiet ((go_at_call 40; exact Calls.quiet_of_same (hq _)))
                      go_wp2_with (fail)
                      go_big_region
                      all_goals go_wp2
                      all_goals go_roundw
                      case rel => exact ⟨j + 1 + 1, by omega, by omega, by go_num, Lib.hid ⟨_, HSW.out _, by rw [swp_size]; exact HS.out, ((HT.out.drewN _).set _ _).set _ _, HE.out⟩⟩
                      case measure => simp [intOf]; omega
                  · have HE : Hid (d5 = d6) := Lib.hid (by rw [← he5, su_end hjb])
                    have r1 : decide ((j : Int) < (b : Int)) = false := by simp; omega
                    have r2 : decide (j < b) = false := by simpa using hjb
                    have HA := Lib.hid ha5
                    have HT := Lib.hid ht5
                    clear ha5 hs5 ht5 he5 hjb
                    go_wp2_with (fail)
                    go_roundw
                    case rel => exact ⟨s, k + 1, by omega, by omega, by omega, by go_num, by have := HSR.out; first | (rw [← this]; congr 1; omega) | (congr 1; omega), Lib.hid ⟨d6, HE.out ▸ HA.out, HS8.out, HT.out, HE4.out⟩⟩
                    case measure => have := HSR.out; simp [intOf]; omega
              · have f1 := HFU.out
                rw [if_neg h2] at f1
                subst f1
                have t1 : decide ((2 : Int) ≤ (b : Int) - ((k : Int) + 1)) = false := decide_eq_false (by omega)
                have t2 : ¬ (2 : Int) ≤ (b : Int) - ((k : Int) + 1) := by omega
                go_wp2_with (fail)
                go_roundw
                case rel => exact ⟨s, k + 1, by omega, by omega, by omega, by go_num, by have := HSR.out; first | (rw [← this]; congr 1; omega) | (congr 1; omega), Lib.hid ⟨d6, ST6.out.1, HS8.out, ST6.out.2, HE4.out⟩⟩
                case measure => have := HSR.out; simp [intOf]; omega
end Go.Proofs.Ytpdgcphflheeiaa
