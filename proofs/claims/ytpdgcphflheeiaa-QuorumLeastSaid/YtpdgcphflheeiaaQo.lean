/- slices.partitionEqualOrdered. -/
import Derived.Test.YtpdgcphflheeiaaQp
import Derived.Sort.LotC
import Derived.Deep.DeepCutAuto
import Derived.Deep.CutBlock
namespace Go.Proofs.Ytpdgcphflheeiaa
open Go.RowKit
open Go.Sort (scanUp scanDown partEqLoop partitionEqual swp)

def eU (d : Array Nat) (a : Nat) (x : Nat) : Bool := !ltN d[a]! x
def eD (d : Array Nat) (a : Nat) (x : Nat) : Bool := ltN d[a]! x
theorem up_go {p : Nat → Bool} {d : Array Nat} {j i : Nat} (h : i ≤ j) (hp : p d[i]! = true) : scanUp p d j i = scanUp p d j (i + 1) := by
  rw [scanUp, if_pos (by simp [h, hp])]
theorem up_end {p : Nat → Bool} {d : Array Nat} {j i : Nat} (h : ¬ i ≤ j) : scanUp p d j i = i := by
  rw [scanUp, if_neg (by simp [h])]
theorem up_no {p : Nat → Bool} {d : Array Nat} {j i : Nat} (hp : p d[i]! = false) : scanUp p d j i = i := by
  rw [scanUp, if_neg (by simp [hp])]
theorem dn_go {p : Nat → Bool} {d : Array Nat} {i j : Nat} (h : i ≤ j + 1) (hp : p d[j + 1]! = true) : scanDown p d i (j + 1) = scanDown p d i j := by
  rw [scanDown, if_pos (by simp [h, hp])]
theorem dn_end {p : Nat → Bool} {d : Array Nat} {i j : Nat} (h : ¬ i ≤ j) : scanDown p d i j = j := by
  cases j with
  | zero => rfl
  | succ j => rw [scanDown, if_neg (by simp [h])]
theorem dn_no {p : Nat → Bool} {d : Array Nat} {i j : Nat} (hp : p d[j]! = false) : scanDown p d i j = j := by
  cases j with
  | zero => rfl
  | succ j => rw [scanDown, if_neg (by simp [hp])]
def EqL (w : World) (g n a : Nat) (R : Nat × Array Nat) (i j : Nat) (wr : World) : Prop := ∃ d, Arr wr g d ∧ d.size = n ∧ Trn w g wr ∧ partEqLoop ltN a i j d = R
def AT (w : World) (g : Nat) (d : Array Nat) (wr : World) : Prop := Arr wr g d ∧ Trn w g wr
set_option maxHeartbeats 4000000 in
theorem eqlo_any {w : World} {g n c : Nat} {d : Array Nat} (a b pv : Nat) (h : Arr w g d) (hd : d.size = n) (hap : a < pv) (hpb : pv < b) (hb : b ≤ n) (hn : n ≤ 1000000) :
    Calls Try.prog 41 #[.slice (some ⟨g, 0, none⟩) n c, .int .i64 (a : Int), .int .i64 (b : Int), .int .i64 (pv : Int)] w fun e w' => e = .returned (.int .i64 (((partitionEqual ltN d a b pv).1 : Nat) : Int)) ∧ Arr w' g (partitionEqual ltN d a b pv).2 ∧ Trn w g w' := by
  obtain ⟨m, rfl⟩ : ∃ m, b = m + 1 := ⟨b - 1, by omega⟩
  have HR := Lib.hid (show partEqLoop ltN a (a + 1) m (swp d a pv) = partitionEqual ltN d a (m + 1) pv by unfold partitionEqual; rw [Nat.add_sub_cancel])
  have HSW := Lib.hid ((h.swp (i := a) (j := pv) (by omega) (by omega)).drew)
  have HSS := Lib.hid (show (swp d a pv).size = n by rw [swp_size]; exact hd)
  generalize partitionEqual ltN d a (m + 1) pv = R at *
  have c0 := h.cell a (by omega)
  have z0 := h.free a (by omega)
  have c1 := h.cell pv (by omega)
  have z1 := h.free pv (by omega)
  have n1 : ¬ a = pv := by omega
  have n2 : ¬ pv = a := by omega
  have b1 : a < n := by omega
  have b2 : (a : Int) < (n : Int) := by omega
  have b3 : pv < n := by omega
  have b4 : (pv : Int) < (n : Int) := by omega
  have HMN : m < n := by omega
  have HM2 : (m : Int) ≤ 1000000 := by omega
  have HA2 : (a : Int) ≤ 1000000 := by omega
  have HAM : a < m := by omega
  rw [show ((m + 1 : Nat) : Int) = (m : Int) + 1 by omega]
  clear h hd
  generalize swp d a pv = d1 at *
  generalize d[a]! = x at *
  generalize d[pv]! = y at *
  go_enter Try.func41, Try.ntmps41
  go_wp2_with (fail)
  go_big_region
  all_goals go_wp2
  have H1 : Hid (EqL w g n a R (a + 1) m (((w.setCell ⟨g, a, none⟩ (.int .u64 (y : Int))).setCell ⟨g, pv, none⟩ (.int .u64 (x : Int))).drew)) := Lib.hid ⟨d1, HSW.out, HSS.out, (((Trn.refl w g).set _ _).set _ _).drew, HR.out⟩
  clear HSW HSS HR c0 c1 z0 z1
  go_loopw [9, 10] (fun ir jr wr => ∃ i j : Nat, a < i ∧ i ≤ j + 1 ∧ j ≤ m ∧ ir = .int .i64 (i : Int) ∧ jr = .int .i64 (j : Int) ∧ Hid (EqL w g n a R i j wr)) (fun ir jr _ => ((intOf jr) + 1 - (intOf ir)).toNat)
  case atStart => exact ⟨a + 1, m, by omega, by omega, by omega, by go_num, by go_num, H1⟩
  case round =>
    clear H1
    obtain ⟨i, j, hai, hij, hjm, rfl, rfl, HL⟩ := hrel
    obtain ⟨d2, ha2, hs2, ht2, he2⟩ := HL.out
    have ST : Hid (AT w g d2 wr) := Lib.hid ⟨ha2, ht2⟩
    obtain ⟨I, hI⟩ : ∃ I, I = scanUp (eU d2 a) d2 j i := ⟨_, rfl⟩
    obtain ⟨J, hJ⟩ : ∃ J, J = scanDown (eD d2 a) d2 I j := ⟨_, rfl⟩
    have hU := Go.Sort.scanUp_spec (eU d2 a) d2 j _ i rfl
    have hD := Go.Sort.scanDown_spec (eD d2 a) d2 I j
    have he3 := he2
    rw [Go.Sort.partEqLoop_eq] at he3
    change (if scanUp (eU d2 a) d2 j i > scanDown (eD d2 a) d2 (scanUp (eU d2 a) d2 j i) j then (scanUp (eU d2 a) d2 j i, d2) else partEqLoop ltN a (scanUp (eU d2 a) d2 j i + 1) (scanDown (eD d2 a) d2 (scanUp (eU d2 a) d2 j i) j - 1) (swp d2 (scanUp (eU d2 a) d2 j i) (scanDown (eD d2 a) d2 (scanUp (eU d2 a) d2 j i) j))) = R at he3
    rw [← hI, ← hJ] at he3
    rw [← hI] at hU
    rw [← hJ] at hD
    obtain ⟨u1, u2, _, u4⟩ := hU
    obtain ⟨v1, v2, _, v4⟩ := hD
    have u2 := u2 hij
    have v2 := v2 u2
    have hlt : I ≤ J → I < J := by
      intro h
      rcases Nat.lt_or_ge I J with h2 | h2
      · exact h2
      · exfalso
        have e : I = J := by omega
        have a1 := u4 (by omega)
        have a2 := v4 h (by omega)
        rw [← e] at a2
        unfold eU at a1
        unfold eD at a2
        rw [a2] at a1
        cases a1
    have HI : Hid (scanUp (eU d2 a) d2 j i = I) := Lib.hid hI.symm
    have HJ : Hid (scanDown (eD d2 a) d2 I j = J) := Lib.hid hJ.symm
    have HE3 := Lib.hid he3
    have HLT := Lib.hid hlt
    have HS2 := Lib.hid hs2
    have b5 : j < n := by omega
    have b6 : (j : Int) < (n : Int) := by omega
    have hsz : d2.size = n := hs2
    clear ha2 ht2 he2 he3 hI hJ u4 v4 hlt HL
    -- up
    go_upto_block 2 with (fail)
    go_cut [9] from 29 to 45 (fun xr wq => xr = .int .i64 ((I : Nat) : Int) ∧ Hid (AT w g d2 wq))
    case first =>
      go_wp2_with (fail)
      go_loopw [9] (fun xr wq => ∃ k : Nat, a < k ∧ k ≤ j + 1 ∧ xr = .int .i64 (k : Int) ∧ Hid (AT w g d2 wq) ∧ Hid (scanUp (eU d2 a) d2 j k = I)) (fun xr _ => j + 1 - (intOf xr).toNat)
      case atStart => exact ⟨i, hai, hij, rfl, ST, HI⟩
      case round =>
        obtain ⟨k, hk1, hk2, rfl, ST2, HR⟩ := hrel
        clear ST
        obtain ⟨ha2, ht2⟩ := ST2.out
        by_cases hkj : k ≤ j
        · have c0 := ha2.cell a (by omega)
          have c1 := ha2.cell k (by omega)
          have q1 : decide ((k : Int) ≤ (j : Int)) = true := by simp; omega
          have q2 : decide (k ≤ j) = true := by simpa using hkj
          have b3 : k < n := by omega
          have b4 : (k : Int) < (n : Int) := by omega
          have hq := fun W => qless d2[a]! d2[k]! W
          have HU : Hid (eU d2 a d2[k]! = !ltN d2[a]! d2[k]!) := Lib.hid rfl
          have HA := Lib.hid ha2
          have HT := Lib.hid ht2
          clear ha2 ht2 ST2
          generalize hx : d2[a]! = x at *
          generalize hy : d2[k]! = y at *
          cases hb : ltN x y with
          | true =>
            rw [hb] at hq HU
            have HE := Lib.hid (show k = I by rw [← HR.out]; exact (up_no (by rw [hy]; exact HU.out)).symm)
            clear hb hx hy HR HU
            go_wp2_with (fail)
            go_quiet ((go_at_call 40; exact Calls.quiet_of_same (hq _)))
            go_wp2_with (fail)
            go_meet
            case rel => exact ⟨by rw [HE.out], Lib.hid ⟨HA.out.drewN _, HT.out.drewN _⟩⟩
          | false =>
            rw [hb] at hq HU
            have HE := Lib.hid (show scanUp (eU d2 a) d2 j (k + 1) = I by rw [← HR.out]; exact (up_go hkj (by rw [hy]; exact HU.out)).symm)
            clear hb hx hy HR HU
            go_wp2_with (fail)
            go_quiet ((go_at_call 40; exact Calls.quiet_of_same (hq _)))
            go_wp2_with (fail)
            go_roundw
            case rel => exact ⟨k + 1, by omega, by omega, by go_num, Lib.hid ⟨HA.out.drewN _, HT.out.drewN _⟩, HE⟩
            case measure => simp [intOf]; omega
        · have q1 : decide ((k : Int) ≤ (j : Int)) = false := by simp; omega
          have q2 : decide (k ≤ j) = false := by simpa using hkj
          have HE := Lib.hid (show k = I by rw [← HR.out]; exact (up_end hkj).symm)
          have HA := Lib.hid ha2
          have HT := Lib.hid ht2
          clear ha2 ht2 ST2 HR hkj
          go_wp2_with (fail)
          go_quiet (fail)
          go_wp2_with (fail)
          go_meet
          case rel => exact ⟨by rw [HE.out], Lib.hid ⟨HA.out.drewN _, HT.out.drewN _⟩⟩
    case rest =>
      obtain ⟨rfl, ST3⟩ := hcut
      clear ST HI
      have hI1 : (I : Int) ≤ 1000001 := by omega
      go_upto_block 4 with (fail)
      go_cut [10] from 46 to 61 (fun xr wq => xr = .int .i64 ((J : Nat) : Int) ∧ Hid (AT w g d2 wq))
      case first =>
        go_wp2_with (fail)
        go_loopw [10] (fun xr wq => ∃ k : Nat, k ≤ j ∧ I ≤ k + 1 ∧ xr = .int .i64 (k : Int) ∧ Hid (AT w g d2 wq) ∧ Hid (scanDown (eD d2 a) d2 I k = J)) (fun xr _ => (intOf xr).toNat)
        case atStart => exact ⟨j, Nat.le_refl _, u2, rfl, ST3, HJ⟩
        case round =>
          obtain ⟨k, hk1, hk2, rfl, ST2, HR⟩ := hrel
          clear ST3
          obtain ⟨ha2, ht2⟩ := ST2.out
          by_cases hkj : I ≤ k
          · obtain ⟨k, rfl⟩ : ∃ q, k = q + 1 := ⟨k - 1, by omega⟩
            have c0 := ha2.cell a (by omega)
            have c1 := ha2.cell (k + 1) (by omega)
            have q1 : decide ((I : Int) ≤ (k : Int) + 1) = true := by simp; omega
            have q2 : decide (I ≤ k + 1) = true := by simpa using hkj
            have b3 : k + 1 < n := by omega
            have b4 : (k : Int) + 1 < (n : Int) := by omega
            have hq := fun W => qless d2[a]! d2[k + 1]! W
            have HU : Hid (eD d2 a d2[k + 1]! = ltN d2[a]! d2[k + 1]!) := Lib.hid rfl
            have HA := Lib.hid ha2
            have HT := Lib.hid ht2
            clear ha2 ht2 ST2
            generalize hx : d2[a]! = x at *
            generalize hy : d2[k + 1]! = y at *
            cases hb : ltN x y with
            | false =>
              rw [hb] at hq HU
              have HE := Lib.hid (show k + 1 = J by rw [← HR.out]; exact (dn_no (by rw [hy]; exact HU.out)).symm)
              clear hb hx hy HR HU
              go_wp2_with (fail)
              go_quiet ((go_at_call 40; exact Calls.quiet_of_same (hq _)))
              go_wp2_with (fail)
              go_meet
              case rel => exact ⟨by rw [← HE.out], Lib.hid ⟨HA.out.drewN _, HT.out.drewN _⟩⟩
            | true =>
              rw [hb] at hq HU
              have HE := Lib.hid (show scanDown (eD d2 a) d2 I k = J by rw [← HR.out]; exact (dn_go hkj (by rw [hy]; exact HU.out)).symm)
              clear hb hx hy HR HU
              go_wp2_with (fail)
              go_quiet ((go_at_call 40; exact Calls.quiet_of_same (hq _)))
              go_wp2_with (fail)
              go_roundw
              case rel => exact ⟨k, by omega, by omega, rfl, Lib.hid ⟨HA.out.drewN _, HT.out.drewN _⟩, HE⟩
              case measure => simp [intOf]
          · have q1 : decide ((I : Int) ≤ (k : Int)) = false := by simp; omega
            have q2 : decide (I ≤ k) = false := by simpa using hkj
            have HE := Lib.hid (show k = J by rw [← HR.out]; exact (dn_end hkj).symm)
            have HA := Lib.hid ha2
            have HT := Lib.hid ht2
            clear ha2 ht2 ST2 HR hkj
            go_wp2_with (fail)
            go_quiet (fail)
            go_wp2_with (fail)
            go_meet
            case rel => exact ⟨by rw [HE.out], Lib.hid ⟨HA.out.drewN _, HT.out.drewN _⟩⟩
      case rest =>
        obtain ⟨rfl, ST5⟩ := hcut
        clear ST3 HJ
        obtain ⟨ha5, ht5⟩ := ST5.out
        by_cases hgt : J < I
        · have e3 := HE3.out
          rw [if_pos hgt] at e3
          subst e3
          have q1 : decide ((J : Int) < (I : Int)) = true := by simp; omega
          have q2 : decide (J < I) = true := by simpa using hgt
          have HA := Lib.hid ha5
          have HT := Lib.hid ht5
          clear ha5 ht5 HE3 HLT
          go_wp2_with (fail)
          go_ret
          exact ⟨rfl, HA.out, HT.out⟩
        · have e3 := HE3.out
          rw [if_neg hgt] at e3
          have hIJ := HLT.out (by omega)
          obtain ⟨J, rfl⟩ : ∃ q, J = q + 1 := ⟨J - 1, by omega⟩
          rw [Nat.add_sub_cancel] at e3
          have HG := Lib.hid e3
          have HSW := Lib.hid ((ha5.swp (i := I) (j := J + 1) (by omega) (by omega)).drew)
          have c0 := ha5.cell I (by omega)
          have z0 := ha5.free I (by omega)
          have c1 := ha5.cell (J + 1) (by omega)
          have z1 := ha5.free (J + 1) (by omega)
          have n3 : ¬ I = J + 1 := by omega
          have n4 : ¬ J + 1 = I := by omega
          have q1 : decide ((J : Int) + 1 < (I : Int)) = false := by simp; omega
          have q2 : decide (J + 1 < I) = false := decide_eq_false (by omega)
          have b7 : I < n := by omega
          have b8 : (I : Int) < (n : Int) := by omega
          have b9 : J + 1 < n := by omega
          have b10 : (J : Int) + 1 < (n : Int) := by omega
          have HT := Lib.hid ht5
          have HIJ := Lib.hid hIJ
          clear ha5 ht5 HE3 HLT e3 hgt hIJ
          generalize d2[I]! = x at *
          generalize d2[J + 1]! = y at *
          go_wp2_with (fail)
          go_big_region
          all_goals go_wp2
          all_goals go_roundw
          case rel => exact ⟨I + 1, J, by omega, by have := HIJ.out; omega, by omega, by go_num, rfl, Lib.hid ⟨_, HSW.out, by rw [swp_size]; exact HS2.out, ((HT.out.set _ _).set _ _).drew, HG.out⟩⟩
          case measure => have := HIJ.out; simp [intOf]; omega
end Go.Proofs.Ytpdgcphflheeiaa
