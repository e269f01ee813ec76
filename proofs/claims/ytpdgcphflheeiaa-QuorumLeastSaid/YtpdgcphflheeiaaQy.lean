/- slices.partitionOrdered. -/
import Derived.Test.YtpdgcphflheeiaaQo
namespace Go.Proofs.Ytpdgcphflheeiaa
open Go.RowKit
open Go.Sort (scanUp scanDown partLoop partition swp)

def pU (d : Array Nat) (a : Nat) (x : Nat) : Bool := ltN x d[a]!
def pD (d : Array Nat) (a : Nat) (x : Nat) : Bool := !ltN x d[a]!
theorem part_eq (d : Array Nat) (a m pv : Nat) : (if scanUp (pU (swp d a pv) a) (swp d a pv) m (a + 1) > scanDown (pD (swp d a pv) a) (swp d a pv) (scanUp (pU (swp d a pv) a) (swp d a pv) m (a + 1)) m then
      (scanDown (pD (swp d a pv) a) (swp d a pv) (scanUp (pU (swp d a pv) a) (swp d a pv) m (a + 1)) m, true, swp (swp d a pv) (scanDown (pD (swp d a pv) a) (swp d a pv) (scanUp (pU (swp d a pv) a) (swp d a pv) m (a + 1)) m) a)
    else
      ((partLoop ltN a (scanUp (pU (swp d a pv) a) (swp d a pv) m (a + 1) + 1) (scanDown (pD (swp d a pv) a) (swp d a pv) (scanUp (pU (swp d a pv) a) (swp d a pv) m (a + 1)) m - 1) (swp (swp d a pv) (scanUp (pU (swp d a pv) a) (swp d a pv) m (a + 1)) (scanDown (pD (swp d a pv) a) (swp d a pv) (scanUp (pU (swp d a pv) a) (swp d a pv) m (a + 1)) m))).1, false,
       swp (partLoop ltN a (scanUp (pU (swp d a pv) a) (swp d a pv) m (a + 1) + 1) (scanDown (pD (swp d a pv) a) (swp d a pv) (scanUp (pU (swp d a pv) a) (swp d a pv) m (a + 1)) m - 1) (swp (swp d a pv) (scanUp (pU (swp d a pv) a) (swp d a pv) m (a + 1)) (scanDown (pD (swp d a pv) a) (swp d a pv) (scanUp (pU (swp d a pv) a) (swp d a pv) m (a + 1)) m))).2
         (partLoop ltN a (scanUp (pU (swp d a pv) a) (swp d a pv) m (a + 1) + 1) (scanDown (pD (swp d a pv) a) (swp d a pv) (scanUp (pU (swp d a pv) a) (swp d a pv) m (a + 1)) m - 1) (swp (swp d a pv) (scanUp (pU (swp d a pv) a) (swp d a pv) m (a + 1)) (scanDown (pD (swp d a pv) a) (swp d a pv) (scanUp (pU (swp d a pv) a) (swp d a pv) m (a + 1)) m))).1 a)) = partition ltN d a (m + 1) pv := by
  unfold partition
  rw [Nat.add_sub_cancel]
  rfl
def PaL (w : World) (g n a : Nat) (R : Nat × Array Nat) (i j : Nat) (wr : World) : Prop := ∃ d, Arr wr g d ∧ d.size = n ∧ Trn w g wr ∧ partLoop ltN a i j d = R
set_option maxHeartbeats 8000000 in
set_option maxRecDepth 100000 in
theorem part_any {w : World} {g n c : Nat} {d : Array Nat} (a b pv : Nat) (h : Arr w g d) (hd : d.size = n) (hap : a < pv) (hpb : pv < b) (hb : b ≤ n) (hn : n ≤ 1000000) :
    Calls Try.prog 42 #[.slice (some ⟨g, 0, none⟩) n c, .int .i64 (a : Int), .int .i64 (b : Int), .int .i64 (pv : Int)] w fun e w' => e = .returned (.tuple #[.int .i64 (((partition ltN d a b pv).1 : Nat) : Int), .bool (partition ltN d a b pv).2.1]) ∧ Arr w' g (partition ltN d a b pv).2.2 ∧ Trn w g w' := by
  obtain ⟨m, rfl⟩ : ∃ m, b = m + 1 := ⟨b - 1, by omega⟩
  have HR := Lib.hid (part_eq d a m pv)
  have HSW := Lib.hid ((h.swp (i := a) (j := pv) (by omega) (by omega)).drew)
  have HSS := Lib.hid (show (swp d a pv).size = n by rw [swp_size]; exact hd)
  generalize partition ltN d a (m + 1) pv = R at *
  have c0 := h.cell a (by omega)
  have z0 := h.free a (by omega)
  have c1 := h.cell pv (by omega)
  have z1 := h.free pv (by omega)
  have n1 : ¬ a = pv := by omega
  have n2 : ¬ pv = a := by omega
  have b1 : a < n := by omega
  have b2 : (a : Int) < (n : Int) := by omega
  have b3 : pv < n := by omega
  have b4 : (pv : Int) < (n : Int) := by omega
  have HMN : m < n := by omega
  have HM2 : (m : Int) ≤ 1000000 := by omega
  have HA2 : (a : Int) ≤ 1000000 := by omega
  have HAM : a < m := by omega
  rw [show ((m + 1 : Nat) : Int) = (m : Int) + 1 by omega]
  clear h hd
  generalize swp d a pv = d2 at *
  generalize d[a]! = x at *
  generalize d[pv]! = y at *
  go_enter Try.func42, Try.ntmps42
  go_wp2_with (fail)
  go_big_region
  all_goals go_upto_block 0 with (fail)
  have ST : Hid (AT w g d2 (((w.setCell ⟨g, a, none⟩ (.int .u64 (y : Int))).setCell ⟨g, pv, none⟩ (.int .u64 (x : Int))).drew)) := Lib.hid ⟨HSW.out, (((Trn.refl w g).set _ _).set _ _).drew⟩
  have hs2 : d2.size = n := HSS.out
  have he3 := HR.out
  clear HSW HSS HR c0 c1 z0 z1
  obtain ⟨I, hI⟩ : ∃ I, I = scanUp (pU d2 a) d2 m (a + 1) := ⟨_, rfl⟩
  obtain ⟨J, hJ⟩ : ∃ J, J = scanDown (pD d2 a) d2 I m := ⟨_, rfl⟩
  have hU := Go.Sort.scanUp_spec (pU d2 a) d2 m _ (a + 1) rfl
  have hD := Go.Sort.scanDown_spec (pD d2 a) d2 I m
  rw [← hI, ← hJ] at he3
  rw [← hI] at hU
  rw [← hJ] at hD
  obtain ⟨u1, u2, _, u4⟩ := hU
  obtain ⟨v1, v2, _, v4⟩ := hD
  have u2 := u2 (by omega)
  have v2 := v2 u2
  have hlt : I ≤ J → I < J := by
    intro h
    rcases Nat.lt_or_ge I J with h2 | h2
    · exact h2
    · exfalso
      have e : I = J := by omega
      have a1 := u4 (by omega)
      have a2 := v4 h (by omega)
      rw [← e] at a2
      unfold pU at a1
      unfold pD at a2
      rw [a1] at a2
      cases a2
  have HI : Hid (scanUp (pU d2 a) d2 m (a + 1) = I) := Lib.hid hI.symm
  have HJ : Hid (scanDown (pD d2 a) d2 I m = J) := Lib.hid hJ.symm
  have HE3 := Lib.hid he3
  have HLT := Lib.hid hlt
  have HS2 := Lib.hid hs2
  have b5 : m < n := by omega
  have b6 : (m : Int) < (n : Int) := by omega
  have hsz : d2.size = n := hs2
  clear he3 hI hJ u4 v4 hlt
  go_cut [10] from 30 to 45 (fun xr wq => xr = .int .i64 ((I : Nat) : Int) ∧ Hid (AT w g d2 wq))
  case first =>
    go_wp2_with (fail)
    go_loopw [10] (fun xr wq => ∃ k : Nat, a < k ∧ k ≤ m + 1 ∧ xr = .int .i64 (k : Int) ∧ Hid (AT w g d2 wq) ∧ Hid (scanUp (pU d2 a) d2 m k = I)) (fun xr _ => m + 1 - (intOf xr).toNat)
    case atStart => exact ⟨a + 1, by omega, by omega, by go_num, ST, HI⟩
    case round =>
      obtain ⟨k, hk1, hk2, rfl, ST2, HR⟩ := hrel
      clear ST
      obtain ⟨ha2, ht2⟩ := ST2.out
      by_cases hkj : k ≤ m
      · have c0 := ha2.cell a (by omega)
        have c1 := ha2.cell k (by omega)
        have q1 : decide ((k : Int) ≤ (m : Int)) = true := by simp; omega
        have q2 : decide (k ≤ m) = true := by simpa using hkj
        have b3 : k < n := by omega
        have b4 : (k : Int) < (n : Int) := by omega
        have hq := fun W => qless d2[k]! d2[a]! W
        have HU : Hid (pU d2 a d2[k]! = ltN d2[k]! d2[a]!) := Lib.hid rfl
        have HA := Lib.hid ha2
        have HT := Lib.hid ht2
        clear ha2 ht2 ST2
        generalize hx : d2[a]! = x at *
        generalize hy : d2[k]! = y at *
        cases hb : ltN y x with
        | false =>
          rw [hb] at hq HU
          have HE := Lib.hid (show k = I by rw [← HR.out]; exact (up_no (by rw [hy]; exact HU.out)).symm)
          clear hb hx hy HR HU
          go_wp2_with (fail)
          go_quiet ((go_at_call 40; exact Calls.quiet_of_same (hq _)))
          go_wp2_with (fail)
          go_meet
          case rel => exact ⟨by rw [HE.out], Lib.hid ⟨HA.out.drewN _, HT.out.drewN _⟩⟩
        | true =>
          rw [hb] at hq HU
          have HE := Lib.hid (show scanUp (pU d2 a) d2 m (k + 1) = I by rw [← HR.out]; exact (up_go hkj (by rw [hy]; exact HU.out)).symm)
          clear hb hx hy HR HU
          go_wp2_with (fail)
          go_quiet ((go_at_call 40; exact Calls.quiet_of_same (hq _)))
          go_wp2_with (fail)
          go_roundw
          case rel => exact ⟨k + 1, by omega, by omega, by go_num, Lib.hid ⟨HA.out.drewN _, HT.out.drewN _⟩, HE⟩
          case measure => simp [intOf]; omega
      · have q1 : decide ((k : Int) ≤ (m : Int)) = false := by simp; omega
        have q2 : decide (k ≤ m) = false := by simpa using hkj
        have HE := Lib.hid (show k = I by rw [← HR.out]; exact (up_end hkj).symm)
        have HA := Lib.hid ha2
        have HT := Lib.hid ht2
        clear ha2 ht2 ST2 HR hkj
        go_wp2_with (fail)
        go_quiet (fail)
        go_wp2_with (fail)
        go_meet
        case rel => exact ⟨by rw [HE.out], Lib.hid ⟨HA.out.drewN _, HT.out.drewN _⟩⟩
  case rest =>
    obtain ⟨rfl, ST3⟩ := hcut
    clear ST HI
    have hI1 : (I : Int) ≤ 1000001 := by omega
    go_upto_block 2 with (fail)
    go_cut [11] from 46 to 62 (fun xr wq => xr = .int .i64 ((J : Nat) : Int) ∧ Hid (AT w g d2 wq))
    case first =>
      go_wp2_with (fail)
      go_loopw [11] (fun xr wq => ∃ k : Nat, k ≤ m ∧ I ≤ k + 1 ∧ xr = .int .i64 (k : Int) ∧ Hid (AT w g d2 wq) ∧ Hid (scanDown (pD d2 a) d2 I k = J)) (fun xr _ => (intOf xr).toNat)
      case atStart => exact ⟨m, Nat.le_refl _, u2, rfl, ST3, HJ⟩
      case round =>
        obtain ⟨k, hk1, hk2, rfl, ST2, HR⟩ := hrel
        clear ST3
        obtain ⟨ha2, ht2⟩ := ST2.out
        by_cases hkj : I ≤ k
        · obtain ⟨k, rfl⟩ : ∃ q, k = q + 1 := ⟨k - 1, by omega⟩
          have c0 := ha2.cell a (by omega)
          have c1 := ha2.cell (k + 1) (by omega)
          have q1 : decide ((I : Int) ≤ (k : Int) + 1) = true := by simp; omega
          have q2 : decide (I ≤ k + 1) = true := by simpa using hkj
          have b3 : k + 1 < n := by omega
          have b4 : (k : Int) + 1 < (n : Int) := by omega
          have hq := fun W => qless d2[k + 1]! d2[a]! W
          have HU : Hid (pD d2 a d2[k + 1]! = !ltN d2[k + 1]! d2[a]!) := Lib.hid rfl
          have HA := Lib.hid ha2
          have HT := Lib.hid ht2
          clear ha2 ht2 ST2
          generalize hx : d2[a]! = x at *
          generalize hy : d2[k + 1]! = y at *
          cases hb : ltN y x with
          | true =>
            rw [hb] at hq HU
            have HE := Lib.hid (show k + 1 = J by rw [← HR.out]; exact (dn_no (by rw [hy]; exact HU.out)).symm)
            clear hb hx hy HR HU
            go_wp2_with (fail)
            go_quiet ((go_at_call 40; exact Calls.quiet_of_same (hq _)))
            go_wp2_with (fail)
            go_meet
            case rel => exact ⟨by rw [← HE.out], Lib.hid ⟨HA.out.drewN _, HT.out.drewN _⟩⟩
          | false =>
            rw [hb] at hq HU
            have HE := Lib.hid (show scanDown (pD d2 a) d2 I k = J by rw [← HR.out]; exact (dn_go hkj (by rw [hy]; exact HU.out)).symm)
            clear hb hx hy HR HU
            go_wp2_with (fail)
            go_quiet ((go_at_call 40; exact Calls.quiet_of_same (hq _)))
            go_wp2_with (fail)
            go_roundw
            case rel => exact ⟨k, by omega, by omega, rfl, Lib.hid ⟨HA.out.drewN _, HT.out.drewN _⟩, HE⟩
            case measure => simp [intOf]
        · have q1 : decide ((I : Int) ≤ (k : Int)) = false := by simp; omega
          have q2 : decide (I ≤ k) = false := by simpa using hkj
          have HE := Lib.hid (show k = J by rw [← HR.out]; exact (dn_end hkj).symm)
          have HA := Lib.hid ha2
          have HT := Lib.hid ht2
          clear ha2 ht2 ST2 HR hkj
          go_wp2_with (fail)
          go_quiet (fail)
          go_wp2_with (fail)
          go_meet
          case rel => exact ⟨by rw [HE.out], Lib.hid ⟨HA.out.drewN _, HT.out.drewN _⟩⟩
    case rest =>
      obtain ⟨rfl, ST5⟩ := hcut
      clear ST3 HJ
      have hJa : a ≤ J := by omega
      have hJn : J < n := by omega
      have hJ2 : (J : Int) < (n : Int) := by omega
      by_cases hgt : J < I
      · have e3 := HE3.out
        rw [if_pos hgt] at e3
        subst e3
        have q1 : decide ((J : Int) < (I : Int)) = true := by simp; omega
        have q2 : decide (J < I) = true := by simpa using hgt
        clear HE3 HLT
        obtain ⟨ha5, ht5⟩ := ST5.out
        have HSW := Lib.hid ((ha5.swp (i := J) (j := a) (by omega) (by omega)).drew)
        have c0 := ha5.cell a (by omega)
        have z0 := ha5.free a (by omega)
        have c1 := ha5.cell J (by omega)
        have z1 := ha5.free J (by omega)
        have HT := Lib.hid ht5
        rcases Nat.eq_or_lt_of_le (hJa : a ≤ J) with hja | hja
        · subst hja
          clear ha5 ht5 c1 z1
          generalize d2[a]! = x at *
          go_wp2_with (fail)
          go_big_region
          all_goals go_wp2
          go_ret2
          exact ⟨rfl, HSW.out, ((HT.out.set _ _).set _ _).drew⟩
        · have n3 : ¬ a = J := by omega
          have n4 : ¬ J = a := by omega
          clear ha5 ht5 hja
          generalize d2[a]! = x at *
          generalize d2[J]! = y at *
          go_wp2_with (fail)
          go_big_region
          all_goals go_wp2
          go_ret2
          exact ⟨rfl, HSW.out, ((HT.out.set _ _).set _ _).drew⟩
      · have e3 := HE3.out
        rw [if_neg hgt] at e3
        have hIJ := HLT.out (by omega)
        obtain ⟨ha5, ht5⟩ := ST5.out
        obtain ⟨J, rfl⟩ : ∃ q, J = q + 1 := ⟨J - 1, by omega⟩
        rw [Nat.add_sub_cancel] at e3
        have HG := Lib.hid e3
        have HSW := Lib.hid ((ha5.swp (i := I) (j := J + 1) (by omega) (by omega)).drew)
        have HS5 := Lib.hid (show (swp d2 I (J + 1)).size = n by rw [swp_size]; exact HS2.out)
        have c0 := ha5.cell I (by omega)
        have z0 := ha5.free I (by omega)
        have c1 := ha5.cell (J + 1) (by omega)
        have z1 := ha5.free (J + 1) (by omega)
        have n3 : ¬ I = J + 1 := by omega
        have n4 : ¬ J + 1 = I := by omega
        have q1 : decide ((J : Int) + 1 < (I : Int)) = false := by simp; omega
        have q2 : decide (J + 1 < I) = false := decide_eq_false (by omega)
        have b7 : I < n := by omega
        have b8 : (I : Int) < (n : Int) := by omega
        have b9 : J + 1 < n := by omega
        have b10 : (J : Int) + 1 < (n : Int) := by omega
        have HT := Lib.hid ht5
        have i1 : a < I := by omega
        have i2 : I ≤ J := by omega
        have i3 : J < m := by omega
        clear ha5 ht5 HE3 HLT e3 hgt hIJ u1 u2 v1 v2 hJa hJn hJ2 hsz
        generalize swp d2 I (J + 1) = d3 at *
        generalize d2[I]! = x at *
        generalize d2[J + 1]! = y at *
        go_wp2_with (fail)
        go_big_region
        all_goals go_wp2
        have HRR := HG.out
        have H1 : Hid (PaL w g n a (partLoop ltN a (I + 1) J d3) (I + 1) J ((((wc.setCell ⟨g, I, none⟩ (.int .u64 (y : Int))).setCell ⟨g, J + 1, none⟩ (.int .u64 (x : Int))).drew))) := Lib.hid ⟨d3, HSW.out, HS5.out, ((HT.out.set _ _).set _ _).drew, rfl⟩
        generalize partLoop ltN a (I + 1) J d3 = P at *
        subst HRR
        clear HSW HS5 HS2 HT HG c0 z0 c1 z1 ST5
        go_loopw [10, 11] (fun ir jr wr => ∃ i j : Nat, a < i ∧ i ≤ j + 1 ∧ j ≤ m ∧ ir = .int .i64 (i : Int) ∧ jr = .int .i64 (j : Int) ∧ Hid (PaL w g n a P i j wr)) (fun ir jr _ => ((intOf jr) + 1 - (intOf ir)).toNat)
        case atStart => exact ⟨I + 1, J, by omega, by omega, by omega, by go_num, by first | rfl | go_num, H1⟩
        case round =>
          clear H1 i1 i2 i3 b7 b8 b9 b10 n3 n4 q1 q2 b5 b6
          obtain ⟨i, j, hai, hij, hjm, rfl, rfl, HL⟩ := hrel
          obtain ⟨d2, ha2, hs2, ht2, he2⟩ := HL.out
          have ST : Hid (AT w g d2 wr) := Lib.hid ⟨ha2, ht2⟩
          have he3 := he2
          rw [Go.Sort.partLoop_eq] at he3
          change (if scanUp (pU d2 a) d2 j i > scanDown (pD d2 a) d2 (scanUp (pU d2 a) d2 j i) j then (scanDown (pD d2 a) d2 (scanUp (pU d2 a) d2 j i) j, d2) else partLoop ltN a (scanUp (pU d2 a) d2 j i + 1) (scanDown (pD d2 a) d2 (scanUp (pU d2 a) d2 j i) j - 1) (swp d2 (scanUp (pU d2 a) d2 j i) (scanDown (pD d2 a) d2 (scanUp (pU d2 a) d2 j i) j))) = P at he3
          obtain ⟨I, hI⟩ : ∃ I, I = scanUp (pU d2 a) d2 j i := ⟨_, rfl⟩
          obtain ⟨J, hJ⟩ : ∃ J, J = scanDown (pD d2 a) d2 I j := ⟨_, rfl⟩
          have hU := Go.Sort.scanUp_spec (pU d2 a) d2 j _ i rfl
          have hD := Go.Sort.scanDown_spec (pD d2 a) d2 I j
          rw [← hI, ← hJ] at he3
          rw [← hI] at hU
          rw [← hJ] at hD
          obtain ⟨u1, u2, _, u4⟩ := hU
          obtain ⟨v1, v2, _, v4⟩ := hD
          have u2 := u2 (by omega)
          have v2 := v2 u2
          have hlt : I ≤ J → I < J := by
            intro h
            rcases Nat.lt_or_ge I J with h2 | h2
            · exact h2
            · exfalso
              have e : I = J := by omega
              have a1 := u4 (by omega)
              have a2 := v4 h (by omega)
              rw [← e] at a2
              unfold pU at a1
              unfold pD at a2
              rw [a1] at a2
              cases a2
          have HI : Hid (scanUp (pU d2 a) d2 j i = I) := Lib.hid hI.symm
          have HJ : Hid (scanDown (pD d2 a) d2 I j = J) := Lib.hid hJ.symm
          have HE3 := Lib.hid he3
          have HLT := Lib.hid hlt
          have HS2 := Lib.hid hs2
          have b5 : j < n := by omega
          have b6 : (j : Int) < (n : Int) := by omega
          have hsz : d2.size = n := hs2
          clear ha2 ht2 he2 he3 hI hJ u4 v4 hlt
          clear HL
          go_upto_block 6 with (fail)
          go_cut [10] from 99 to 114 (fun xr wq => xr = .int .i64 ((I : Nat) : Int) ∧ Hid (AT w g d2 wq))
          case first =>
            go_wp2_with (fail)
            go_loopw [10] (fun xr wq => ∃ k : Nat, a < k ∧ k ≤ j + 1 ∧ xr = .int .i64 (k : Int) ∧ Hid (AT w g d2 wq) ∧ Hid (scanUp (pU d2 a) d2 j k = I)) (fun xr _ => j + 1 - (intOf xr).toNat)
            case atStart => exact ⟨i, hai, hij, rfl, ST, HI⟩
            case round =>
              obtain ⟨k, hk1, hk2, rfl, ST2, HR⟩ := hrel
              clear ST
              obtain ⟨ha2, ht2⟩ := ST2.out
              by_cases hkj : k ≤ j
              · have c0 := ha2.cell a (by omega)
                have c1 := ha2.cell k (by omega)
                have q1 : decide ((k : Int) ≤ (j : Int)) = true := by simp; omega
                have q2 : decide (k ≤ j) = true := by simpa using hkj
                have b3 : k < n := by omega
                have b4 : (k : Int) < (n : Int) := by omega
                have hq := fun W => qless d2[k]! d2[a]! W
                have HU : Hid (pU d2 a d2[k]! = ltN d2[k]! d2[a]!) := Lib.hid rfl
                have HA := Lib.hid ha2
                have HT := Lib.hid ht2
                clear ha2 ht2 ST2
                generalize hx : d2[a]! = x at *
                generalize hy : d2[k]! = y at *
                cases hb : ltN y x with
                | false =>
                  rw [hb] at hq HU
                  have HE := Lib.hid (show k = I by rw [← HR.out]; exact (up_no (by rw [hy]; exact HU.out)).symm)
                  clear hb hx hy HR HU
                  go_wp2_with (fail)
                  go_quiet ((go_at_call 40; exact Calls.quiet_of_same (hq _)))
                  go_wp2_with (fail)
                  go_meet
                  case rel => exact ⟨by rw [HE.out], Lib.hid ⟨HA.out.drewN _, HT.out.drewN _⟩⟩
                | true =>
                  rw [hb] at hq HU
                  have HE := Lib.hid (show scanUp (pU d2 a) d2 j (k + 1) = I by rw [← HR.out]; exact (up_go hkj (by rw [hy]; exact HU.out)).symm)
                  clear hb hx hy HR HU
                  go_wp2_with (fail)
                  go_quiet ((go_at_call 40; exact Calls.quiet_of_same (hq _)))
                  go_wp2_with (fail)
                  go_roundw
                  case rel => exact ⟨k + 1, by omega, by omega, by go_num, Lib.hid ⟨HA.out.drewN _, HT.out.drewN _⟩, HE⟩
                  case measure => simp [intOf]; omega
              · have q1 : decide ((k : Int) ≤ (j : Int)) = false := by simp; omega
                have q2 : decide (k ≤ j) = false := by simpa using hkj
                have HE := Lib.hid (show k = I by rw [← HR.out]; exact (up_end hkj).symm)
                have HA := Lib.hid ha2
                have HT := Lib.hid ht2
                clear ha2 ht2 ST2 HR hkj
                go_wp2_with (fail)
                go_quiet (fail)
                go_wp2_with (fail)
                go_meet
                case rel => exact ⟨by rw [HE.out], Lib.hid ⟨HA.out.drewN _, HT.out.drewN _⟩⟩
          case rest =>
            obtain ⟨rfl, ST3⟩ := hcut
            clear ST HI
            have hI1 : (I : Int) ≤ 1000001 := by omega
            go_upto_block 8 with (fail)
            go_cut [11] from 115 to 131 (fun xr wq => xr = .int .i64 ((J : Nat) : Int) ∧ Hid (AT w g d2 wq))
            case first =>
              go_wp2_with (fail)
              go_loopw [11] (fun xr wq => ∃ k : Nat, k ≤ j ∧ I ≤ k + 1 ∧ xr = .int .i64 (k : Int) ∧ Hid (AT w g d2 wq) ∧ Hid (scanDown (pD d2 a) d2 I k = J)) (fun xr _ => (intOf xr).toNat)
              case atStart => exact ⟨j, Nat.le_refl _, u2, rfl, ST3, HJ⟩
              case round =>
                obtain ⟨k, hk1, hk2, rfl, ST2, HR⟩ := hrel
                clear ST3
                obtain ⟨ha2, ht2⟩ := ST2.out
                by_cases hkj : I ≤ k
                · obtain ⟨k, rfl⟩ : ∃ q, k = q + 1 := ⟨k - 1, by omega⟩
                  have c0 := ha2.cell a (by omega)
                  have c1 := ha2.cell (k + 1) (by omega)
                  have q1 : decide ((I : Int) ≤ (k : Int) + 1) = true := by simp; omega
                  have q2 : decide (I ≤ k + 1) = true := by simpa using hkj
                  have b3 : k + 1 < n := by omega
                  have b4 : (k : Int) + 1 < (n : Int) := by omega
                  have hq := fun W => qless d2[k + 1]! d2[a]! W
                  have HU : Hid (pD d2 a d2[k + 1]! = !ltN d2[k + 1]! d2[a]!) := Lib.hid rfl
                  have HA := Lib.hid ha2
                  have HT := Lib.hid ht2
                  clear ha2 ht2 ST2
                  generalize hx : d2[a]! = x at *
                  generalize hy : d2[k + 1]! = y at *
                  cases hb : ltN y x with
                  | true =>
                    rw [hb] at hq HU
                    have HE := Lib.hid (show k + 1 = J by rw [← HR.out]; exact (dn_no (by rw [hy]; exact HU.out)).symm)
                    clear hb hx hy HR HU
                    go_wp2_with (fail)
                    go_quiet ((go_at_call 40; exact Calls.quiet_of_same (hq _)))
                    go_wp2_with (fail)
                    go_meet
                    case rel => exact ⟨by rw [← HE.out], Lib.hid ⟨HA.out.drewN _, HT.out.drewN _⟩⟩
                  | false =>
                    rw [hb] at hq HU
                    have HE := Lib.hid (show scanDown (pD d2 a) d2 I k = J by rw [← HR.out]; exact (dn_go hkj (by rw [hy]; exact HU.out)).symm)
                    clear hb hx hy HR HU
                    go_wp2_with (fail)
                    go_quiet ((go_at_call 40; exact Calls.quiet_of_same (hq _)))
                    go_wp2_with (fail)
                    go_roundw
                    case rel => exact ⟨k, by omega, by omega, rfl, Lib.hid ⟨HA.out.drewN _, HT.out.drewN _⟩, HE⟩
                    case measure => simp [intOf]
                · have q1 : decide ((I : Int) ≤ (k : Int)) = false := by simp; omega
                  have q2 : decide (I ≤ k) = false := by simpa using hkj
                  have HE := Lib.hid (show k = J by rw [← HR.out]; exact (dn_end hkj).symm)
                  have HA := Lib.hid ha2
                  have HT := Lib.hid ht2
                  clear ha2 ht2 ST2 HR hkj
                  go_wp2_with (fail)
                  go_quiet (fail)
                  go_wp2_with (fail)
                  go_meet
                  case rel => exact ⟨by rw [HE.out], Lib.hid ⟨HA.out.drewN _, HT.out.drewN _⟩⟩
            case rest =>
              obtain ⟨rfl, ST5⟩ := hcut
              clear ST3 HJ
              have hJa : a ≤ J := by omega
              have hJn : J < n := by omega
              have hJ2 : (J : Int) < (n : Int) := by omega
              by_cases hgt : J < I
              · have e3 := HE3.out
                rw [if_pos hgt] at e3
                subst e3
                have q1 : decide ((J : Int) < (I : Int)) = true := by simp; omega
                have q2 : decide (J < I) = true := by simpa using hgt
                clear HE3 HLT
                obtain ⟨ha5, ht5⟩ := ST5.out
                have HSW := Lib.hid ((ha5.swp (i := J) (j := a) (by omega) (by omega)).drew)
                have c0 := ha5.cell a (by omega)
                have z0 := ha5.free a (by omega)
                have c1 := ha5.cell J (by omega)
                have z1 := ha5.free J (by omega)
                have HT := Lib.hid ht5
                rcases Nat.eq_or_lt_of_le (hJa : a ≤ J) with hja | hja
                · subst hja
                  clear ha5 ht5 c1 z1
                  generalize d2[a]! = x at *
                  go_wp2_with (fail)
                  go_big_region
                  all_goals go_wp2
                  go_ret2
                  exact ⟨rfl, HSW.out, ((HT.out.set _ _).set _ _).drew⟩
                · have n3 : ¬ a = J := by omega
                  have n4 : ¬ J = a := by omega
                  clear ha5 ht5 hja
                  generalize d2[a]! = x at *
                  generalize d2[J]! = y at *
                  go_wp2_with (fail)
                  go_big_region
                  all_goals go_wp2
                  go_ret2
                  exact ⟨rfl, HSW.out, ((HT.out.set _ _).set _ _).drew⟩
              · have e3 := HE3.out
                rw [if_neg hgt] at e3
                have hIJ := HLT.out (by omega)
                obtain ⟨ha5, ht5⟩ := ST5.out
                obtain ⟨J, rfl⟩ : ∃ q, J = q + 1 := ⟨J - 1, by omega⟩
                rw [Nat.add_sub_cancel] at e3
                have HG := Lib.hid e3
                have HSW := Lib.hid ((ha5.swp (i := I) (j := J + 1) (by omega) (by omega)).drew)
                have c0 := ha5.cell I (by omega)
                have z0 := ha5.free I (by omega)
                have c1 := ha5.cell (J + 1) (by omega)
                have z1 := ha5.free (J + 1) (by omega)
                have n3 : ¬ I = J + 1 := by omega
                have n4 : ¬ J + 1 = I := by omega
                have q1 : decide ((J : Int) + 1 < (I : Int)) = false := by simp; omega
                have q2 : decide (J + 1 < I) = false := decide_eq_false (by omega)
                have b7 : I < n := by omega
                have b8 : (I : Int) < (n : Int) := by omega
                have b9 : J + 1 < n := by omega
                have b10 : (J : Int) + 1 < (n : Int) := by omega
                have HT := Lib.hid ht5
                have HIJ := Lib.hid hIJ
                clear ha5 ht5 HE3 HLT e3 hgt hIJ
                generalize d2[I]! = x at *
                generalize d2[J + 1]! = y at *
                go_wp2_with (fail)
                go_big_region
                all_goals go_wp2
                all_goals go_roundw
                case rel => exact ⟨I + 1, J, by omega, by have := HIJ.out; omega, by omega, by go_num, rfl, Lib.hid ⟨_, HSW.out, by rw [swp_size]; exact HS2.out, ((HT.out.set _ _).set _ _).drew, HG.out⟩⟩
                case measure => have := HIJ.out; simp [intOf]; omega
end Go.Proofs.Ytpdgcphflheeiaa
