/- slices.heapSortOrdered. slices.partitionEqualOrdered. slices.partitionOrdered. -/
import Derived.Test.YtjhakplaffgkpaaDoorQhM
import Derived.Sort.LotC
import Derived.Deep.DeepCutAuto
import Derived.Deep.CutBlock
namespace Go.Proofs.YtjhakplaffgkpaaDoor.Qu
open Go.RowKit
open Go.Sort (heapBuild heapPop heapSort siftDown swp)

theorem Arr.drew {w : World} {g : Nat} {d : Array Nat} (h : Arr w g d) : Arr w.drew g d := ⟨h.here, h.cell, h.free⟩
theorem Trn.drew {w w1 : World} {g : Nat} (h : Trn w g w1) : Trn w g w1.drew := ⟨h.os, h.tape, h.output, h.size, h.block⟩
theorem sift_size (hi F : Nat) : ∀ (m r : Nat) (d : Array Nat), hi - r ≤ m → (siftDown ltN hi F r d).size = d.size
  | 0, r, d, h => by rw [sift_end (by omega)]
  | m + 1, r, d, h => by
    by_cases hc : 2 * r + 1 < hi
    · cases hl : ltN d[F + r]! d[F + kid hi F r d]! with
      | false => rw [sift_stop hc hl]
      | true =>
        have := kid_lt (F := F) (d := d) hc
        rw [sift_go hc hl, sift_size hi F m _ _ (by omega), swp_size]
    · rw [sift_end hc]
def BuiL (w : World) (g n hi F : Nat) (D : Array Nat) (k : Nat) (wr : World) : Prop := ∃ d, Arr wr g d ∧ d.size = n ∧ Trn w g wr ∧ heapBuild ltN hi F k d = D
def PopL (w : World) (g n F : Nat) (D : Array Nat) (k : Nat) (wr : World) : Prop := ∃ d, Arr wr g d ∧ d.size = n ∧ Trn w g wr ∧ heapPop ltN F k d = D
theorem build_size (hi F : Nat) : ∀ (k : Nat) (d : Array Nat), (heapBuild ltN hi F k d).size = d.size
  | 0, _ => rfl
  | k + 1, d => by rw [heapBuild, build_size hi F k, sift_size hi F _ _ _ (Nat.le_refl _)]
set_option maxHeartbeats 2000000 in
theorem heap_any {w : World} {g n c : Nat} {d : Array Nat} (a b : Nat) (h : Arr w g d) (hd : d.size = n) (hab : a < b) (hb : b ≤ n) (hn : n ≤ 1000000) :
    Calls Tryd.prog 54 #[.slice (some ⟨g, 0, none⟩) n c, .int .i64 (a : Int), .int .i64 (b : Int)] w fun e w' => e = .returned (.tuple #[]) ∧ Arr w' g (heapSort ltN d a b) ∧ Trn w g w' := by
  obtain ⟨m, rfl⟩ : ∃ m, b = a + (m + 1) := ⟨b - a - 1, by omega⟩
  have H0 := Lib.hid (show BuiL w g n (m + 1) a (heapBuild ltN (m + 1) a (m / 2 + 1) d) (m / 2 + 1) w from ⟨d, h, hd, Trn.refl w g, rfl⟩)
  have HD := Lib.hid (show heapPop ltN a (m + 1) (heapBuild ltN (m + 1) a (m / 2 + 1) d) = heapSort ltN d a (a + (m + 1)) by unfold heapSort; rw [Nat.add_sub_cancel_left, Nat.add_sub_cancel])
  have HSZ := Lib.hid (show (heapBuild ltN (m + 1) a (m / 2 + 1) d).size = n by rw [build_size]; exact hd)
  generalize heapSort ltN d a (a + (m + 1)) = D at *
  generalize heapBuild ltN (m + 1) a (m / 2 + 1) d = D1 at *
  have hS := Lib.hid (fun (lo hi : Nat) (W : World) (d : Array Nat) (h : Arr W g d) (hd : d.size = n) (hb : a + hi ≤ n) (hlo : lo ≤ 1000000) => sift_any (c := c) lo hi a h hd hb hn hlo)
  obtain ⟨B, hB⟩ : ∃ B, B = a + (m + 1) := ⟨_, rfl⟩
  rw [← hB]
  have eb : (B : Int) - (a : Int) = (m : Int) + 1 := by omega
  have bB : (B : Int) ≤ 1000000 := by omega
  have hm : m < 1000000 := by omega
  have hq2 : m / 2 ≤ m := by omega
  have hm2 : (m : Int) ≤ 1000000 := by omega
  have ha2 : (a : Int) ≤ 1000000 := by omega
  have e1 : (m : Int) / 2 = ((m / 2 : Nat) : Int) := by omega
  have HAB : a + (m + 1) ≤ n := hb
  clear h hd hB hb hab
  generalize m / 2 = h2 at *
  go_enter Tryd.func54, Tryd.ntmps54
  go_wp2_with (fail)
  go_loopw [9] (fun ir wr => ∃ k : Nat, k ≤ m + 1 ∧ ir = .int .i64 ((k : Int) - 1) ∧ Hid (BuiL w g n (m + 1) a D1 k wr)) (fun ir _ => (intOf ir + 1).toNat)
  case atStart => exact ⟨h2 + 1, by omega, by go_num, H0⟩
  case round =>
    clear H0
    obtain ⟨k, hk, rfl, HI⟩ := hrel
    obtain ⟨d2, ha2, hs2, ht2, he2⟩ := HI.out
    clear HI
    cases k with
    | succ k =>
      have e2 : ((k + 1 : Nat) : Int) - 1 = (k : Int) := by omega
      rw [e2]
      have hQ := hS.out k (m + 1) _ d2 ha2 hs2 (by omega) (by omega)
      rw [show ((m + 1 : Nat) : Int) = (m : Int) + 1 by omega] at hQ
      have HQ := Lib.hid hQ
      clear hQ
      have HG := Lib.hid (show heapBuild ltN (m + 1) a k (siftDown ltN (m + 1) a k d2) = D1 by rw [← he2, heapBuild])
      have HT2 := Lib.hid ht2
      have HS2 := Lib.hid (show (siftDown ltN (m + 1) a k d2).size = n by rw [sift_size _ _ _ _ _ (Nat.le_refl _)]; exact hs2)
      have q1 : decide (0 ≤ (k : Int)) = true := by simp
      have q2 : (k : Int) ≤ 1000000 := by omega
      have HK := Lib.hid hk
      clear ha2 hs2 ht2 he2 e2 hk
      generalize siftDown ltN (m + 1) a k d2 = d3 at *
      go_wp2_with (first
        | (go_at_call 63; (with_reducible refine HQ.out.mono ?_); rintro e w5 ⟨rfl, ha5, ht5⟩)
        | fail)
      go_roundw
      case rel => exact ⟨k, by have := HK.out; omega, rfl, Lib.hid ⟨d3, ha5, HS2.out, HT2.out.trans ht5, HG.out⟩⟩
      case measure => simp [intOf]
    | zero =>
      have HE := Lib.hid (show d2 = D1 from he2)
      have H1 : Hid (PopL w g n a D (m + 1) wr) := Lib.hid ⟨d2, ha2, hs2, ht2, by rw [HE.out]; exact HD.out⟩
      have e2 : ((0 : Nat) : Int) - 1 = -1 := by omega
      rw [e2]
      clear ha2 hs2 ht2 he2 HE HD HSZ e2
      go_wp2_with (fail)
      go_loopw [10] (fun ir wr => ∃ k : Nat, k ≤ m + 1 ∧ ir = .int .i64 ((k : Int) - 1) ∧ Hid (PopL w g n a D k wr)) (fun ir _ => (intOf ir + 1).toNat)
      case atStart => exact ⟨m + 1, by omega, by go_num, H1⟩
      case round =>
        clear H1
        obtain ⟨k, hk, rfl, HI⟩ := hrel
        obtain ⟨d2, ha2, hs2, ht2, he2⟩ := HI.out
        clear HI
        cases k with
        | zero =>
          have HE := Lib.hid (show d2 = D from he2)
          have HA2 := Lib.hid ha2
          have HT2 := Lib.hid ht2
          have e2 : ((0 : Nat) : Int) - 1 = -1 := by omega
          rw [e2]
          clear ha2 hs2 ht2 he2 e2
          go_wp2_with (fail)
          go_end0
          exact ⟨rfl, HE.out ▸ HA2.out, HT2.out⟩
        | succ k =>
          have e2 : ((k + 1 : Nat) : Int) - 1 = (k : Int) := by omega
          rw [e2]
          have HSW := Lib.hid ((ha2.swp (i := a) (j := a + k) (by omega) (by omega)).drew)
          have HSS := Lib.hid (show (swp d2 a (a + k)).size = n by rw [swp_size]; exact hs2)
          have HG := Lib.hid (show heapPop ltN a k (siftDown ltN k a 0 (swp d2 a (a + k))) = D by rw [← he2, heapPop])
          have HT2 := Lib.hid ht2
          have HS2 := Lib.hid (show (siftDown ltN k a 0 (swp d2 a (a + k))).size = n by rw [sift_size _ _ _ _ _ (Nat.le_refl _), swp_size]; exact hs2)
          have HQ : Hid (∀ W, Arr W g (swp d2 a (a + k)) → Calls Tryd.prog 63 #[.slice (some ⟨g, 0, none⟩) n c, .int .i64 0, .int .i64 (k : Int), .int .i64 (a : Int)] W fun e w' => e = .returned (.tuple #[]) ∧ Arr w' g (siftDown ltN k a 0 (swp d2 a (a + k))) ∧ Trn W g w') :=
            Lib.hid (fun W h => hS.out 0 k W (swp d2 a (a + k)) h (by rw [swp_size]; exact hs2) (by omega) (by omega))
          have HK := Lib.hid hk
          have q2 : (k : Int) ≤ 1000000 := by omega
          have b1 : a < n := by omega
          have b2 : (a : Int) < (n : Int) := by omega
          have b3 : a + k < n := by omega
          have b4 : (a : Int) + (k : Int) < (n : Int) := by omega
          have v1 : ((a : Int) + (k : Int)).toNat = a + k := by omega
          have v2 : 0 ≤ (a : Int) + (k : Int) := by omega
          have c0 := ha2.cell a (by omega)
          have z0 := ha2.free a (by omega)
          have c1 := ha2.cell (a + k) (by omega)
          have z1 := ha2.free (a + k) (by omega)
          clear hs2 ht2 he2 e2 hk
          generalize swp d2 a (a + k) = d4 at *
          generalize siftDown ltN k a 0 d4 = d3 at *
          have w1 : IntKind.i64.wrap ((a : Int) + (k : Int)) = (a : Int) + (k : Int) := IntWalk.i64_in _ (by omega)
          rcases Nat.eq_zero_or_pos k with hk0 | hk0
          · subst hk0
            clear c1 z1 b3 v1 v2 b4 q2 ha2 w1
            rw [Nat.add_zero] at HSW
            have HQ0 : Hid (∀ W, Arr W g d4 → Calls Tryd.prog 63 #[.slice (some ⟨g, 0, none⟩) n c, .int .i64 0, .int .i64 0, .int .i64 (a : Int)] W fun e w' => e = .returned (.tuple #[]) ∧ Arr w' g d3 ∧ Trn W g w') := Lib.hid (fun W h => HQ.out W h)
            generalize d2[a]! = x at *
            go_wp2_with (fail)
            go_big_region
            all_goals go_wp2_with (first
              | (go_at_call 63; go_loud ((with_reducible refine (HQ0.out _ HSW.out).mono ?_); rintro e w5 ⟨rfl, ha5, ht5⟩))
              | fail)
            all_goals go_roundw
            case rel => exact ⟨0, by omega, rfl, Lib.hid ⟨d3, ha5, HS2.out, (((HT2.out.set _ _).set _ _).drew).trans ht5, HG.out⟩⟩
            case measure => simp [intOf]
          · have n1 : ¬ a = a + k := by omega
            have n2 : ¬ a + k = a := by omega
            have n3 : ¬ k = 0 := by omega
            clear ha2 hk0
            generalize d2[a]! = x at *
            generalize d2[a + k]! = y at *
            go_wp2_with (fail)
            go_big_region
            all_goals clear w1
            all_goals go_wp2_with (first
              | (go_at_call 63; go_loud ((with_reducible refine (HQ.out _ HSW.out).mono ?_); rintro e w5 ⟨rfl, ha5, ht5⟩))
              | fail)
            all_goals go_roundw
            case rel => exact ⟨k, by have := HK.out; omega, rfl, Lib.hid ⟨d3, ha5, HS2.out, (((HT2.out.set _ _).set _ _).drew).trans ht5, HG.out⟩⟩
            case measure => simp [intOf]
end Go.Proofs.YtjhakplaffgkpaaDoor.Qu

namespace Go.Proofs.YtjhakplaffgkpaaDoor.Qu
open Go.RowKit
open Go.Sort (scanUp scanDown partEqLoop partitionEqual swp)

def eU (d : Array Nat) (a : Nat) (x : Nat) : Bool := !ltN d[a]! x
def eD (d : Array Nat) (a : Nat) (x : Nat) : Bool := ltN d[a]! x
theorem up_go {p : Nat → Bool} {d : Array Nat} {j i : Nat} (h : i ≤ j) (hp : p d[i]! = true) : scanUp p d j i = scanUp p d j (i + 1) := by
  rw [scanUp, if_pos (by simp [h, hp])]
theorem up_end {p : Nat → Bool} {d : Array Nat} {j i : Nat} (h : ¬ i ≤ j) : scanUp p d j i = i := by
  rw [scanUp, if_neg (by simp [h])]
theorem up_no {p : Nat → Bool} {d : Array Nat} {j i : Nat} (hp : p d[i]! = false) : scanUp p d j i = i := by
  rw [scanUp, if_neg (by simp [hp])]
theorem dn_go {p : Nat → Bool} {d : Array Nat} {i j : Nat} (h : i ≤ j + 1) (hp : p d[j + 1]! = true) : scanDown p d i (j + 1) = scanDown p d i j := by
  rw [scanDown, if_pos (by simp [h, hp])]
theorem dn_end {p : Nat → Bool} {d : Array Nat} {i j : Nat} (h : ¬ i ≤ j) : scanDown p d i j = j := by
  cases j with
  | zero => rfl
  | succ j => rw [scanDown, if_neg (by simp [h])]
theorem dn_no {p : Nat → Bool} {d : Array Nat} {i j : Nat} (hp : p d[j]! = false) : scanDown p d i j = j := by
  cases j with
  | zero => rfl
  | succ j => rw [scanDown, if_neg (by simp [hp])]
def EqL (w : World) (g n a : Nat) (R : Nat × Array Nat) (i j : Nat) (wr : World) : Prop := ∃ d, Arr wr g d ∧ d.size = n ∧ Trn w g wr ∧ partEqLoop ltN a i j d = R
def AT (w : World) (g : Nat) (d : Array Nat) (wr : World) : Prop := Arr wr g d ∧ Trn w g wr
set_option maxHeartbeats 4000000 in
theorem eqlo_any {w : World} {g n c : Nat} {d : Array Nat} (a b pv : Nat) (h : Arr w g d) (hd : d.size = n) (hap : a < pv) (hpb : pv < b) (hb : b ≤ n) (hn : n ≤ 1000000) :
    Calls Tryd.prog 60 #[.slice (some ⟨g, 0, none⟩) n c, .int .i64 (a : Int), .int .i64 (b : Int), .int .i64 (pv : Int)] w fun e w' => e = .returned (.int .i64 (((partitionEqual ltN d a b pv).1 : Nat) : Int)) ∧ Arr w' g (partitionEqual ltN d a b pv).2 ∧ Trn w g w' := by
  obtain ⟨m, rfl⟩ : ∃ m, b = m + 1 := ⟨b - 1, by omega⟩
  have HR := Lib.hid (show partEqLoop ltN a (a + 1) m (swp d a pv) = partitionEqual ltN d a (m + 1) pv by unfold partitionEqual; rw [Nat.add_sub_cancel])
  have HSW := Lib.hid ((h.swp (i := a) (j := pv) (by omega) (by omega)).drew)
  have HSS := Lib.hid (show (swp d a pv).size = n by rw [swp_size]; exact hd)
  generalize partitionEqual ltN d a (m + 1) pv = R at *
  have c0 := h.cell a (by omega)
  have z0 := h.free a (by omega)
  have c1 := h.cell pv (by omega)
  have z1 := h.free pv (by omega)
  have n1 : ¬ a = pv := by omega
  have n2 : ¬ pv = a := by omega
  have b1 : a < n := by omega
  have b2 : (a : Int) < (n : Int) := by omega
  have b3 : pv < n := by omega
  have b4 : (pv : Int) < (n : Int) := by omega
  have HMN : m < n := by omega
  have HM2 : (m : Int) ≤ 1000000 := by omega
  have HA2 : (a : Int) ≤ 1000000 := by omega
  have HAM : a < m := by omega
  rw [show ((m + 1 : Nat) : Int) = (m : Int) + 1 by omega]
  clear h hd
  generalize swp d a pv = d1 at *
  generalize d[a]! = x at *
  generalize d[pv]! = y at *
  go_enter Tryd.func60, Tryd.ntmps60
  go_wp2_with (fail)
  go_big_region
  all_goals go_wp2
  have H1 : Hid (EqL w g n a R (a + 1) m (((w.setCell ⟨g, a, none⟩ (.int .u64 (y : Int))).setCell ⟨g, pv, none⟩ (.int .u64 (x : Int))).drew)) := Lib.hid ⟨d1, HSW.out, HSS.out, (((Trn.refl w g).set _ _).set _ _).drew, HR.out⟩
  clear HSW HSS HR c0 c1 z0 z1
  go_loopw [9, 10] (fun ir jr wr => ∃ i j : Nat, a < i ∧ i ≤ j + 1 ∧ j ≤ m ∧ ir = .int .i64 (i : Int) ∧ jr = .int .i64 (j : Int) ∧ Hid (EqL w g n a R i j wr)) (fun ir jr _ => ((intOf jr) + 1 - (intOf ir)).toNat)
  case atStart => exact ⟨a + 1, m, by omega, by omega, by omega, by go_num, by go_num, H1⟩
  case round =>
    clear H1
    obtain ⟨i, j, hai, hij, hjm, rfl, rfl, HL⟩ := hrel
    obtain ⟨d2, ha2, hs2, ht2, he2⟩ := HL.out
    have ST : Hid (AT w g d2 wr) := Lib.hid ⟨ha2, ht2⟩
    obtain ⟨I, hI⟩ : ∃ I, I = scanUp (eU d2 a) d2 j i := ⟨_, rfl⟩
    obtain ⟨J, hJ⟩ : ∃ J, J = scanDown (eD d2 a) d2 I j := ⟨_, rfl⟩
    have hU := Go.Sort.scanUp_spec (eU d2 a) d2 j _ i rfl
    have hD := Go.Sort.scanDown_spec (eD d2 a) d2 I j
    have he3 := he2
    rw [Go.Sort.partEqLoop_eq] at he3
    change (if scanUp (eU d2 a) d2 j i > scanDown (eD d2 a) d2 (scanUp (eU d2 a) d2 j i) j then (scanUp (eU d2 a) d2 j i, d2) else partEqLoop ltN a (scanUp (eU d2 a) d2 j i + 1) (scanDown (eD d2 a) d2 (scanUp (eU d2 a) d2 j i) j - 1) (swp d2 (scanUp (eU d2 a) d2 j i) (scanDown (eD d2 a) d2 (scanUp (eU d2 a) d2 j i) j))) = R at he3
    rw [← hI, ← hJ] at he3
    rw [← hI] at hU
    rw [← hJ] at hD
    obtain ⟨u1, u2, _, u4⟩ := hU
    obtain ⟨v1, v2, _, v4⟩ := hD
    have u2 := u2 hij
    have v2 := v2 u2
    have hlt : I ≤ J → I < J := by
      intro h
      rcases Nat.lt_or_ge I J with h2 | h2
      · exact h2
      · exfalso
        have e : I = J := by omega
        have a1 := u4 (by omega)
        have a2 := v4 h (by omega)
        rw [← e] at a2
        unfold eU at a1
        unfold eD at a2
        rw [a2] at a1
        cases a1
    have HI : Hid (scanUp (eU d2 a) d2 j i = I) := Lib.hid hI.symm
    have HJ : Hid (scanDown (eD d2 a) d2 I j = J) := Lib.hid hJ.symm
    have HE3 := Lib.hid he3
    have HLT := Lib.hid hlt
    have HS2 := Lib.hid hs2
    have b5 : j < n := by omega
    have b6 : (j : Int) < (n : Int) := by omega
    have hsz : d2.size = n := hs2
    clear ha2 ht2 he2 he3 hI hJ u4 v4 hlt HL
    -- up
    go_upto_block 2 with (fail)
    go_cut [9] from 29 to 45 (fun xr wq => xr = .int .i64 ((I : Nat) : Int) ∧ Hid (AT w g d2 wq))
    case first =>
      go_wp2_with (fail)
      go_loopw [9] (fun xr wq => ∃ k : Nat, a < k ∧ k ≤ j + 1 ∧ xr = .int .i64 (k : Int) ∧ Hid (AT w g d2 wq) ∧ Hid (scanUp (eU d2 a) d2 j k = I)) (fun xr _ => j + 1 - (intOf xr).toNat)
      case atStart => exact ⟨i, hai, hij, rfl, ST, HI⟩
      case round =>
        obtain ⟨k, hk1, hk2, rfl, ST2, HR⟩ := hrel
        clear ST
        obtain ⟨ha2, ht2⟩ := ST2.out
        by_cases hkj : k ≤ j
        · have c0 := ha2.cell a (by omega)
          have c1 := ha2.cell k (by omega)
          have q1 : decide ((k : Int) ≤ (j : Int)) = true := by simp; omega
          have q2 : decide (k ≤ j) = true := by simpa using hkj
          have b3 : k < n := by omega
          have b4 : (k : Int) < (n : Int) := by omega
          have hq := fun W => qless d2[a]! d2[k]! W
          have HU : Hid (eU d2 a d2[k]! = !ltN d2[a]! d2[k]!) := Lib.hid rfl
          have HA := Lib.hid ha2
          have HT := Lib.hid ht2
          clear ha2 ht2 ST2
          generalize hx : d2[a]! = x at *
          generalize hy : d2[k]! = y at *
          cases hb : ltN x y with
          | true =>
            rw [hb] at hq HU
            have HE := Lib.hid (show k = I by rw [← HR.out]; exact (up_no (by rw [hy]; exact HU.out)).symm)
            clear hb hx hy HR HU
            go_wp2_with (fail)
            go_quiet ((go_at_call 59; exact Calls.quiet_of_same (hq _)))
            go_wp2_with (fail)
            go_meet
            case rel => exact ⟨by rw [HE.out], Lib.hid ⟨HA.out.drewN _, HT.out.drewN _⟩⟩
          | false =>
            rw [hb] at hq HU
            have HE := Lib.hid (show scanUp (eU d2 a) d2 j (k + 1) = I by rw [← HR.out]; exact (up_go hkj (by rw [hy]; exact HU.out)).symm)
            clear hb hx hy HR HU
            go_wp2_with (fail)
            go_quiet ((go_at_call 59; exact Calls.quiet_of_same (hq _)))
            go_wp2_with (fail)
            go_roundw
            case rel => exact ⟨k + 1, by omega, by omega, by go_num, Lib.hid ⟨HA.out.drewN _, HT.out.drewN _⟩, HE⟩
            case measure => simp [intOf]; omega
        · have q1 : decide ((k : Int) ≤ (j : Int)) = false := by simp; omega
          have q2 : decide (k ≤ j) = false := by simpa using hkj
          have HE := Lib.hid (show k = I by rw [← HR.out]; exact (up_end hkj).symm)
          have HA := Lib.hid ha2
          have HT := Lib.hid ht2
          clear ha2 ht2 ST2 HR hkj
          go_wp2_with (fail)
          go_quiet (fail)
          go_wp2_with (fail)
          go_meet
          case rel => exact ⟨by rw [HE.out], Lib.hid ⟨HA.out.drewN _, HT.out.drewN _⟩⟩
    case rest =>
      obtain ⟨rfl, ST3⟩ := hcut
      clear ST HI
      have hI1 : (I : Int) ≤ 1000001 := by omega
      go_upto_block 4 with (fail)
      go_cut [10] from 46 to 61 (fun xr wq => xr = .int .i64 ((J : Nat) : Int) ∧ Hid (AT w g d2 wq))
      case first =>
        go_wp2_with (fail)
        go_loopw [10] (fun xr wq => ∃ k : Nat, k ≤ j ∧ I ≤ k + 1 ∧ xr = .int .i64 (k : Int) ∧ Hid (AT w g d2 wq) ∧ Hid (scanDown (eD d2 a) d2 I k = J)) (fun xr _ => (intOf xr).toNat)
        case atStart => exact ⟨j, Nat.le_refl _, u2, rfl, ST3, HJ⟩
        case round =>
          obtain ⟨k, hk1, hk2, rfl, ST2, HR⟩ := hrel
          clear ST3
          obtain ⟨ha2, ht2⟩ := ST2.out
          by_cases hkj : I ≤ k
          · obtain ⟨k, rfl⟩ : ∃ q, k = q + 1 := ⟨k - 1, by omega⟩
            have c0 := ha2.cell a (by omega)
            have c1 := ha2.cell (k + 1) (by omega)
            have q1 : decide ((I : Int) ≤ (k : Int) + 1) = true := by simp; omega
            have q2 : decide (I ≤ k + 1) = true := by simpa using hkj
            have b3 : k + 1 < n := by omega
            have b4 : (k : Int) + 1 < (n : Int) := by omega
            have hq := fun W => qless d2[a]! d2[k + 1]! W
            have HU : Hid (eD d2 a d2[k + 1]! = ltN d2[a]! d2[k + 1]!) := Lib.hid rfl
            have HA := Lib.hid ha2
            have HT := Lib.hid ht2
            clear ha2 ht2 ST2
            generalize hx : d2[a]! = x at *
            generalize hy : d2[k + 1]! = y at *
            cases hb : ltN x y with
            | false =>
              rw [hb] at hq HU
              have HE := Lib.hid (show k + 1 = J by rw [← HR.out]; exact (dn_no (by rw [hy]; exact HU.out)).symm)
              clear hb hx hy HR HU
              go_wp2_with (fail)
              go_quiet ((go_at_call 59; exact Calls.quiet_of_same (hq _)))
              go_wp2_with (fail)
              go_meet
              case rel => exact ⟨by rw [← HE.out], Lib.hid ⟨HA.out.drewN _, HT.out.drewN _⟩⟩
            | true =>
              rw [hb] at hq HU
              have HE := Lib.hid (show scanDown (eD d2 a) d2 I k = J by rw [← HR.out]; exact (dn_go hkj (by rw [hy]; exact HU.out)).symm)
              clear hb hx hy HR HU
              go_wp2_with (fail)
              go_quiet ((go_at_call 59; exact Calls.quiet_of_same (hq _)))
              go_wp2_with (fail)
              go_roundw
              case rel => exact ⟨k, by omega, by omega, rfl, Lib.hid ⟨HA.out.drewN _, HT.out.drewN _⟩, HE⟩
              case measure => simp [intOf]
          · have q1 : decide ((I : Int) ≤ (k : Int)) = false := by simp; omega
            have q2 : decide (I ≤ k) = false := by simpa using hkj
            have HE := Lib.hid (show k = J by rw [← HR.out]; exact (dn_end hkj).symm)
            have HA := Lib.hid ha2
            have HT := Lib.hid ht2
            clear ha2 ht2 ST2 HR hkj
            go_wp2_with (fail)
            go_quiet (fail)
            go_wp2_with (fail)
            go_meet
            case rel => exact ⟨by rw [HE.out], Lib.hid ⟨HA.out.drewN _, HT.out.drewN _⟩⟩
      case rest =>
        obtain ⟨rfl, ST5⟩ := hcut
        clear ST3 HJ
        obtain ⟨ha5, ht5⟩ := ST5.out
        by_cases hgt : J < I
        · have e3 := HE3.out
          rw [if_pos hgt] at e3
          subst e3
          have q1 : decide ((J : Int) < (I : Int)) = true := by simp; omega
          have q2 : decide (J < I) = true := by simpa using hgt
          have HA := Lib.hid ha5
          have HT := Lib.hid ht5
          clear ha5 ht5 HE3 HLT
          go_wp2_with (fail)
          go_ret
          exact ⟨rfl, HA.out, HT.out⟩
        · have e3 := HE3.out
          rw [if_neg hgt] at e3
          have hIJ := HLT.out (by omega)
          obtain ⟨J, rfl⟩ : ∃ q, J = q + 1 := ⟨J - 1, by omega⟩
          rw [Nat.add_sub_cancel] at e3
          have HG := Lib.hid e3
          have HSW := Lib.hid ((ha5.swp (i := I) (j := J + 1) (by omega) (by omega)).drew)
          have c0 := ha5.cell I (by omega)
          have z0 := ha5.free I (by omega)
          have c1 := ha5.cell (J + 1) (by omega)
          have z1 := ha5.free (J + 1) (by omega)
          have n3 : ¬ I = J + 1 := by omega
          have n4 : ¬ J + 1 = I := by omega
          have q1 : decide ((J : Int) + 1 < (I : Int)) = false := by simp; omega
          have q2 : decide (J + 1 < I) = false := decide_eq_false (by omega)
          have b7 : I < n := by omega
          have b8 : (I : Int) < (n : Int) := by omega
          have b9 : J + 1 < n := by omega
          have b10 : (J : Int) + 1 < (n : Int) := by omega
          have HT := Lib.hid ht5
          have HIJ := Lib.hid hIJ
          clear ha5 ht5 HE3 HLT e3 hgt hIJ
          generalize d2[I]! = x at *
          generalize d2[J + 1]! = y at *
          go_wp2_with (fail)
          go_big_region
          all_goals go_wp2
          all_goals go_roundw
          case rel => exact ⟨I + 1, J, by omega, by have := HIJ.out; omega, by omega, by go_num, rfl, Lib.hid ⟨_, HSW.out, by rw [swp_size]; exact HS2.out, ((HT.out.set _ _).set _ _).drew, HG.out⟩⟩
          case measure => have := HIJ.out; simp [intOf]; omega
end Go.Proofs.YtjhakplaffgkpaaDoor.Qu

namespace Go.Proofs.YtjhakplaffgkpaaDoor.Qu
open Go.RowKit
open Go.Sort (scanUp scanDown partLoop partition swp)

def pU (d : Array Nat) (a : Nat) (x : Nat) : Bool := ltN x d[a]!
def pD (d : Array Nat) (a : Nat) (x : Nat) : Bool := !ltN x d[a]!
theorem part_eq (d : Array Nat) (a m pv : Nat) : (if scanUp (pU (swp d a pv) a) (swp d a pv) m (a + 1) > scanDown (pD (swp d a pv) a) (swp d a pv) (scanUp (pU (swp d a pv) a) (swp d a pv) m (a + 1)) m then
      (scanDown (pD (swp d a pv) a) (swp d a pv) (scanUp (pU (swp d a pv) a) (swp d a pv) m (a + 1)) m, true, swp (swp d a pv) (scanDown (pD (swp d a pv) a) (swp d a pv) (scanUp (pU (swp d a pv) a) (swp d a pv) m (a + 1)) m) a)
    else
      ((partLoop ltN a (scanUp (pU (swp d a pv) a) (swp d a pv) m (a + 1) + 1) (scanDown (pD (swp d a pv) a) (swp d a pv) (scanUp (pU (swp d a pv) a) (swp d a pv) m (a + 1)) m - 1) (swp (swp d a pv) (scanUp (pU (swp d a pv) a) (swp d a pv) m (a + 1)) (scanDown (pD (swp d a pv) a) (swp d a pv) (scanUp (pU (swp d a pv) a) (swp d a pv) m (a + 1)) m))).1, false,
       swp (partLoop ltN a (scanUp (pU (swp d a pv) a) (swp d a pv) m (a + 1) + 1) (scanDown (pD (swp d a pv) a) (swp d a pv) (scanUp (pU (swp d a pv) a) (swp d a pv) m (a + 1)) m - 1) (swp (swp d a pv) (scanUp (pU (swp d a pv) a) (swp d a pv) m (a + 1)) (scanDown (pD (swp d a pv) a) (swp d a pv) (scanUp (pU (swp d a pv) a) (swp d a pv) m (a + 1)) m))).2
         (partLoop ltN a (scanUp (pU (swp d a pv) a) (swp d a pv) m (a + 1) + 1) (scanDown (pD (swp d a pv) a) (swp d a pv) (scanUp (pU (swp d a pv) a) (swp d a pv) m (a + 1)) m - 1) (swp (swp d a pv) (scanUp (pU (swp d a pv) a) (swp d a pv) m (a + 1)) (scanDown (pD (swp d a pv) a) (swp d a pv) (scanUp (pU (swp d a pv) a) (swp d a pv) m (a + 1)) m))).1 a)) = partition ltN d a (m + 1) pv := by
  unfold partition
  rw [Nat.add_sub_cancel]
  rfl
def PaL (w : World) (g n a : Nat) (R : Nat × Array Nat) (i j : Nat) (wr : World) : Prop := ∃ d, Arr wr g d ∧ d.size = n ∧ Trn w g wr ∧ partLoop ltN a i j d = R
set_option maxHeartbeats 8000000 in
set_option maxRecDepth 100000 in
theorem part_any {w : World} {g n c : Nat} {d : Array Nat} (a b pv : Nat) (h : Arr w g d) (hd : d.size = n) (hap : a < pv) (hpb : pv < b) (hb : b ≤ n) (hn : n ≤ 1000000) :
    Calls Tryd.prog 61 #[.slice (some ⟨g, 0, none⟩) n c, .int .i64 (a : Int), .int .i64 (b : Int), .int .i64 (pv : Int)] w fun e w' => e = .returned (.tuple #[.int .i64 (((partition ltN d a b pv).1 : Nat) : Int), .bool (partition ltN d a b pv).2.1]) ∧ Arr w' g (partition ltN d a b pv).2.2 ∧ Trn w g w' := by
  obtain ⟨m, rfl⟩ : ∃ m, b = m + 1 := ⟨b - 1, by omega⟩
  have HR := Lib.hid (part_eq d a m pv)
  have HSW := Lib.hid ((h.swp (i := a) (j := pv) (by omega) (by omega)).drew)
  have HSS := Lib.hid (show (swp d a pv).size = n by rw [swp_size]; exact hd)
  generalize partition ltN d a (m + 1) pv = R at *
  have c0 := h.cell a (by omega)
  have z0 := h.free a (by omega)
  have c1 := h.cell pv (by omega)
  have z1 := h.free pv (by omega)
  have n1 : ¬ a = pv := by omega
  have n2 : ¬ pv = a := by omega
  have b1 : a < n := by omega
  have b2 : (a : Int) < (n : Int) := by omega
  have b3 : pv < n := by omega
  have b4 : (pv : Int) < (n : Int) := by omega
  have HMN : m < n := by omega
  have HM2 : (m : Int) ≤ 1000000 := by omega
  have HA2 : (a : Int) ≤ 1000000 := by omega
  have HAM : a < m := by omega
  rw [show ((m + 1 : Nat) : Int) = (m : Int) + 1 by omega]
  clear h hd
  generalize swp d a pv = d2 at *
  generalize d[a]! = x at *
  generalize d[pv]! = y at *
  go_enter Tryd.func61, Tryd.ntmps61
  go_wp2_with (fail)
  go_big_region
  all_goals go_upto_block 0 with (fail)
  have ST : Hid (AT w g d2 (((w.setCell ⟨g, a, none⟩ (.int .u64 (y : Int))).setCell ⟨g, pv, none⟩ (.int .u64 (x : Int))).drew)) := Lib.hid ⟨HSW.out, (((Trn.refl w g).set _ _).set _ _).drew⟩
  have hs2 : d2.size = n := HSS.out
  have he3 := HR.out
  clear HSW HSS HR c0 c1 z0 z1
  obtain ⟨I, hI⟩ : ∃ I, I = scanUp (pU d2 a) d2 m (a + 1) := ⟨_, rfl⟩
  obtain ⟨J, hJ⟩ : ∃ J, J = scanDown (pD d2 a) d2 I m := ⟨_, rfl⟩
  have hU := Go.Sort.scanUp_spec (pU d2 a) d2 m _ (a + 1) rfl
  have hD := Go.Sort.scanDown_spec (pD d2 a) d2 I m
  rw [← hI, ← hJ] at he3
  rw [← hI] at hU
  rw [← hJ] at hD
  obtain ⟨u1, u2, _, u4⟩ := hU
  obtain ⟨v1, v2, _, v4⟩ := hD
  have u2 := u2 (by omega)
  have v2 := v2 u2
  have hlt : I ≤ J → I < J := by
    intro h
    rcases Nat.lt_or_ge I J with h2 | h2
    · exact h2
    · exfalso
      have e : I = J := by omega
      have a1 := u4 (by omega)
      have a2 := v4 h (by omega)
      rw [← e] at a2
      unfold pU at a1
      unfold pD at a2
      rw [a1] at a2
      cases a2
  have HI : Hid (scanUp (pU d2 a) d2 m (a + 1) = I) := Lib.hid hI.symm
  have HJ : Hid (scanDown (pD d2 a) d2 I m = J) := Lib.hid hJ.symm
  have HE3 := Lib.hid he3
  have HLT := Lib.hid hlt
  have HS2 := Lib.hid hs2
  have b5 : m < n := by omega
  have b6 : (m : Int) < (n : Int) := by omega
  have hsz : d2.size = n := hs2
  clear he3 hI hJ u4 v4 hlt
  go_cut [10] from 30 to 45 (fun xr wq => xr = .int .i64 ((I : Nat) : Int) ∧ Hid (AT w g d2 wq))
  case first =>
    go_wp2_with (fail)
    go_loopw [10] (fun xr wq => ∃ k : Nat, a < k ∧ k ≤ m + 1 ∧ xr = .int .i64 (k : Int) ∧ Hid (AT w g d2 wq) ∧ Hid (scanUp (pU d2 a) d2 m k = I)) (fun xr _ => m + 1 - (intOf xr).toNat)
    case atStart => exact ⟨a + 1, by omega, by omega, by go_num, ST, HI⟩
    case round =>
      obtain ⟨k, hk1, hk2, rfl, ST2, HR⟩ := hrel
      clear ST
      obtain ⟨ha2, ht2⟩ := ST2.out
      by_cases hkj : k ≤ m
      · have c0 := ha2.cell a (by omega)
        have c1 := ha2.cell k (by omega)
        have q1 : decide ((k : Int) ≤ (m : Int)) = true := by simp; omega
        have q2 : decide (k ≤ m) = true := by simpa using hkj
        have b3 : k < n := by omega
        have b4 : (k : Int) < (n : Int) := by omega
        have hq := fun W => qless d2[k]! d2[a]! W
        have HU : Hid (pU d2 a d2[k]! = ltN d2[k]! d2[a]!) := Lib.hid rfl
        have HA := Lib.hid ha2
        have HT := Lib.hid ht2
        clear ha2 ht2 ST2
        generalize hx : d2[a]! = x at *
        generalize hy : d2[k]! = y at *
        cases hb : ltN y x with
        | false =>
          rw [hb] at hq HU
          have HE := Lib.hid (show k = I by rw [← HR.out]; exact (up_no (by rw [hy]; exact HU.out)).symm)
          clear hb hx hy HR HU
          go_wp2_with (fail)
          go_quiet ((go_at_call 59; exact Calls.quiet_of_same (hq _)))
          go_wp2_with (fail)
          go_meet
          case rel => exact ⟨by rw [HE.out], Lib.hid ⟨HA.out.drewN _, HT.out.drewN _⟩⟩
        | true =>
          rw [hb] at hq HU
          have HE := Lib.hid (show scanUp (pU d2 a) d2 m (k + 1) = I by rw [← HR.out]; exact (up_go hkj (by rw [hy]; exact HU.out)).symm)
          clear hb hx hy HR HU
          go_wp2_with (fail)
          go_quiet ((go_at_call 59; exact Calls.quiet_of_same (hq _)))
          go_wp2_with (fail)
          go_roundw
          case rel => exact ⟨k + 1, by omega, by omega, by go_num, Lib.hid ⟨HA.out.drewN _, HT.out.drewN _⟩, HE⟩
          case measure => simp [intOf]; omega
      · have q1 : decide ((k : Int) ≤ (m : Int)) = false := by simp; omega
        have q2 : decide (k ≤ m) = false := by simpa using hkj
        have HE := Lib.hid (show k = I by rw [← HR.out]; exact (up_end hkj).symm)
        have HA := Lib.hid ha2
        have HT := Lib.hid ht2
        clear ha2 ht2 ST2 HR hkj
        go_wp2_with (fail)
        go_quiet (fail)
        go_wp2_with (fail)
        go_meet
        case rel => exact ⟨by rw [HE.out], Lib.hid ⟨HA.out.drewN _, HT.out.drewN _⟩⟩
  case rest =>
    obtain ⟨rfl, ST3⟩ := hcut
    clear ST HI
    have hI1 : (I : Int) ≤ 1000001 := by omega
    go_upto_block 2 with (fail)
    go_cut [11] from 46 to 62 (fun xr wq => xr = .int .i64 ((J : Nat) : Int) ∧ Hid (AT w g d2 wq))
    case first =>
      go_wp2_with (fail)
      go_loopw [11] (fun xr wq => ∃ k : Nat, k ≤ m ∧ I ≤ k + 1 ∧ xr = .int .i64 (k : Int) ∧ Hid (AT w g d2 wq) ∧ Hid (scanDown (pD d2 a) d2 I k = J)) (fun xr _ => (intOf xr).toNat)
      case atStart => exact ⟨m, Nat.le_refl _, u2, rfl, ST3, HJ⟩
      case round =>
        obtain ⟨k, hk1, hk2, rfl, ST2, HR⟩ := hrel
        clear ST3
        obtain ⟨ha2, ht2⟩ := ST2.out
        by_cases hkj : I ≤ k
        · obtain ⟨k, rfl⟩ : ∃ q, k = q + 1 := ⟨k - 1, by omega⟩
          have c0 := ha2.cell a (by omega)
          have c1 := ha2.cell (k + 1) (by omega)
          have q1 : decide ((I : Int) ≤ (k : Int) + 1) = true := by simp; omega
          have q2 : decide (I ≤ k + 1) = true := by simpa using hkj
          have b3 : k + 1 < n := by omega
          have b4 : (k : Int) + 1 < (n : Int) := by omega
          have hq := fun W => qless d2[k + 1]! d2[a]! W
          have HU : Hid (pD d2 a d2[k + 1]! = !ltN d2[k + 1]! d2[a]!) := Lib.hid rfl
          have HA := Lib.hid ha2
          have HT := Lib.hid ht2
          clear ha2 ht2 ST2
          generalize hx : d2[a]! = x at *
          generalize hy : d2[k + 1]! = y at *
          cases hb : ltN y x with
          | true =>
            rw [hb] at hq HU
            have HE := Lib.hid (show k + 1 = J by rw [← HR.out]; exact (dn_no (by rw [hy]; exact HU.out)).symm)
            clear hb hx hy HR HU
            go_wp2_with (fail)
            go_quiet ((go_at_call 59; exact Calls.quiet_of_same (hq _)))
            go_wp2_with (fail)
            go_meet
            case rel => exact ⟨by rw [← HE.out], Lib.hid ⟨HA.out.drewN _, HT.out.drewN _⟩⟩
          | false =>
            rw [hb] at hq HU
            have HE := Lib.hid (show scanDown (pD d2 a) d2 I k = J by rw [← HR.out]; exact (dn_go hkj (by rw [hy]; exact HU.out)).symm)
            clear hb hx hy HR HU
            go_wp2_with (fail)
            go_quiet ((go_at_call 59; exact Calls.quiet_of_same (hq _)))
            go_wp2_with (fail)
            go_roundw
            case rel => exact ⟨k, by omega, by omega, rfl, Lib.hid ⟨HA.out.drewN _, HT.out.drewN _⟩, HE⟩
            case measure => simp [intOf]
        · have q1 : decide ((I : Int) ≤ (k : Int)) = false := by simp; omega
          have q2 : decide (I ≤ k) = false := by simpa using hkj
          have HE := Lib.hid (show k = J by rw [← HR.out]; exact (dn_end hkj).symm)
          have HA := Lib.hid ha2
          have HT := Lib.hid ht2
          clear ha2 ht2 ST2 HR hkj
          go_wp2_with (fail)
          go_quiet (fail)
          go_wp2_with (fail)
          go_meet
          case rel => exact ⟨by rw [HE.out], Lib.hid ⟨HA.out.drewN _, HT.out.drewN _⟩⟩
    case rest =>
      obtain ⟨rfl, ST5⟩ := hcut
      clear ST3 HJ
      have hJa : a ≤ J := by omega
      have hJn : J < n := by omega
      have hJ2 : (J : Int) < (n : Int) := by omega
      by_cases hgt : J < I
      · have e3 := HE3.out
        rw [if_pos hgt] at e3
        subst e3
        have q1 : decide ((J : Int) < (I : Int)) = true := by simp; omega
        have q2 : decide (J < I) = true := by simpa using hgt
        clear HE3 HLT
        obtain ⟨ha5, ht5⟩ := ST5.out
        have HSW := Lib.hid ((ha5.swp (i := J) (j := a) (by omega) (by omega)).drew)
        have c0 := ha5.cell a (by omega)
        have z0 := ha5.free a (by omega)
        have c1 := ha5.cell J (by omega)
        have z1 := ha5.free J (by omega)
        have HT := Lib.hid ht5
        rcases Nat.eq_or_lt_of_le (hJa : a ≤ J) with hja | hja
        · subst hja
          clear ha5 ht5 c1 z1
          generalize d2[a]! = x at *
          go_wp2_with (fail)
          go_big_region
          all_goals go_wp2
          go_ret2
          exact ⟨rfl, HSW.out, ((HT.out.set _ _).set _ _).drew⟩
        · have n3 : ¬ a = J := by omega
          have n4 : ¬ J = a := by omega
          clear ha5 ht5 hja
          generalize d2[a]! = x at *
          generalize d2[J]! = y at *
          go_wp2_with (fail)
          go_big_region
          all_goals go_wp2
          go_ret2
          exact ⟨rfl, HSW.out, ((HT.out.set _ _).set _ _).drew⟩
      · have e3 := HE3.out
        rw [if_neg hgt] at e3
        have hIJ := HLT.out (by omega)
        obtain ⟨ha5, ht5⟩ := ST5.out
        obtain ⟨J, rfl⟩ : ∃ q, J = q + 1 := ⟨J - 1, by omega⟩
        rw [Nat.add_sub_cancel] at e3
        have HG := Lib.hid e3
        have HSW := Lib.hid ((ha5.swp (i := I) (j := J + 1) (by omega) (by omega)).drew)
        have HS5 := Lib.hid (show (swp d2 I (J + 1)).size = n by rw [swp_size]; exact HS2.out)
        have c0 := ha5.cell I (by omega)
        have z0 := ha5.free I (by omega)
        have c1 := ha5.cell (J + 1) (by omega)
        have z1 := ha5.free (J + 1) (by omega)
        have n3 : ¬ I = J + 1 := by omega
        have n4 : ¬ J + 1 = I := by omega
        have q1 : decide ((J : Int) + 1 < (I : Int)) = false := by simp; omega
        have q2 : decide (J + 1 < I) = false := decide_eq_false (by omega)
        have b7 : I < n := by omega
        have b8 : (I : Int) < (n : Int) := by omega
        have b9 : J + 1 < n := by omega
        have b10 : (J : Int) + 1 < (n : Int) := by omega
        have HT := Lib.hid ht5
        have i1 : a < I := by omega
        have i2 : I ≤ J := by omega
        have i3 : J < m := by omega
        clear ha5 ht5 HE3 HLT e3 hgt hIJ u1 u2 v1 v2 hJa hJn hJ2 hsz
        generalize swp d2 I (J + 1) = d3 at *
        generalize d2[I]! = x at *
        generalize d2[J + 1]! = y at *
        go_wp2_with (fail)
        go_big_region
        all_goals go_wp2
        have HRR := HG.out
        have H1 : Hid (PaL w g n a (partLoop ltN a (I + 1) J d3) (I + 1) J ((((wc.setCell ⟨g, I, none⟩ (.int .u64 (y : Int))).setCell ⟨g, J + 1, none⟩ (.int .u64 (x : Int))).drew))) := Lib.hid ⟨d3, HSW.out, HS5.out, ((HT.out.set _ _).set _ _).drew, rfl⟩
        generalize partLoop ltN a (I + 1) J d3 = P at *
        subst HRR
        clear HSW HS5 HS2 HT HG c0 z0 c1 z1 ST5
        go_loopw [10, 11] (fun ir jr wr => ∃ i j : Nat, a < i ∧ i ≤ j + 1 ∧ j ≤ m ∧ ir = .int .i64 (i : Int) ∧ jr = .int .i64 (j : Int) ∧ Hid (PaL w g n a P i j wr)) (fun ir jr _ => ((intOf jr) + 1 - (intOf ir)).toNat)
        case atStart => exact ⟨I + 1, J, by omega, by omega, by omega, by go_num, by first | rfl | go_num, H1⟩
        case round =>
          clear H1 i1 i2 i3 b7 b8 b9 b10 n3 n4 q1 q2 b5 b6
          obtain ⟨i, j, hai, hij, hjm, rfl, rfl, HL⟩ := hrel
          obtain ⟨d2, ha2, hs2, ht2, he2⟩ := HL.out
          have ST : Hid (AT w g d2 wr) := Lib.hid ⟨ha2, ht2⟩
          have he3 := he2
          rw [Go.Sort.partLoop_eq] at he3
          change (if scanUp (pU d2 a) d2 j i > scanDown (pD d2 a) d2 (scanUp (pU d2 a) d2 j i) j then (scanDown (pD d2 a) d2 (scanUp (pU d2 a) d2 j i) j, d2) else partLoop ltN a (scanUp (pU d2 a) d2 j i + 1) (scanDown (pD d2 a) d2 (scanUp (pU d2 a) d2 j i) j - 1) (swp d2 (scanUp (pU d2 a) d2 j i) (scanDown (pD d2 a) d2 (scanUp (pU d2 a) d2 j i) j))) = P at he3
          obtain ⟨I, hI⟩ : ∃ I, I = scanUp (pU d2 a) d2 j i := ⟨_, rfl⟩
          obtain ⟨J, hJ⟩ : ∃ J, J = scanDown (pD d2 a) d2 I j := ⟨_, rfl⟩
          have hU := Go.Sort.scanUp_spec (pU d2 a) d2 j _ i rfl
          have hD := Go.Sort.scanDown_spec (pD d2 a) d2 I j
          rw [← hI, ← hJ] at he3
          rw [← hI] at hU
          rw [← hJ] at hD
          obtain ⟨u1, u2, _, u4⟩ := hU
          obtain ⟨v1, v2, _, v4⟩ := hD
          have u2 := u2 (by omega)
          have v2 := v2 u2
          have hlt : I ≤ J → I < J := by
            intro h
            rcases Nat.lt_or_ge I J with h2 | h2
            · exact h2
            · exfalso
              have e : I = J := by omega
              have a1 := u4 (by omega)
              have a2 := v4 h (by omega)
              rw [← e] at a2
              unfold pU at a1
              unfold pD at a2
              rw [a1] at a2
              cases a2
          have HI : Hid (scanUp (pU d2 a) d2 j i = I) := Lib.hid hI.symm
          have HJ : Hid (scanDown (pD d2 a) d2 I j = J) := Lib.hid hJ.symm
          have HE3 := Lib.hid he3
          have HLT := Lib.hid hlt
          have HS2 := Lib.hid hs2
          have b5 : j < n := by omega
          have b6 : (j : Int) < (n : Int) := by omega
          have hsz : d2.size = n := hs2
          clear ha2 ht2 he2 he3 hI hJ u4 v4 hlt
          clear HL
          go_upto_block 6 with (fail)
          go_cut [10] from 99 to 114 (fun xr wq => xr = .int .i64 ((I : Nat) : Int) ∧ Hid (AT w g d2 wq))
          case first =>
            go_wp2_with (fail)
            go_loopw [10] (fun xr wq => ∃ k : Nat, a < k ∧ k ≤ j + 1 ∧ xr = .int .i64 (k : Int) ∧ Hid (AT w g d2 wq) ∧ Hid (scanUp (pU d2 a) d2 j k = I)) (fun xr _ => j + 1 - (intOf xr).toNat)
            case atStart => exact ⟨i, hai, hij, rfl, ST, HI⟩
            case round =>
              obtain ⟨k, hk1, hk2, rfl, ST2, HR⟩ := hrel
              clear ST
              obtain ⟨ha2, ht2⟩ := ST2.out
              by_cases hkj : k ≤ j
              · have c0 := ha2.cell a (by omega)
                have c1 := ha2.cell k (by omega)
                have q1 : decide ((k : Int) ≤ (j : Int)) = true := by simp; omega
                have q2 : decide (k ≤ j) = true := by simpa using hkj
                have b3 : k < n := by omega
                have b4 : (k : Int) < (n : Int) := by omega
                have hq := fun W => qless d2[k]! d2[a]! W
                have HU : Hid (pU d2 a d2[k]! = ltN d2[k]! d2[a]!) := Lib.hid rfl
                have HA := Lib.hid ha2
                have HT := Lib.hid ht2
                clear ha2 ht2 ST2
                generalize hx : d2[a]! = x at *
                generalize hy : d2[k]! = y at *
                cases hb : ltN y x with
                | false =>
                  rw [hb] at hq HU
                  have HE := Lib.hid (show k = I by rw [← HR.out]; exact (up_no (by rw [hy]; exact HU.out)).symm)
                  clear hb hx hy HR HU
                  go_wp2_with (fail)
                  go_quiet ((go_at_call 59; exact Calls.quiet_of_same (hq _)))
                  go_wp2_with (fail)
                  go_meet
                  case rel => exact ⟨by rw [HE.out], Lib.hid ⟨HA.out.drewN _, HT.out.drewN _⟩⟩
                | true =>
                  rw [hb] at hq HU
                  have HE := Lib.hid (show scanUp (pU d2 a) d2 j (k + 1) = I by rw [← HR.out]; exact (up_go hkj (by rw [hy]; exact HU.out)).symm)
                  clear hb hx hy HR HU
                  go_wp2_with (fail)
                  go_quiet ((go_at_call 59; exact Calls.quiet_of_same (hq _)))
                  go_wp2_with (fail)
                  go_roundw
                  case rel => exact ⟨k + 1, by omega, by omega, by go_num, Lib.hid ⟨HA.out.drewN _, HT.out.drewN _⟩, HE⟩
                  case measure => simp [intOf]; omega
              · have q1 : decide ((k : Int) ≤ (j : Int)) = false := by simp; omega
                have q2 : decide (k ≤ j) = false := by simpa using hkj
                have HE := Lib.hid (show k = I by rw [← HR.out]; exact (up_end hkj).symm)
                have HA := Lib.hid ha2
                have HT := Lib.hid ht2
                clear ha2 ht2 ST2 HR hkj
                go_wp2_with (fail)
                go_quiet (fail)
                go_wp2_with (fail)
                go_meet
                case rel => exact ⟨by rw [HE.out], Lib.hid ⟨HA.out.drewN _, HT.out.drewN _⟩⟩
          case rest =>
            obtain ⟨rfl, ST3⟩ := hcut
            clear ST HI
            have hI1 : (I : Int) ≤ 1000001 := by omega
            go_upto_block 8 with (fail)
            go_cut [11] from 115 to 131 (fun xr wq => xr = .int .i64 ((J : Nat) : Int) ∧ Hid (AT w g d2 wq))
            case first =>
              go_wp2_with (fail)
              go_loopw [11] (fun xr wq => ∃ k : Nat, k ≤ j ∧ I ≤ k + 1 ∧ xr = .int .i64 (k : Int) ∧ Hid (AT w g d2 wq) ∧ Hid (scanDown (pD d2 a) d2 I k = J)) (fun xr _ => (intOf xr).toNat)
              case atStart => exact ⟨j, Nat.le_refl _, u2, rfl, ST3, HJ⟩
              case round =>
                obtain ⟨k, hk1, hk2, rfl, ST2, HR⟩ := hrel
                clear ST3
                obtain ⟨ha2, ht2⟩ := ST2.out
                by_cases hkj : I ≤ k
                · obtain ⟨k, rfl⟩ : ∃ q, k = q + 1 := ⟨k - 1, by omega⟩
                  have c0 := ha2.cell a (by omega)
                  have c1 := ha2.cell (k + 1) (by omega)
                  have q1 : decide ((I : Int) ≤ (k : Int) + 1) = true := by simp; omega
                  have q2 : decide (I ≤ k + 1) = true := by simpa using hkj
                  have b3 : k + 1 < n := by omega
                  have b4 : (k : Int) + 1 < (n : Int) := by omega
                  have hq := fun W => qless d2[k + 1]! d2[a]! W
                  have HU : Hid (pD d2 a d2[k + 1]! = !ltN d2[k + 1]! d2[a]!) := Lib.hid rfl
                  have HA := Lib.hid ha2
                  have HT := Lib.hid ht2
                  clear ha2 ht2 ST2
                  generalize hx : d2[a]! = x at *
                  generalize hy : d2[k + 1]! = y at *
                  cases hb : ltN y x with
                  | true =>
                    rw [hb] at hq HU
                    have HE := Lib.hid (show k + 1 = J by rw [← HR.out]; exact (dn_no (by rw [hy]; exact HU.out)).symm)
                    clear hb hx hy HR HU
                    go_wp2_with (fail)
                    go_quiet ((go_at_call 59; exact Calls.quiet_of_same (hq _)))
                    go_wp2_with (fail)
                    go_meet
                    case rel => exact ⟨by rw [← HE.out], Lib.hid ⟨HA.out.drewN _, HT.out.drewN _⟩⟩
                  | false =>
                    rw [hb] at hq HU
                    have HE := Lib.hid (show scanDown (pD d2 a) d2 I k = J by rw [← HR.out]; exact (dn_go hkj (by rw [hy]; exact HU.out)).symm)
                    clear hb hx hy HR HU
                    go_wp2_with (fail)
                    go_quiet ((go_at_call 59; exact Calls.quiet_of_same (hq _)))
                    go_wp2_with (fail)
                    go_roundw
                    case rel => exact ⟨k, by omega, by omega, rfl, Lib.hid ⟨HA.out.drewN _, HT.out.drewN _⟩, HE⟩
                    case measure => simp [intOf]
                · have q1 : decide ((I : Int) ≤ (k : Int)) = false := by simp; omega
                  have q2 : decide (I ≤ k) = false := by simpa using hkj
                  have HE := Lib.hid (show k = J by rw [← HR.out]; exact (dn_end hkj).symm)
                  have HA := Lib.hid ha2
                  have HT := Lib.hid ht2
                  clear ha2 ht2 ST2 HR hkj
                  go_wp2_with (fail)
                  go_quiet (fail)
                  go_wp2_with (fail)
                  go_meet
                  case rel => exact ⟨by rw [HE.out], Lib.hid ⟨HA.out.drewN _, HT.out.drewN _⟩⟩
            case rest =>
              obtain ⟨rfl, ST5⟩ := hcut
              clear ST3 HJ
              have hJa : a ≤ J := by omega
              have hJn : J < n := by omega
              have hJ2 : (J : Int) < (n : Int) := by omega
              by_cases hgt : J < I
              · have e3 := HE3.out
                rw [if_pos hgt] at e3
                subst e3
                have q1 : decide ((J : Int) < (I : Int)) = true := by simp; omega
                have q2 : decide (J < I) = true := by simpa using hgt
                clear HE3 HLT
                obtain ⟨ha5, ht5⟩ := ST5.out
                have HSW := Lib.hid ((ha5.swp (i := J) (j := a) (by omega) (by omega)).drew)
                have c0 := ha5.cell a (by omega)
                have z0 := ha5.free a (by omega)
                have c1 := ha5.cell J (by omega)
                have z1 := ha5.free J (by omega)
                have HT := Lib.hid ht5
                rcases Nat.eq_or_lt_of_le (hJa : a ≤ J) with hja | hja
                · subst hja
                  clear ha5 ht5 c1 z1
                  generalize d2[a]! = x at *
                  go_wp2_with (fail)
                  go_big_region
                  all_goals go_wp2
                  go_ret2
                  exact ⟨rfl, HSW.out, ((HT.out.set _ _).set _ _).drew⟩
                · have n3 : ¬ a = J := by omega
                  have n4 : ¬ J = a := by omega
                  clear ha5 ht5 hja
                  generalize d2[a]! = x at *
                  generalize d2[J]! = y at *
                  go_wp2_with (fail)
                  go_big_region
                  all_goals go_wp2
                  go_ret2
                  exact ⟨rfl, HSW.out, ((HT.out.set _ _).set _ _).drew⟩
              · have e3 := HE3.out
                rw [if_neg hgt] at e3
                have hIJ := HLT.out (by omega)
                obtain ⟨ha5, ht5⟩ := ST5.out
                obtain ⟨J, rfl⟩ : ∃ q, J = q + 1 := ⟨J - 1, by omega⟩
                rw [Nat.add_sub_cancel] at e3
                have HG := Lib.hid e3
                have HSW := Lib.hid ((ha5.swp (i := I) (j := J + 1) (by omega) (by omega)).drew)
                have c0 := ha5.cell I (by omega)
                have z0 := ha5.free I (by omega)
                have c1 := ha5.cell (J + 1) (by omega)
                have z1 := ha5.free (J + 1) (by omega)
                have n3 : ¬ I = J + 1 := by omega
                have n4 : ¬ J + 1 = I := by omega
                have q1 : decide ((J : Int) + 1 < (I : Int)) = false := by simp; omega
                have q2 : decide (J + 1 < I) = false := decide_eq_false (by omega)
                have b7 : I < n := by omega
                have b8 : (I : Int) < (n : Int) := by omega
                have b9 : J + 1 < n := by omega
                have b10 : (J : Int) + 1 < (n : Int) := by omega
                have HT := Lib.hid ht5
                have HIJ := Lib.hid hIJ
                clear ha5 ht5 HE3 HLT e3 hgt hIJ
                generalize d2[I]! = x at *
                generalize d2[J + 1]! = y at *
                go_wp2_with (fail)
                go_big_region
                all_goals go_wp2
                all_goals go_roundw
                case rel => exact ⟨I + 1, J, by omega, by have := HIJ.out; omega, by omega, by go_num, rfl, Lib.hid ⟨_, HSW.out, by rw [swp_size]; exact HS2.out, ((HT.out.set _ _).set _ _).drew, HG.out⟩⟩
                case measure => have := HIJ.out; simp [intOf]; omega
end Go.Proofs.YtjhakplaffgkpaaDoor.Qu
