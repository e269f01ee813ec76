/- slices.heapSortOrdered. -/
import Derived.Test.YtpdgcphflheeiaaQh
namespace Go.Proofs.Ytpdgcphflheeiaa
open Go.RowKit
open Go.Sort (heapBuild heapPop heapSort siftDown swp)

theorem Arr.drew {w : World} {g : Nat} {d : Array Nat} (h : Arr w g d) : Arr w.drew g d := ⟨h.here, h.cell, h.free⟩
theorem Trn.drew {w w1 : World} {g : Nat} (h : Trn w g w1) : Trn w g w1.drew := ⟨h.os, h.tape, h.output, h.size, h.block⟩
theorem sift_size (hi F : Nat) : ∀ (m r : Nat) (d : Array Nat), hi - r ≤ m → (siftDown ltN hi F r d).size = d.size
  | 0, r, d, h => by rw [sift_end (by omega)]
  | m + 1, r, d, h => by
    by_cases hc : 2 * r + 1 < hi
    · cases hl : ltN d[F + r]! d[F + kid hi F r d]! with
      | false => rw [sift_stop hc hl]
      | true =>
        have := kid_lt (F := F) (d := d) hc
        rw [sift_go hc hl, sift_size hi F m _ _ (by omega), swp_size]
    · rw [sift_end hc]
def BuiL (w : World) (g n hi F : Nat) (D : Array Nat) (k : Nat) (wr : World) : Prop := ∃ d, Arr wr g d ∧ d.size = n ∧ Trn w g wr ∧ heapBuild ltN hi F k d = D
def PopL (w : World) (g n F : Nat) (D : Array Nat) (k : Nat) (wr : World) : Prop := ∃ d, Arr wr g d ∧ d.size = n ∧ Trn w g wr ∧ heapPop ltN F k d = D
theorem build_size (hi F : Nat) : ∀ (k : Nat) (d : Array Nat), (heapBuild ltN hi F k d).size = d.size
  | 0, _ => rfl
  | k + 1, d => by rw [heapBuild, build_size hi F k, sift_size hi F _ _ _ (Nat.le_refl _)]
set_option maxHeartbeats 2000000 in
theorem heap_any {w : World} {g n c : Nat} {d : Array Nat} (a b : Nat) (h : Arr w g d) (hd : d.size = n) (hab : a < b) (hb : b ≤ n) (hn : n ≤ 1000000) :
    Calls Try.prog 35 #[.slice (some ⟨g, 0, none⟩) n c, .int .i64 (a : Int), .int .i64 (b : Int)] w fun e w' => e = .returned (.tuple #[]) ∧ Arr w' g (heapSort ltN d a b) ∧ Trn w g w' := by
  obtain ⟨m, rfl⟩ : ∃ m, b = a + (m + 1) := ⟨b - a - 1, by omega⟩
  have H0 := Lib.hid (show BuiL w g n (m + 1) a (heapBuild ltN (m + 1) a (m / 2 + 1) d) (m / 2 + 1) w from ⟨d, h, hd, Trn.refl w g, rfl⟩)
  have HD := Lib.hid (show heapPop ltN a (m + 1) (heapBuild ltN (m + 1) a (m / 2 + 1) d) = heapSort ltN d a (a + (m + 1)) by unfold heapSort; rw [Nat.add_sub_cancel_left, Nat.add_sub_cancel])
  have HSZ := Lib.hid (show (heapBuild ltN (m + 1) a (m / 2 + 1) d).size = n by rw [build_size]; exact hd)
  generalize heapSort ltN d a (a + (m + 1)) = D at *
  generalize heapBuild ltN (m + 1) a (m / 2 + 1) d = D1 at *
  have hS := Lib.hid (fun (lo hi : Nat) (W : World) (d : Array Nat) (h : Arr W g d) (hd : d.size = n) (hb : a + hi ≤ n) (hlo : lo ≤ 1000000) => sift_any (c := c) lo hi a h hd hb hn hlo)
  obtain ⟨B, hB⟩ : ∃ B, B = a + (m + 1) := ⟨_, rfl⟩
  rw [← hB]
  have eb : (B : Int) - (a : Int) = (m : Int) + 1 := by omega
  have bB : (B : Int) ≤ 1000000 := by omega
  have hm : m < 1000000 := by omega
  have hq2 : m / 2 ≤ m := by omega
  have hm2 : (m : Int) ≤ 1000000 := by omega
  have ha2 : (a : Int) ≤ 1000000 := by omega
  have e1 : (m : Int) / 2 = ((m / 2 : Nat) : Int) := by omega
  have HAB : a + (m + 1) ≤ n := hb
  clear h hd hB hb hab
  generalize m / 2 = h2 at *
  go_enter Try.func35, Try.ntmps35
  go_wp2_with (fail)
  go_loopw [9] (fun ir wr => ∃ k : Nat, k ≤ m + 1 ∧ ir = .int .i64 ((k : Int) - 1) ∧ Hid (BuiL w g n (m + 1) a D1 k wr)) (fun ir _ => (intOf ir + 1).toNat)
  case atStart => exact ⟨h2 + 1, by omega, by go_num, H0⟩
  case round =>
    clear H0
    obtain ⟨k, hk, rfl, HI⟩ := hrel
    obtain ⟨d2, ha2, hs2, ht2, he2⟩ := HI.out
    clear HI
    cases k with
    | succ k =>
      have e2 : ((k + 1 : Nat) : Int) - 1 = (k : Int) := by omega
      rw [e2]
      have hQ := hS.out k (m + 1) _ d2 ha2 hs2 (by omega) (by omega)
      rw [show ((m + 1 : Nat) : Int) = (m : Int) + 1 by omega] at hQ
      have HQ := Lib.hid hQ
      clear hQ
      have HG := Lib.hid (show heapBuild ltN (m + 1) a k (siftDown ltN (m + 1) a k d2) = D1 by rw [← he2, heapBuild])
      have HT2 := Lib.hid ht2
      have HS2 := Lib.hid (show (siftDown ltN (m + 1) a k d2).size = n by rw [sift_size _ _ _ _ _ (Nat.le_refl _)]; exact hs2)
      have q1 : decide (0 ≤ (k : Int)) = true := by simp
      have q2 : (k : Int) ≤ 1000000 := by omega
      have HK := Lib.hid hk
      clear ha2 hs2 ht2 he2 e2 hk
      generalize siftDown ltN (m + 1) a k d2 = d3 at *
      go_wp2_with (first
        | (go_at_call 45; (with_reducible refine HQ.out.mono ?_); rintro e w5 ⟨rfl, ha5, ht5⟩)
        | fail)
      go_roundw
      case rel => exact ⟨k, by have := HK.out; omega, rfl, Lib.hid ⟨d3, ha5, HS2.out, HT2.out.trans ht5, HG.out⟩⟩
      case measure => simp [intOf]
    | zero =>
      have HE := Lib.hid (show d2 = D1 from he2)
      have H1 : Hid (PopL w g n a D (m + 1) wr) := Lib.hid ⟨d2, ha2, hs2, ht2, by rw [HE.out]; exact HD.out⟩
      have e2 : ((0 : Nat) : Int) - 1 = -1 := by omega
      rw [e2]
      clear ha2 hs2 ht2 he2 HE HD HSZ e2
      go_wp2_with (fail)
      go_loopw [10] (fun ir wr => ∃ k : Nat, k ≤ m + 1 ∧ ir = .int .i64 ((k : Int) - 1) ∧ Hid (PopL w g n a D k wr)) (fun ir _ => (intOf ir + 1).toNat)
      case atStart => exact ⟨m + 1, by omega, by go_num, H1⟩
      case round =>
        clear H1
        obtain ⟨k, hk, rfl, HI⟩ := hrel
        obtain ⟨d2, ha2, hs2, ht2, he2⟩ := HI.out
        clear HI
        cases k with
        | zero =>
          have HE := Lib.hid (show d2 = D from he2)
          have HA2 := Lib.hid ha2
          have HT2 := Lib.hid ht2
          have e2 : ((0 : Nat) : Int) - 1 = -1 := by omega
          rw [e2]
          clear ha2 hs2 ht2 he2 e2
          go_wp2_with (fail)
          go_end0
          exact ⟨rfl, HE.out ▸ HA2.out, HT2.out⟩
        | succ k =>
          have e2 : ((k + 1 : Nat) : Int) - 1 = (k : Int) := by omega
          rw [e2]
          have HSW := Lib.hid ((ha2.swp (i := a) (j := a + k) (by omega) (by omega)).drew)
          have HSS := Lib.hid (show (swp d2 a (a + k)).size = n by rw [swp_size]; exact hs2)
          have HG := Lib.hid (show heapPop ltN a k (siftDown ltN k a 0 (swp d2 a (a + k))) = D by rw [← he2, heapPop])
          have HT2 := Lib.hid ht2
          have HS2 := Lib.hid (show (siftDown ltN k a 0 (swp d2 a (a + k))).size = n by rw [sift_size _ _ _ _ _ (Nat.le_refl _), swp_size]; exact hs2)
          have HQ : Hid (∀ W, Arr W g (swp d2 a (a + k)) → Calls Try.prog 45 #[.slice (some ⟨g, 0, none⟩) n c, .int .i64 0, .int .i64 (k : Int), .int .i64 (a : Int)] W fun e w' => e = .returned (.tuple #[]) ∧ Arr w' g (siftDown ltN k a 0 (swp d2 a (a + k))) ∧ Trn W g w') :=
            Lib.hid (fun W h => hS.out 0 k W (swp d2 a (a + k)) h (by rw [swp_size]; exact hs2) (by omega) (by omega))
          have HK := Lib.hid hk
          have q2 : (k : Int) ≤ 1000000 := by omega
          have b1 : a < n := by omega
          have b2 : (a : Int) < (n : Int) := by omega
          have b3 : a + k < n := by omega
          have b4 : (a : Int) + (k : Int) < (n : Int) := by omega
          have v1 : ((a : Int) + (k : Int)).toNat = a + k := by omega
          have v2 : 0 ≤ (a : Int) + (k : Int) := by omega
          have c0 := ha2.cell a (by omega)
          have z0 := ha2.free a (by omega)
          have c1 := ha2.cell (a + k) (by omega)
          have z1 := ha2.free (a + k) (by omega)
          clear hs2 ht2 he2 e2 hk
          generalize swp d2 a (a + k) = d4 at *
          generalize siftDown ltN k a 0 d4 = d3 at *
          have w1 : IntKind.i64.wrap ((a : Int) + (k : Int)) = (a : Int) + (k : Int) := IntWalk.i64_in _ (by omega)
          rcases Nat.eq_zero_or_pos k with hk0 | hk0
          · subst hk0
            clear c1 z1 b3 v1 v2 b4 q2 ha2 w1
            rw [Nat.add_zero] at HSW
            have HQ0 : Hid (∀ W, Arr W g d4 → Calls Try.prog 45 #[.slice (some ⟨g, 0, none⟩) n c, .int .i64 0, .int .i64 0, .int .i64 (a : Int)] W fun e w' => e = .returned (.tuple #[]) ∧ Arr w' g d3 ∧ Trn W g w') := Lib.hid (fun W h => HQ.out W h)
            generalize d2[a]! = x at *
            go_wp2_with (fail)
            go_big_region
            all_goals go_wp2_with (first
              | (go_at_call 45; go_loud ((with_reducible refine (HQ0.out _ HSW.out).mono ?_); rintro e w5 ⟨rfl, ha5, ht5⟩))
              | fail)
            all_goals go_roundw
            case rel => exact ⟨0, by omega, rfl, Lib.hid ⟨d3, ha5, HS2.out, (((HT2.out.set _ _).set _ _).drew).trans ht5, HG.out⟩⟩
            case measure => simp [intOf]
          · have n1 : ¬ a = a + k := by omega
            have n2 : ¬ a + k = a := by omega
            have n3 : ¬ k = 0 := by omega
            clear ha2 hk0
            generalize d2[a]! = x at *
            generalize d2[a + k]! = y at *
            go_wp2_with (fail)
            go_big_region
            all_goals clear w1
            all_goals go_wp2_with (first
              | (go_at_call 45; go_loud ((with_reducible refine (HQ.out _ HSW.out).mono ?_); rintro e w5 ⟨rfl, ha5, ht5⟩))
              | fail)
            all_goals go_roundw
            case rel => exact ⟨k, by have := HK.out; omega, rfl, Lib.hid ⟨d3, ha5, HS2.out, (((HT2.out.set _ _).set _ _).drew).trans ht5, HG.out⟩⟩
            case measure => simp [intOf]
end Go.Proofs.Ytpdgcphflheeiaa
