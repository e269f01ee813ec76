/- slices.siftDownOrdered. -/
import Derived.Test.YtjhakplaffgkpaaDoorQiM
namespace Go.Proofs.YtjhakplaffgkpaaDoor.Qu
open Go.RowKit
open Go.Sort (siftDown swp)

theorem sift_end {hi F r : Nat} {d : Array Nat} (h : ¬ 2 * r + 1 < hi) : siftDown ltN hi F r d = d := by
  rw [siftDown, dif_pos (by omega)]
/-- Which child is the greater one. -/
def kid (hi F r : Nat) (d : Array Nat) : Nat := if 2 * r + 1 + 1 < hi ∧ ltN d[F + (2 * r + 1)]! d[F + (2 * r + 1) + 1]! = true then 2 * r + 1 + 1 else 2 * r + 1
theorem sift_stop {hi F r : Nat} {d : Array Nat} (h : 2 * r + 1 < hi) (hl : ltN d[F + r]! d[F + kid hi F r d]! = false) : siftDown ltN hi F r d = d := by
  rw [siftDown, dif_neg (by omega)]
  unfold kid at hl
  by_cases hc : 2 * r + 1 + 1 < hi ∧ ltN d[F + (2 * r + 1)]! d[F + (2 * r + 1) + 1]! = true
  · rw [if_pos hc] at hl
    rw [if_pos (by simpa using hc), if_pos (by rw [show F + (2 * r + 2) = F + (2 * r + 1 + 1) by omega, hl]; rfl)]
  · rw [if_neg hc] at hl
    rw [if_neg (by simpa using hc), if_pos (by rw [hl]; rfl)]
theorem sift_go {hi F r : Nat} {d : Array Nat} (h : 2 * r + 1 < hi) (hl : ltN d[F + r]! d[F + kid hi F r d]! = true) : siftDown ltN hi F r d = siftDown ltN hi F (kid hi F r d) (swp d (F + r) (F + kid hi F r d)) := by
  rw [siftDown, dif_neg (by omega)]
  unfold kid at hl ⊢
  by_cases hc : 2 * r + 1 + 1 < hi ∧ ltN d[F + (2 * r + 1)]! d[F + (2 * r + 1) + 1]! = true
  · rw [if_pos hc] at hl
    rw [if_pos hc, if_pos (by simpa using hc), if_neg (by rw [show F + (2 * r + 2) = F + (2 * r + 1 + 1) by omega, hl]; decide), dif_pos (by omega)]
  · rw [if_neg hc] at hl
    rw [if_neg hc, if_neg (by simpa using hc), if_neg (by rw [hl]; decide)]
theorem kid_lt {hi F r : Nat} {d : Array Nat} (h : 2 * r + 1 < hi) : kid hi F r d < hi ∧ r < kid hi F r d := by
  unfold kid
  split <;> omega
def SiftL (w : World) (g n hi F : Nat) (D : Array Nat) (r : Nat) (wr : World) : Prop := ∃ d, Arr wr g d ∧ d.size = n ∧ Trn w g wr ∧ siftDown ltN hi F r d = D
theorem qless (x y : Nat) (W : World) : Calls Tryd.prog 59 #[.int .u64 (x : Int), .int .u64 (y : Int)] W fun e w' => e = .returned (.bool (ltN x y)) ∧ w' = W :=
  (less_any x y W).mono (fun _ _ h => ⟨h.1, h.2.symm⟩)
theorem q_again {P : Program} {f : FuncId} {args : Array Value} {w : World} {a n : Nat} {v : Value} (c : ∀ W, Calls P f args W fun e w' => e = .returned v ∧ w' = W) :
    Calls P f args (w.drewN (a + n)) fun e w2 => e = .returned v ∧ ∃ m, w2 = w.drewN (a + m) := (c _).mono fun _ _ h => ⟨h.1, n, h.2⟩
set_option maxHeartbeats 4000000 in
theorem sift_any {w : World} {g n c : Nat} {d : Array Nat} (lo hi F : Nat) (h : Arr w g d) (hd : d.size = n) (hb : F + hi ≤ n) (hn : n ≤ 1000000) (hlo : lo ≤ 1000000) :
    Calls Tryd.prog 63 #[.slice (some ⟨g, 0, none⟩) n c, .int .i64 (lo : Int), .int .i64 (hi : Int), .int .i64 (F : Int)] w fun e w' => e = .returned (.tuple #[]) ∧ Arr w' g (siftDown ltN hi F lo d) ∧ Trn w g w' := by
  have H0 := Lib.hid (show SiftL w g n hi F (siftDown ltN hi F lo d) lo w from ⟨d, h, hd, Trn.refl w g, rfl⟩)
  generalize siftDown ltN hi F lo d = D at *
  clear h hd
  go_enter Tryd.func63, Tryd.ntmps63
  go_wp2_with (fail)
  go_loopw [8] (fun ir wr => ∃ r : Nat, r ≤ 1000000 ∧ ir = .int .i64 (r : Int) ∧ Hid (SiftL w g n hi F D r wr)) (fun ir _ => hi - (intOf ir).toNat)
  case atStart => exact ⟨lo, hlo, rfl, H0⟩
  case round =>
    clear H0
    obtain ⟨r, hr, rfl, HI⟩ := hrel
    obtain ⟨d2, ha2, hs2, ht2, he2⟩ := HI.out
    clear HI
    by_cases hch : 2 * r + 1 < hi
    · have hk := kid_lt (F := F) (d := d2) hch
      have q1 : decide (hi ≤ 2 * r + 1) = false := by simp; omega
      have q2 : decide ((hi : Int) ≤ 2 * (r : Int) + 1) = false := by simp; omega
      have b1 : (F : Int) + (2 * (r : Int) + 1) < (n : Int) := by omega
      have b2 : F + (2 * r + 1) < n := by omega
      have b3 : (F : Int) + (r : Int) < (n : Int) := by omega
      have b4 : F + r < n := by omega
      have cr := ha2.cell (F + r) (by omega)
      have zr := ha2.free (F + r) (by omega)
      have ck := ha2.cell (F + kid hi F r d2) (by omega)
      have zk := ha2.free (F + kid hi F r d2) (by omega)
      have HSW := Lib.hid (fun m => (ha2.drewN m).swp (i := F + r) (j := F + kid hi F r d2) (by omega) (by omega))
      have HGO := Lib.hid (fun hl => sift_go (d := d2) (F := F) hch hl)
      have HST := Lib.hid (fun hl => sift_stop (d := d2) (F := F) hch hl)
      have hq2 := fun W => qless d2[F + r]! d2[F + kid hi F r d2]! W
      have HA2 := Lib.hid ha2
      have HT2 := Lib.hid ht2
      have HE2 := Lib.hid he2
      have HS2 := Lib.hid hs2
      have h1e : F + (2 * r + 1) + 1 = F + (2 * r + 1 + 1) := by omega
      by_cases hc1 : 2 * r + 1 + 1 < hi
      · have c1 := ha2.cell (F + (2 * r + 1)) (by omega)
        have c2 := ha2.cell (F + (2 * r + 1) + 1) (by omega)
        have q3 : decide (2 * r + 1 + 1 < hi) = true := by simpa using hc1
        have q4 : decide (2 * (r : Int) + 1 + 1 < (hi : Int)) = true := by simp; omega
        have b5 : (F : Int) + (2 * (r : Int) + 1) + 1 < (n : Int) := by omega
        have b6 : F + (2 * r + 1) + 1 < n := by omega
        have hq1 := fun W => qless d2[F + (2 * r + 1)]! d2[F + (2 * r + 1) + 1]! W
        cases hb1 : ltN d2[F + (2 * r + 1)]! d2[F + (2 * r + 1) + 1]! with
        | true =>
          have hkid : kid hi F r d2 = 2 * r + 1 + 1 := by unfold kid; rw [if_pos ⟨hc1, hb1⟩]
          have hc3 : 2 * r + 1 + 1 < hi := hc1
          rw [hb1, h1e] at hq1
          rw [h1e] at c2 b6
          clear hb1
          rw [hkid] at ck zk HSW HGO HST hq2
          have b7 : (F : Int) + (2 * (r : Int) + 1 + 1) < (n : Int) := by omega
          have b8 : F + (2 * r + 1 + 1) < n := by omega
          have hrk : r < 2 * r + 1 + 1 := by omega
          have hkh : 2 * r + 1 + 1 < hi := by omega
          generalize d2[F + r]! = x at *
          generalize d2[F + (2 * r + 1 + 1)]! = y at *
          generalize d2[F + (2 * r + 1)]! = x1 at *
          cases hb2 : ltN x y with
          | false =>
            rw [hb2] at hq2
            have HD : Hid (d2 = D) := Lib.hid (by rw [← he2]; exact (HST.out hb2).symm)
            clear hb2 HST HGO HSW ha2 ht2 he2 hs2 hkid hk hch hc1
            have v0 : ((F : Int) + (r : Int)).toNat = F + r := by omega
            have u0 : 0 ≤ (F : Int) + (r : Int) := by omega
            have v1 : ((F : Int) + (2 * (r : Int) + 1 + 1)).toNat = F + (2 * r + 1 + 1) := by omega
            have u1 : 0 ≤ (F : Int) + (2 * (r : Int) + 1 + 1) := by omega
            have v2 : (2 * (r : Int) + 1 + 1).toNat = 2 * r + 1 + 1 := by omega
            have u2 : 0 ≤ 2 * (r : Int) + 1 + 1 := by omega
            have v3 : ((F : Int) + (2 * (r : Int) + 1)).toNat = F + (2 * r + 1) := by omega
            have u3 : 0 ≤ (F : Int) + (2 * (r : Int) + 1) := by omega
            have v4 : ((F : Int) + (2 * (r : Int) + 1) + 1).toNat = F + (2 * r + 1) + 1 := by omega
            have u4 : 0 ≤ (F : Int) + (2 * (r : Int) + 1) + 1 := by omega
            have w0 : IntKind.i64.wrap ((F : Int) + (r : Int)) = (F : Int) + (r : Int) := IntWalk.i64_in _ (by omega)
            have w1 : IntKind.i64.wrap ((F : Int) + (2 * (r : Int) + 1 + 1)) = (F : Int) + (2 * (r : Int) + 1 + 1) := IntWalk.i64_in _ (by omega)
            have w2 : IntKind.i64.wrap (2 * (r : Int) + 1 + 1) = 2 * (r : Int) + 1 + 1 := IntWalk.i64_in _ (by omega)
            have w3 : IntKind.i64.wrap ((F : Int) + (2 * (r : Int) + 1)) = (F : Int) + (2 * (r : Int) + 1) := IntWalk.i64_in _ (by omega)
            have w4 : IntKind.i64.wrap ((F : Int) + (2 * (r : Int) + 1) + 1) = (F : Int) + (2 * (r : Int) + 1) + 1 := IntWalk.i64_in _ (by omega)
            go_wp2_with (fail)
            go_quiet (((go_at_call 59; exact Calls.quiet_of_same (hq1 _))))
            go_wp2_with (fail)
            go_quiet ((go_at_call 59; exact q_again hq2))
            go_wp2_with (fail)
            (try simp only [Exit.inBlock, Exit.then])
            refine bodyPost_ret (results_none rfl _ _ _) rfl ?_
            exact ⟨rfl, HD.out ▸ (HA2.out.drewN _).drewN _, (HT2.out.drewN _).drewN _⟩
          | true =>
            rw [hb2] at hq2
            have HG := Lib.hid ((HGO.out hb2).symm.trans he2)
            have HRK := Lib.hid hrk
            have HKH := Lib.hid hkh
            clear hb2 HST HGO ha2 ht2 he2 hs2 hkid hk hch hc1 hrk hkh
            have v0 : ((F : Int) + (r : Int)).toNat = F + r := by omega
            have u0 : 0 ≤ (F : Int) + (r : Int) := by omega
            have v1 : ((F : Int) + (2 * (r : Int) + 1 + 1)).toNat = F + (2 * r + 1 + 1) := by omega
            have u1 : 0 ≤ (F : Int) + (2 * (r : Int) + 1 + 1) := by omega
            have v2 : (2 * (r : Int) + 1 + 1).toNat = 2 * r + 1 + 1 := by omega
            have u2 : 0 ≤ 2 * (r : Int) + 1 + 1 := by omega
            have v3 : ((F : Int) + (2 * (r : Int) + 1)).toNat = F + (2 * r + 1) := by omega
            have u3 : 0 ≤ (F : Int) + (2 * (r : Int) + 1) := by omega
            have v4 : ((F : Int) + (2 * (r : Int) + 1) + 1).toNat = F + (2 * r + 1) + 1 := by omega
            have u4 : 0 ≤ (F : Int) + (2 * (r : Int) + 1) + 1 := by omega
            have w0 : IntKind.i64.wrap ((F : Int) + (r : Int)) = (F : Int) + (r : Int) := IntWalk.i64_in _ (by omega)
            have w1 : IntKind.i64.wrap ((F : Int) + (2 * (r : Int) + 1 + 1)) = (F : Int) + (2 * (r : Int) + 1 + 1) := IntWalk.i64_in _ (by omega)
            have w2 : IntKind.i64.wrap (2 * (r : Int) + 1 + 1) = 2 * (r : Int) + 1 + 1 := IntWalk.i64_in _ (by omega)
            have w3 : IntKind.i64.wrap ((F : Int) + (2 * (r : Int) + 1)) = (F : Int) + (2 * (r : Int) + 1) := IntWalk.i64_in _ (by omega)
            have w4 : IntKind.i64.wrap ((F : Int) + (2 * (r : Int) + 1) + 1) = (F : Int) + (2 * (r : Int) + 1) + 1 := IntWalk.i64_in _ (by omega)
            go_wp2_with (fail)
            go_quiet (((go_at_call 59; exact Calls.quiet_of_same (hq1 _))))
            go_wp2_with (fail)
            go_quiet ((go_at_call 59; exact q_again hq2))
            go_wp2_with (fail)
            go_big_region
            all_goals go_wp2
            all_goals go_roundw
            all_goals clear v0 u0 v1 u1 v2 u2 v3 u3 v4 u4 w0 w1 w2 w3 w4
            case rel => exact ⟨2 * r + 1 + 1, by have := HKH.out; omega, by go_num, Lib.hid ⟨_, HSW.out _, by rw [swp_size]; exact HS2.out, ((HT2.out.drewN _).set _ _).set _ _, HG.out⟩⟩
            case measure => have := HRK.out; have := HKH.out; simp [intOf]; omega
        | false =>
          have hkid : kid hi F r d2 = 2 * r + 1 := by unfold kid; rw [if_neg (by simp [hb1])]
          rw [hb1, h1e] at hq1
          rw [h1e] at c2 b6
          clear hb1
          rw [hkid] at ck zk HSW HGO HST hq2
          have b7 : (F : Int) + (2 * (r : Int) + 1) < (n : Int) := by omega
          have b8 : F + (2 * r + 1) < n := by omega
          have hrk : r < 2 * r + 1 := by omega
          have hkh : 2 * r + 1 < hi := by omega
          generalize d2[F + r]! = x at *
          generalize d2[F + (2 * r + 1)]! = y at *
          generalize d2[F + (2 * r + 1 + 1)]! = y1 at *
          cases hb2 : ltN x y with
          | false =>
            rw [hb2] at hq2
            have HD : Hid (d2 = D) := Lib.hid (by rw [← he2]; exact (HST.out hb2).symm)
            clear hb2 HST HGO HSW ha2 ht2 he2 hs2 hkid hk hch hc1
            have v0 : ((F : Int) + (r : Int)).toNat = F + r := by omega
            have u0 : 0 ≤ (F : Int) + (r : Int) := by omega
            have v1 : ((F : Int) + (2 * (r : Int) + 1)).toNat = F + (2 * r + 1) := by omega
            have u1 : 0 ≤ (F : Int) + (2 * (r : Int) + 1) := by omega
            have v2 : (2 * (r : Int) + 1 + 1).toNat = 2 * r + 1 + 1 := by omega
            have u2 : 0 ≤ 2 * (r : Int) + 1 + 1 := by omega
            have v3 : ((F : Int) + (2 * (r : Int) + 1) + 1).toNat = F + (2 * r + 1) + 1 := by omega
            have u3 : 0 ≤ (F : Int) + (2 * (r : Int) + 1) + 1 := by omega
            have w0 : IntKind.i64.wrap ((F : Int) + (r : Int)) = (F : Int) + (r : Int) := IntWalk.i64_in _ (by omega)
            have w1 : IntKind.i64.wrap ((F : Int) + (2 * (r : Int) + 1)) = (F : Int) + (2 * (r : Int) + 1) := IntWalk.i64_in _ (by omega)
            have w2 : IntKind.i64.wrap (2 * (r : Int) + 1 + 1) = 2 * (r : Int) + 1 + 1 := IntWalk.i64_in _ (by omega)
            have w3 : IntKind.i64.wrap ((F : Int) + (2 * (r : Int) + 1) + 1) = (F : Int) + (2 * (r : Int) + 1) + 1 := IntWalk.i64_in _ (by omega)
            go_wp2_with (fail)
            go_quiet (((go_at_call 59; exact Calls.quiet_of_same (hq1 _))))
            go_wp2_with (fail)
            go_quiet ((go_at_call 59; exact q_again hq2))
            go_wp2_with (fail)
            (try simp only [Exit.inBlock, Exit.then])
            refine bodyPost_ret (results_none rfl _ _ _) rfl ?_
            exact ⟨rfl, HD.out ▸ (HA2.out.drewN _).drewN _, (HT2.out.drewN _).drewN _⟩
          | true =>
            rw [hb2] at hq2
            have HG := Lib.hid ((HGO.out hb2).symm.trans he2)
            have HRK := Lib.hid hrk
            have HKH := Lib.hid hkh
            clear hb2 HST HGO ha2 ht2 he2 hs2 hkid hk hch hc1 hrk hkh
            have v0 : ((F : Int) + (r : Int)).toNat = F + r := by omega
            have u0 : 0 ≤ (F : Int) + (r : Int) := by omega
            have v1 : ((F : Int) + (2 * (r : Int) + 1)).toNat = F + (2 * r + 1) := by omega
            have u1 : 0 ≤ (F : Int) + (2 * (r : Int) + 1) := by omega
            have v2 : (2 * (r : Int) + 1 + 1).toNat = 2 * r + 1 + 1 := by omega
            have u2 : 0 ≤ 2 * (r : Int) + 1 + 1 := by omega
            have v3 : ((F : Int) + (2 * (r : Int) + 1) + 1).toNat = F + (2 * r + 1) + 1 := by omega
            have u3 : 0 ≤ (F : Int) + (2 * (r : Int) + 1) + 1 := by omega
            have w0 : IntKind.i64.wrap ((F : Int) + (r : Int)) = (F : Int) + (r : Int) := IntWalk.i64_in _ (by omega)
            have w1 : IntKind.i64.wrap ((F : Int) + (2 * (r : Int) + 1)) = (F : Int) + (2 * (r : Int) + 1) := IntWalk.i64_in _ (by omega)
            have w2 : IntKind.i64.wrap (2 * (r : Int) + 1 + 1) = 2 * (r : Int) + 1 + 1 := IntWalk.i64_in _ (by omega)
            have w3 : IntKind.i64.wrap ((F : Int) + (2 * (r : Int) + 1) + 1) = (F : Int) + (2 * (r : Int) + 1) + 1 := IntWalk.i64_in _ (by omega)
            go_wp2_with (fail)
            go_quiet (((go_at_call 59; exact Calls.quiet_of_same (hq1 _))))
            go_wp2_with (fail)
            go_quiet ((go_at_call 59; exact q_again hq2))
            go_wp2_with (fail)
            go_big_region
            all_goals go_wp2
            all_goals go_roundw
            all_goals clear v0 u0 v1 u1 v2 u2 v3 u3 w0 w1 w2 w3
            case rel => exact ⟨2 * r + 1, by have := HKH.out; omega, by go_num, Lib.hid ⟨_, HSW.out _, by rw [swp_size]; exact HS2.out, ((HT2.out.drewN _).set _ _).set _ _, HG.out⟩⟩
            case measure => have := HRK.out; have := HKH.out; simp [intOf]; omega
      · have hkid : kid hi F r d2 = 2 * r + 1 := by unfold kid; rw [if_neg (by simp [hc1])]
        have q3 : decide (2 * r + 1 + 1 < hi) = false := by simpa using hc1
        have q4 : decide (2 * (r : Int) + 1 + 1 < (hi : Int)) = false := by simp; omega
        rw [hkid] at ck zk HSW HGO HST hq2
        have b7 : (F : Int) + (2 * (r : Int) + 1) < (n : Int) := by omega
        have b8 : F + (2 * r + 1) < n := by omega
        have hrk : r < 2 * r + 1 := by omega
        have hkh : 2 * r + 1 < hi := by omega
        generalize d2[F + r]! = x at *
        generalize d2[F + (2 * r + 1)]! = y at *

        cases hb2 : ltN x y with
        | false =>
          rw [hb2] at hq2
          have HD : Hid (d2 = D) := Lib.hid (by rw [← he2]; exact (HST.out hb2).symm)
          clear hb2 HST HGO HSW ha2 ht2 he2 hs2 hkid hk hch hc1
          have v0 : ((F : Int) + (r : Int)).toNat = F + r := by omega
          have u0 : 0 ≤ (F : Int) + (r : Int) := by omega
          have v1 : ((F : Int) + (2 * (r : Int) + 1)).toNat = F + (2 * r + 1) := by omega
          have u1 : 0 ≤ (F : Int) + (2 * (r : Int) + 1) := by omega
          have v2 : (2 * (r : Int) + 1 + 1).toNat = 2 * r + 1 + 1 := by omega
          have u2 : 0 ≤ 2 * (r : Int) + 1 + 1 := by omega
          have w0 : IntKind.i64.wrap ((F : Int) + (r : Int)) = (F : Int) + (r : Int) := IntWalk.i64_in _ (by omega)
          have w1 : IntKind.i64.wrap ((F : Int) + (2 * (r : Int) + 1)) = (F : Int) + (2 * (r : Int) + 1) := IntWalk.i64_in _ (by omega)
          have w2 : IntKind.i64.wrap (2 * (r : Int) + 1 + 1) = 2 * (r : Int) + 1 + 1 := IntWalk.i64_in _ (by omega)
          go_wp2_with (fail)
          go_quiet (fail)
          go_wp2_with (fail)
          go_quiet ((go_at_call 59; exact q_again hq2))
          go_wp2_with (fail)
          (try simp only [Exit.inBlock, Exit.then])
          refine bodyPost_ret (results_none rfl _ _ _) rfl ?_
          exact ⟨rfl, HD.out ▸ (HA2.out.drewN _).drewN _, (HT2.out.drewN _).drewN _⟩
        | true =>
          rw [hb2] at hq2
          have HG := Lib.hid ((HGO.out hb2).symm.trans he2)
          have HRK := Lib.hid hrk
          have HKH := Lib.hid hkh
          clear hb2 HST HGO ha2 ht2 he2 hs2 hkid hk hch hc1 hrk hkh
          have v0 : ((F : Int) + (r : Int)).toNat = F + r := by omega
          have u0 : 0 ≤ (F : Int) + (r : Int) := by omega
          have v1 : ((F : Int) + (2 * (r : Int) + 1)).toNat = F + (2 * r + 1) := by omega
          have u1 : 0 ≤ (F : Int) + (2 * (r : Int) + 1) := by omega
          have v2 : (2 * (r : Int) + 1 + 1).toNat = 2 * r + 1 + 1 := by omega
          have u2 : 0 ≤ 2 * (r : Int) + 1 + 1 := by omega
          have w0 : IntKind.i64.wrap ((F : Int) + (r : Int)) = (F : Int) + (r : Int) := IntWalk.i64_in _ (by omega)
          have w1 : IntKind.i64.wrap ((F : Int) + (2 * (r : Int) + 1)) = (F : Int) + (2 * (r : Int) + 1) := IntWalk.i64_in _ (by omega)
          have w2 : IntKind.i64.wrap (2 * (r : Int) + 1 + 1) = 2 * (r : Int) + 1 + 1 := IntWalk.i64_in _ (by omega)
          go_wp2_with (fail)
          go_quiet (fail)
          go_wp2_with (fail)
          go_quiet ((go_at_call 59; exact q_again hq2))
          go_wp2_with (fail)
          go_big_region
          all_goals go_wp2
          all_goals go_roundw
          all_goals clear v0 u0 v1 u1 v2 u2 w0 w1 w2
          case rel => exact ⟨2 * r + 1, by have := HKH.out; omega, by go_num, Lib.hid ⟨_, HSW.out _, by rw [swp_size]; exact HS2.out, ((HT2.out.drewN _).set _ _).set _ _, HG.out⟩⟩
          case measure => have := HRK.out; have := HKH.out; simp [intOf]; omega
    · have HE : Hid (d2 = D) := Lib.hid (by rw [← he2, sift_end hch])
      have q1 : decide (hi ≤ 2 * r + 1) = true := by simp; omega
      have q2 : decide ((hi : Int) ≤ 2 * (r : Int) + 1) = true := by simp; omega
      have HA2 := Lib.hid ha2
      have HT2 := Lib.hid ht2
      clear ha2 ht2 he2 hs2 hch
      go_wp2_with (fail)
      go_end0
      exact ⟨rfl, HE.out ▸ HA2.out, HT2.out⟩
end Go.Proofs.YtjhakplaffgkpaaDoor.Qu
