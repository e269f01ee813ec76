/- slices.reverseRangeOrdered. -/
import Derived.Test.YtpdgcphflheeiaaQi
namespace Go.Proofs.Ytpdgcphflheeiaa
open Go.RowKit
open Go.Sort (reverseLoop reverseRange swp)

theorem rev_go {i j : Nat} {d : Array Nat} (h : i < j) : reverseLoop i j d = reverseLoop (i + 1) (j - 1) (swp d i j) := by
  rw [reverseLoop, if_pos h]
theorem rev_end {i j : Nat} {d : Array Nat} (h : ¬ i < j) : reverseLoop i j d = d := by
  rw [reverseLoop, if_neg h]
def RevL (w : World) (g n : Nat) (D : Array Nat) (i j : Nat) (wr : World) : Prop := ∃ d, Arr wr g d ∧ d.size = n ∧ Trn w g wr ∧ reverseLoop i j d = D
set_option maxHeartbeats 2000000 in
theorem rev_any {w : World} {g n c : Nat} {d : Array Nat} (a b : Nat) (h : Arr w g d) (hd : d.size = n) (hab : a < b) (hb : b ≤ n) (hn : n ≤ 1000000) :
    Calls Try.prog 38 #[.slice (some ⟨g, 0, none⟩) n c, .int .i64 (a : Int), .int .i64 (b : Int)] w fun e w' => e = .returned (.tuple #[]) ∧ Arr w' g (reverseRange d a b) ∧ Trn w g w' := by
  have H0 := Lib.hid (show RevL w g n (reverseRange d a b) a (b - 1) w from ⟨d, h, hd, Trn.refl w g, rfl⟩)
  generalize reverseRange d a b = D at *
  obtain ⟨m, rfl⟩ : ∃ m, b = m + 1 := ⟨b - 1, by omega⟩
  rw [Nat.add_sub_cancel] at H0
  have HAM : a ≤ m := by omega
  clear h hd
  go_enter Try.func38, Try.ntmps38
  go_wp2_with (fail)
  go_loopw [6, 7] (fun ir jr wr => ∃ i j : Nat, i ≤ 1000000 ∧ j < n ∧ ir = .int .i64 (i : Int) ∧ jr = .int .i64 (j : Int) ∧ Hid (RevL w g n D i j wr)) (fun ir jr _ => ((intOf jr) - (intOf ir)).toNat)
  case atStart => exact ⟨a, m, by omega, by omega, rfl, by go_num, H0⟩
  case round =>
    clear H0
    obtain ⟨i, j, hi, hj, rfl, rfl, HI⟩ := hrel
    obtain ⟨d2, ha2, hs2, ht2, he2⟩ := HI.out
    clear HI
    by_cases hij : i < j
    · obtain ⟨k, rfl⟩ : ∃ k, j = k + 1 := ⟨j - 1, by omega⟩
      have c0 := ha2.cell i (by omega)
      have c1 := ha2.cell (k + 1) (by omega)
      have z0 := ha2.free i (by omega)
      have z1 := ha2.free (k + 1) (by omega)
      have hG := (rev_go (d := d2) hij).symm.trans he2
      rw [Nat.add_sub_cancel] at hG
      have HG := Lib.hid hG
      have HSW := Lib.hid (fun m => (ha2.drewN m).swp (i := i) (j := k + 1) (by omega) (by omega))
      have HT2 := Lib.hid ht2
      have HS2 := Lib.hid hs2
      have q1 : decide ((i : Int) < (k : Int) + 1) = true := by simp; omega
      have q2 : decide (i < k + 1) = true := by simpa using hij
      have n1 : ¬ i = k + 1 := by omega
      have n2 : ¬ k + 1 = i := by omega
      have b1 : i < n := by omega
      have b2 : (i : Int) < (n : Int) := by omega
      have b3 : (k : Int) + 1 < (n : Int) := by omega
      have HIJ := Lib.hid hij
      have HJ := Lib.hid hj
      clear ha2 hs2 ht2 he2 hG hij
      generalize d2[i]! = x at *
      generalize d2[k + 1]! = y at *
      go_wp2_with (fail)
      go_big_region
      all_goals go_wp2
      all_goals go_roundw
      case rel => exact ⟨i + 1, k, by have := HJ.out; have := HIJ.out; omega, by have := HJ.out; omega, by go_num, rfl, Lib.hid ⟨_, HSW.out _, by rw [swp_size]; exact HS2.out, ((HT2.out.drewN _).set _ _).set _ _, HG.out⟩⟩
      case measure => have := HIJ.out; simp [intOf]; omega
    · have HE : Hid (d2 = D) := Lib.hid (by rw [← he2, rev_end hij])
      have q1 : decide ((i : Int) < (j : Int)) = false := by simp; omega
      have q2 : decide (i < j) = false := by simpa using hij
      have HA2 := Lib.hid ha2
      have HT2 := Lib.hid ht2
      clear ha2 hs2 ht2 he2 hij
      go_wp2_with (fail)
      go_end0
      exact ⟨rfl, HE.out ▸ HA2.out, HT2.out⟩
end Go.Proofs.Ytpdgcphflheeiaa
