/- Numbers that the document's own Source draws. -/
import Derived.Test.YtfiejdikgbeodaaDnum
namespace Go.Proofs.Ytfiejdikgbeodaa
open Go.RowKit

theorem rwidth_of (m : Nat) (w : World) (hm : m < 18446744073709551616) :
    Calls Try.prog 56 #[.int .u64 (m : Int)] w fun e w' => e = .returned (.int .i64 ((wd m : Nat) : Int)) ∧ w = w' := by
  induction m using Nat.strongRecOn with
  | ind m ih =>
    by_cases h : m < 256
    · rw [wd_lo h]
      have h1 : (m : Int) < 256 := by omega
      go_enter Try.func56, Try.ntmps56
      go_wp2
      go_ret
      exact ⟨rfl, rfl⟩
    · have hI := ih (m / 256) (by omega) (by omega)
      have hd : decide ((m : Int) < 256) = false := by simp; omega
      obtain ⟨d, hdd⟩ : ∃ d, d = wd (m / 256) := ⟨_, rfl⟩
      have e : wd m = d + 1 := by rw [wd_hi (by omega), hdd]; omega
      have hd8 : d ≤ 7 := by rw [hdd]; exact wd_le 6 _ (by omega)
      rw [← hdd, show ((m / 256 : Nat) : Int) = (m : Int) / 256 from by omega] at hI
      rw [e]
      clear e hdd ih
      go_enter Try.func56, Try.ntmps56
      go_wp2_with (go_at_call 56; refine hI.mono ?_; rintro e w1 ⟨rfl, rfl⟩)
      go_ret
      refine ⟨?_, rfl⟩
      refine congrArg (fun z => Ending.returned (Value.int .i64 z)) ?_
      omega

set_option maxRecDepth 8000 in
theorem rnum_of {B : Nat} {w : World} {g : Nat} {l : List UInt8} (n : Int) (hn : (Lit.int .i64 n).wf = true) (h : Sr B 48 w (some ⟨g, 0, none⟩) l) :
    Calls Try.prog 26 #[.pointer (some ⟨g, 0, none⟩), .int .i64 n] w fun e w' => e = .returned (.int .i64 ((numOf n l : Nat) : Int)) ∧ Sr B 48 w' (some ⟨g, 0, none⟩) (l.drop (numUsed n)) ∧ w.grownBy w' (some g) := by
  simp [Lit.wf, IntKind.min, IntKind.max, IntKind.signed, IntKind.bits] at hn
  by_cases h2 : n < 2
  · have e1 : numOf n l = 0 := by unfold numOf; rw [if_pos h2]
    have e2 : l.drop (numUsed n) = l := by unfold numUsed; rw [if_pos h2]; rfl
    rw [e1, e2]
    go_enter Try.func26, Try.ntmps26
    go_wp2
    go_ret
    exact ⟨rfl, h, World.grownBy.refl _ _⟩
  · obtain ⟨m, rfl⟩ : ∃ m : Nat, n = ((m + 1 : Nat) : Int) := ⟨(n - 1).toNat, by omega⟩
    have hm1 : 1 ≤ m := by omega
    obtain ⟨k, hk⟩ : ∃ k, k = wd m := ⟨_, rfl⟩
    have hk8 : k ≤ 8 := by rw [hk]; exact wd_le 7 m (by omega)
    have e1 : numOf ((m + 1 : Nat) : Int) l = taken k 0 l % (m + 1) := by unfold numOf; rw [if_neg h2, hk]; rfl
    have e2 : numUsed ((m + 1 : Nat) : Int) = k := by unfold numUsed; rw [if_neg h2, hk]; rfl
    have hW := rwidth_of m w (by omega)
    rw [← hk] at hW
    rw [e1, e2]
    clear hk e1 e2
    go_enter Try.func26, Try.ntmps26
    go_wp2_with (go_at_call 56; refine hW.mono ?_; rintro e w1 ⟨rfl, rfl⟩)
    go_loopw [5, 6] (fun xr ir wr => ∃ i x : Nat, i ≤ k ∧ ir = .int .i64 (i : Int) ∧ xr = .int .u64 (x : Int) ∧ Hid (x < 256 ^ (k - i)) ∧ Hid (taken i x (l.drop (k - i)) = taken k 0 l) ∧ Sr B 48 wr (some ⟨g, 0, none⟩) (l.drop (k - i)) ∧ w.grownBy wr (some g)) (fun _ ir _ => (intOf ir).toNat)
    case atStart => exact ⟨k, 0, Nat.le_refl _, rfl, rfl, Lib.hid (by rw [Nat.sub_self]; decide), Lib.hid (by rw [Nat.sub_self]; rfl), by rw [Nat.sub_self]; exact h, World.grownBy.refl _ _⟩
    case round =>
      obtain ⟨i, x, hi, rfl, rfl, hx, ht, hS, hg⟩ := hrel
      have hx' : x < 18446744073709551616 := Nat.lt_of_lt_of_le hx.out (pow_mono256 (k := 8) (by omega))
      cases i with
      | succ i =>
        have hx7 : x < 72057594037927936 := Nat.lt_of_lt_of_le hx.out (pow_mono256 (k := 7) (by omega))
        have hb := hd_lt (l.drop (k - (i + 1)))
        have hT : Hid (taken i (256 * x + hd (l.drop (k - (i + 1)))) (l.drop (k - i)) = taken k 0 l) := Lib.hid (by
          rw [← ht.out, taken, tail_drop, show k - (i + 1) + 1 = k - i from by omega])
        have hX : Hid (256 * x + hd (l.drop (k - (i + 1))) < 256 ^ (k - i)) := Lib.hid (by have := hx.out; rw [show k - i = k - (i + 1) + 1 from by omega, Nat.pow_succ]; omega)
        have hB : ((hd (l.drop (k - (i + 1))) : Nat) : Int) < 256 := by omega
        have ho : Hid (IntKind.u64.wrap (IntKind.u64.wrap (256 * (x : Int)) + ((hd (l.drop (k - (i + 1))) : Nat) : Int)) = ((256 * x + hd (l.drop (k - (i + 1))) : Nat) : Int)) := Lib.hid (by
          rw [u64w (256 * (x : Int)) (by omega) (by omega), u64w _ (by omega) (by omega)]; omega)
        have HXI := Lib.hid hx7
        clear hx7 hb hx' hn hm1
        obtain ⟨y, hy⟩ : ∃ y : Nat, y = hd (l.drop (k - (i + 1))) := ⟨_, rfl⟩
        have HY := Lib.hid hy
        have hBy := rbyte_of hS
        rw [← hy] at hBy ho hT hX hB
        have hB0 : (0 : Int) ≤ (y : Int) := by omega
        clear hy
        go_wp2_with (go_at_call 24; refine hBy.mono ?_; rintro e w1 ⟨rfl, hS1, hg1⟩)
        go_roundw
        case rel =>
          refine ⟨i, 256 * x + y, by omega, by go_num, ?_, hX, hT, by rw [tail_drop, show k - (i + 1) + 1 = k - i from by omega] at hS1; exact hS1, hg.trans hg1⟩
          rw [← ho.out]
        case measure => simp [intOf]
      | zero =>
        have e7 := ht.out
        rw [Nat.sub_zero] at hS
        have e8 : ((taken k 0 l % (m + 1) : Nat) : Int) = (x : Int) % ((m : Int) + 1) := by rw [← e7]; simp [taken]
        have hxu : (x : Int) < 18446744073709551616 := by omega
        have hr0 : 0 ≤ (x : Int) % ((m : Int) + 1) := Int.emod_nonneg _ (by omega)
        have hr1 : (x : Int) % ((m : Int) + 1) < (m : Int) + 1 := Int.emod_lt_of_pos _ (by omega)
        have HW : Hid (wrap64 ((x : Int) % ((m : Int) + 1)) = (x : Int) % ((m : Int) + 1)) := Lib.hid (by
          generalize (x : Int) % ((m : Int) + 1) = z at hr0 hr1
          unfold wrap64
          omega)
        have H8 := Lib.hid e8
        clear e7 e8 hr0 hr1
        go_wp2
        go_ret
        exact ⟨congrArg (fun z => Ending.returned (Value.int .i64 z)) (HW.out.trans H8.out.symm), hS, hg⟩

end Go.Proofs.Ytfiejdikgbeodaa
