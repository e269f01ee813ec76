/- Numbers that are drawn. -/
import Derived.Test.YtfiejdikgbeodaaDraw
namespace Go.Proofs.Ytfiejdikgbeodaa
open Go.RowKit

def wd (m : Nat) : Nat := if h : m < 256 then 1 else 1 + wd (m / 256)
termination_by m
decreasing_by omega
theorem wd_lo {m : Nat} (h : m < 256) : wd m = 1 := by rw [wd]; simp [h]
theorem wd_hi {m : Nat} (h : 256 ≤ m) : wd m = 1 + wd (m / 256) := by rw [wd]; simp [show ¬ m < 256 from by omega]
theorem wd_pos (m : Nat) : 1 ≤ wd m := by
  by_cases h : m < 256
  · rw [wd_lo h]; exact Nat.le_refl _
  · rw [wd_hi (by omega)]; omega
theorem wd_le (k m : Nat) (h : m < 256 ^ (k + 1)) : wd m ≤ k + 1 := by
  induction k generalizing m with
  | zero => rw [wd_lo (by simpa using h)]; exact Nat.le_refl _
  | succ k ih =>
    by_cases hm : m < 256
    · rw [wd_lo hm]; omega
    · rw [wd_hi (by omega)]
      have := ih (m / 256) (by rw [Nat.pow_succ] at h; omega)
      omega
theorem wd_len (m : Nat) (hm : 1 ≤ m) (h64 : m < 18446744073709551616) : (Lib.bitLen m + 7) / 8 = wd m := by
  induction m using Nat.strongRecOn with
  | ind m ih =>
    by_cases h : m < 256
    · rw [wd_lo h]
      have h8 := Lib.bitLen_le8' (m : Int) (by omega) (by omega)
      rw [Int.toNat_natCast] at h8
      have h1 := Lib.bitLen_half m (by omega) (by omega)
      omega
    · rw [wd_hi (by omega), ← ih (m / 256) (by omega) (by omega) (by omega)]
      have := Lib.bitLen_shift8 m (by omega) (by omega)
      omega
/-- What k bytes more make of x. -/
def taken : Nat → Nat → List UInt8 → Nat
  | 0, x, _ => x
  | k + 1, x, l => taken k (256 * x + hd l) l.tail
def numOf (n : Int) (l : List UInt8) : Nat := if n < 2 then 0 else taken (wd (n.toNat - 1)) 0 l % n.toNat
def numUsed (n : Int) : Nat := if n < 2 then 0 else wd (n.toNat - 1)
theorem numOf_lt (n : Int) (l : List UInt8) (h : 1 ≤ n) : (numOf n l : Int) < n := by
  unfold numOf
  split
  · omega
  · have := Nat.mod_lt (taken (wd (n.toNat - 1)) 0 l) (show 0 < n.toNat by omega)
    omega
theorem pow_mono256 {i k : Nat} (h : i ≤ k) : 256 ^ i ≤ 256 ^ k := Nat.pow_le_pow_right (by decide) h
theorem tail_drop (l : List UInt8) (i : Nat) : (l.drop i).tail = l.drop (i + 1) := by rw [List.tail_drop]
theorem or_byte (x b : Nat) (hx : x < 72057594037927936) (hb : b < 256) : bits .or .u64 ((x : Int) * 256) (b : Int) = ((256 * x + b : Nat) : Int) := by
  have h1 : ((x : Int) * 256) = ((x * 256 : Nat) : Int) := by omega
  rw [h1, bits_or_u64_nat _ _ (by omega) (by omega)]
  congr 1
  have := Nat.two_pow_add_eq_or_of_lt (i := 8) (show b < 2 ^ 8 by omega) x
  rw [show x * 256 = 2 ^ 8 * x from by omega, ← this]

theorem or_byte' (x b : Nat) (hx : x < 72057594037927936) (hb : b < 256) : bits .or .u64 (IntKind.u64.wrap ((x : Int) * 256)) (b : Int) = ((256 * x + b : Nat) : Int) := by
  rw [u64w _ (by omega) (by omega)]
  exact or_byte x b hx hb
theorem len_of (x : Nat) (w : World) (hx : x < 18446744073709551616) :
    Calls Try.prog 55 #[.int .u64 (x : Int)] w fun e w' => e = .returned (.int .i64 ((Lib.bitLen x : Nat) : Int)) ∧ w = w' := by
  go_enter Try.func55, Try.ntmps55
  go_wp2_with (go_at_call 78; refine (len_any x _ hx).mono ?_; rintro e w1 ⟨rfl, rfl⟩)
  go_ret
  exact ⟨rfl, rfl⟩

set_option maxRecDepth 8000 in
theorem num_of {B : Nat} {w : World} {p : Option Addr} {l : List UInt8} (n : Int) (hn : (Lit.int .i64 n).wf = true) (h : Sr B 61 w p l) :
    Calls Try.prog 25 #[.pointer p, .int .i64 n] w fun e w' => e = .returned (.int .i64 ((numOf n l : Nat) : Int)) ∧ Sr B 61 w' p (l.drop (numUsed n)) ∧ w.grownBy w' (gof p) := by
  simp [Lit.wf, IntKind.min, IntKind.max, IntKind.signed, IntKind.bits] at hn
  by_cases h2 : n < 2
  · have e1 : numOf n l = 0 := by unfold numOf; rw [if_pos h2]
    have e2 : l.drop (numUsed n) = l := by unfold numUsed; rw [if_pos h2]; rfl
    rw [e1, e2]
    go_enter Try.func25, Try.ntmps25
    go_wp2
    go_ret
    exact ⟨rfl, h, World.grownBy.refl _ _⟩
  · obtain ⟨m, rfl⟩ : ∃ m : Nat, n = ((m + 1 : Nat) : Int) := ⟨(n - 1).toNat, by omega⟩
    have hm1 : 1 ≤ m := by omega
    obtain ⟨k, hk⟩ : ∃ k, k = wd m := ⟨_, rfl⟩
    have hk8 : k ≤ 8 := by rw [hk]; exact wd_le 7 m (by omega)
    have e1 : numOf ((m + 1 : Nat) : Int) l = taken k 0 l % (m + 1) := by unfold numOf; rw [if_neg h2, hk]; rfl
    have e2 : numUsed ((m + 1 : Nat) : Int) = k := by unfold numUsed; rw [if_neg h2, hk]; rfl
    have e3 : (Lib.bitLen m + 7) / 8 = k := by rw [hk]; exact wd_len m hm1 (by omega)
    have e4 : ((Lib.bitLen m : Nat) : Int) ≤ 64 := by have := Lib.bitLen_le m 64 (by omega) (by omega); omega
    rw [e1, e2]
    have hs : Int.ofNat 0 = 0 := rfl
    go_enter Try.func25, Try.ntmps25
    go_wp2_with (go_at_call 55; refine (len_of m _ (by omega)).mono ?_; rintro e w1 ⟨rfl, rfl⟩)
    have e5 : (((Lib.bitLen m : Nat) : Int) + 7) / 8 = (k : Int) := by omega
    rw [e5]
    have HK := Lib.hid hk
    clear e5 e4 e3 e1 e2 hs hk
    go_loopw [5, 14] (fun xr ir wr => ∃ i x : Nat, i ≤ k ∧ ir = .int .i64 (i : Int) ∧ xr = .int .u64 (x : Int) ∧ Hid (x < 256 ^ i) ∧ Hid (taken (k - i) x (l.drop i) = taken k 0 l) ∧ Sr B 61 wr p (l.drop i) ∧ w.grownBy wr (gof p)) (fun _ ir _ => k - (intOf ir).toNat)
    case atStart => exact ⟨0, 0, Nat.zero_le _, rfl, rfl, Lib.hid (by decide), Lib.hid rfl, h, World.grownBy.refl _ _⟩
    case round =>
      obtain ⟨i, x, hi, rfl, rfl, hx, ht, hS, hg⟩ := hrel
      have hx' : x < 18446744073709551616 := Nat.lt_of_lt_of_le hx.out (pow_mono256 (k := 8) (by omega))
      by_cases hlt : i < k
      · have hx7 : x < 72057594037927936 := Nat.lt_of_lt_of_le hx.out (pow_mono256 (k := 7) (by omega))
        have hb := hd_lt (l.drop i)
        have ho := Lib.hid (or_byte' x (hd (l.drop i)) hx7 hb)
        have hT : Hid (taken (k - (i + 1)) (256 * x + hd (l.drop i)) (l.drop (i + 1)) = taken k 0 l) := Lib.hid (by
          rw [← ht.out, show k - i = k - (i + 1) + 1 from by omega, taken, tail_drop])
        have hX : Hid (256 * x + hd (l.drop i) < 256 ^ (i + 1)) := Lib.hid (by have := hx.out; rw [Nat.pow_succ]; omega)
        have hB : ((hd (l.drop i) : Nat) : Int) < 256 := by omega
        have hB0 : (0 : Int) ≤ ((hd (l.drop i) : Nat) : Int) := by omega
        have HXI := Lib.hid hx7
        clear hx7 hb hx' hn hm1
        obtain ⟨y, hy⟩ : ∃ y : Nat, y = hd (l.drop i) := ⟨_, rfl⟩
        have HY := Lib.hid hy
        have hBy := byte_of hS
        rw [← hy] at hBy ho hT hX hB hB0
        clear hy
        go_wp2_with (go_at_call 23; refine hBy.mono ?_; rintro e w1 ⟨rfl, hS1, hg1⟩)
        go_roundw
        case rel =>
          refine ⟨i + 1, 256 * x + y, by omega, by go_num, ?_, hX, hT, by rw [tail_drop] at hS1; exact hS1, hg.trans hg1⟩
          rw [← ho.out]
        case measure => simp [intOf]; omega
      · obtain rfl : i = k := by omega
        have e6 : taken (i - i) x (l.drop i) = x := by rw [Nat.sub_self]; rfl
        have e7 := ht.out
        rw [e6] at e7
        have e8 : ((taken i 0 l % (m + 1) : Nat) : Int) = (x : Int) % ((m : Int) + 1) := by rw [← e7]; simp
        have hxu : (x : Int) < 18446744073709551616 := by omega
        have hr0 : 0 ≤ (x : Int) % ((m : Int) + 1) := Int.emod_nonneg _ (by omega)
        have hr1 : (x : Int) % ((m : Int) + 1) < (m : Int) + 1 := Int.emod_lt_of_pos _ (by omega)
        have HW : Hid (wrap64 ((x : Int) % ((m : Int) + 1)) = (x : Int) % ((m : Int) + 1)) := Lib.hid (by
          generalize (x : Int) % ((m : Int) + 1) = z at hr0 hr1
          unfold wrap64
          omega)
        have H8 := Lib.hid e8
        clear e6 e7 e8 hr0 hr1
        go_wp2
        go_ret
        exact ⟨congrArg (fun z => Ending.returned (Value.int .i64 z)) (HW.out.trans H8.out.symm), hS, hg⟩

end Go.Proofs.Ytfiejdikgbeodaa
