/- Contracts of package octet. -/
import Derived.Test.YtlpckhjmbfeegaaWords
namespace Go.Proofs.Ytlpckhjmbfeegaa
open Go.RowKit

theorem isWidth_yes (n : Int) (w : World) (h1 : 1 ≤ n) (h2 : n ≤ 8) :
    Calls Try.prog 61 #[.int .i64 n] w fun e w' => e = .returned (.bool true) ∧ w = w' := by
  go_enter Try.func61, Try.ntmps61
  go_wp2
  go_ret
  exact ⟨rfl, rfl⟩
theorem isWidth_no (n : Int) (w : World) (h : n < 1 ∨ 8 < n) :
    Calls Try.prog 61 #[.int .i64 n] w fun e w' => e = .returned (.bool false) ∧ w = w' := by
  rcases h with h | h
  · go_enter Try.func61, Try.ntmps61
    go_wp2
    go_ret
    exact ⟨rfl, rfl⟩
  · have h1 : 1 ≤ n := by omega
    have h2 : decide (n ≤ 8) = false := by simp; omega
    go_enter Try.func61, Try.ntmps61
    go_wp2
    go_ret
    exact ⟨rfl, rfl⟩

theorem E_u8 : Elem Try.prog 88 5 (.int .u8 0) 1 1 := Elem.mk_ Try.underlying88 (by kernel_rfl) rfl (by decide)

theorem grown_any (A : Option Addr) (n c : Nat) (l : List UInt8) (r : Int) (w : World) (h : Rd w w.heap.size 1 A n c (u8s l)) (h0 : 0 ≤ r) (hr : n + r ≤ 1000000) :
    Calls Try.prog 64 #[.slice A n c, .int .i64 r] w fun e w' => ∃ v, e = .returned v ∧ w'.ownsRow w.heap.size 5 1 v n (u8s l) ∧ Below w.heap.size w w' := by
  go_enter Try.func64, Try.ntmps64
  go_wp2_with (first
    | (at_make; refine wpL_make0 rfl _ _ _ rfl (base := w.heap.size) E_u8 (n + r.toNat) rfl rfl (by omega) (by omega) (by unfold maxLen; omega) (Nat.le_refl _) ?_; intro w1 hown1 hg1
       have hb1 : Below w.heap.size w w1 := (Below.refl _ _).grown hg1 (Nat.le_refl _) (fun k hk => by cases hk))
    | (at_builtin; refine wpL_app rfl _ _ _ _ rfl E_u8 rfl rfl hown1 ((h.below hb1).src Try.underlying88 (u8s_one l)) (by unfold maxLen; omega) (by omega) hb1.size ?_; intro v2 w2 hown2 hg2 hat2))
  go_ret
  refine ⟨_, rfl, by simpa using hown2, hb1.grown hg2 hb1.size ?_⟩
  intro k hk
  cases hk
  exact Nat.le_refl _

theorem number_any (v : Value) (n : Nat) (xs : List Value) (k x base : Nat) (w : World) (h : w.ownsRow base 5 1 v n xs) (hb : base ≤ w.heap.size) (hk : k ≤ 8) (hn : n ≤ 2000000) :
    Calls Try.prog 65 #[v, .int .i64 k, .int .u64 x] w fun e w' => ∃ v', e = .returned v' ∧ w'.ownsRow base 5 1 v' (n + k) (xs ++ u8s (le k x)) ∧ Ext w v w' v' := by
  go_enter Try.func65, Try.ntmps65
  go_wp2
  go_loopw [0, 2, 8] (fun vr xr ir wr => ∃ i : Nat, i ≤ k ∧ ir = .int .i64 i ∧ xr = .int .u64 ((x : Int) / 256 ^ i) ∧ wr.ownsRow base 5 1 vr (n + i) (xs ++ u8s (le i x)) ∧ Ext w v wr vr) (fun _ _ ir _ => k - (intOf ir).toNat)
  case atStart => exact ⟨0, Nat.zero_le _, rfl, by simp, by simpa [le, u8s] using h, Ext.refl _ _⟩
  case round =>
    obtain ⟨i, hi, rfl, rfl, hown, hext⟩ := hrel
    have hz := hext.1.size
    by_cases hlt : i < k
    · go_wp2_with (at_builtin; refine wpL_app rfl _ _ _ _ rfl E_u8 rfl rfl (hown.alloc _) (Src.lit Try.underlying88 _ rfl (by intro u hu; simp at hu; subst hu; rfl)) (by unfold maxLen; omega) (by omega) (by simp; omega) ?_; intro v2 w2 hown2 hg2 hat2)
      go_roundw
      case rel =>
        refine ⟨i + 1, by omega, by go_num, ?_, ?_, (hext.alloc _).trans (Ext.app hg2 hat2)⟩
        · rw [Int.pow_succ, Int.ediv_ediv_of_nonneg (Int.pow_nonneg (by decide))]
        · rw [← le_snoc', ← List.append_assoc]
          exact hown2
      case measure => simp [intOf]; omega
    · obtain rfl : i = k := by omega
      go_wp2
      go_ret
      exact ⟨_, rfl, hown, hext⟩


theorem put_bad (A A2 : Option Addr) (n c n2 c2 : Nat) (l : List UInt8) (W : Int) (w : World) (h : Rd w w.heap.size 1 A n c (u8s l)) (hn : n ≤ 1000000) (hW : W < 1 ∨ 8 < W) :
    Calls Try.prog 55 #[.slice A n c, .int .i64 W, .slice A2 n2 c2] w fun e w' => ∃ v, e = .returned v ∧ w'.ownsRow w.heap.size 5 1 v n (u8s l) ∧ Below w.heap.size w w' := by
  go_enter Try.func55, Try.ntmps55
  go_wp2_with (first
    | (go_at_call 61; refine (isWidth_no _ _ hW).mono ?_; rintro e w' ⟨rfl, rfl⟩)
    | (go_at_call 64; refine (grown_any _ _ _ l _ _ h (by omega) (by omega)).mono ?_; rintro e w' ⟨v, rfl, hown, hb⟩))
  go_ret
  exact ⟨_, rfl, hown, hb⟩

theorem put_good (A A2 : Option Addr) (n c n2 c2 : Nat) (l : List UInt8) (ns : List Nat) (W : Nat) (w : World) (h : Rd w w.heap.size 1 A n c (u8s l)) (h2 : Rd w w.heap.size 1 A2 n2 c2 (u64s ns)) (hn : n + n2 * 8 ≤ 1000000) (h1W : 1 ≤ W) (hW : W ≤ 8) :
    Calls Try.prog 55 #[.slice A n c, .int .i64 (W : Int), .slice A2 n2 c2] w fun e w' => ∃ v, e = .returned v ∧ w'.ownsRow w.heap.size 5 1 v (n + n2 * W) (u8s (l ++ puts W ns)) ∧ Below w.heap.size w w' := by
  have hm : n2 * W ≤ n2 * 8 := Nat.mul_le_mul_left _ hW
  have hmi : (n : Int) + (W : Int) * (n2 : Int) ≤ 1000000 := by
    have : ((n + n2 * W : Nat) : Int) ≤ 1000000 := by omega
    rw [Int.mul_comm]; simpa using this
  have hmj : 0 ≤ (W : Int) * (n2 : Int) := Int.mul_nonneg (by omega) (by omega)
  go_enter Try.func55, Try.ntmps55
  go_wp2_with (first
    | (go_at_call 61; refine (isWidth_yes _ _ (by omega) (by omega)).mono ?_; rintro e w' ⟨rfl, rfl⟩)
    | (go_at_call 64; refine (grown_any _ _ _ l _ _ h (by omega) (by omega)).mono ?_; rintro e w' ⟨v, rfl, hown, hb⟩))
  clear hmi hmj
  go_loopw [7, 23] (fun vr ir wr => ∃ i : Nat, i ≤ n2 ∧ ir = .int .i64 i ∧ wr.ownsRow w.heap.size 5 1 vr (n + i * W) (u8s (l ++ puts W (ns.take i))) ∧ Below w.heap.size w wr) (fun _ ir _ => n2 - (intOf ir).toNat)
  case atStart => exact ⟨0, Nat.zero_le _, rfl, by simpa [puts] using hown, hb⟩
  case round =>
    obtain ⟨i, hi, rfl, hown, hb⟩ := hrel
    have hz := hb.size
    by_cases hlt : i < n2
    · obtain ⟨b, o, u, rfl, hbl, hu, hc⟩ := (h2.below hb).at_ hlt
      obtain ⟨x, hx, rfl⟩ := u64s_get _ _ _ hu
      have him : i * W ≤ n2 * W := Nat.mul_le_mul_right _ hi
      go_wp2_with (go_at_call 65; refine (number_any _ _ _ _ _ _ _ hown hz hW (by omega)).mono ?_; rintro e w' ⟨v1, rfl, hown1, hext1⟩)
      go_roundw
      case rel =>
        refine ⟨i + 1, by omega, by go_num, ?_, hb.trans (hext1.below hown hz (Nat.le_refl _))⟩
        rw [puts_take _ _ _ _ hx, ← List.append_assoc, u8s_app, Nat.add_mul, Nat.one_mul, ← Nat.add_assoc]
        exact hown1
      case measure => simp [intOf]; omega
    · obtain rfl : i = n2 := by omega
      go_wp2
      go_ret
      refine ⟨_, rfl, ?_, hb⟩
      rw [List.take_of_length_le (by have := h2.len; simp [u64s] at this; omega)] at hown
      exact hown

end Go.Proofs.Ytlpckhjmbfeegaa
