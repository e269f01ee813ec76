/- Contracts of package quorum: Size, Has, With, Majority, Members; and of the reference's. -/
import Derived.Test.YtlpckhjmbfeegaaQm
import Derived.Test.YtlpckhjmbfeegaaRowkit
namespace Go.Proofs.Ytlpckhjmbfeegaa.Qu
open Go.RowKit
set_option maxRecDepth 20000

def is (l : List Int) : List Value := l.map (Value.int .i64)
theorem is_len (l : List Int) : (is l).length = l.length := by simp [is]
theorem is_app (l k : List Int) : is (l ++ k) = is l ++ is k := by simp [is]
theorem is_one (l : List Int) : ∀ u ∈ is l, u.oneCell' = true := by
  intro u hu
  obtain ⟨x, _, rfl⟩ := List.mem_map.1 hu
  rfl
theorem is_get {l : List Int} {i : Nat} (h : i < l.length) : (is l)[i]? = some (.int .i64 (l.getD i 0)) := by
  rw [List.getD]
  simp [is, h]
theorem is_take (l : List Int) (k : Nat) : is (l.take k) = (is l).take k := by simp [is, List.map_take]
theorem is_drop (l : List Int) (k : Nat) : is (l.drop k) = (is l).drop k := by simp [is, List.map_drop]
theorem shr_run (B y : Nat) (z : Int) (hB : B < 18446744073709551616) (hz : z = (y : Int)) : (B : Int) / 2 ^ min z.toNat 64 = ((B >>> y : Nat) : Int) := by
  subst hz
  rw [Int.toNat_natCast, Nat.shiftRight_eq_div_pow]
  by_cases hy : y ≤ 64
  · rw [Nat.min_eq_left hy]; simp
  · rw [Nat.min_eq_right (by omega), Nat.div_eq_of_lt (Nat.lt_of_lt_of_le hB (Nat.pow_le_pow_right (n := 2) (by decide) (show 64 ≤ y by omega)))]
    omega
theorem shr_op (B y : Nat) (z : Int) (hB : B < 18446744073709551616) (hz : z = (y : Int)) {yk : IntKind} : Op.shift .shr .u64 (B : Int) yk z = pure (.int .u64 ((B >>> y : Nat) : Int)) := by
  have e := shr_run B y z hB hz
  have h1 : ¬ (z < 0) := by omega
  have h2 : (0 : Int) ≤ 2 ^ min z.toNat 64 := Int.pow_nonneg (by decide)
  simp [Op.shift, IntKind.bits, h1, Int.fdiv_eq_ediv_of_nonneg _ h2, e]
theorem shl_op {yk : IntKind} (y : Nat) (z : Int) (hy : y < 64) (hz : z = (y : Int)) : Op.shift .shl .u64 1 yk z = pure (.int .u64 ((2 ^ y : Nat) : Int)) := by
  subst hz
  have := pow_lt64 hy
  rw [shift_shl .u64 yk _ _ (by omega) (by simp [IntKind.bits]; omega), Int.toNat_natCast, Int.one_mul, show (2 : Int) ^ y = ((2 ^ y : Nat) : Int) by simp]
  generalize 2 ^ y = p at *
  rw [u64w _ (by omega) (by omega)]
theorem shl_run (y : Nat) (z : Int) (hy : y < 64) (hz : z = (y : Int)) : IntKind.u64.wrap (1 * 2 ^ z.toNat) = ((2 ^ y : Nat) : Int) := by
  subst hz
  have := pow_lt64 hy
  rw [Int.toNat_natCast, Int.one_mul, show (2 : Int) ^ y = ((2 ^ y : Nat) : Int) by simp]
  generalize 2 ^ y = p at *
  exact u64w _ (by omega) (by omega)
theorem and_run (X : Nat) (hX : X < 18446744073709551616) : bits .and .u64 (X : Int) 1 = if X.testBit 0 then 1 else 0 := by
  have := bits_and_u64_nat X 1 hX (by decide)
  rw [show ((1 : Nat) : Int) = 1 from rfl] at this
  rw [this, Nat.and_one_is_mod, Nat.testBit_zero]
  rcases Nat.mod_two_eq_zero_or_one X with h | h <;> simp [h]
theorem or_run (a b : Nat) (ha : a < 18446744073709551616) (hb : b < 18446744073709551616) : bits .or .u64 (a : Int) (b : Int) = ((a ||| b : Nat) : Int) := by
  have hx : a ||| b < 2 ^ 64 := Nat.or_lt_two_pow ha hb
  have h1 : (BitVec.ofInt 64 (a : Int)).toNat = a := by
    rw [BitVec.ofInt_natCast, BitVec.toNat_ofNat]; exact Nat.mod_eq_of_lt (by omega)
  have h2 : (BitVec.ofInt 64 (b : Int)).toNat = b := by
    rw [BitVec.ofInt_natCast, BitVec.toNat_ofNat]; exact Nat.mod_eq_of_lt (by omega)
  show IntKind.u64.wrap ((BitVec.ofInt 64 (a : Int) ||| BitVec.ofInt 64 (b : Int)).toNat : Int) = _
  rw [BitVec.toNat_or, h1, h2, u64w _ (by omega) (by omega)]


theorem shr_lt64 {B : Nat} (y : Nat) (h : B < 18446744073709551616) : B >>> y < 18446744073709551616 := by
  rw [Nat.shiftRight_eq_div_pow]
  exact Nat.lt_of_le_of_lt (Nat.div_le_self _ _) h
theorem size_any (x : Nat) (w : World) (hx : x < 18446744073709551616) :
    Calls Try.prog 57 #[.int .u64 (x : Int)] w fun e w' => e = .returned (.int .i64 ((pop 64 x : Nat) : Int)) ∧ w = w' := by
  have hA := ones_any x w hx
  clear hx
  generalize pop 64 x = p at *
  go_enter Try.func57, Try.ntmps57
  go_wp2_with (go_at_call 67; (with_reducible refine hA.mono ?_); rintro e w3 ⟨rfl, rfl⟩)
  go_ret
  exact ⟨rfl, rfl⟩
theorem node_any (n : Int) (w : World) :
    Calls Try.prog 66 #[.int .i64 n] w fun e w' => e = .returned (.bool (decide (0 ≤ n) && decide (n < 64))) ∧ w = w' := by
  by_cases h1 : 0 ≤ n
  · by_cases h2 : n < 64
    · have d2 : decide (n < 64) = true := by simpa using h2
      go_enter Try.func66, Try.ntmps66
      go_wp2
      go_ret
      exact ⟨by simp [h1, h2], rfl⟩
    · have d2 : decide (n < 64) = false := by simpa using h2
      go_enter Try.func66, Try.ntmps66
      go_wp2
      go_ret
      exact ⟨by simp, rfl⟩
  · have d2 : decide (0 ≤ n) = false := by simpa using h1
    go_enter Try.func66, Try.ntmps66
    go_wp2
    go_ret
    exact ⟨by simp, rfl⟩
theorem maj_any (a b : Nat) (w : World) (ha : a < 18446744073709551616) (hb : b < 18446744073709551616) :
    Calls Try.prog 40 #[.int .u64 (a : Int), .int .u64 (b : Int)] w fun e w' => e = .returned (.bool (majB a b)) ∧ w = w' := by
  have e1 := bits_and_u64_nat a b ha hb
  have hA := fun W => size_any (a &&& b) W (and_lt64 b ha)
  have hB := fun W => size_any b W hb
  have p1 := pop64_le (a &&& b)
  have p2 := pop64_le b
  unfold majB
  clear ha hb
  generalize a &&& b = c at *
  generalize pop 64 c = x at *
  generalize pop 64 b = y at *
  by_cases hlt : y < 2 * x
  · have d1 : decide (y < 2 * x) = true := by simpa using hlt
    go_enter Try.func40, Try.ntmps40
    go_wp2_with (first
      | (go_at_call 57; (with_reducible refine (hA _).mono ?_); clear hA; rintro e w3 ⟨rfl, rfl⟩)
      | (go_at_call 57; (with_reducible refine (hB _).mono ?_); rintro e w3 ⟨rfl, rfl⟩))
    go_ret
    exact ⟨by rw [d1]; simp; omega, rfl⟩
  · have d1 : decide (y < 2 * x) = false := by simpa using hlt
    go_enter Try.func40, Try.ntmps40
    go_wp2_with (first
      | (go_at_call 57; (with_reducible refine (hA _).mono ?_); clear hA; rintro e w3 ⟨rfl, rfl⟩)
      | (go_at_call 57; (with_reducible refine (hB _).mono ?_); rintro e w3 ⟨rfl, rfl⟩))
    go_ret
    exact ⟨by rw [d1]; simp; omega, rfl⟩
/-- The numbers that a slice has, behind a set. -/
theorem with_any {w : World} {A : Option Addr} {n c : Nat} {l : List Int} (s : Nat) (hs : s < 18446744073709551616) (h : Rd w w.heap.size 1 A n c (is l)) (hn : n ≤ 1000000) :
    Calls Try.prog 56 #[.int .u64 (s : Int), .slice A n c] w fun e w' => e = .returned (.int .u64 ((withN s l : Nat) : Int)) ∧ w = w' := by
  have hl : l.length = n := by have := h.len; rwa [is_len] at this
  have H1 := Lib.hid (fun i (hi : i < n) => h.at_ hi)
  have HL := Lib.hid hl
  have HS := Lib.hid hs
  have hN := fun W n => node_any n W
  clear h hl hs
  go_enter Try.func56, Try.ntmps56
  go_wp2_with (fail)
  go_loop [0, 9] (fun sr ir => ∃ i : Nat, i ≤ n ∧ ir = .int .i64 (i : Int) ∧ sr = .int .u64 ((withN s (l.take i) : Nat) : Int)) (fun _ ir => n - (intOf ir).toNat)
  case atStart => exact ⟨0, Nat.zero_le _, rfl, rfl⟩
  case round =>
    obtain ⟨i, hi, rfl, rfl⟩ := hrel
    by_cases hlt : i < n
    · obtain ⟨p1, o1, v1, rfl, hp1, hv1, hc1⟩ := H1.out i hlt
      obtain ⟨x, hx, rfl⟩ : ∃ x, l[i]? = some x ∧ v1 = .int .i64 x := by
        unfold is at hv1
        rw [List.getElem?_map] at hv1
        cases hx : l[i]? with
        | none => rw [hx] at hv1; cases hv1
        | some x => rw [hx] at hv1; exact ⟨x, rfl, (Option.some.inj hv1).symm⟩
      have hst : withN s (l.take (i + 1)) = with1 (withN s (l.take i)) x := by
        obtain ⟨hil, rfl⟩ := List.getElem?_eq_some_iff.1 hx
        rw [List.take_succ_eq_append_getElem hil]
        unfold withN
        rw [List.foldl_append]
        rfl
      have hlt1 := withN_lt (l.take i) HS.out
      have HST := Lib.hid hst
      clear hv1 hp1 hx hst
      generalize withN s (l.take i) = q at *
      have HN := hN
      by_cases hx : 0 ≤ x ∧ x < 64
      · obtain ⟨k, rfl⟩ : ∃ k : Nat, x = (k : Int) := ⟨x.toNat, by omega⟩
        have hk : k < 64 := by omega
        have e1 := shl_op (yk := .i64) k (k : Int) hk rfl
        have e2 := or_run q (2 ^ k) hlt1 (pow_lt64 hk)
        have e3 : with1 q (k : Int) = q ||| 2 ^ k := by unfold with1; rw [if_pos hx]; rfl
        rw [e3] at HST
        have hN := fun W => hN W (k : Int)
        have qb : (decide (0 ≤ (k : Int)) && decide ((k : Int) < 64)) = true := by simp; omega
        rw [qb] at hN
        clear qb HN hx hk hlt1 e3
        generalize 2 ^ k = pk at *
        go_wp2_with (go_at_call 66; (with_reducible refine (hN _).mono ?_); rintro e w3 ⟨rfl, rfl⟩)
        go_round
        case rel => exact ⟨i + 1, by omega, by go_num, by rw [HST.out]⟩
        case measure => simp [intOf]; omega
      · have e3 : with1 q x = q := by unfold with1; rw [if_neg hx]
        rw [e3] at HST
        have hN := fun W => hN W x
        have qb : (decide (0 ≤ x) && decide (x < 64)) = false := by
          cases hd : (decide (0 ≤ x) && decide (x < 64)) with
          | false => rfl
          | true => simp at hd; exact absurd hd hx
        rw [qb] at hN
        clear qb HN hx hlt1 e3
        go_wp2_with (go_at_call 66; (with_reducible refine (hN _).mono ?_); rintro e w3 ⟨rfl, rfl⟩)
        go_round
        case rel => exact ⟨i + 1, by omega, by go_num, by rw [HST.out]⟩
        case measure => simp [intOf]; omega
    · obtain rfl : i = n := by omega
      go_wp2
      go_ret
      exact ⟨by rw [List.take_of_length_le (by rw [HL.out]; exact Nat.le_refl _)]; rfl, rfl⟩
end Go.Proofs.Ytlpckhjmbfeegaa.Qu
