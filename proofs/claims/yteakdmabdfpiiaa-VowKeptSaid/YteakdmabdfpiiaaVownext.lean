/- What is promised behind a call, by the law's own text. -/
import Derived.Test.YteakdmabdfpiiaaVowf
namespace Go.Proofs.Yteakdmabdfpiiaa
set_option maxRecDepth 20000
open Go.RowKit

def nextP (tm : Nat) (vt kd : Int) (x : Nat) (nd : Int) : Nat × Int × Int :=
  if 4611686018427387904 < x ∨ (kd = 1 ∧ (nd < 0 ∨ 7 ≤ nd)) then (tm, vt, 30) else if x < tm then (tm, vt, 52) else if kd = 1 ∧ x = tm ∧ 0 ≤ vt ∧ vt ≠ nd then (tm, vt, 41) else if kd = 1 then (x, nd, 0) else if tm < x then (x, -1, 0) else (tm, vt, 0)
set_option maxHeartbeats 4000000 in
theorem vnext_any (tm x : Nat) (vt kd nd fu : Int) (A : Option Addr) (n c : Nat) (w : World) :
    Calls Try.prog 29 #[.agg #[.int .u64 (tm : Int), .int .i64 vt], .agg #[.int .i64 kd, .int .u64 (x : Int), .int .i64 nd, .int .i64 fu, .slice A n c]] w fun e w' => e = .returned (.tuple #[.agg #[.int .u64 ((nextP tm vt kd x nd).1 : Int), .int .i64 (nextP tm vt kd x nd).2.1], .int .i64 (nextP tm vt kd x nd).2.2]) ∧ Below w.heap.size w w' := by
  unfold nextP
  by_cases h1 : 4611686018427387904 < x
  · rw [if_pos (.inl h1)]
    have q1 : (4611686018427387904 : Int) < (x : Int) := by omega
    clear h1
    go_enter Try.func29, Try.ntmps29
    go_wp2_with (fail)
    exact bodyPost_ret (v := .tuple #[.agg #[.int .u64 (tm : Int), .int .i64 vt], .int .i64 30]) (by simp [results, Try.results29, go_sem]) rfl ⟨rfl, (((Below.refl _ _).alloc (Nat.le_refl _) _).alloc (by simp) _).alloc (by simp; omega) _⟩
  have q1 : (x : Int) ≤ 4611686018427387904 := by omega
  by_cases h2 : kd = 1
  · subst h2
    by_cases h3 : nd < 0
    · rw [if_pos (.inr ⟨rfl, .inl h3⟩)]
      clear h1
      go_enter Try.func29, Try.ntmps29
      go_wp2_with (fail)
      exact bodyPost_ret (v := .tuple #[.agg #[.int .u64 (tm : Int), .int .i64 vt], .int .i64 30]) (by simp [results, Try.results29, go_sem]) rfl ⟨rfl, (((Below.refl _ _).alloc (Nat.le_refl _) _).alloc (by simp) _).alloc (by simp; omega) _⟩
    have q3 : 0 ≤ nd := by omega
    by_cases h4 : 7 ≤ nd
    · rw [if_pos (.inr ⟨rfl, .inr h4⟩)]
      clear h1 h3
      go_enter Try.func29, Try.ntmps29
      go_wp2_with (fail)
      exact bodyPost_ret (v := .tuple #[.agg #[.int .u64 (tm : Int), .int .i64 vt], .int .i64 30]) (by simp [results, Try.results29, go_sem]) rfl ⟨rfl, (((Below.refl _ _).alloc (Nat.le_refl _) _).alloc (by simp) _).alloc (by simp; omega) _⟩
    have q4 : nd < 7 := by omega
    rw [if_neg (by omega)]
    clear h1 h3 h4
    by_cases h5 : x < tm
    · rw [if_pos h5]
      go_enter Try.func29, Try.ntmps29
      go_wp2_with (fail)
      exact bodyPost_ret (v := .tuple #[.agg #[.int .u64 (tm : Int), .int .i64 vt], .int .i64 52]) (by simp [results, Try.results29, go_sem]) rfl ⟨rfl, (((Below.refl _ _).alloc (Nat.le_refl _) _).alloc (by simp) _).alloc (by simp; omega) _⟩
    rw [if_neg h5]
    have q5 : tm ≤ x := by omega
    by_cases h6 : x = tm
    · subst h6
      by_cases h7 : 0 ≤ vt
      · by_cases h8 : vt = nd
        · subst h8
          rw [if_neg (by simp), if_pos rfl]
          clear q5 h5
          go_enter Try.func29, Try.ntmps29
          go_wp2_with (fail)
          exact bodyPost_ret (v := .tuple #[.agg #[.int .u64 (x : Int), .int .i64 vt], .int .i64 0]) (by simp [results, Try.results29, go_sem]) rfl ⟨rfl, (((Below.refl _ _).alloc (Nat.le_refl _) _).alloc (by simp) _).alloc (by simp; omega) _⟩
        · rw [if_pos ⟨rfl, rfl, h7, h8⟩]
          have q8 : (vt == nd) = false := by simpa using h8
          clear q5 h5
          go_enter Try.func29, Try.ntmps29
          go_wp2_with (fail)
          exact bodyPost_ret (v := .tuple #[.agg #[.int .u64 (x : Int), .int .i64 vt], .int .i64 41]) (by simp [results, Try.results29, go_sem]) rfl ⟨rfl, (((Below.refl _ _).alloc (Nat.le_refl _) _).alloc (by simp) _).alloc (by simp; omega) _⟩
      · rw [if_neg (by omega), if_pos rfl]
        have q7 : vt < 0 := by omega
        clear q5 h5
        go_enter Try.func29, Try.ntmps29
        go_wp2_with (fail)
        exact bodyPost_ret (v := .tuple #[.agg #[.int .u64 (x : Int), .int .i64 nd], .int .i64 0]) (by simp [results, Try.results29, go_sem]) rfl ⟨rfl, (((Below.refl _ _).alloc (Nat.le_refl _) _).alloc (by simp) _).alloc (by simp; omega) _⟩
    · rw [if_neg (by omega), if_pos rfl]
      have q6 : (x == tm) = false := by simpa using h6
      go_enter Try.func29, Try.ntmps29
      go_wp2_with (fail)
      exact bodyPost_ret (v := .tuple #[.agg #[.int .u64 (x : Int), .int .i64 nd], .int .i64 0]) (by simp [results, Try.results29, go_sem]) rfl ⟨rfl, (((Below.refl _ _).alloc (Nat.le_refl _) _).alloc (by simp) _).alloc (by simp; omega) _⟩
  · have q2 : (kd == 1) = false := by simpa using h2
    rw [if_neg (by omega)]
    clear h1
    by_cases h5 : x < tm
    · rw [if_pos h5]
      go_enter Try.func29, Try.ntmps29
      go_wp2_with (fail)
      exact bodyPost_ret (v := .tuple #[.agg #[.int .u64 (tm : Int), .int .i64 vt], .int .i64 52]) (by simp [results, Try.results29, go_sem]) rfl ⟨rfl, (((Below.refl _ _).alloc (Nat.le_refl _) _).alloc (by simp) _).alloc (by simp; omega) _⟩
    rw [if_neg h5, if_neg (by omega), if_neg h2]
    have q5 : tm ≤ x := by omega
    by_cases h6 : tm < x
    · rw [if_pos h6]
      go_enter Try.func29, Try.ntmps29
      go_wp2_with (fail)
      exact bodyPost_ret (v := .tuple #[.agg #[.int .u64 (x : Int), .int .i64 (-1)], .int .i64 0]) (by simp [results, Try.results29, go_sem]) rfl ⟨rfl, (((Below.refl _ _).alloc (Nat.le_refl _) _).alloc (by simp) _).alloc (by simp; omega) _⟩
    · rw [if_neg h6]
      obtain rfl : x = tm := by omega
      clear h6 q5 h5
      go_enter Try.func29, Try.ntmps29
      go_wp2_with (fail)
      exact bodyPost_ret (v := .tuple #[.agg #[.int .u64 (x : Int), .int .i64 vt], .int .i64 0]) (by simp [results, Try.results29, go_sem]) rfl ⟨rfl, (((Below.refl _ _).alloc (Nat.le_refl _) _).alloc (by simp) _).alloc (by simp; omega) _⟩
end Go.Proofs.Yteakdmabdfpiiaa
