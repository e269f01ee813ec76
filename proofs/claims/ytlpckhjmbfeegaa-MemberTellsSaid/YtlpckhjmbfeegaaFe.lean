/- What the reference tells of a set turned. -/
import Derived.Test.YtlpckhjmbfeegaaFc
namespace Go.Proofs.Ytlpckhjmbfeegaa
open Go.RowKit
set_option maxRecDepth 20000
theorem far_told : ∀ o : Fin 128, ∀ k : Fin 64, 7 ≤ k.val → Qu.told (Qu.flip1 o.val (k.val : Int)) = false := by decide +kernel
theorem near_turn : ∀ o : Fin 128, ∀ k : Fin 7, 1 ≤ o.val → Qu.turnO o.val (k.val : Int) = ((if o.val / 2 ^ k.val % 2 = 1 then o.val - 2 ^ k.val else o.val + 2 ^ k.val), decide ((if o.val / 2 ^ k.val % 2 = 1 then o.val - 2 ^ k.val else o.val + 2 ^ k.val) ≠ 0)) := by decide +kernel
theorem turn_no (o : Nat) (n : Int) (h : n < 0 ∨ 6 < n ∨ Qu.told o = false) : Qu.turnO o n = (0, false) := by
  unfold Qu.turnO
  rw [if_neg]
  rintro ⟨h1, h2⟩
  have h1' := h1
  unfold Qu.told at h1
  simp only [Bool.and_eq_true, decide_eq_true_eq] at h1
  have hin : ¬ (0 ≤ n ∧ n < 64) → False := by
    intro hn
    have e : Qu.flip1 o n = o := by unfold Qu.flip1; rw [Qu.with1_none hn, Nat.xor_zero]
    rw [e] at h2
    exact Qu.may_ne h2 rfl
  rcases h with h | h | h
  · exact hin (by omega)
  · by_cases hn : n < 64
    · obtain ⟨k, rfl⟩ : ∃ k : Nat, n = (k : Int) := ⟨n.toNat, by omega⟩
      have := far_told ⟨o, by omega⟩ ⟨k, by omega⟩ (show 7 ≤ k by omega)
      unfold Qu.mayB at h2
      rw [show Qu.told (Qu.flip1 o (k : Int)) = false from this] at h2
      simp at h2
    · exact hin (by omega)
  · rw [h] at h1'; cases h1'
set_option maxHeartbeats 1000000 in
theorem rturn_any (o : Nat) (n : Int) (w : World) :
    Calls Try.prog 32 #[.int .u64 (o : Int), .int .i64 n] w fun e w' => e = .returned (.tuple #[.int .u64 ((Qu.turnO o n).1 : Int), .bool (Qu.turnO o n).2]) ∧ w = w' := by
  by_cases h1 : n < 0
  · rw [turn_no o n (.inl h1)]
    go_enter Try.func32, Try.ntmps32
    go_wp2
    go_ret2
    exact ⟨rfl, rfl⟩
  · by_cases h2 : 6 < n
    · rw [turn_no o n (.inr (.inl h2))]
      go_enter Try.func32, Try.ntmps32
      go_wp2
      go_ret2
      exact ⟨rfl, rfl⟩
    · by_cases h3 : o < 1
      · rw [turn_no o n (.inr (.inr (by simp [Qu.told]; omega)))]
        have d3 : (o : Int) < 1 := by omega
        go_enter Try.func32, Try.ntmps32
        go_wp2
        go_ret2
        exact ⟨rfl, rfl⟩
      · have d3 : ¬ (o : Int) < 1 := by omega
        by_cases h4 : 127 < o
        · rw [turn_no o n (.inr (.inr (by simp [Qu.told]; omega)))]
          have d4 : (127 : Int) < (o : Int) := by omega
          go_enter Try.func32, Try.ntmps32
          go_wp2
          go_ret2
          exact ⟨rfl, rfl⟩
        · have d4 : ¬ (127 : Int) < (o : Int) := by omega
          obtain ⟨k, rfl⟩ : ∃ k : Nat, n = (k : Int) := ⟨n.toNat, by omega⟩
          have hk : k < 7 := by omega
          have ht : Qu.turnO o (k : Int) = ((if o / 2 ^ k % 2 = 1 then o - 2 ^ k else o + 2 ^ k), decide ((if o / 2 ^ k % 2 = 1 then o - 2 ^ k else o + 2 ^ k) ≠ 0)) := near_turn ⟨o, by omega⟩ ⟨k, hk⟩ (show 1 ≤ o by omega)
          rw [ht]
          have HK := Lib.hid hk
          clear ht hk
          obtain ⟨f, hf⟩ : ∃ f, f = (if o / 2 ^ k % 2 = 1 then o - 2 ^ k else o + 2 ^ k) := ⟨_, rfl⟩
          rw [← hf]
          have HF := Lib.hid hf
          clear hf
          go_enter Try.func32, Try.ntmps32
          go_wp2_with (fail)
          go_loop [6, 7] (fun ur ir => ∃ i : Nat, i ≤ k ∧ ir = .int .i64 (i : Int) ∧ ur = .int .u64 ((2 ^ i : Nat) : Int)) (fun _ ir => k - (intOf ir).toNat)
          case atStart => exact ⟨0, by omega, rfl, rfl⟩
          case round =>
            obtain ⟨i, hi, rfl, rfl⟩ := hrel
            have hpow : 2 ^ i ≤ 2 ^ 7 := Nat.pow_le_pow_right (by decide) (by have := HK.out; omega)
            have hpos : 0 < 2 ^ i := Nat.two_pow_pos i
            obtain ⟨u, hu⟩ : ∃ u, u = 2 ^ i := ⟨_, rfl⟩
            rw [← hu] at hpow hpos ⊢
            have HU := Lib.hid hu
            clear hu
            by_cases h : i < k
            · go_wp2
              go_round
              case rel => exact ⟨i + 1, by omega, by go_num, by rw [Nat.pow_succ, ← HU.out]; simp; omega⟩
              case measure => simp [intOf]; omega
            · obtain rfl : i = k := by omega
              have hf := HF.out
              rw [← HU.out] at hf
              have hqw : IntKind.u64.wrap ((o : Int) / (u : Int)) = ((o / u : Nat) : Int) := by
                obtain ⟨q, hq⟩ : ∃ q, q = o / u := ⟨_, rfl⟩
                have h9 : q ≤ o := by rw [hq]; exact Nat.div_le_self _ _
                rw [show (o : Int) / (u : Int) = (q : Int) by rw [hq]; simp, ← hq, u64w _ (by omega) (by omega)]
              have hq : (IntKind.u64.wrap ((o : Int) / (u : Int))).tmod 2 = ((o / u % 2 : Nat) : Int) := by
                rw [hqw]; rfl
              clear hqw
              by_cases hc : o / u % 2 = 1
              · rw [if_pos hc] at hf
                have c2 : u ≤ o := by
                  rcases Nat.lt_or_ge o u with h | h
                  · rw [Nat.div_eq_of_lt h] at hc; cases hc
                  · exact h
                have c3 : IntKind.u64.wrap ((o : Int) - (u : Int)) = (f : Int) := by rw [u64w _ (by omega) (by omega)]; omega
                have u0 : ¬ (u : Int) = 0 := by omega
                have e2 := hq.trans (congrArg (fun z : Nat => (z : Int)) hc)
                clear hf hc
                go_wp2
                go_ret2
                refine ⟨?_, rfl⟩
                by_cases hf0 : f = 0 <;> simp [hf0]
              · rw [if_neg hc] at hf
                have c3 : (o : Int) + (u : Int) = (f : Int) := by omega
                have u0 : ¬ (u : Int) = 0 := by omega
                have hc0 : o / u % 2 = 0 := by omega
                have e2 := hq.trans (congrArg (fun z : Nat => (z : Int)) hc0)
                have fz : ¬ f = 0 := by omega
                clear hf hc
                go_wp2
                go_ret2
                refine ⟨?_, rfl⟩
                simp [fz, c3]
                try omega
end Go.Proofs.Ytlpckhjmbfeegaa
