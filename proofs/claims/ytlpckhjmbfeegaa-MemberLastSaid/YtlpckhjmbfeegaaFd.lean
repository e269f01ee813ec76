/- What the reference tells of members is the same. -/
import Derived.Test.YtlpckhjmbfeegaaFc
namespace Go.Proofs.Ytlpckhjmbfeegaa
open Go.RowKit
set_option maxRecDepth 20000
theorem ofO_no (x : It) (h : x.kd ≠ 2 ∨ x.tx.length ≠ 1) : ofO x = (0, false) := by
  unfold ofO
  rw [if_neg]
  rintro ⟨_, h2⟩
  simp [sameB, setIt] at h2
  rcases h with h | h
  · exact h (of_decide_eq_true h2.1).symm
  · exact h (by rw [← of_decide_eq_true h2.2, le_len])
theorem le_one (b : UInt8) : le 1 b.toNat = [b] := by
  have := b.toNat_lt
  simp [le]
theorem ofO_one (t : Nat) (b : UInt8) : ofO ⟨t, 2, [b]⟩ = if Qu.told b.toNat = true then (b.toNat, true) else (0, false) := by
  have e : headN [b] = b.toNat := by simp [headN, St.num, St.next, unle]
  unfold ofO
  dsimp only
  rw [e]
  have s : sameB (setIt b.toNat t) ⟨t, 2, [b]⟩ = true := by simp [sameB, setIt, le_one]
  rw [s]
  simp
set_option maxHeartbeats 1000000 in
theorem rof_any (x : It) (w : World) : Calls Try.prog 28 #[.agg x.cells] w (Ofs x w) := by
  obtain ⟨t, k, tx⟩ := x
  have hs : (str tx).size = tx.length := rfl
  have hb : Below w.heap.size w (w.alloc (.cells #[.int .u64 (t : Int), .int .i64 k, .string (str tx)] 62)) := (Below.refl _ _).alloc (Nat.le_refl _) _
  unfold Ofs
  by_cases hk : k = 2
  · subst hk
    by_cases hl : tx.length = 1
    · obtain ⟨b, rfl⟩ := List.length_eq_one_iff.1 hl
      rw [ofO_one]
      have e0 : (str [b])[0]? = some b := rfl
      have e1 : ∀ h : 0 < (str [b]).size, (str [b])[0] = b := fun _ => rfl
      have hb8 := b.toNat_lt
      by_cases h0 : b.toNat = 0
      · have d : Qu.told b.toNat = false := by rw [h0]; rfl
        rw [d, if_neg (by simp)]
        dsimp only [It.cells]
        go_enter Try.func28, Try.ntmps28
        go_wp2
        go_ret2
        exact ⟨rfl, hb⟩
      · have n0 : ¬ (b.toNat : Int) = 0 := by omega
        by_cases h1 : 127 < b.toNat
        · have d : Qu.told b.toNat = false := by simp [Qu.told]; omega
          have n1 : (127 : Int) < (b.toNat : Int) := by omega
          rw [d, if_neg (by simp)]
          dsimp only [It.cells]
          go_enter Try.func28, Try.ntmps28
          go_wp2
          go_ret2
          exact ⟨rfl, hb⟩
        · have d : Qu.told b.toNat = true := by simp [Qu.told]; omega
          have n1 : ¬ (127 : Int) < (b.toNat : Int) := by omega
          rw [d, if_pos rfl]
          dsimp only [It.cells]
          go_enter Try.func28, Try.ntmps28
          go_wp2
          go_ret2
          refine ⟨?_, hb⟩
          rfl
    · rw [ofO_no _ (.inr hl)]
      have n1 : ¬ (tx.length : Int) = 1 := by omega
      dsimp only [It.cells]
      go_enter Try.func28, Try.ntmps28
      go_wp2
      go_ret2
      exact ⟨rfl, hb⟩
  · rw [ofO_no _ (.inl hk)]
    dsimp only [It.cells]
    go_enter Try.func28, Try.ntmps28
    go_wp2
    go_ret2
    exact ⟨rfl, hb⟩
theorem xor2 (x y : Nat) : (x ^^^ y) % 2 = if x % 2 = y % 2 then 0 else 1 := by
  have h := @Nat.xor_mod_two_eq_one x y
  by_cases c : x % 2 = y % 2
  · rw [if_pos c]; omega
  · rw [if_neg c]; omega
theorem rbits_any (a b : Nat) (w : World) (ha : a < 18446744073709551616) (hb : b < 18446744073709551616) :
    Calls Try.prog 58 #[.int .u64 (a : Int), .int .u64 (b : Int)] w fun e w' => e = .returned (.int .i64 ((Qu.pop 64 (a ^^^ b) : Nat) : Int)) ∧ w = w' := by
  obtain ⟨p, hp⟩ : ∃ p, p = Qu.pop 64 (a ^^^ b) := ⟨_, rfl⟩
  rw [← hp]
  have HP := Lib.hid hp
  have HA := Lib.hid ha
  have HB := Lib.hid hb
  clear hp ha hb
  go_enter Try.func58, Try.ntmps58
  go_wp2_with (fail)
  go_loop [0, 1, 5, 6] (fun ar br nr ir => ∃ i x y n : Nat, i ≤ 64 ∧ ar = .int .u64 (x : Int) ∧ br = .int .u64 (y : Int) ∧ nr = .int .i64 (n : Int) ∧ ir = .int .i64 (i : Int) ∧ x < 18446744073709551616 ∧ y < 18446744073709551616 ∧ n ≤ i ∧ Hid (n + Qu.pop (64 - i) (x ^^^ y) = p)) (fun _ _ _ ir => 64 - (intOf ir).toNat)
  case atStart => exact ⟨0, a, b, 0, by omega, rfl, rfl, rfl, rfl, HA.out, HB.out, Nat.le_refl _, Lib.hid (by rw [Nat.zero_add, HP.out])⟩
  case round =>
    obtain ⟨i, x, y, n, hi, rfl, rfl, rfl, rfl, hx, hy, hn, HR⟩ := hrel
    by_cases h : i < 64
    · have e : n + (if x % 2 = y % 2 then 0 else 1) + Qu.pop (64 - (i + 1)) ((x / 2) ^^^ (y / 2)) = p := by
        have h1 := HR.out
        rw [show 64 - i = (64 - (i + 1)) + 1 by omega, Qu.pop, Nat.xor_div_two, xor2] at h1
        omega
      have HE := Lib.hid e
      clear e
      by_cases hc : x % 2 = y % 2
      · rw [if_pos hc] at HE
        have c1 : (x : Int) % 2 = (y : Int) % 2 := by omega
        go_wp2
        go_round
        case rel => exact ⟨i + 1, x / 2, y / 2, n, by omega, by simp, by simp, rfl, by go_num, by omega, by omega, by omega, HE⟩
        case measure => simp [intOf]; omega
      · rw [if_neg hc] at HE
        have c1 : ¬ (x : Int) % 2 = (y : Int) % 2 := by omega
        go_wp2
        go_round
        case rel => exact ⟨i + 1, x / 2, y / 2, n + 1, by omega, by simp, by simp, by go_num, by go_num, by omega, by omega, by omega, HE⟩
        case measure => simp [intOf]; omega
    · obtain rfl : i = 64 := by omega
      have h1 : n = p := by have := HR.out; simpa [Qu.pop] using this
      subst h1
      go_wp2
      go_ret
      exact ⟨rfl, rfl⟩
theorem rmay_any (o s : Nat) (w : World) (ho : o < 18446744073709551616) (hs : s < 18446744073709551616) :
    Calls Try.prog 34 #[.int .u64 (o : Int), .int .u64 (s : Int)] w fun e w' => e = .returned (.bool (Qu.mayB o s)) ∧ w = w' := by
  have hZ := fun W => rbits_any o s W ho hs
  unfold Qu.mayB Qu.told
  clear ho hs
  generalize Qu.pop 64 (o ^^^ s) = p at *
  by_cases h1 : 1 ≤ s
  · by_cases h2 : s ≤ 127
    · have d1 : (1 : Int) ≤ (s : Int) := by omega
      have d2 : (s : Int) ≤ 127 := by omega
      go_enter Try.func34, Try.ntmps34
      go_wp2_with (first
        | (go_at_call 58; (with_reducible refine (hZ _).mono ?_); rintro e w3 ⟨rfl, rfl⟩)
        | fail)
      go_ret
      refine ⟨?_, rfl⟩
      by_cases h : p = 1
      · simp [h, h1, h2]
      · have : ¬ (p : Int) = 1 := by omega
        simp [h, this, h1, h2]
    · have d1 : (1 : Int) ≤ (s : Int) := by omega
      have d2 : ¬ (s : Int) ≤ 127 := by omega
      go_enter Try.func34, Try.ntmps34
      go_wp2_with (first
        | (go_at_call 58; (with_reducible refine (hZ _).mono ?_); rintro e w3 ⟨rfl, rfl⟩)
        | fail)
      go_ret
      refine ⟨?_, rfl⟩
      simp [h2]
  · have d1 : ¬ (1 : Int) ≤ (s : Int) := by omega
    go_enter Try.func34, Try.ntmps34
    go_wp2_with (first
      | (go_at_call 58; (with_reducible refine (hZ _).mono ?_); rintro e w3 ⟨rfl, rfl⟩)
      | fail)
    go_ret
    refine ⟨?_, rfl⟩
    simp [h1]
end Go.Proofs.Ytlpckhjmbfeegaa
