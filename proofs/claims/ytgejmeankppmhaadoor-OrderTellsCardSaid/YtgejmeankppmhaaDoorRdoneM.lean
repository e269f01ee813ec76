/- The document's own answers: bit, has, Has, Old. -/
import Derived.Test.YtgejmeankppmhaaDoorAsksM
namespace Go.Proofs.YtgejmeankppmhaaDoor
open Go.RowKit

theorem rbit_any (p : Cl) (k : Nat) (w : World) (hp : p.ok) (hk : k ≤ 100) :
    Calls Tryd.prog 54 #[clv p, .int .u64 (k : Int)] w fun e w' => e = .returned (.bool (p.2.testBit k)) ∧ Below w.heap.size w w' := by
  obtain ⟨t, b⟩ := p
  have hb := hp.2
  clear hp
  dsimp only at hb
  unfold clv
  dsimp only
  have hfin : decide (((b / 2 ^ k % 2 : Nat) : Int) = 1) = b.testBit k := by
    rw [Nat.testBit_eq_decide_div_mod_eq, Bool.eq_iff_iff]
    simp only [decide_eq_true_eq]
    omega
  have HF := Lib.hid hfin
  clear hfin
  go_enter Tryd.func54, Tryd.ntmps54
  go_wp2
  go_loop [5, 6] (fun nr ir => ∃ i q : Nat, i ≤ k ∧ Hid (q = b / 2 ^ i) ∧ ir = .int .u64 (i : Int) ∧ nr = .int .u64 (q : Int)) (fun _ ir => k - (intOf ir).toNat)
  case atStart => exact ⟨0, b, Nat.zero_le _, Lib.hid (by simp), rfl, rfl⟩
  case round =>
    obtain ⟨i, q, hi, hq, rfl, rfl⟩ := hrel
    have hqb : q ≤ 65536 := by rw [hq.out]; exact Nat.le_trans (Nat.div_le_self _ _) (by omega)
    by_cases hlt : i < k
    · go_wp2
      go_round
      case rel => exact ⟨i + 1, q / 2, by omega, Lib.hid (by rw [hq.out, Nat.div_div_eq_div_mul, Nat.pow_succ]), by go_num, rfl⟩
      case measure => simp [intOf]; omega
    · obtain rfl : i = k := by omega
      rw [show b / 2 ^ i = q from hq.out.symm] at HF
      go_wp2
      go_ret
      exact ⟨ret_bool (by rw [← HF.out]; rw [Bool.eq_iff_iff]; simp), below1 _ _⟩

theorem rhas14_any (p : Cl) (r : Nat) (w : World) (hp : p.ok) :
    Calls Tryd.prog 66 #[clv p, .int .u64 (r : Int)] w fun e w' => e = .returned (.bool (hasN p r)) ∧ Below w.heap.size w w' := by
  have hbit := fun W (h : p.1 - r ≤ 100) => rbit_any p (p.1 - r) W hp h
  obtain ⟨t, b⟩ := p
  have hfar : ¬ t - r < 16 → b.testBit (t - r) = false := fun h => Nat.testBit_lt_two_pow (Nat.lt_of_lt_of_le hp.2 (Nat.pow_le_pow_right (n := 2) (by decide) (show 16 ≤ t - r by omega)))
  obtain ⟨ht, hb⟩ := hp
  unfold clv at hbit
  unfold clv hasN
  dsimp only at ht hb hbit ⊢
  by_cases h0 : 0 < r
  · simp only [h0, decide_true, Bool.true_and]
    have h0' : (0 : Int) < (r : Int) := by omega
    by_cases h1 : r ≤ t
    · have d1 : decide (r ≤ t) = true := by simpa using h1
      rw [d1, Bool.true_and]
      clear d1
      by_cases h2 : t - r < 16
      · have hbit := fun W => hbit W (by omega)
        have e1 : ((t - r : Nat) : Int) = (t : Int) - (r : Int) := by omega
        rw [e1] at hbit
        have HB := Lib.hid hbit
        have d2 : decide ((t : Int) - (r : Int) < 16) = true := by simp; omega
        generalize b.testBit (t - r) = X at *
        clear hfar hbit e1
        go_enter Tryd.func66, Tryd.ntmps66
        go_wp2_with (first
          | (go_at_call 54; refine (HB.out _).mono ?_; rintro e w1 ⟨rfl, hb1⟩)
          | fail)
        go_ret
        exact ⟨rfl, unal hb1⟩
      · rw [hfar h2]
        have d2 : decide ((t : Int) - (r : Int) < 16) = false := by simp; omega
        clear hfar hbit
        go_enter Tryd.func66, Tryd.ntmps66
        go_wp2
        go_ret
        exact ⟨rfl, below1 _ _⟩
    · have d1 : decide (r ≤ t) = false := by simpa using h1
      rw [d1, Bool.false_and]
      clear hfar hbit
      go_enter Tryd.func66, Tryd.ntmps66
      go_wp2
      go_ret
      exact ⟨rfl, below1 _ _⟩
  · obtain rfl : r = 0 := by omega
    clear hfar hbit
    go_enter Tryd.func66, Tryd.ntmps66
    go_wp2
    go_ret
    exact ⟨rfl, below1 _ _⟩

theorem rhas8_any (T : List Cl) (c r : Nat) (w : World) (hT : Tok T) :
    Calls Tryd.prog 53 #[tbv T, .int .u64 (c : Int), .int .u64 (r : Int)] w fun e w' => e = .returned (.bool (at8 T c fun p => hasN p r)) ∧ Below w.heap.size w w' := by
  by_cases h8 : 1 ≤ c ∧ c ≤ 8
  · have hi := hT.at_ h8
    have hfin := at8_in (T := T) h8 (fun p => hasN p r)
    rw [hfin]
    have hok := hT.get (c - 1)
    generalize T.getD (c - 1) (0, 0) = p at *
    obtain ⟨g0, g1⟩ := tcells_get T _ _ hi
    have hh := fun (W : World) => rhas14_any p r W hok
    obtain ⟨h1, h2⟩ := h8
    have HH := Lib.hid hh
    clear hfin hi hh
    unfold clv at HH
    go_enter Tryd.func53, Tryd.ntmps53
    go_wp2_with (first
      | (refine wpL_tbox rfl (.tmp 0) rfl rfl ?_; intro W b hN; obtain ⟨hb, hr, hbl, hz⟩ := hN
         have k0 : W.cell? ⟨b, (c - 1) * 2, none⟩ = some (.int .u64 (p.1 : Int)) := by rw [cell_of_row W b _ _ _ _ hr.out]; simpa using g0
         have k1 : W.cell? ⟨b, (c - 1) * 2 + 1, none⟩ = some (.int .u16 (p.2 : Int)) := by rw [cell_of_row W b _ _ _ _ hr.out]; simpa using g1)
      | (go_at_call 66; refine (HH.out _).mono ?_; rintro e w1 ⟨rfl, hb1⟩)
      | fail)
    go_ret
    exact ⟨rfl, hbl.trans (hb1.mono hbl.size)⟩
  · have hfin := at8_out (T := T) h8 (fun p => hasN p r)
    rw [hfin]
    clear hT hfin
    rcases Nat.lt_or_ge c 1 with h1 | h1
    · obtain rfl : c = 0 := by omega
      clear h8
      go_enter Tryd.func53, Tryd.ntmps53
      go_wp2_with (first
        | (refine wpL_tbox rfl (.tmp 0) rfl rfl ?_; intro W b hN; obtain ⟨hb, hr, hbl, hz⟩ := hN)
        | fail)
      go_ret
      exact ⟨rfl, hbl⟩
    · have h2 : ¬ (c : Int) ≤ 8 := by omega
      have h3 : 1 ≤ (c : Int) := by omega
      clear h1 h8
      go_enter Tryd.func53, Tryd.ntmps53
      go_wp2_with (first
        | (refine wpL_tbox rfl (.tmp 0) rfl rfl ?_; intro W b hN; obtain ⟨hb, hr, hbl, hz⟩ := hN)
        | fail)
      go_ret
      exact ⟨rfl, hbl⟩

theorem rold8_any (T : List Cl) (c r : Nat) (w : World) (hT : Tok T) :
    Calls Tryd.prog 52 #[tbv T, .int .u64 (c : Int), .int .u64 (r : Int)] w fun e w' => e = .returned (.bool (at8 T c fun p => oldN p.1 r)) ∧ Below w.heap.size w w' := by
  by_cases h8 : 1 ≤ c ∧ c ≤ 8
  · have hi := hT.at_ h8
    have hfin := at8_in (T := T) h8 (fun p => oldN p.1 r)
    rw [hfin]
    have hok := hT.get (c - 1)
    generalize T.getD (c - 1) (0, 0) = p at *
    obtain ⟨g0, g1⟩ := tcells_get T _ _ hi
    obtain ⟨h1, h2⟩ := h8
    obtain ⟨t, b⟩ := p
    have ht := hok.1
    dsimp only at g0 ht ⊢
    clear hfin hi hok g1 hT
    have h1i : (1 : Int) ≤ (c : Int) := by omega
    have h2i : (c : Int) ≤ 8 := by omega
    have n1 : decide ((c : Int) < 1) = false := by simp; omega
    have n2 : decide ((8 : Int) < (c : Int)) = false := by simp; omega
    unfold oldN
    by_cases h0 : r = 0
    · subst h0
      go_enter Tryd.func52, Tryd.ntmps52
      go_wp2_with (first
        | (refine wpL_tbox rfl (.tmp 0) rfl rfl ?_; intro W b hN; obtain ⟨hb, hr, hbl, hz⟩ := hN
           have k0 : W.cell? ⟨b, (c - 1) * 2, none⟩ = some (.int .u64 (t : Int)) := by rw [cell_of_row W b _ _ _ _ hr.out]; simpa using g0)
        | fail)
      go_ret
      exact ⟨rfl, hbl⟩
    · have d0 : ((r : Int) == 0) = false := by simpa using h0
      simp only [h0, decide_false, Bool.false_or]
      by_cases h3 : r ≤ t
      · by_cases h4 : 16 ≤ t - r
        · have d2 : decide ((16 : Int) ≤ (t : Int) - (r : Int)) = true := by simp; omega
          have hfin : (decide (r ≤ t) && decide (16 ≤ t - r)) = true := by simp [h3, h4]
          rw [hfin]
          clear hfin h0
          go_enter Tryd.func52, Tryd.ntmps52
          go_wp2_with (first
            | (refine wpL_tbox rfl (.tmp 0) rfl rfl ?_; intro W b hN; obtain ⟨hb, hr, hbl, hz⟩ := hN
               have k0 : W.cell? ⟨b, (c - 1) * 2, none⟩ = some (.int .u64 (t : Int)) := by rw [cell_of_row W b _ _ _ _ hr.out]; simpa using g0)
            | fail)
          go_ret
          exact ⟨rfl, hbl⟩
        · have d2 : decide ((16 : Int) ≤ (t : Int) - (r : Int)) = false := by simp; omega
          have hfin : (decide (r ≤ t) && decide (16 ≤ t - r)) = false := by simp [h4]
          rw [hfin]
          clear hfin h0
          go_enter Tryd.func52, Tryd.ntmps52
          go_wp2_with (first
            | (refine wpL_tbox rfl (.tmp 0) rfl rfl ?_; intro W b hN; obtain ⟨hb, hr, hbl, hz⟩ := hN
               have k0 : W.cell? ⟨b, (c - 1) * 2, none⟩ = some (.int .u64 (t : Int)) := by rw [cell_of_row W b _ _ _ _ hr.out]; simpa using g0)
            | fail)
          go_ret
          exact ⟨rfl, hbl⟩
      · have d1 : decide (r ≤ t) = false := by simpa using h3
        rw [d1, Bool.false_and]
        clear h0
        go_enter Tryd.func52, Tryd.ntmps52
        go_wp2_with (first
          | (refine wpL_tbox rfl (.tmp 0) rfl rfl ?_; intro W b hN; obtain ⟨hb, hr, hbl, hz⟩ := hN
             have k0 : W.cell? ⟨b, (c - 1) * 2, none⟩ = some (.int .u64 (t : Int)) := by rw [cell_of_row W b _ _ _ _ hr.out]; simpa using g0)
          | fail)
        go_ret
        exact ⟨rfl, hbl⟩
  · have hfin := at8_out (T := T) h8 (fun p => oldN p.1 r)
    rw [hfin]
    clear hT hfin
    rcases Nat.lt_or_ge c 1 with h1 | h1
    · obtain rfl : c = 0 := by omega
      clear h8
      go_enter Tryd.func52, Tryd.ntmps52
      go_wp2_with (first
        | (refine wpL_tbox rfl (.tmp 0) rfl rfl ?_; intro W b hN; obtain ⟨hb, hr, hbl, hz⟩ := hN)
        | fail)
      go_ret
      exact ⟨rfl, hbl⟩
    · have h2 : decide ((8 : Int) < (c : Int)) = true := by simp; omega
      have h3 : decide ((c : Int) < 1) = false := by simp; omega
      clear h1 h8
      go_enter Tryd.func52, Tryd.ntmps52
      go_wp2_with (first
        | (refine wpL_tbox rfl (.tmp 0) rfl rfl ?_; intro W b hN; obtain ⟨hb, hr, hbl, hz⟩ := hN)
        | fail)
      go_ret
      exact ⟨rfl, hbl⟩

end Go.Proofs.YtgejmeankppmhaaDoor
