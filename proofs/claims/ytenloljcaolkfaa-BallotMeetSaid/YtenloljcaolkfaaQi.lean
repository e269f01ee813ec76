/- slices.insertionSortOrdered. -/
import Derived.Test.YtenloljcaolkfaaQs
namespace Go.Proofs.Ytenloljcaolkfaa.Qu
open Go.RowKit
open Go.Sort (insInner insOuter insertionSort swp)

theorem inner_size (lt : Nat → Nat → Bool) (a : Nat) : ∀ (j : Nat) (d : Array Nat), (insInner lt a j d).size = d.size
  | 0, _ => rfl
  | j + 1, d => by
    unfold insInner
    split
    · rw [inner_size lt a j, swp_size]
    · rfl
theorem outer_step {lt : Nat → Nat → Bool} {a b i : Nat} {d : Array Nat} (h : i < b) : insOuter lt a b i d = insOuter lt a b (i + 1) (insInner lt a i d) := by
  rw [insOuter, if_pos h]
theorem outer_end {lt : Nat → Nat → Bool} {a b i : Nat} {d : Array Nat} (h : ¬ i < b) : insOuter lt a b i d = d := by
  rw [insOuter, if_neg h]
/-- What is left to be done in the inner loop. -/
def InnL (w : World) (g n a : Nat) (D : Array Nat) (j : Nat) (wr : World) : Prop := ∃ d, Arr wr g d ∧ d.size = n ∧ Trn w g wr ∧ insInner ltN a j d = D
def OutL (w : World) (g n a b : Nat) (D : Array Nat) (i : Nat) (wr : World) : Prop := ∃ d, Arr wr g d ∧ d.size = n ∧ Trn w g wr ∧ insOuter ltN a b i d = D
set_option maxHeartbeats 2000000 in
theorem ins_any {w : World} {g n c : Nat} {d : Array Nat} (a b : Nat) (h : Arr w g d) (hd : d.size = n) (hab : a ≤ b) (hb : b ≤ n) (hn : n ≤ 1000000) :
    Calls Try.prog 55 #[.slice (some ⟨g, 0, none⟩) n c, .int .i64 (a : Int), .int .i64 (b : Int)] w fun e w' => e = .returned (.tuple #[]) ∧ Arr w' g (insertionSort ltN d a b) ∧ Trn w g w' := by
  have hL := fun W x y => less_any x y W
  have H0 := Lib.hid (show OutL w g n a b (insertionSort ltN d a b) (a + 1) w from ⟨d, h, hd, Trn.refl w g, rfl⟩)
  generalize insertionSort ltN d a b = D at *
  clear h hd
  go_enter Try.func55, Try.ntmps55
  go_wp2_with (fail)
  go_loopw [6] (fun ir wr => ∃ i : Nat, i ≤ n + 1 ∧ a < i ∧ ir = .int .i64 (i : Int) ∧ Hid (OutL w g n a b D i wr)) (fun ir _ => n + 1 - (intOf ir).toNat)
  case atStart => exact ⟨a + 1, by omega, by omega, by go_num, H0⟩
  case round =>
    clear H0
    obtain ⟨i, hi, hai, rfl, HO⟩ := hrel
    by_cases hlt : i < b
    · obtain ⟨d0, ha0, hs0, ht0, he0⟩ := HO.out
      have hI : Hid (InnL w g n a (insInner ltN a i d0) i wr) := Lib.hid ⟨d0, ha0, hs0, ht0, rfl⟩
      have HE := Lib.hid (show insOuter ltN a b (i + 1) (insInner ltN a i d0) = D by rw [← outer_step hlt]; exact he0)
      generalize insInner ltN a i d0 = D1 at *
      have d1 : decide (i < b) = true := by simpa using hlt
      have HLT := Lib.hid hlt
      clear ha0 hs0 ht0 he0 HO hlt d0
      obtain ⟨wo, rfl⟩ : ∃ wo : World, wo = wr := ⟨_, rfl⟩
      go_wp2_with (fail)
      go_loopw [7] (fun jr wr => ∃ j : Nat, j ≤ i ∧ jr = .int .i64 (j : Int) ∧ Hid (InnL w g n a D1 j wr)) (fun jr _ => (intOf jr).toNat)
      case atStart => exact ⟨i, Nat.le_refl _, rfl, hI⟩
      case round =>
        obtain ⟨j, hj, rfl, HI⟩ := hrel
        obtain ⟨d2, ha2, hs2, ht2, he2⟩ := HI.out
        clear HI
        have hjn : j < n := by have := HLT.out; omega
        by_cases hja : a < j
        · obtain ⟨k, rfl⟩ : ∃ k, j = k + 1 := ⟨j - 1, by omega⟩
          have c0 := ha2.cell (k + 1) (by omega)
          have c1 := ha2.cell k (by omega)
          have z0 := ha2.free (k + 1) (by omega)
          have z1 := ha2.free k (by omega)
          have e3 : (0 : Int) ≤ (k : Int) := by omega
          have e6 : (k : Int) ≤ 1000000 := by omega
          have d2' : decide ((a : Int) < (k : Int) + 1) = true := by simp; omega
          have d3' : decide (a < k + 1) = true := by simp; omega
          have e4 : (k : Int) < (n : Int) := by omega
          have e5 : (k : Int) + 1 < (n : Int) := by omega
          have e7 : k + 1 < n := hjn
          have e8 : k < n := by omega
          have hstep : insInner ltN a (k + 1) d2 = if ltN d2[k + 1]! d2[k]! = true then insInner ltN a k (swp d2 (k + 1) k) else d2 := by
            rw [insInner]
            simp [hja]
          have HA2 := Lib.hid ha2
          have HT2 := Lib.hid ht2
          have HE2 := Lib.hid he2
          have HS2 := Lib.hid hs2
          have HST := Lib.hid hstep
          have HSW := Lib.hid (fun m => (ha2.drewN m).swp (i := k + 1) (j := k) (by omega) (by omega))
          have hq := fun W => less_any d2[k + 1]! d2[k]! W
          have HJA := Lib.hid hja
          have HJ := Lib.hid hj
          clear ha2 ht2 he2 hs2 hstep hja hj hjn
          generalize d2[k + 1]! = x at *
          generalize d2[k]! = y at *
          cases hb : ltN x y with
          | false =>
            rw [hb] at hq HST
            clear hb
            have hq := fun W => (hq W).mono (fun e w' h => (⟨h.1, h.2.symm⟩ : e = _ ∧ w' = W))
            go_wp2_with (fail)
            go_quiet ((go_at_call 61; exact Calls.quiet_of_same (hq _)))
            go_wp2
            go_roundw
            case rel => exact ⟨i + 1, by have := HLT.out; omega, by omega, by go_num, Lib.hid ⟨d2, HA2.out.drewN _, HS2.out, HT2.out.drewN _, by rw [← HE.out, ← HE2.out, HST.out]; rfl⟩⟩
            case measure => have := HLT.out; simp [intOf]; omega
          | true =>
            rw [hb] at hq HST
            clear hb
            have hq := fun W => (hq W).mono (fun e w' h => (⟨h.1, h.2.symm⟩ : e = _ ∧ w' = W))
            go_wp2_with (fail)
            go_quiet ((go_at_call 61; exact Calls.quiet_of_same (hq _)))
            go_wp2
            go_big_region
            all_goals go_wp2
            all_goals go_roundw
            case rel => exact ⟨k, by have := HJ.out; omega, rfl, Lib.hid ⟨_, HSW.out _, by rw [swp_size]; exact HS2.out, ((HT2.out.drewN _).set _ _).set _ _, by rw [← HE2.out, HST.out]; rfl⟩⟩
            case measure => simp [intOf]
        · have hna : decide ((a : Int) < (j : Int)) = false := by simp; omega
          have hna2 : decide (a < j) = false := by simp; omega
          have hna3 : insInner ltN a j d2 = d2 := by
            cases j with
            | zero => rfl
            | succ k => rw [insInner]; simp; omega
          have HNA := Lib.hid hna3
          have HA2 := Lib.hid ha2
          have HT2 := Lib.hid ht2
          have HE2 := Lib.hid he2
          have HS2 := Lib.hid hs2
          clear ha2 ht2 he2 hs2 hja hj hjn hna3
          go_wp2_with (fail)
          go_quiet (fail)
          go_wp2
          go_roundw
          case rel => exact ⟨i + 1, by have := HLT.out; omega, by omega, by go_num, Lib.hid ⟨d2, HA2.out.drewN _, HS2.out, HT2.out.drewN _, by rw [← HE.out, ← HE2.out, HNA.out]⟩⟩
          case measure => have := HLT.out; simp [intOf]; omega
    · obtain ⟨d0, ha0, hs0, ht0, he0⟩ := HO.out
      have hD : d0 = D := by rw [← he0, outer_end hlt]
      subst hD
      have HA2 := Lib.hid ha0
      have HT2 := Lib.hid ht0
      have d1 : decide (i < b) = false := by simpa using hlt
      clear ha0 ht0 he0 hs0 HO hlt
      go_wp2_with (fail)
      go_end0
      exact ⟨rfl, HA2.out, HT2.out⟩
end Go.Proofs.Ytenloljcaolkfaa.Qu
