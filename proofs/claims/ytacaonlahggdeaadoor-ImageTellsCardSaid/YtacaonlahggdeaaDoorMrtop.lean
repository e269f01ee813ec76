/- Contracts of the reference's Top and Good. -/
import Derived.Test.YtacaonlahggdeaaDoorMarks2
import Derived.Deep.DeepCutAuto
import Derived.Deep.CutBlock
namespace Go.Proofs.YtacaonlahggdeaaDoor
open Go.RowKit

/-- What is known of the greatest number so far. -/
def TRel (L B k m : Nat) : Prop := L ≤ m ∧ m < L + k ∧ Hs L B m = true ∧ ∀ x, Hs L B x = true → x < L + k → x ≤ m
theorem trel_yes {L B k m : Nat} (_ : TRel L B k m) (hu : Hs L B (L + k) = true) : TRel L B (k + 1) (L + k) := ⟨by omega, by omega, hu, fun x _ hx => by omega⟩
theorem trel_no {L B k m : Nat} (h : TRel L B k m) (hu : Hs L B (L + k) = false) : TRel L B (k + 1) m := ⟨h.1, by have := h.2.1; omega, h.2.2.1, fun x hx hl => by
  by_cases e : x = L + k
  · subst e; rw [hu] at hx; cases hx
  · exact h.2.2.2 x hx (by omega)⟩
theorem trel_end {L B m : Nat} (hB : B < 18446744073709551616) (h : TRel L B 65 m) : m = top L B := by
  have h1 := hs_top L B m hB h.2.2.1
  have h2 := h.2.2.2 _ (top_hs L B hB) (by unfold top; have := bl_le B hB; omega)
  omega

set_option maxHeartbeats 1000000 in
theorem rtop_any (L B : Nat) (w : World) (hL : L ≤ 4611686018427387840) (hB : B < 18446744073709551616) :
    Calls Tryd.prog 52 #[.agg #[.int .u64 (L : Int), .int .u64 (B : Int)]] w fun e w' => e = .returned (.int .u64 ((top L B : Nat) : Int)) ∧ Below w.heap.size w w' := by
  have hA := fun W x (hx : x < 18446744073709551616) => rhas_any L B x W (by omega) hB hx
  obtain ⟨W, hW, hWs, r0, hwW⟩ := boxes1 w #[.int .u64 (L : Int), .int .u64 (B : Int)] 34
  have HLow := Lib.hid hL
  have HB := Lib.hid hB
  clear hL hB
  go_enter Tryd.func52, Tryd.ntmps52
  go_upto_block 0 with (fail)
  rw [← hW]
  clear hW
  go_wp2_with fail
  go_loopw [3, 4] (fun nr kr wr => ∃ k m : Nat, k ≤ 65 ∧ nr = .int .u64 (m : Int) ∧ kr = .int .u64 (k : Int) ∧ Hid (TRel L B k m) ∧ Hid (Below W.heap.size W wr)) (fun _ kr _ => 65 - (intOf kr).toNat)
  case atStart => exact ⟨1, L, by omega, rfl, rfl, Lib.hid ⟨Nat.le_refl _, by omega, hs_low (Nat.le_refl _), fun x _ hx => by omega⟩, Lib.hid (Below.refl _ _)⟩
  case round =>
    obtain ⟨k, m, hk, rfl, rfl, HR, HBl⟩ := hrel
    have hbl := HBl.out
    have k0 := cellz (j := 0) (u := .int .u64 (L : Int)) hbl r0 rfl
    have k1 := cellz (j := 1) (u := .int .u64 (B : Int)) hbl r0 rfl
    have hsz := hbl.size
    have hsz1 : w.heap.size < wr.heap.size := by omega
    clear hbl
    by_cases hlt : k ≤ 64
    · have hl := HLow.out
      have hA' := fun W => hA W (L + k) (by omega)
      have d1 : decide ((k : Int) ≤ 64) = true := by simp; omega
      have e1 : IntKind.u64.wrap ((L : Int) + (k : Int)) = (L : Int) + (k : Int) := u64w _ (by omega) (by omega)
      have e2 : IntKind.u64.wrap ((k : Int) + 1) = (k : Int) + 1 := u64w _ (by omega) (by omega)
      have HLT := Lib.hid hlt
      clear hl hlt
      obtain ⟨u, hu⟩ : ∃ u, Hs L B (L + k) = u := ⟨_, rfl⟩
      rw [hu] at hA'
      have HU := Lib.hid hu
      clear hu
      rw [show ((L + k : Nat) : Int) = (L : Int) + (k : Int) by omega] at hA'
      cases u
      · go_wp2_with (go_at_call 65; first
          | ((with_reducible refine (hA' _).mono ?_); rintro e w3 ⟨rfl, hb3⟩
             have k0 := kept hb3 k0 hsz1
             have k1 := kept hb3 k1 hsz1))
        go_roundw
        case rel => exact ⟨k + 1, m, by have := HLT.out; omega, rfl, by go_num, Lib.hid (trel_no HR.out HU.out), Lib.hid (HBl.out.trans (hb3.mono HBl.out.size))⟩
        case measure => have := HLT.out; simp [intOf]; omega
      · go_wp2_with (go_at_call 65; first
          | ((with_reducible refine (hA' _).mono ?_); rintro e w3 ⟨rfl, hb3⟩
             have k0 := kept hb3 k0 hsz1
             have k1 := kept hb3 k1 hsz1))
        go_roundw
        case rel => exact ⟨k + 1, L + k, by have := HLT.out; omega, by go_num, by go_num, Lib.hid (trel_yes HR.out HU.out), Lib.hid (HBl.out.trans (hb3.mono HBl.out.size))⟩
        case measure => have := HLT.out; simp [intOf]; omega
    · have d1 : decide ((k : Int) ≤ 64) = false := by simp; omega
      have hk2 : k = 65 := by omega
      have hm : m = top L B := trel_end HB.out (by rw [← hk2]; exact HR.out)
      have HM := Lib.hid hm
      clear hm hk2 hlt
      go_wp2
      go_ret
      exact ⟨by rw [HM.out]; rfl, hwW.trans (HBl.out.mono hwW.size)⟩

set_option maxHeartbeats 1000000 in
theorem rgood_any (L B : Nat) (w : World) (hL : L < 18446744073709551616) (hB : B < 18446744073709551616) :
    Calls Tryd.prog 30 #[.agg #[.int .u64 (L : Int), .int .u64 (B : Int)]] w fun e w' => e = .returned (.bool (gdB L B)) ∧ Below w.heap.size w w' := by
  obtain ⟨W, hW, hWs, r0, hwW⟩ := boxes1 w #[.int .u64 (L : Int), .int .u64 (B : Int)] 34
  by_cases h1 : L ≤ 4611686018427387840
  · have ht := fun W => rtop_any L B W h1 hB
    have d1 : decide ((L : Int) ≤ 4611686018427387840) = true := by simp; omega
    by_cases h0 : B % 2 = 0
    · have d0 : ((B : Int) % 2 == 0) = true := by simp; omega
      have hb0 : B.testBit 0 = false := by rw [Nat.testBit_zero]; simp; omega
      have hg : gdB L B = decide (top L B ≤ 4611686018427387840) := by unfold gdB; simp [h1, hb0]
      rw [hg]
      have d2 : decide (((top L B : Nat) : Int) ≤ 4611686018427387840) = decide (top L B ≤ 4611686018427387840) := decide_eq_decide.2 (by omega)
      generalize top L B = tp at *
      clear hg hL hB h0 hb0 h1
      go_enter Tryd.func30, Tryd.ntmps30
      go_wp2_with fail
      rw [← hW]
      refine (ht _).mono ?_
      rintro e w1 ⟨rfl, hb1⟩
      go_wp2
      go_ret
      exact ⟨by first | rfl | rw [d2], hwW.trans (hb1.mono hwW.size)⟩
    · have d0 : ((B : Int) % 2 == 0) = false := by simp; omega
      have hb0 : B.testBit 0 = true := by rw [Nat.testBit_zero]; simp; omega
      have hg : gdB L B = false := by unfold gdB; simp [hb0]
      rw [hg]
      clear hg hL hB h0 hb0 h1
      go_enter Tryd.func30, Tryd.ntmps30
      go_wp2
      go_ret
      exact ⟨rfl, (Below.refl _ _).alloc (Nat.le_refl _) _⟩
  · have d1 : decide ((L : Int) ≤ 4611686018427387840) = false := by simp; omega
    have hg : gdB L B = false := by unfold gdB; simp [h1]
    rw [hg]
    clear hg hB hL h1
    go_enter Tryd.func30, Tryd.ntmps30
    go_wp2
    go_ret
    exact ⟨rfl, (Below.refl _ _).alloc (Nat.le_refl _) _⟩

end Go.Proofs.YtacaonlahggdeaaDoor
