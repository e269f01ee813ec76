/- The contract of marks.Bits for the closure that the law hands over. -/
import Derived.Test.YtijkagfppeeegaaDoorMsays
import Derived.Test.YtijkagfppeeegaaDoorMmade
namespace Go.Proofs.YtijkagfppeeegaaDoor
open Go.RowKit

/-- The bits so far: those of the marks below i. -/
def BRel (B i c : Nat) : Prop := c < 2 ^ i ∧ ∀ j, j < i → c.testBit j = B.testBit j
theorem brel_yes {B i c : Nat} (h : BRel B i c) (hu : B.testBit i = true) : BRel B (i + 1) (c ||| 2 ^ i) := by
  have e := Nat.two_pow_add_eq_or_of_lt h.1 1
  rw [Nat.mul_one] at e
  have e2 : c ||| 2 ^ i = c + 2 ^ i := by rw [Nat.or_comm, ← e, Nat.add_comm]
  rw [e2]
  refine ⟨by have := h.1; rw [Nat.pow_succ]; omega, fun j hj => ?_⟩
  rw [add_bit c i h.1]
  by_cases hji : j = i
  · subst hji; simp [hu]
  · rw [h.2 j (by omega)]; simp [hji]
theorem brel_no {B i c : Nat} (h : BRel B i c) (hu : B.testBit i = false) : BRel B (i + 1) c := by
  refine ⟨by have := h.1; rw [Nat.pow_succ]; omega, fun j hj => ?_⟩
  by_cases hji : j = i
  · subst hji; rw [hu]; exact Nat.testBit_lt_two_pow h.1
  · exact h.2 j (by omega)
theorem brel_end {B c : Nat} (hB : B < 18446744073709551616) (h : BRel B 64 c) : c = B := by
  refine Nat.eq_of_testBit_eq fun j => ?_
  by_cases hj : j < 64
  · exact h.2 j hj
  · rw [high_bit B j hB (by omega), high_bit c j (by have := h.1; omega) (by omega)]

set_option maxHeartbeats 2000000 in
theorem bits_any (L B g : Nat) (w : World) (hL : L ≤ 4611686018427387840) (hB : B < 18446744073709551616) (hr : w.heap[g]? = some (.cells #[.int .u64 (L : Int), .int .u64 (B : Int)] 25 (0, 0))) :
    Calls Tryd.prog 12 #[.int .u64 (L : Int), .func (.func 13) #[] #[.pointer (some ⟨g, 0, none⟩)]] w fun e w' => e = .returned (.int .u64 (B : Int)) ∧ Below w.heap.size w w' := by
  have hS := fun W x (hx : x < 18446744073709551616) h => says_any L B x g W (by omega) hB hx h
  have hgw : g < w.heap.size := (Array.getElem?_eq_some_iff.1 hr).1
  have HGW := Lib.hid hgw
  have HLow := Lib.hid hL
  have HB := Lib.hid hB
  have hm0 : IntKind.u64.wrap ((18446744073709551615 : Int) - (L : Int)) = 18446744073709551615 - (L : Int) := u64w _ (by omega) (by omega)
  have hm1 : (if (18446744073709551615 : Int) - (L : Int) < 64 then (18446744073709551615 : Int) - (L : Int) else 64) = 64 := by split <;> omega
  have hm2 : min (64 : Int) ((18446744073709551615 : Int) - (L : Int)) = 64 := by omega
  have hm3 : ¬ ((18446744073709551615 : Int) - (L : Int) < 64) := by omega
  have hnil : ∀ (cap : Array Value) (w : World), (binOp .eql 32 (.func (.func 13) #[] cap) Value.nilFunc).run Tryd.prog w = .ok (.bool false) w := by
    intro cap w
    have hu : Tryd.prog.underlying 32 = Tryd.prog.underlying 32 := rfl
    first | rfl | (simp [binOp, go_sem]; done) | kernel_rfl
  clear hL hB hgw
  go_enter Tryd.func12, Tryd.ntmps12
  go_wp2_with fail
  go_loopw [5, 12] (fun cr kr wr => ∃ k c : Nat, k ≤ 64 ∧ cr = .int .u64 (c : Int) ∧ kr = .int .u64 (k : Int) ∧ Hid (BRel B k c) ∧ Hid (Below w.heap.size w wr)) (fun _ kr _ => 64 - (intOf kr).toNat)
  case atStart => exact ⟨0, 0, by omega, rfl, rfl, Lib.hid ⟨by decide, fun j h => absurd h (by omega)⟩, Lib.hid (Below.refl _ _)⟩
  case round =>
    obtain ⟨k, c, hk, rfl, rfl, HR, HBl⟩ := hrel
    have hrz := (HBl.out.block _ HGW.out).trans hr
    by_cases hlt : k < 64
    · have hl := HLow.out
      have hS' := fun W h => hS W (L + 1 + k) (by omega) h
      have d1 : decide ((k : Int) < 64) = true := by simp; omega
      have e1 : IntKind.u64.wrap ((L : Int) + 1) = (L : Int) + 1 := u64w _ (by omega) (by omega)
      have e2 : IntKind.u64.wrap ((L : Int) + 1 + (k : Int)) = (L : Int) + 1 + (k : Int) := u64w _ (by omega) (by omega)
      have e3 : IntKind.u64.wrap ((k : Int) + 1) = (k : Int) + 1 := u64w _ (by omega) (by omega)
      have e4 := shl_op k (k : Int) hlt rfl
      have hp := pow_lt k hlt
      have e5 := or_run c (2 ^ k) (Nat.lt_trans HR.out.1 hp) hp
      have e6 : IntKind.u64.wrap ((2 : Int) ^ k) = ((2 ^ k : Nat) : Int) := by
        have := shl_run k (k : Int) hlt rfl
        rwa [Int.toNat_natCast, Int.one_mul] at this
      have HLT := Lib.hid hlt
      have hux := hs_at L B k
      obtain ⟨u, hu⟩ : ∃ u, B.testBit k = u := ⟨_, rfl⟩
      simp only [hux, hu] at hS'
      have HU := Lib.hid hu
      have hxx : ((L + 1 + k : Nat) : Int) = (L : Int) + 1 + (k : Int) := by omega
      rw [hxx] at hS'
      have HY := Lib.hid (show BRel B (k + 1) (if u = true then c ||| 2 ^ k else c) by
        cases u
        · exact brel_no HR.out hu
        · exact brel_yes HR.out hu)
      generalize c ||| 2 ^ k = cy at *
      generalize 2 ^ k = pk at *
      clear hl hlt hux hu hp hxx
      cases u
      · go_wp2_with (first
          | (go_at_call 28; (with_reducible refine (hS' _ hrz).mono ?_); rintro e w3 ⟨rfl, hb3⟩))
        go_roundw
        case rel => exact ⟨k + 1, c, by have := HLT.out; omega, rfl, by go_num, HY, Lib.hid (HBl.out.trans (hb3.mono HBl.out.size))⟩
        case measure => have := HLT.out; simp [intOf]; omega
      · go_wp2_with (first
          | (go_at_call 28; (with_reducible refine (hS' _ hrz).mono ?_); rintro e w3 ⟨rfl, hb3⟩))
        go_roundw
        case rel => exact ⟨k + 1, cy, by have := HLT.out; omega, by go_num, by go_num, HY, Lib.hid (HBl.out.trans (hb3.mono HBl.out.size))⟩
        case measure => have := HLT.out; simp [intOf]; omega
    · have d1 : decide ((k : Int) < 64) = false := by simp; omega
      obtain rfl : k = 64 := by omega
      obtain rfl := brel_end HB.out HR.out
      go_wp2
      go_ret
      exact ⟨rfl, HBl.out⟩

end Go.Proofs.YtijkagfppeeegaaDoor
