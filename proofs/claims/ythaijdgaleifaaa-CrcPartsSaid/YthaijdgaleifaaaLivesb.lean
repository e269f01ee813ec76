/- The chapter's example of layer 2: its call answers true. -/
import Derived.Test.YthaijdgaleifaaaRefs
namespace Go.Proofs.Ythaijdgaleifaaa
open Go.RowKit

theorem open_seal (l : List UInt8) : openOf (sealOf l) = (l, 0) := by
  have hl : (sealOf l).length = l.length + 4 := by unfold sealOf; rw [List.length_append, le_len]
  have h1 : (sealOf l).take l.length = l := List.take_left' rfl
  have h2 : (sealOf l).drop l.length = le 4 (more 0 l) := List.drop_left' rfl
  unfold openOf
  rw [if_neg (by omega), hl, show l.length + 4 - 4 = l.length from by omega, h1, h2, unle_le, if_pos (Nat.mod_eq_of_lt (sum_lt l))]
theorem sum_digits : more 0 [49, 50, 51, 52, 53, 54, 55, 56, 57] = 3808858755 := by kernel_rfl

theorem lives2 (w : World) : Calls Try.prog 28 #[] w fun e w' => e = .returned (.bool true) ∧ Below w.heap.size w w' := by
  have hS := fun (A : Option Addr) (c : Nat) (w : World) (h : Rd w w.heap.size 1 A 9 c (u8s [49, 50, 51, 52, 53, 54, 55, 56, 57])) => sum_any A 9 c _ w h (by omega)
  rw [sum_digits] at hS
  have hO := fun (A : Option Addr) (c : Nat) (w : World) (h : Rd w w.heap.size 1 A 6 c (u8s (sealOf [97, 98]))) => open_any A 6 c _ w h (by omega)
  rw [open_seal] at hO
  have HS := Lib.hid hS
  have HO := Lib.hid hO
  clear hS hO
  have q : ((str [97, 98]).toList == [97, 98]) = true := by rw [show (str [97, 98]).toList = [97, 98] from ByteArray.toList_mk _]; rfl
  have kc := fun (w : World) (C : Array Value) (n c : Nat) => Lib.run_convert_bytes_const (P := Try.prog) w 22 5 C n c Try.underlying22 Try.underlying5
  go_enter Try.func28, Try.ntmps28
  go_wp2_with (first
    | (go_at_call 33; refine (seal_any _ 2 2 [97, 98] _ (Rd.lit w #[.int .u8 97, .int .u8 98] _ rfl (by unfold maxLen; omega) (by simp)) (by omega)).mono ?_; rintro e w1 ⟨v1, rfl, hown1, hb1⟩
       obtain ⟨A1, c1, rfl⟩ := ownsRow_form hown1
       have hr1 := ownsRow_rd hown1)
    | (go_at_call 34; refine (HO.out _ _ _ hr1).mono ?_; rintro e w2 ⟨A2, n2, c2, rfl, rfl, hr2, hb2⟩
       have hr2 : Rd w2 w2.heap.size 1 A2 2 c2 (u8s [97, 98]) := hr2)
    | (go_at_call 29; refine (HS.out _ _ _ (Rd.lit w2 #[.int .u8 49, .int .u8 50, .int .u8 51, .int .u8 52, .int .u8 53, .int .u8 54, .int .u8 55, .int .u8 56, .int .u8 57] _ rfl (by unfold maxLen; omega) (by simp))).mono ?_; rintro e w3 ⟨rfl, hb3⟩
       have F3 := run_str (P := Try.prog) Try.underlying22 Try.underlying5 Try.underlying9 (hr2.below (((Below.refl _ _).alloc (Nat.le_refl _) _).trans (hb3.mono (by simp)))))
    | fail)
  go_ret
  refine ⟨rfl, ?_⟩
  have h1 : Below w.heap.size w w1 := ((Below.refl _ _).alloc (Nat.le_refl _) _).trans (hb1.mono (by simp))
  have h2 := h1.trans (hb2.mono h1.size)
  exact h2.trans ((((Below.refl _ _).alloc (Nat.le_refl _) _).trans (hb3.mono (by simp))).mono h2.size)

end Go.Proofs.Ythaijdgaleifaaa
