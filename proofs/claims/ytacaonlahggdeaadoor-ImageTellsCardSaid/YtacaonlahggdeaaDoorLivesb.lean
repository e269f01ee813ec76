/- The chapter's example of layer 2: its call answers true. -/
import Derived.Test.YtacaonlahggdeaaDoorRefs
namespace Go.Proofs.YtacaonlahggdeaaDoor
open Go.RowKit

theorem open_seal (l : List UInt8) : openOf (sealOf l) = (l, 0) := by
  have hl : (sealOf l).length = l.length + 4 := by unfold sealOf; rw [List.length_append, le_len]
  have h1 : (sealOf l).take l.length = l := List.take_left' rfl
  have h2 : (sealOf l).drop l.length = le 4 (more 0 l) := List.drop_left' rfl
  unfold openOf
  rw [if_neg (by omega), hl, show l.length + 4 - 4 = l.length from by omega, h1, h2, unle_le, if_pos (Nat.mod_eq_of_lt (sum_lt l))]
theorem sum_digits : more 0 [49, 50, 51, 52, 53, 54, 55, 56, 57] = 3808858755 := by kernel_rfl

end Go.Proofs.YtacaonlahggdeaaDoor
