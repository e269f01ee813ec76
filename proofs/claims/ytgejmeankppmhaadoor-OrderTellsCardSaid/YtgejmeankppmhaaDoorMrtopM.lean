/- Contracts of package span: End, Good. Contracts of the reference's Top and Good. -/
import Derived.Test.YtgejmeankppmhaaDoorBoxM
import Derived.Test.YtgejmeankppmhaaDoorImM
import Derived.Deep.DeepCutAuto
import Derived.Deep.CutBlock
namespace Go.Proofs.YtgejmeankppmhaaDoor
open Go.RowKit

theorem spend_any (f c : Nat) (w : World) (hf : f < 4294967296) (hc : c < 4294967296) :
    Calls Tryd.prog 65 #[.agg #[.int .u32 (f : Int), .int .u32 (c : Int)]] w fun e w' => e = .returned (.int .u64 ((f + c : Nat) : Int)) ∧ Below w.heap.size w w' := by
  go_enter Tryd.func65, Tryd.ntmps65
  go_wp2
  go_ret
  exact ⟨ret_u64 (by omega), (Below.refl _ _).alloc (Nat.le_refl _) _⟩

theorem spgood_any (f c b : Nat) (w : World) (hf : f < 4294967296) (hc : c < 4294967296) (hb : b < 4294967296) :
    Calls Tryd.prog 44 #[.agg #[.int .u32 (f : Int), .int .u32 (c : Int)], .int .u32 (b : Int)] w fun e w' => e = .returned (.bool (decide (0 < c ∧ f + c ≤ b))) ∧ Below w.heap.size w w' := by
  by_cases h1 : c = 0
  · subst h1
    go_enter Tryd.func44, Tryd.ntmps44
    go_wp2
    go_ret
    exact ⟨ret_bool (by simp), (Below.refl _ _).alloc (Nat.le_refl _) _⟩
  · have q1 : ((c : Int) != 0) = true := by simpa using h1
    go_enter Tryd.func44, Tryd.ntmps44
    go_wp2_with (go_at_call 65; refine (spend_any f c _ hf hc).mono ?_; rintro e w1 ⟨rfl, hb1⟩)
    go_ret
    exact ⟨ret_bool (decide_eq_decide.2 (by omega)), unalloc (hb1.mono (by simp)) (by simp)⟩

end Go.Proofs.YtgejmeankppmhaaDoor

namespace Go.Proofs.YtgejmeankppmhaaDoor
open Go.RowKit

/-- What is known of the greatest number so far. -/
def TRel (L B k m : Nat) : Prop := L ≤ m ∧ m < L + k ∧ Hs L B m = true ∧ ∀ x, Hs L B x = true → x < L + k → x ≤ m
theorem trel_yes {L B k m : Nat} (_ : TRel L B k m) (hu : Hs L B (L + k) = true) : TRel L B (k + 1) (L + k) := ⟨by omega, by omega, hu, fun x _ hx => by omega⟩
theorem trel_no {L B k m : Nat} (h : TRel L B k m) (hu : Hs L B (L + k) = false) : TRel L B (k + 1) m := ⟨h.1, by have := h.2.1; omega, h.2.2.1, fun x hx hl => by
  by_cases e : x = L + k
  · subst e; rw [hu] at hx; cases hx
  · exact h.2.2.2 x hx (by omega)⟩
theorem trel_end {L B m : Nat} (hB : B < 18446744073709551616) (h : TRel L B 65 m) : m = top L B := by
  have h1 := hs_top L B m hB h.2.2.1
  have h2 := h.2.2.2 _ (top_hs L B hB) (by unfold top; have := bl_le B hB; omega)
  omega

end Go.Proofs.YtgejmeankppmhaaDoor
