/- Contracts of package span: End, Good. -/
import Derived.Test.YtpalmobmabkadaaGreatDoorDmathM
namespace Go.Proofs.YtpalmobmabkadaaGreatDoor
open Go.RowKit
set_option maxRecDepth 20000

theorem spend_any (f c : Nat) (w : World) (hf : f < 4294967296) (hc : c < 4294967296) :
    Calls Tryz.prog 85 #[.agg #[.int .u32 (f : Int), .int .u32 (c : Int)]] w fun e w' => e = .returned (.int .u64 ((f + c : Nat) : Int)) ∧ Below w.heap.size w w' := by
  go_enter Tryz.func85, Tryz.ntmps85
  go_wp2
  go_ret
  exact ⟨ret_u64 (by omega), (Below.refl _ _).alloc (Nat.le_refl _) _⟩

theorem spgood_any (f c b : Nat) (w : World) (hf : f < 4294967296) (hc : c < 4294967296) (hb : b < 4294967296) :
    Calls Tryz.prog 43 #[.agg #[.int .u32 (f : Int), .int .u32 (c : Int)], .int .u32 (b : Int)] w fun e w' => e = .returned (.bool (decide (0 < c ∧ f + c ≤ b))) ∧ Below w.heap.size w w' := by
  by_cases h1 : c = 0
  · subst h1
    go_enter Tryz.func43, Tryz.ntmps43
    go_wp2
    go_ret
    exact ⟨ret_bool (by simp), (Below.refl _ _).alloc (Nat.le_refl _) _⟩
  · have q1 : ((c : Int) != 0) = true := by simpa using h1
    go_enter Tryz.func43, Tryz.ntmps43
    go_wp2_with (go_at_call 85; refine (spend_any f c _ hf hc).mono ?_; rintro e w1 ⟨rfl, hb1⟩)
    go_ret
    exact ⟨ret_bool (decide_eq_decide.2 (by omega)), unalloc (hb1.mono (by simp)) (by simp)⟩

end Go.Proofs.YtpalmobmabkadaaGreatDoor
