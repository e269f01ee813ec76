/- Contracts of told, same, Count; how many are the same. -/
import Derived.Test.YtkcpldkdnnhmmaaQa
import Derived.Defers
import Derived.Recover
namespace Go.Proofs.Ytkcpldkdnnhmmaa.Qu
open Go.RowKit

theorem told_idle (w : World) :
    CallsD Try.prog 51 #[] .returning w fun e u' w' => e = .returned (.tuple #[]) ∧ u' = .returning ∧ w' = w := by
  refine callsD_of_wpS Try.func51 rfl fun c₀ cs hu => ?_
  apply wpS_region
  simp [wpOpsS, go_sem, recoverD, hu, Try.ntmps51]
  cases c₀
  simp_all [bodyPostS, results, Try.results51]

def cnti (l : List Int) (x : Int) : Nat := l.countP fun y => y == x
theorem cnti_snoc (l : List Int) (y x : Int) : cnti (l ++ [y]) x = cnti l x + if (y == x) = true then 1 else 0 := by
  unfold cnti; rw [List.countP_append, List.countP_singleton]
theorem cnt_snoc (l : List UInt8) (y : UInt8) (x : Nat) : cnt (l ++ [y]) x = cnt l x + if (y.toNat == x) = true then 1 else 0 := by
  unfold cnt; rw [List.countP_append, List.countP_singleton]
theorem cnt_le (l : List UInt8) (x : Nat) : cnt l x ≤ l.length := List.countP_le_length
theorem cnti_le (l : List Int) (x : Int) : cnti l x ≤ l.length := List.countP_le_length
end Go.Proofs.Ytkcpldkdnnhmmaa.Qu
