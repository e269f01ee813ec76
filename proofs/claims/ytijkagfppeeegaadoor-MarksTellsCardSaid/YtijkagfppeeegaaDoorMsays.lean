/- Contracts of marks.says and of the closure that the law hands over. -/
import Derived.Test.YtijkagfppeeegaaDoorMrall
import Derived.Defers
import Derived.Recover
namespace Go.Proofs.YtijkagfppeeegaaDoor
open Go.RowKit

theorem tells1_any (L B n g : Nat) (w : World) (hL : L < 18446744073709551616) (hB : B < 18446744073709551616) (hn : n < 18446744073709551616) (hr : w.heap[g]? = some (.cells #[.int .u64 (L : Int), .int .u64 (B : Int)] 25 (0, 0))) :
    Calls Tryd.prog 13 #[.int .u64 (n : Int), .pointer (some ⟨g, 0, none⟩)] w fun e w' => e = .returned (.bool (Hs L B n)) ∧ Below w.heap.size w w' := by
  have hh := fun W => rhas_any L B n W hL hB hn
  have k0 := cell_of_row w _ 0 _ _ _ hr
  have k1 := cell_of_row w _ 1 _ _ _ hr
  simp at k0 k1
  clear hL hB hn
  go_enter Tryd.func13, Tryd.ntmps13
  go_wp2_with fail
  refine (hh _).mono ?_
  rintro e w1 ⟨rfl, hb1⟩
  go_wp2
  go_ret
  exact ⟨rfl, hb1⟩

theorem says1_idle (w : World) :
    CallsD Tryd.prog 36 #[] .returning w fun e u' w' => e = .returned (.tuple #[]) ∧ u' = .returning ∧ w' = w := by
  refine callsD_of_wpS Tryd.func36 rfl fun c₀ cs hu => ?_
  apply wpS_region
  simp [wpOpsS, go_sem, recoverD, hu, Tryd.ntmps36, Exit.thenS]
  cases c₀
  simp_all [bodyPostS, results, Tryd.results36]

theorem says_any (L B n g : Nat) (w : World) (hL : L < 18446744073709551616) (hB : B < 18446744073709551616) (hn : n < 18446744073709551616) (hr : w.heap[g]? = some (.cells #[.int .u64 (L : Int), .int .u64 (B : Int)] 25 (0, 0))) :
    Calls Tryd.prog 28 #[.func (.func 13) #[] #[.pointer (some ⟨g, 0, none⟩)], .int .u64 (n : Int)] w fun e w' => e = .returned (.bool (Hs L B n)) ∧ Below w.heap.size w w' := by
  have hh := fun W h => tells1_any L B n g W hL hB hn h
  clear hL hB hn
  go_enter_defers Tryd.func28, Tryd.ntmps28
  go_wp2_with fail
  refine (hh _ hr).mono ?_
  rintro e w1 ⟨rfl, hb1⟩
  go_wp2
  refine leaves_cons (f := 36) (args := #[]) (by simp) (by simp [go_sem]) ?_
  refine (says1_idle _).mono ?_
  rintro e u' w'' ⟨rfl, rfl, rfl⟩
  simp [Leaves, settle, results, Tryd.results28, go_sem]
  exact hb1

end Go.Proofs.YtijkagfppeeegaaDoor
