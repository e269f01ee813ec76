/- FrameTorn, the law: what it answers at once. -/
import Derived.Test.YtbnjpbabdlhobaaFtorn
import Derived.Test.YtbnjpbabdlhobaaFlives
import Derived.Test.YtbnjpbabdlhobaaRowkit
namespace Go.Proofs.Ytbnjpbabdlhobaa
open Go.RowKit

theorem frameTorn_early (o m : Nat) (A A2 A3 : Option Addr) (n c n2 c2 n3 c3 : Nat) (w : World) (hbig : 1000 < n ∨ 1000 < n2 ∨ m ≤ o ∨ 100 < n3) :
    Calls Try.prog 6 #[.int .u64 (o : Int), .int .u64 (m : Int), .slice A n c, .slice A2 n2 c2, .slice A3 n3 c3] w fun e w' => e = .returned (.bool true) ∧ Below w.heap.size w w' := by
  by_cases h1 : 1000 < n
  · have d1 : decide (1000 < n) = true := by simpa using h1
    have h1i : (1000 : Int) < (n : Int) := by omega
    clear hbig h1
    go_enter Try.func6, Try.ntmps6
    go_wp2_with (go_at_call 7; refine (flives _).mono ?_; rintro e w6 ⟨rfl, hb6⟩)
    go_ret
    exact ⟨rfl, hb6⟩
  · have h1i : (n : Int) ≤ 1000 := by omega
    by_cases h2 : 1000 < n2
    · have h2i : (1000 : Int) < (n2 : Int) := by omega
      clear hbig h1 h2
      go_enter Try.func6, Try.ntmps6
      go_wp2_with (go_at_call 7; refine (flives _).mono ?_; rintro e w6 ⟨rfl, hb6⟩)
      go_ret
      exact ⟨rfl, hb6⟩
    · have h2i : (n2 : Int) ≤ 1000 := by omega
      by_cases h3 : m ≤ o
      · have h3i : (m : Int) ≤ (o : Int) := by omega
        clear hbig h1 h2 h3
        go_enter Try.func6, Try.ntmps6
        go_wp2_with (go_at_call 7; refine (flives _).mono ?_; rintro e w6 ⟨rfl, hb6⟩)
        go_ret
        exact ⟨rfl, hb6⟩
      · have h3i : (o : Int) < (m : Int) := by omega
        have h4i : (100 : Int) < (n3 : Int) := by omega
        clear hbig h1 h2 h3
        go_enter Try.func6, Try.ntmps6
        go_wp2_with (go_at_call 7; refine (flives _).mono ?_; rintro e w6 ⟨rfl, hb6⟩)
        go_ret
        exact ⟨rfl, hb6⟩

end Go.Proofs.Ytbnjpbabdlhobaa
