/- The chapter's example of members. -/
import Derived.Test.YtlpckhjmbfeegaaFb
namespace Go.Proofs.Ytlpckhjmbfeegaa
open Go.RowKit
set_option maxRecDepth 20000
theorem e_turn : Qu.turnO 7 3 = (15, true) := by decide +kernel
theorem e_item : itemO 15 5 = (setIt 15 5, true) := by unfold itemO; rw [if_pos (by decide)]
theorem e_of : ofO (setIt 15 5) = (15, true) := by
  unfold ofO
  rw [show headN (setIt 15 5).tx = 15 by decide +kernel, if_pos ⟨by decide, show sameB (setIt 15 5) (setIt 15 5) = true by simp [sameB]⟩]
set_option maxHeartbeats 1000000 in
theorem lives30 (w : World) : Calls Try.prog 35 #[] w fun e w' => e = .returned (.bool true) ∧ Below w.heap.size w w' := by
  have hT := Qu.turn_any 7 3 w (by decide)
  have hI := fun W => item_any 15 5 W (by decide)
  have hO := fun W => of_any (setIt 15 5) W
  unfold Items at hI
  unfold Ofs at hO
  rw [e_turn] at hT
  rw [e_item] at hI
  rw [e_of] at hO
  dsimp only [setIt, It.cells] at hT hI hO
  rw [show ((7 : Nat) : Int) = 7 from rfl, show ((15 : Nat) : Int) = 15 from rfl] at hT
  simp only [show ((5 : Nat) : Int) = 5 from rfl, show ((15 : Nat) : Int) = 15 from rfl] at hI hO
  have HT := Lib.hid hT
  have HI := Lib.hid hI
  have HO := Lib.hid hO
  clear hT hI hO
  go_enter Try.func35, Try.ntmps35
  go_wp2_with (first
    | (go_at_call 31; refine HT.out.mono ?_; rintro e w1 ⟨rfl, hb1⟩
       have HB1 := Lib.hid hb1
       clear hb1)
    | (go_at_call 29; refine (HI.out _).mono ?_; rintro e w2 ⟨rfl, hb2⟩
       have HB2 := Lib.hid (HB1.out.trans (hb2.mono HB1.out.size))
       clear hb2)
    | (go_at_call 27; refine (HO.out _).mono ?_; rintro e w3 ⟨rfl, hb3⟩
       have hr := row_below (heap_alloc_new w2 (.cells #[.int .u64 5, .int .i64 2, .string (str (le 1 15))] 47)) hb3
       have y0 := cell_of_row _ w2.heap.size 0 _ _ _ hr
       rw [show (#[Value.int .u64 5, .int .i64 2, .string (str (le 1 15))] : Array Value)[0]? = some (.int .u64 5) from rfl] at y0
       have hb4 : Below w.heap.size w (w2.alloc (.cells #[.int .u64 5, .int .i64 2, .string (str (le 1 15))] 47)) := HB2.out.alloc HB2.out.size _
       have HB3 := Lib.hid (hb4.trans (hb3.mono hb4.size))
       clear hr hb3 hb4)
    | fail)
  go_ret
  exact ⟨rfl, HB3.out⟩
end Go.Proofs.Ytlpckhjmbfeegaa
