/- The chapter's example of layer 5. -/
import Derived.Test.YtccfiblkgngecaaFpure
namespace Go.Proofs.Ytccfiblkgngecaa
open Go.RowKit

set_option maxHeartbeats 1000000 in
set_option maxRecDepth 8000 in
theorem flives (w : World) : Calls Try.prog 7 #[] w fun e w' => e = .returned (.bool true) ∧ Below w.heap.size w w' := by
  have hM := fun (A : Option Addr) (c : Nat) (w : World) (h : Rd w w.heap.size 1 A 2 c (u8s [97, 98])) => make_good 7 A 2 c [97, 98] w h (by omega) (by omega) (by omega)
  have hR := fun (A : Option Addr) (n c : Nat) (w : World) (h : Rd w w.heap.size 1 A n c (u8s (makeOf 7 [97, 98]))) (hn : n ≤ 1000000) => read_frame A n c _ w h hn
  have hrm := read_make 7 [97, 98] [] (by decide) (by decide) (by decide)
  rw [List.append_nil] at hrm
  rw [hrm] at hR
  have hs : sectorsOf (([97, 98] : List UInt8).length : Int) = 1 := by decide
  rw [hs] at hM
  have HM := Lib.hid hM
  have HR := Lib.hid hR
  have s40 : sectorsOf 40 = 1 := by decide
  have s41 : sectorsOf 41 = 2 := by decide
  have h40 := fun w => sectors_any 40 w (by decide)
  have h41 := fun w => sectors_any 41 w (by decide)
  rw [s40] at h40
  rw [s41] at h41
  have H40 := Lib.hid h40
  have H41 := Lib.hid h41
  clear hM hR hrm hs s40 s41 h40 h41
  have q : ((str [97, 98]).toList == [97, 98]) = true := by rw [show (str [97, 98]).toList = [97, 98] from ByteArray.toList_mk _]; rfl
  have kc := fun (w : World) (C : Array Value) (n c : Nat) => Lib.run_convert_bytes_const (P := Try.prog) w 23 5 C n c Try.underlying23 Try.underlying5
  go_enter Try.func7, Try.ntmps7
  go_wp2_with (first
    | (go_at_call 8; refine (HM.out _ _ _ (Rd.lit w #[.int .u8 97, .int .u8 98] _ rfl (by unfold maxLen; omega) (by simp))).mono ?_; rintro e w1 ⟨v1, rfl, hown1, hb1⟩
       obtain ⟨A1, c1, rfl⟩ := ownsRow_form hown1
       have hr1 := ownsRow_rd hown1)
    | (go_at_call 12; refine (HR.out _ _ _ _ hr1 (by omega)).mono ?_; rintro e w2 ⟨A2, n2, c2, rfl, rfl, hr2, hb2⟩
       have hr2 : Rd w2 w2.heap.size 1 A2 2 c2 (u8s [97, 98]) := hr2
       have F3 := run_str (P := Try.prog) Try.underlying23 Try.underlying5 Try.underlying9 hr2)
    | (go_at_call 10; first
        | (with_reducible refine (H40.out _).mono ?_; rintro e w0 ⟨rfl, rfl⟩)
        | (with_reducible refine (H41.out _).mono ?_; rintro e w0 ⟨rfl, rfl⟩))
    | fail)
  go_ret
  have h1 : Below w.heap.size w w1 := ((Below.refl _ _).alloc (Nat.le_refl _) _).trans (hb1.mono (by simp))
  exact ⟨rfl, h1.trans (hb2.mono h1.size)⟩

end Go.Proofs.Ytccfiblkgngecaa
