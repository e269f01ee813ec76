/- The chapter's example of layer 15: its call answers true. -/
import Derived.Test.YtacaonlahggdeaaDoorIgm
import Derived.Test.YtacaonlahggdeaaDoorIgr
import Derived.Test.YtacaonlahggdeaaDoorIgc
namespace Go.Proofs.YtacaonlahggdeaaDoor
open Go.RowKit
set_option maxRecDepth 20000

def lv15 : List UInt8 := [97, 97, 97, 97, 97, 97, 97, 97, 98, 98, 98, 98, 98, 98, 98, 98]
def iv15 : Im := ⟨0, 0, lv15, T0⟩
theorem iv15_ok : iv15.ok := ⟨by decide, by decide, t0_ok⟩
theorem iv15_good : igB iv15 = true := by kernel_rfl
theorem iv15_blk1 : blk iv15 1 = [98, 98, 98, 98, 98, 98, 98, 98] := by kernel_rfl
theorem iv15_blk2 : blk iv15 2 = [] := by kernel_rfl

theorem iv15_text : ∃ S : List UInt8, S.length = 118 ∧ imk iv15 = (S, 0) ∧ ird S = (iv15, 0) := by
  have e : imk iv15 = (sealOf (body15 iv15), 0) := by unfold imk; rw [if_pos iv15_good]
  have h := read_make iv15_ok iv15_good
  rw [e] at h
  exact ⟨sealOf (body15 iv15), by rw [sealOf_len, body15_len iv15 rfl]; rfl, e, h.2⟩
theorem iv15_build (w : World) : (Instr.build 31 #[(1, .string (str lv15))]).run Tryd.prog w = .ok (imv iv15) w := buildl lv15 w
theorem iv15_all : ∃ (v : Im) (S : List UInt8), v.T.length = 8 ∧ S.length = 118 ∧ (∀ w, (Instr.build 31 #[(1, .string (str lv15))]).run Tryd.prog w = .ok (imv v) w) ∧
    (∀ W, Tab W → Calls Tryd.prog 8 #[imv v] W fun e w' => e = .returned (.tuple #[.string (str S), .int .i64 0]) ∧ Below W.heap.size W w') ∧
    (∀ W, Tab W → Calls Tryd.prog 14 #[.string (str S)] W fun e w' => e = .returned (.tuple #[imv v, .int .i64 0]) ∧ Below W.heap.size W w') ∧
    (∀ W, Calls Tryd.prog 12 #[imv v, .int .u32 1] W fun e w' => e = .returned (.string (str [98, 98, 98, 98, 98, 98, 98, 98])) ∧ Below W.heap.size W w') ∧
    (∀ W, Calls Tryd.prog 12 #[imv v, .int .u32 2] W fun e w' => e = .returned (.string (str [])) ∧ Below W.heap.size W w') := by
  obtain ⟨S, h1, h2, h3⟩ := iv15_text
  refine ⟨iv15, S, rfl, h1, iv15_build, fun W h => ?_, fun W h => ?_, fun W => ?_, fun W => ?_⟩
  · have := imake_any iv15 W iv15_ok (by show 16 ≤ 100000; omega) h
    rw [h2] at this
    exact this
  · have := iread_any S W (by omega) h
    rw [h3] at this
    exact this
  · have := iblock_any iv15 1 W rfl (by omega) (by show 16 ≤ 100000; omega)
    rw [iv15_blk1] at this
    exact this
  · have := iblock_any iv15 2 W rfl (by omega) (by show 16 ≤ 100000; omega)
    rw [iv15_blk2] at this
    exact this

end Go.Proofs.YtacaonlahggdeaaDoor
