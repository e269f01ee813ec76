/- The chapter's example; a window that no call made. -/
import Derived.Test.YtjhakplaffgkpaaDoorWrefM
namespace Go.Proofs.YtjhakplaffgkpaaDoor
open Go.RowKit
set_option maxRecDepth 20000

def tL : Wv := ((W0 3 5).ack 0 7).ack 2 7
theorem tL_err : (W0 3 5).err 0 7 = 0 ∧ ((W0 3 5).ack 0 7).err 2 7 = 0 := by decide
theorem tL_who : tL.who 7 = 5 := by decide
theorem tL_com : tL.com = (5, 2) := by decide +kernel
theorem lives21_any (w : World) (hT : Tab w) : Calls Tryd.prog 7 #[] w fun e w' => e = .returned (.bool true) ∧ Below w.heap.size w w' := by
  have hN := Lib.hid (new_any 3 5 w (by decide) (by decide) (by decide))
  have HT := Lib.hid hT
  have HE := Lib.hid tL_err
  have HC := Lib.hid tL_com
  have HW := Lib.hid tL_who
  clear hT
  go_enter Tryd.func7, Tryd.ntmps7
  go_wp2_with (fail)
  refine hN.out.mono ?_
  rintro e w1 ⟨g, b, rfl, hg, hb, h1, hb1⟩
  have H1 := Lib.hid h1
  have HB1 := Lib.hid hb1
  have hA := Lib.hid (ack_any h1 (by decide) 0 7 (by decide))
  have HG := Lib.hid (And.intro hg hb)
  clear hN h1 hb1 hg hb
  go_wp2_with (fail)
  refine hA.out.mono ?_
  rintro e w2 ⟨rfl, h2, hk2⟩
  rw [HE.out.1]
  have H2 := Lib.hid h2
  have HK2 := Lib.hid hk2
  have hA2 := Lib.hid (ack_any h2 (by decide) 2 7 (by decide))
  clear hA h2 hk2
  go_wp2_with (fail)
  refine hA2.out.mono ?_
  rintro e w3 ⟨rfl, h3, hk3⟩
  rw [HE.out.2]
  have hk : Keeps (fun i => i = b) w1 w3 := HK2.out.trans hk3 (fun i hi => .inl hi)
  have hb3 : Below w.heap.size w w3 := HB1.out.trans (hk.below (by have := HB1.out.size; omega) (fun i hi => by have := HG.out; omega))
  have hCm := com_any (show Wn w3 g b 2 tL from h3) (by decide) (HT.out.below hb3)
  rw [HC.out] at hCm
  have HCM := Lib.hid hCm
  have HB3 := Lib.hid hb3
  have H3 := Lib.hid (show Wn w3 g b 2 tL from h3)
  clear hA2 h3 hk3 hk hb3 hCm
  go_wp2_with (first
    | (go_at_call 15; refine HCM.out.mono ?_; clear HCM; rintro e w4 ⟨rfl, hb4⟩; have HWH := Lib.hid (who_any (H3.out.below hb4) 7 (by decide)); have HB4 := Lib.hid hb4; clear hb4; rw [HW.out] at HWH)
    | (go_at_call 13; refine HWH.out.mono ?_; clear HWH; rintro e w5 ⟨rfl, rfl⟩)
    | fail)
  go_ret
  exact ⟨rfl, HB3.out.trans (HB4.out.mono HB3.out.size)⟩
end Go.Proofs.YtjhakplaffgkpaaDoor
