/- The chapter's example of layer 15: its call answers true. -/
import Derived.Test.YtacaonlahggdeaaDoorLiva15
namespace Go.Proofs.YtacaonlahggdeaaDoor
open Go.RowKit
set_option maxRecDepth 20000

set_option maxHeartbeats 400000 in
theorem lives15 (w : World) (hT : Tab w) : Calls Tryd.prog 6 #[] w fun e w' => e = .returned (.bool true) ∧ Below w.heap.size w w' := by
  obtain ⟨v, S, h8v, hlen, hbl, hmk, hrd, hb1, hb2⟩ := iv15_all
  have h08 : I0.T.length = 8 := rfl
  have hS : (str S).size = 118 := hlen
  have HMK := Lib.hid hmk
  have HRD := Lib.hid hrd
  have HB1 := Lib.hid hb1
  have HB2 := Lib.hid hb2
  have HBL := Lib.hid hbl
  clear hmk hrd hb1 hb2 hbl hlen
  go_enter Tryd.func6, Tryd.ntmps6
  go_wp2_with (first
    | (refine wpL_build (by rfl) _ _ #[(1, .string (str lv15))] rfl (by simp only [List.map_toArray, List.map_cons, List.map_nil]; rfl) (imv v) HBL.out ?_)
    | (refine imA.wpNew (o := ⟨some 1, _, _, _, _, _⟩) rfl rfl ?_; intro W1 b1 hN; obtain ⟨hb1, hr1, hl1, hz1⟩ := hN)
    | (refine imA.wpStore rfl (.tmp 1) (.tmp 6) rfl rfl rfl hr1.out h08 h8v ?_; intro W2 hr2 hg2 hz2
       have HF2 := Lib.hid (hl1.grown hg2 hl1.size (fun k e => by cases e; exact Nat.le_of_eq hb1.out.symm)))
    | (refine imA.wpLoad (by rfl) (.tmp 1) (o := ⟨some 8, _, _, _, _, _⟩) rfl rfl hr2.out h8v ?_)
    | fail)
  clear hr1 hl1 hz1 hg2 hz2
  refine (HMK.out _ (hT.below HF2.out)).mono ?_
  rintro e w3 ⟨rfl, hb3⟩
  have HF3 := Lib.hid (HF2.out.trans (hb3.mono HF2.out.size))
  have R3 := Lib.hid (row_below hr2.out hb3)
  clear hr2 hb3 HF2
  go_wp2_with (fail)
  refine (HRD.out _ (hT.below HF3.out)).mono ?_
  rintro e w4 ⟨rfl, hb4⟩
  have HF4 := Lib.hid (HF3.out.trans (hb4.mono HF3.out.size))
  have R4 := Lib.hid (row_below R3.out hb4)
  clear R3 hb4 HF3
  have q1 : ((str [98, 98, 98, 98, 98, 98, 98, 98]).toList == (str [98, 98, 98, 98, 98, 98, 98, 98]).toList) = true := beq_self_eq_true _
  have q1b : (str [98, 98, 98, 98, 98, 98, 98, 98]).toList = [98, 98, 98, 98, 98, 98, 98, 98] := ByteArray.toList_mk _
  have q2b : (str []).toList = [] := ByteArray.toList_mk _
  have q2 : ((str []).toList == (str []).toList) = true := beq_self_eq_true _
  go_wp2_with (first
    | (refine imA.wpNew (o := ⟨some 4, _, _, _, _, _⟩) rfl rfl ?_; intro W5 b4 hN; obtain ⟨hb4, hr4, hl4, hz4⟩ := hN
       have R5 := Lib.hid (row_below R4.out hl4)
       have HF5 := Lib.hid (HF4.out.trans (hl4.mono HF4.out.size))
       have hne : b1 ≠ b4 := by have := (Array.getElem?_eq_some_iff.1 R4.out).1; have := hb4.out; omega
       have h4w : w.heap.size ≤ b4 := by have := hb4.out; have := HF4.out.size; omega)
    | (refine imA.wpStore rfl (.tmp 4) (.tmp 15) rfl rfl rfl hr4.out h08 h8v ?_; intro W6 hr6 hg6 hz6
       have R6 := Lib.hid (row_far R5.out hg6 (fun e => hne (Option.some.inj e)))
       have HF6 := Lib.hid (HF5.out.grown hg6 HF5.out.size (fun k e => by cases e; exact h4w))
       clear hr4 hl4 hz4 hg6 hz6 hb4)
    | (refine imA.wpLoad (by rfl) (.tmp 4) rfl rfl hr6.out h8v ?_)
    | (refine imA.wpLoad (by rfl) (.tmp 1) rfl rfl R6.out h8v ?_)
    | (refine imA.wpEql (by rfl) (.tmp 29) (.tmp 30) _ rfl rfl rfl h8v h8v (b := true) (by simp) ?_)
    | (refine imA.wpLoad (by rfl) (.tmp 4) rfl rfl hr6.out h8v ?_)
    | (refine imA.wpLoad (by rfl) (.tmp 4) rfl rfl r7.out h8v ?_)
    | (go_at_call 12; have hg7 := HF7; refine (HB2.out _).mono ?_; rintro e W8 ⟨rfl, hb8⟩; have HF8 := Lib.hid (HF7.out.trans (hb8.mono HF7.out.size)))
    | (go_at_call 12; refine (HB1.out _).mono ?_; rintro e W7 ⟨rfl, hb7⟩
       have r7 := Lib.hid (row_below hr6.out hb7)
       have HF7 := Lib.hid (HF6.out.trans (hb7.mono HF6.out.size))
       clear HB1)
    | fail)
  go_ret
  exact ⟨rfl, HF8.out⟩

end Go.Proofs.YtacaonlahggdeaaDoor
