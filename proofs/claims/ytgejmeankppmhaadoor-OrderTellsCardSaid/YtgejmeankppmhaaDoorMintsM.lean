/- What the listed table holds when a call begins. The contract of Ints, of lists that are the same. -/
import Derived.Test.YtgejmeankppmhaaDoorBoxM
import Derived.Test.YtgejmeankppmhaaDoorRowkitM
import Derived.LaidMore
import Derived.OpenShut
import Derived.Stop.Joined
import Derived.Test.YtgejmeankppmhaaDoorMarksM
namespace Go.Proofs.YtgejmeankppmhaaDoor
open Go.ChangeShapes Go.WideShapes Go.ChangeAt Go.WideElems Go.RowKit

abbrev laidL : List (String × DataW Unit) := Rows.orderTellsRow.laid
def tabName : String := (laidL.map (·.1)).headD ""
theorem gTab : Tryd.prog.globalNamed tabName = some 0 := by kernel_rfl
theorem tTab : (Tryd.prog.globals[0]?).map (·.type) = some 122 := by kernel_rfl
theorem c5 : Tryd.prog.cellsOf 5 = 1 := by kernel_rfl

theorem of_laid {W : World} (h : laidMetH Tryd.prog laidL W) : Tab W := by
  rw [MakeChecks.laidMetH_plain _ _ _ (by kernel_rfl)] at h
  obtain ⟨ps, ⟨g0, t0, cs0, f0, p0, q0, hg0, ht0, hv0, hd0, _, _⟩, _, _⟩ := h
  obtain rfl := Option.some.inj (gTab.symm.trans hg0)
  obtain rfl := Option.some.inj (tTab.symm.trans ht0)
  obtain ⟨xs, m1, rfl, hx1, hlen, hn3, hel⟩ := DataW.trod_array Tryd.underlying122 hd0
  have hl : (Rows.laid_math_bits_deBruijn64tab : DataW Unit) = .agg (Lib.deBruijn64tab.map fun n => .lit (.int .u8 ((n : Nat) : Int))) := by kernel_rfl
  have ht64 : Lib.deBruijn64tab.length = 64 := by decide
  rw [hl] at hx1
  simp only [Prod.mk.injEq, DataW.agg.injEq] at hx1
  have key : ∀ j, j < 64 → W.cell? ⟨0, j, none⟩ = some (.int .u8 ((Lib.deBruijn64tab.getD j 0 : Nat) : Int)) := by
    intro j hj
    have h1 := hel j hj
    rw [c5, Nat.mul_one] at h1
    have hxj : xs[j]? = some xs[j] := List.getElem?_eq_getElem (by omega)
    obtain ⟨k, e1, e2, _⟩ := DataW.trod_int Tryd.underlying5 (h1.trans hxj)
    have hm : (xs.map (·.1))[j]? = some (.lit (.int .u8 ((Lib.deBruijn64tab.getD j 0 : Nat) : Int))) := by
      rw [← hx1.1, List.getElem?_map, List.getElem?_eq_getElem (by omega)]
      simp [List.getD, List.getElem?_eq_getElem (show j < Lib.deBruijn64tab.length by omega)]
    rw [List.getElem?_map, hxj, Option.map_some, e2] at hm
    simp only [Option.some.injEq, DataW.lit.injEq, Lit.int.injEq, true_and] at hm
    rw [World.var?_cell gTab hv0 j]
    have h2 : (List.take 1 (List.drop j cs0.toList))[0]? = some (.int .u8 k) := by rw [e1]; rfl
    rw [List.getElem?_take_of_lt (by decide), List.getElem?_drop, Nat.add_zero, Array.getElem?_toList] at h2
    rw [h2, hm]
  exact ⟨by simpa using World.block_lt_of_cell? W _ (key 0 (by decide)), key⟩

/-- The heap that the variables' own initialisers leave meets the condition. -/
theorem door_met (os : Os) (args : Array Value) : laidMetH Tryd.prog laidL ((World.doorLaid Tryd.prog 400 os).forCall (fun _ _ => 0) ⟨#[], args, []⟩).memory :=
  laidMetH_of_parts3 (fuel := 8) (laidMet_of_run' 8 (by kernel_rfl) (by kernel_rfl)) (by kernel_rfl) (by kernel_rfl)

theorem wf_u64 {x : Int} (h : (Lit.int .u64 x).wf = true) : ∃ n : Nat, x = (n : Int) ∧ n < 18446744073709551616 := by
  simp [Lit.wf, IntKind.min, IntKind.max, IntKind.signed, IntKind.bits] at h
  exact ⟨x.toNat, by omega, by omega⟩

end Go.Proofs.YtgejmeankppmhaaDoor

namespace Go.Proofs.YtgejmeankppmhaaDoor
open Go.RowKit

theorem ints_any (A B : Option Addr) (n c c' : Nat) (L : List Nat) (w : World) (hn : L.length = n) (hA : Rd w w.heap.size 1 A n c (u64s L)) (hB : Rd w w.heap.size 1 B n c' (u64s L)) :
    Calls Tryd.prog 14 #[.slice A n c, .slice B n c'] w fun e w' => e = .returned (.bool true) ∧ Below w.heap.size w w' := by
  have hnc := hA.1
  have hcm := hA.2.1
  have hnc' := hB.1
  have hcm' := hB.2.1
  unfold maxLen at hcm hcm'
  have HN := Lib.hid hn
  clear hn
  have qn : ((n : Int) != (n : Int)) = false := bne_self_eq_false _
  go_enter Tryd.func14, Tryd.ntmps14
  go_wp2
  go_loopw [13] (fun ir wr => ∃ i : Nat, i ≤ n ∧ ir = .int .i64 i ∧ Hid (Below w.heap.size w wr)) (fun ir _ => n - (intOf ir).toNat)
  case atStart => exact ⟨0, Nat.zero_le _, rfl, Lib.hid (Below.refl _ _)⟩
  case round =>
    obtain ⟨i, hi, rfl, HBl⟩ := hrel
    by_cases hlt : i < n
    · obtain ⟨x, hx⟩ : ∃ x, L[i]? = some x := ⟨L[i]'(by rw [HN.out]; exact hlt), List.getElem?_eq_getElem _⟩
      obtain ⟨b1, o1, rfl, hb1, hc1⟩ := hA.2.2.2 (by omega)
      obtain ⟨b2, o2, rfl, hb2, hc2⟩ := hB.2.2.2 (by omega)
      have e1 : ∀ z, Below w.heap.size w z → z.cell? ⟨b1, o1 + i, none⟩ = some (.int .u64 (x : Int)) := fun z hz => kept hz (hc1 i _ (by simp [u64s, hx])) hb1
      have e2 : ∀ z, Below w.heap.size w z → z.cell? ⟨b2, o2 + i, none⟩ = some (.int .u64 (x : Int)) := fun z hz => kept hz (hc2 i _ (by simp [u64s, hx])) hb2
      have E1 := Lib.hid e1
      have E2 := Lib.hid e2
      have qf : ((x : Int) != (x : Int)) = false := bne_self_eq_false _
      clear e1 e2 hc1 hc2 hx hA hB
      have HBd := Lib.hid HBl.out.drew
      go_wp2
      refine wp_segs [] [0, 1, 2, 3, 4, 5, 6, 7, 8] (fun x => Below w.heap.size w x) (by kernel_rfl) (by kernel_rfl) (fun d _ _ _ _ h => by cases d <;> exact h) HBd.out ?_
      intro q hq
      have d0 := fun z => E1.out _ (hq z)
      have d1 := fun z => E2.out _ (hq z)
      simp only [pickI, Option.toList_some, List.cons_append, List.nil_append, List.getElem?_toArray, List.getElem?_cons_succ, List.getElem?_cons_zero]
      repeat (go_big_quiet_step (fail))
      refine wpQuiet_nil ?_
      clear d0 d1 hq q
      go_wp2
      go_roundw
      case rel => exact ⟨i + 1, by omega, by go_num, HBd⟩
      case measure => simp [intOf]; omega
    · go_wp2
      go_ret
      exact ⟨rfl, HBl.out⟩

end Go.Proofs.YtgejmeankppmhaaDoor
