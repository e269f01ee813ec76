/- The contract of Ints, of lists that are the same. -/
import Derived.Test.YtijkagfppeeegaaDoorMarks
namespace Go.Proofs.YtijkagfppeeegaaDoor
open Go.RowKit

theorem ints_any (A B : Option Addr) (n c c' : Nat) (L : List Nat) (w : World) (hn : L.length = n) (hA : Rd w w.heap.size 1 A n c (u64s L)) (hB : Rd w w.heap.size 1 B n c' (u64s L)) :
    Calls Tryd.prog 16 #[.slice A n c, .slice B n c'] w fun e w' => e = .returned (.bool true) ∧ Below w.heap.size w w' := by
  have hnc := hA.1
  have hcm := hA.2.1
  have hnc' := hB.1
  have hcm' := hB.2.1
  unfold maxLen at hcm hcm'
  have HN := Lib.hid hn
  clear hn
  have qn : ((n : Int) != (n : Int)) = false := bne_self_eq_false _
  go_enter Tryd.func16, Tryd.ntmps16
  go_wp2
  go_loopw [13] (fun ir wr => ∃ i : Nat, i ≤ n ∧ ir = .int .i64 i ∧ Hid (Below w.heap.size w wr)) (fun ir _ => n - (intOf ir).toNat)
  case atStart => exact ⟨0, Nat.zero_le _, rfl, Lib.hid (Below.refl _ _)⟩
  case round =>
    obtain ⟨i, hi, rfl, HBl⟩ := hrel
    by_cases hlt : i < n
    · obtain ⟨x, hx⟩ : ∃ x, L[i]? = some x := ⟨L[i]'(by rw [HN.out]; exact hlt), List.getElem?_eq_getElem _⟩
      obtain ⟨b1, o1, rfl, hb1, hc1⟩ := hA.2.2.2 (by omega)
      obtain ⟨b2, o2, rfl, hb2, hc2⟩ := hB.2.2.2 (by omega)
      have e1 : ∀ z, Below w.heap.size w z → z.cell? ⟨b1, o1 + i, none⟩ = some (.int .u64 (x : Int)) := fun z hz => kept hz (hc1 i _ (by simp [u64s, hx])) hb1
      have e2 : ∀ z, Below w.heap.size w z → z.cell? ⟨b2, o2 + i, none⟩ = some (.int .u64 (x : Int)) := fun z hz => kept hz (hc2 i _ (by simp [u64s, hx])) hb2
      have E1 := Lib.hid e1
      have E2 := Lib.hid e2
      have qf : ((x : Int) != (x : Int)) = false := bne_self_eq_false _
      clear e1 e2 hc1 hc2 hx hA hB
      have HBd := Lib.hid HBl.out.drew
      go_wp2
      refine wp_segs [] [0, 1, 2, 3, 4, 5, 6, 7, 8] (fun x => Below w.heap.size w x) (by kernel_rfl) (by kernel_rfl) (fun d _ _ _ _ h => by cases d <;> exact h) HBd.out ?_
      intro q hq
      have d0 := fun z => E1.out _ (hq z)
      have d1 := fun z => E2.out _ (hq z)
      simp only [pickI, Option.toList_some, List.cons_append, List.nil_append, List.getElem?_toArray, List.getElem?_cons_succ, List.getElem?_cons_zero]
      repeat (go_big_quiet_step (fail))
      refine wpQuiet_nil ?_
      clear d0 d1 hq q
      go_wp2
      go_roundw
      case rel => exact ⟨i + 1, by omega, by go_num, HBd⟩
      case measure => simp [intOf]; omega
    · go_wp2
      go_ret
      exact ⟨rfl, HBl.out⟩

end Go.Proofs.YtijkagfppeeegaaDoor
