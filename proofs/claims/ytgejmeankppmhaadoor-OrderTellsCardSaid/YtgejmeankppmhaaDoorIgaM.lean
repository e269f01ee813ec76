/- Plain: the same cells. What an image is asked: how many blocks, whether it may be. -/
import Derived.Test.YtgejmeankppmhaaDoorAsksM
import Derived.Test.YtgejmeankppmhaaDoorImvM
import Derived.Test.YtgejmeankppmhaaDoorMrtopM
namespace Go.Proofs.YtgejmeankppmhaaDoor
open Go.RowKit
set_option maxRecDepth 20000

theorem take_set {T : List Cl} {i : Nat} {p : Cl} (h : T[i]? = some p) (hT : T.length = 8) : (T.take i ++ T0.drop i).set i p = T.take (i + 1) ++ T0.drop (i + 1) := by
  have hi : i < T.length := (List.getElem?_eq_some_iff.1 h).1
  apply List.ext_getElem?
  intro j
  have hT0 : T0.length = 8 := rfl
  rw [List.getElem?_set]
  by_cases hj : i = j
  · subst hj
    rw [if_pos rfl, if_pos (by simp; omega), List.getElem?_append_left (by simp; omega), List.getElem?_take_of_lt (by omega), h]
  · rw [if_neg hj]
    by_cases h1 : j < i
    · rw [List.getElem?_append_left (by simp; omega), List.getElem?_append_left (by simp; omega), List.getElem?_take_of_lt h1, List.getElem?_take_of_lt (by omega)]
    · rw [List.getElem?_append_right (by simp; omega), List.getElem?_append_right (by simp; omega), List.getElem?_drop, List.getElem?_drop]
      congr 1
      simp
      omega
theorem t0_get (i : Nat) (hi : i < 8) (T : List Cl) (hT : T.length = 8) : (T.take i ++ T0.drop i)[i]? = some (0, 0) := by
  rw [List.getElem?_append_right (by simp; omega), List.getElem?_drop]
  have e : i + (i - (T.take i).length) = i := by simp; omega
  rw [e]
  unfold T0
  rw [List.getElem?_replicate, if_pos hi]

set_option maxHeartbeats 1000000 in
theorem plain_any (T : List Cl) (w : World) (hT : Tok T) :
    Calls Tryd.prog 32 #[tbv T] w fun e w' => e = .returned (tbv T) ∧ Below w.heap.size w w' := by
  have HT := Lib.hid hT.1
  clear hT
  go_enter Tryd.func32, Tryd.ntmps32
  go_wp2_with (first
    | (refine wpL_tbox rfl (.tmp 0) rfl rfl ?_; intro W0 b1 hN; obtain ⟨hb1, hr1, hl1, hz1⟩ := hN)
    | (refine tabB.wpNew (o := ⟨some 2, _, _, _, _, _⟩) rfl rfl ?_; intro W1 b2 hN; obtain ⟨hb2, hr2, hl2, hz2⟩ := hN
       have h12 := Lib.hid (row_below hr1.out hl2)
       have lt2 : b1 < b2 := by have := hb2.out; have := hz1.out; omega)
    | (refine tabB.wpNew (o := ⟨some 3, _, _, _, _, _⟩) rfl rfl ?_; intro W2 b3 hN; obtain ⟨hb3, hr3, hl3, hz3⟩ := hN
       have h13 := Lib.hid (row_below h12.out hl3)
       have h23 := Lib.hid (row_below hr2.out hl3)
       have lt3 : b2 < b3 := by have := hb3.out; have := hz2.out; omega)
    | fail)
  have hlow : Below w.heap.size w W2 := (hl1.trans (hl2.mono hl1.size)).trans (hl3.mono (Nat.le_trans hl1.size hl2.size))
  have hle1 : w.heap.size ≤ b1 := Nat.le_of_eq hb1.out.symm
  go_loopw [5] (fun ir wr => ∃ i : Nat, i ≤ 8 ∧ ir = .int .i64 (i : Int) ∧ Hid (wr.heap[b1]? = some (.cells (tcells T).toArray 30 (0, 0))) ∧ Hid (wr.heap[b2]? = some (.cells (tcells T0).toArray 49 (0, 0))) ∧ Hid (wr.heap[b3]? = some (.cells (tcells (T.take i ++ T0.drop i)).toArray 49 (0, 0))) ∧ Hid (Below w.heap.size w wr)) (fun ir _ => 8 - (intOf ir).toNat)
  case atStart => exact ⟨0, Nat.zero_le _, rfl, h13, h23, hr3, Lib.hid hlow⟩
  case round =>
    obtain ⟨i, hi, rfl, R1, R2, R3, RB⟩ := hrel
    by_cases hlt : i < 8
    · obtain ⟨p, hp⟩ : ∃ p, T[i]? = some p := ⟨_, List.getElem?_eq_getElem (by have := HT.out; omega)⟩
      obtain ⟨g0, g1⟩ := tcells_get T i p hp
      obtain ⟨z0, z1⟩ := tcells_get _ i _ (t0_get i hlt T HT.out)
      have c0 : wr.cell? ⟨b1, i * 2, none⟩ = some (.int .u64 (p.1 : Int)) := by rw [cell_of_row wr b1 _ _ _ _ R1.out]; simpa using g0
      have c1 : wr.cell? ⟨b1, i * 2 + 1, none⟩ = some (.int .u16 (p.2 : Int)) := by rw [cell_of_row wr b1 _ _ _ _ R1.out]; simpa using g1
      have d0 : wr.cell? ⟨b3, i * 2, none⟩ = some (.int .u64 (0 : Int)) := by rw [cell_of_row wr b3 _ _ _ _ R3.out]; simpa using z0
      have d1 : wr.cell? ⟨b3, i * 2 + 1, none⟩ = some (.int .u16 (0 : Int)) := by rw [cell_of_row wr b3 _ _ _ _ R3.out]; simpa using z1
      have f0 := frozen_of_row wr b3 (i * 2) _ _ R3.out
      have f1 := frozen_of_row wr b3 (i * 2 + 1) _ _ R3.out
      have hset := take_set hp HT.out
      have HP := Lib.hid hp
      have HSET := Lib.hid hset
      have hput : ((wr.setCell ⟨b3, i * 2, none⟩ (.int .u64 (p.1 : Int))).setCell ⟨b3, i * 2 + 1, none⟩ (.int .u16 (p.2 : Int))).heap[b3]? = some (.cells (tcells (T.take (i + 1) ++ T0.drop (i + 1))).toArray 49 (0, 0)) := by
        rw [heap_setCell_same _ b3 _ _ _ _ (heap_setCell_same wr b3 _ _ _ _ R3.out), ← hset, ← tcells_set]
        simp
      have HPUT := Lib.hid hput
      clear g0 g1 z0 z1 hp hset hput
      go_wp2
      go_roundw
      case rel =>
        refine ⟨i + 1, by omega, by go_num, Lib.hid ?_, Lib.hid ?_, HPUT, Lib.hid ?_⟩
        · exact (heap_setCell_other _ _ _ _ (by simp; omega)).trans ((heap_setCell_other _ _ _ _ (by simp; omega)).trans R1.out)
        · exact (heap_setCell_other _ _ _ _ (by simp; omega)).trans ((heap_setCell_other _ _ _ _ (by simp; omega)).trans R2.out)
        · exact (RB.out.setCell (p := ⟨b3, i * 2, none⟩) (by simp; omega) _).setCell (p := ⟨b3, i * 2 + 1, none⟩) (by simp; omega) _
      case measure => simp [intOf]; omega
    · obtain rfl : i = 8 := by omega
      have hT8 : T.take 8 ++ T0.drop 8 = T := by rw [List.take_of_length_le (by rw [HT.out]; exact Nat.le_refl _)]; simp [T0]
      have r3 := R3.out
      rw [hT8] at r3
      have R3' := Lib.hid r3
      clear r3 hT8 R3
      go_wp2_with (first
        | (refine tabB.wpLoad (o := ⟨some 14, _, _, _, _, _⟩) rfl (.tmp 3) rfl rfl R3'.out HT.out ?_)
        | (refine tabB.wpStore rfl (.tmp 2) (.tmp 14) rfl rfl rfl R2.out rfl HT.out ?_; intro W9 hr9 hg9 hz9)
        | fail)
      refine bodyPost_ret (results_cell_row rfl _ _ b2 49 _ (0, 0) _ rfl hr9.out Tryd.underlying49 rfl (by rw [tabB.size]; simp [tcells_len, HT.out])) rfl ⟨rfl, RB.out.grown hg9 RB.out.size (fun k e => by cases e; omega)⟩

end Go.Proofs.YtgejmeankppmhaaDoor

namespace Go.Proofs.YtgejmeankppmhaaDoor
open Go.RowKit
set_option maxRecDepth 20000

theorem icell0 {w : World} {b : Nat} {t : TypeId} {fr : Nat × Nat} {i : Im} (h : w.heap[b]? = some (.cells (icells i).toArray t fr)) : w.cell? ⟨b, 0, none⟩ = some (.int .u64 (i.L : Int)) := by rw [cell_of_row w b 0 _ _ _ h]; rfl
theorem icell1 {w : World} {b : Nat} {t : TypeId} {fr : Nat × Nat} {i : Im} (h : w.heap[b]? = some (.cells (icells i).toArray t fr)) : w.cell? ⟨b, 1, none⟩ = some (.int .u64 (i.B : Int)) := by rw [cell_of_row w b 1 _ _ _ h]; rfl
theorem icell2 {w : World} {b : Nat} {t : TypeId} {fr : Nat × Nat} {i : Im} (h : w.heap[b]? = some (.cells (icells i).toArray t fr)) : w.cell? ⟨b, 2, none⟩ = some (.string (str i.l)) := by rw [cell_of_row w b 2 _ _ _ h]; rfl
theorem ret_i64 {a b : Int} (h : a = b) : Ending.returned (.int .i64 a) = .returned (.int .i64 b) := by rw [h]
theorem ret_u32 {a b : Int} (h : a = b) : Ending.returned (.int .u32 a) = .returned (.int .u32 b) := by rw [h]
theorem ret_str {a b : List UInt8} (h : a = b) : Ending.returned (.string (str a)) = .returned (.string (str b)) := by rw [h]
theorem below_row {N : Nat} {w w' : World} (hb : Below N w w') {b : Nat} {o : Obj} (h : w.heap[b]? = some o) (hN : b < N) : w'.heap[b]? = some o := (hb.block b hN).trans h

theorem count_any (i : Im) (w : World) (hl : i.l.length ≤ 100000) :
    Calls Tryd.prog 45 #[imv i] w fun e w' => e = .returned (.int .u32 ((i.l.length / 8 : Nat) : Int)) ∧ Below w.heap.size w w' := by
  have hs : (str i.l).size = i.l.length := rfl
  have hw : IntKind.u32.wrap ((i.l.length : Int) / 8) = ((i.l.length / 8 : Nat) : Int) := by rw [IntKind.wrap_u32]; omega
  go_enter Tryd.func45, Tryd.ntmps45
  go_wp2_with (first
    | (refine wpL_rbox (cs := icells i) rfl (.tmp 0) rfl rfl ?_; intro W b hN; obtain ⟨hb, hr, hl1, hz⟩ := hN; have c2 := icell2 hr.out)
    | fail)
  go_ret
  exact ⟨ret_u32 (by omega), hl1⟩
theorem isize_any (n : Nat) (w : World) (hn : n < 4294967296) :
    Calls Tryd.prog 46 #[.int .u32 (n : Int)] w fun e w' => e = .returned (.int .i64 ((n * 8 : Nat) : Int)) ∧ Below w.heap.size w w' := by
  go_enter Tryd.func46, Tryd.ntmps46
  go_wp2
  go_ret
  exact ⟨ret_i64 (by omega), Below.refl _ _⟩

theorem szB_no {l : List UInt8} {n : Nat} (hn : n = l.length / 8) (h : ¬ (1 ≤ n ∧ n ≤ 64 ∧ l.length = n * 8)) : szB l = false := by
  unfold szB
  simp only [decide_eq_false_iff_not]
  omega
theorem szB_yes {l : List UInt8} {n : Nat} (hn : n = l.length / 8) (h : 1 ≤ n ∧ n ≤ 64 ∧ l.length = n * 8) : szB l = true := by
  unfold szB
  simp only [decide_eq_true_eq]
  omega
end Go.Proofs.YtgejmeankppmhaaDoor
