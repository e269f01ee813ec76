/- The reference's Sure. -/
import Derived.Test.YtkcpldkdnnhmmaaRd
namespace Go.Proofs.Ytkcpldkdnnhmmaa
open Go.RowKit
set_option maxRecDepth 20000

/-- What was put down of the first j nodes. -/
def atl (t : Dk) (j : Nat) : List Nat := (List.range 64).map fun k => if k < j then t.at_ k else 0
theorem atl_len (t : Dk) (j : Nat) : (atl t j).length = 64 := by unfold atl; simp
theorem atl_get (t : Dk) (j k : Nat) (hk : k < 64) : (atl t j)[k]? = some (if k < j then t.at_ k else 0) := by
  unfold atl
  rw [List.getElem?_map, List.getElem?_range hk]
  rfl
theorem atl_zero (t : Dk) : atl t 0 = List.replicate 64 0 := by
  apply List.ext_getElem?
  intro k
  by_cases hk : k < 64
  · rw [atl_get t 0 k hk, List.getElem?_replicate, if_pos hk]
    simp
  · rw [List.getElem?_eq_none (by rw [atl_len]; omega), List.getElem?_eq_none (by simp; omega)]
theorem atl_set (t : Dk) (j : Nat) (_ : j < 64) : (atl t j).set j (t.at_ j) = atl t (j + 1) := by
  apply List.ext_getElem?
  intro k
  by_cases hk : k < 64
  · rw [List.getElem?_set, atl_get t (j + 1) k hk, atl_len]
    by_cases he : j = k
    · subst he
      simp [hk]
    · rw [if_neg he, atl_get t j k hk]
      have : (k < j + 1) = (k < j) := by simp only [eq_iff_iff]; omega
      simp only [this]
  · rw [List.getElem?_eq_none (by rw [List.length_set, atl_len]; omega), List.getElem?_eq_none (by rw [atl_len]; omega)]
theorem nset_succ (j : Nat) : nset j + 2 ^ j = nset (j + 1) := by
  unfold nset
  have := Nat.two_pow_pos j
  rw [Nat.pow_succ]
  omega
/-- The row that is filled. -/
structure ARow (w : World) (p : Nat) (l : List Nat) (wr : World) : Prop where
  row : wr.heap[p]? = some (.cells (u64s l).toArray 29 (0, 0))
  lo : w.heap.size ≤ p
  bel : Below w.heap.size w wr
theorem ARow.set {w wr : World} {p : Nat} {l : List Nat} (h : ARow w p l wr) (j x : Nat) : ARow w p (l.set j x) (wr.setCell ⟨p, j, none⟩ (.int .u64 (x : Int))) := by
  refine ⟨?_, h.lo, h.bel.trans ((Keeps.set wr p j _).below h.bel.size (fun i e => by rw [e]; exact h.lo))⟩
  rw [heap_setCell_same wr p j _ _ _ h.row, List.setIfInBounds_toArray]
  unfold u64s
  rw [List.map_set]
theorem ARow.cell {w wr : World} {p : Nat} {l : List Nat} (h : ARow w p l wr) {j : Nat} (hj : j < l.length) : wr.cell? ⟨p, j, none⟩ = some (.int .u64 ((l.getD j 0 : Nat) : Int)) := by
  rw [cell_of_row wr p j _ _ _ h.row, List.getElem?_toArray]
  unfold u64s
  rw [List.getElem?_map, List.getElem?_eq_getElem hj, List.getD, List.getElem?_eq_getElem hj]
  rfl
theorem rsure_same (t : Dk) (h : t.Ok) : Qu.bestOf ((Qu.memb (nset t.n)).map fun k => if k < t.n then t.at_ k else 0) ((Qu.memb (nset t.n)).map fun k => if k < t.n then t.at_ k else 0) = t.sure := by
  have e : ((Qu.memb (nset t.n)).map fun k => if k < t.n then t.at_ k else 0) = (Qu.memb (nset t.n)).map t.at_ := by
    refine List.map_congr_left fun k hk => ?_
    rw [nset_memb h.n7] at hk
    rw [if_pos (List.mem_range.1 hk)]
  rw [e]
  rfl
set_option maxHeartbeats 4000000 in
theorem rsure_any {w : World} {B g hg : Nat} {v : Value} {t : Dk} (h : Rg w B g hg v t) : Calls Try.prog 16 #[.pointer (some ⟨g, 0, none⟩)] w fun e w' => e = .returned (.int .u64 (t.sure : Int)) ∧ Below w.heap.size w w' := by
  have HH := Lib.hid h
  have h7 := h.ok.n7
  have hsf := h.ok.sf
  have HRS := Lib.hid (rsure_same t h.ok)
  have hlt := nset_lt h7
  have HNS := Lib.hid hlt
  clear h hlt
  go_enter Try.func16, Try.ntmps16
  go_wp2_with (first
    | (at_make; refine wpL_make rfl _ _ _ rfl (base := w.heap.size) E_u64 64 rfl rfl (by omega) (by omega) (by omega) (by unfold maxLen; omega) (Nat.le_refl _) ?_; intro w2 hown2 hg2
       rw [made64', ← atl_zero t] at hown2
       have HA2 : Hid (ARow w w.heap.size (atl t 0) w2) := Lib.hid ⟨(own_full hown2).1, Nat.le_refl _, (Below.refl w.heap.size w).grown hg2 (Nat.le_refl _) (fun _ e => by cases e)⟩
       clear hown2 hg2)
    | fail)
  obtain ⟨p, hp⟩ : ∃ p, p = w.heap.size := ⟨_, rfl⟩
  rw [← hp] at HA2
  rw [← hp]
  have HP := Lib.hid hp
  clear hp
  go_loopw [4, 5, 6] (fun ar ur nr wr => ∃ j : Nat, j ≤ t.n ∧ ar = .int .u64 (nset j : Int) ∧ ur = .int .u64 ((2 ^ j : Nat) : Int) ∧ nr = .int .i64 (j : Int) ∧ Hid (ARow w p (atl t j) wr)) (fun _ _ nr _ => t.n - (intOf nr).toNat)
  case atStart => exact ⟨0, Nat.zero_le _, rfl, rfl, rfl, HA2⟩
  case round =>
    clear HA2
    obtain ⟨j, hj, rfl, rfl, rfl, HA⟩ := hrel
    have r0 := (HH.out.below HA.out.bel).c0
    have hji : (j : Int) ≤ 7 := by omega
    have hni : (t.n : Int) ≤ 7 := by omega
    by_cases hjn : j < t.n
    · have hj7 : j < 7 := by omega
      have r1 := (HH.out.below HA.out.bel).c1
      have r3 := (HH.out.below HA.out.bel).c3
      have r4 := (HH.out.below HA.out.bel).c4
      have rh := (HH.out.below HA.out.bel).ch hj7
      have hj64 : (j : Int) < 64 := by omega
      have hj63 : (j : Int) ≤ 63 := by omega
      have djn : decide ((j : Int) < (t.n : Int)) = true := by simp; omega
      have djp : (j : Int) < (t.n : Int) := by omega
      have ac := HA.out.cell (j := j) (by rw [atl_len]; omega)
      have af := frozen_of_row wr p j _ _ HA.out.row
      have hs1 := HA.out.set j (t.h.getD j 0)
      have hU := Nat.pow_le_pow_right (n := 2) (by decide) (show j ≤ 6 by omega)
      have hN1 := nset_succ j
      have hN2 : nset j < 128 := nset_lt (by omega)
      have hP1 : 2 * 2 ^ j = 2 ^ (j + 1) := by rw [Nat.pow_succ]; omega
      have HN1 := Lib.hid hN1
      have HP1 := Lib.hid hP1
      have HAT := Lib.hid (show t.at_ j = if j = t.self then t.round else t.h.getD j 0 from rfl)
      have HSET := Lib.hid (atl_set t j (by omega))
      have HLEN := Lib.hid (atl_len t j)
      have HJN := Lib.hid hjn
      clear hN1 hP1
      generalize nset j = A at *
      have HQ1 := Lib.hid (show (A : Int) + ((2 ^ j : Nat) : Int) = (nset (j + 1) : Int) by rw [← HN1.out]; rfl)
      have HQ2 := Lib.hid (show 2 * ((2 ^ j : Nat) : Int) = ((2 ^ (j + 1) : Nat) : Int) by rw [← HP1.out]; rfl)
      have hUi : ((2 ^ j : Nat) : Int) ≤ 64 := by omega
      generalize 2 ^ j = U at *
      generalize t.h.getD j 0 = hv at *
      by_cases hs : j = t.self
      · have HY := Lib.hid (HAT.out.trans (if_pos hs))
        have hs2 := hs1.set j t.round
        rw [List.set_set, ← HY.out, HSET.out] at hs2
        have HS2 := Lib.hid hs2
        have bc := hs1.cell (j := j) (by rw [List.length_set, HLEN.out]; omega)
        have bf := frozen_of_row _ p j _ _ hs1.row
        have s1 := (HH.out.below hs1.bel).c1
        have s3 := (HH.out.below hs1.bel).c3
        have s0 := (HH.out.below hs1.bel).c0
        rw [HY.out] at HS2
        clear hs2 hs1 hjn HAT HY
        subst hs
        clear HSET HLEN
        go_wp2_with (fail)
        have hjn := HJN.out
        refine ⟨⟨t.self + 1, by omega, congrArg _ HQ1.out, congrArg _ HQ2.out, by go_num, HS2⟩, by simp [intOf]; omega⟩
      · have HY := Lib.hid (HAT.out.trans (if_neg hs))
        have dsp : ¬ (j : Int) = (t.self : Int) := by omega
        have dsd : decide ((j : Int) = (t.self : Int)) = false := by simpa using dsp
        have s1 := (HH.out.below hs1.bel).c1
        have s0 := (HH.out.below hs1.bel).c0
        rw [← HY.out, HSET.out] at hs1
        have HS2 := Lib.hid hs1
        rw [HY.out] at HS2
        clear hs1 hs hjn HAT HY HSET HLEN
        go_wp2_with (fail)
        have hjn := HJN.out
        refine ⟨⟨j + 1, by omega, congrArg _ HQ1.out, congrArg _ HQ2.out, by go_num, HS2⟩, by simp [intOf]; omega⟩
    · obtain rfl : j = t.n := by omega
      have djp : ¬ (t.n : Int) < (t.n : Int) := by omega
      have hat : Qu.At64 wr p (fun k => if k < t.n then t.at_ k else 0) := ⟨(Array.getElem?_eq_some_iff.1 HA.out.row).1, fun k hk => by
        rw [HA.out.cell (by rw [atl_len]; exact hk), List.getD, atl_get t t.n k hk]
        rfl⟩
      have hl := Qu.rleast_any (nset t.n) (by have := HNS.out; omega) hat
      rw [HRS.out] at hl
      have HLS := Lib.hid hl
      clear hat hl hjn
      go_wp2_with (first
        | (go_at_call 30; refine HLS.out.mono ?_; rintro e w3 ⟨rfl, hb3⟩)
        | fail)
      go_ret
      exact ⟨rfl, HA.out.bel.trans (hb3.mono HA.out.bel.size)⟩
end Go.Proofs.Ytkcpldkdnnhmmaa
