/- A twin: the better one of two places. -/
import Derived.Test.YtddnjlnhnnpgiaaScopeZ
import Derived.LoopN
import Derived.Test.YtddnjlnhnnpgiaaRwrite
namespace Go.Proofs.Ytddnjlnhnnpgiaa
set_option maxRecDepth 20000
open Go.RowKit

/-- What is better of two that are held. -/
def bestOf (n0 : Nat) (t0 : List UInt8) (n1 : Nat) (t1 : List UInt8) : Int × Nat × List UInt8 := if n0 < n1 then (1, n1, t1) else if 0 < n0 then (0, n0, t0) else (0, 0, [])
/-- How the search stands: the best one so far, and the two rows of the call. -/
structure Lk2 (w W : World) (b : Nat) (n0 : Nat) (t0 : List UInt8) (n1 : Nat) (t1 : List UInt8) (x : Int) (y : Nat) (z : List UInt8) : Prop where
  hb : Below w.heap.size w W
  size : w.heap.size + 2 ≤ W.heap.size
  r0 : W.heap[w.heap.size]? = some (.cells #[.int .i64 0, .int .u64 0, .string { data := #[] }] 62 (0, 0))
  r1 : W.heap[w.heap.size + 1]? = some (.cells #[.int .i64 x, .int .u64 (y : Int), .string (str z)] 62 (0, 0))
  rb : W.heap[b]? = some (.cells #[.int .i64 0, .int .u64 (n0 : Int), .string (str t0), .int .i64 1, .int .u64 (n1 : Int), .string (str t1)] 62 (0, 0))
section
variable {w W : World} {b : Nat} {n0 : Nat} {t0 : List UInt8} {n1 : Nat} {t1 : List UInt8} {x : Int} {y : Nat} {z : List UInt8}
theorem Lk2.facts (h : Lk2 w W b n0 t0 n1 t1 x y z) : W.cell? ⟨b, 0, none⟩ = some (.int .i64 0) ∧ W.cell? ⟨b, 1, none⟩ = some (.int .u64 (n0 : Int)) ∧ W.cell? ⟨b, 2, none⟩ = some (.string (str t0)) ∧ W.cell? ⟨b, 3, none⟩ = some (.int .i64 1) ∧ W.cell? ⟨b, 4, none⟩ = some (.int .u64 (n1 : Int)) ∧ W.cell? ⟨b, 5, none⟩ = some (.string (str t1))
    ∧ W.cell? ⟨w.heap.size + 1, 0, none⟩ = some (.int .i64 x) ∧ W.cell? ⟨w.heap.size + 1, 1, none⟩ = some (.int .u64 (y : Int)) ∧ W.cell? ⟨w.heap.size + 1, 2, none⟩ = some (.string (str z))
    ∧ W.frozen? ⟨w.heap.size + 1, 0, none⟩ = false ∧ W.frozen? ⟨w.heap.size + 1, 1, none⟩ = false ∧ W.frozen? ⟨w.heap.size + 1, 2, none⟩ = false
    ∧ W.cell? ⟨w.heap.size, 0, none⟩ = some (.int .i64 0) ∧ W.cell? ⟨w.heap.size, 1, none⟩ = some (.int .u64 0) ∧ W.cell? ⟨w.heap.size, 2, none⟩ = some (.string { data := #[] })
    ∧ W.frozen? ⟨w.heap.size, 0, none⟩ = false ∧ W.frozen? ⟨w.heap.size, 1, none⟩ = false ∧ W.frozen? ⟨w.heap.size, 2, none⟩ = false :=
  ⟨cell_of_row W b 0 _ _ _ h.rb, cell_of_row W b 1 _ _ _ h.rb, cell_of_row W b 2 _ _ _ h.rb, cell_of_row W b 3 _ _ _ h.rb, cell_of_row W b 4 _ _ _ h.rb, cell_of_row W b 5 _ _ _ h.rb,
   cell_of_row W _ 0 _ _ _ h.r1, cell_of_row W _ 1 _ _ _ h.r1, cell_of_row W _ 2 _ _ _ h.r1, frozen_of_row W _ 0 _ _ h.r1, frozen_of_row W _ 1 _ _ h.r1, frozen_of_row W _ 2 _ _ h.r1,
   cell_of_row W _ 0 _ _ _ h.r0, cell_of_row W _ 1 _ _ _ h.r0, cell_of_row W _ 2 _ _ _ h.r0, frozen_of_row W _ 0 _ _ h.r0, frozen_of_row W _ 1 _ _ h.r0, frozen_of_row W _ 2 _ _ h.r0⟩
theorem Lk2.set (h : Lk2 w W b n0 t0 n1 t1 x y z) (hb : b < w.heap.size) (x' : Int) (y' : Nat) (z' : List UInt8) : Lk2 w (((W.setCell ⟨w.heap.size + 1, 0, none⟩ (.int .i64 x')).setCell ⟨w.heap.size + 1, 1, none⟩ (.int .u64 (y' : Int))).setCell ⟨w.heap.size + 1, 2, none⟩ (.string (str z'))).drew b n0 t0 n1 t1 x' y' z' := by
  have hk := (((Below.refl (w.heap.size + 1) W).setCell (p := ⟨w.heap.size + 1, 0, none⟩) (Nat.le_refl _) (.int .i64 x')).setCell (p := ⟨w.heap.size + 1, 1, none⟩) (Nat.le_refl _) (.int .u64 (y' : Int))).setCell (p := ⟨w.heap.size + 1, 2, none⟩) (Nat.le_refl _) (.string (str z'))
  refine ⟨(h.hb.trans (hk.mono (by omega))).drew, Nat.le_trans h.size hk.size, (hk.block _ (by omega)).trans h.r0, ?_, (hk.block _ (by omega)).trans h.rb⟩
  have r := setCell_row (i := 2) (v := .string (str z')) (setCell_row (i := 1) (v := .int .u64 (y' : Int)) (setCell_row (i := 0) (v := .int .i64 x') h.r1))
  simp at r
  exact r
theorem Lk2.drew (h : Lk2 w W b n0 t0 n1 t1 x y z) : Lk2 w W.drew b n0 t0 n1 t1 x y z := ⟨h.hb.drew, h.size, h.r0, h.r1, h.rb⟩
end
set_option maxHeartbeats 1000000 in
theorem better_any (n0 : Nat) (t0 : List UInt8) (n1 : Nat) (t1 : List UInt8) (b c : Nat) (w : World) (_ : 2 ≤ c) (_ : c ≤ maxLen) (h : w.heap[b]? = some (.cells #[.int .i64 0, .int .u64 (n0 : Int), .string (str t0), .int .i64 1, .int .u64 (n1 : Int), .string (str t1)] 62 (0, 0))) :
    Calls Try.prog 25 #[.slice (some ⟨b, 0, none⟩) 2 c] w fun e w' => e = .returned (.agg #[.int .i64 (bestOf n0 t0 n1 t1).1, .int .u64 ((bestOf n0 t0 n1 t1).2.1 : Int), .string (str (bestOf n0 t0 n1 t1).2.2)]) ∧ Below w.heap.size w w' := by
  obtain ⟨W, hW⟩ : ∃ W, W = (w.alloc (.cells #[.int .i64 0, .int .u64 0, .string { data := #[] }] 62)).alloc (.cells #[.int .i64 0, .int .u64 0, .string { data := #[] }] 62) := ⟨_, rfl⟩
  have hbl : Below w.heap.size w W := by rw [hW]; exact ((Below.refl _ _).alloc (Nat.le_refl _) _).alloc (by simp) _
  have hL : Lk2 w W b n0 t0 n1 t1 0 0 [] := by
    refine ⟨hbl, by rw [hW]; simp, ?_, ?_, (hbl.block b (Array.getElem?_eq_some_iff.1 h).1).trans h⟩
    · rw [hW]; exact (heap_alloc_old (w.alloc _) _ (by simp)).trans (heap_alloc_new w _)
    · rw [hW]; exact row_here (w.alloc _) _ (by simp)
  have HBL := Lib.hid (Array.getElem?_eq_some_iff.1 h).1
  have HLW := Lib.hid hL
  have HW := Lib.hid hW
  obtain ⟨k0, k1, k2, k3, k4, k5, d0, d1, d2, z0, z1, z2, o0, o1, o2, y0, y1, y2⟩ := hL.facts
  clear hbl hL hW h
  by_cases h0 : 0 < n0
  · by_cases h1 : n0 < n1
    · have e : bestOf n0 t0 n1 t1 = (1, n1, t1) := by unfold bestOf; rw [if_pos h1]
      rw [e]
      clear e
      go_enter Try.func25, Try.ntmps25
      go_wp2
      refine wp_scope_rounds 5 ?_
      go_wp2
      rw [← HW.out]
      go_step3
      go_wp2
      refine wp_loop_rounds 3 ?_
      rw [rounds_succ]
      go_wp2
      go_big_region
      go_wp2
      go_step3
      try simp only [go_sem]
      refine ⟨_, rfl, ?_⟩
      go_wp2
      have HLV := Lib.hid (HLW.out.set HBL.out 0 n0 t0)
      clear k0 k1 k2 k3 k4 k5 d0 d1 d2 z0 z1 z2 o0 o1 o2 y0 y1 y2
      generalize (((World.setCell _ _ _).setCell _ _).setCell _ _).drew = V at HLV ⊢
      obtain ⟨k0, k1, k2, k3, k4, k5, d0, d1, d2, z0, z1, z2, o0, o1, o2, y0, y1, y2⟩ := HLV.out.facts
      go_step3
      try simp only [go_sem]
      refine ⟨_, rfl, ?_⟩
      go_wp2
      refine wp_loop_rounds 3 ?_
      rw [rounds_succ]
      go_wp2
      go_big_region
      go_wp2
      rw [rounds_succ]
      go_wp2
      go_big_region
      go_wp2
      go_step3
      try simp only [go_sem]
      refine ⟨_, rfl, ?_⟩
      go_wp2
      have HLU := Lib.hid (HLV.out.set HBL.out 1 n1 t1)
      clear k0 k1 k2 k3 k4 k5 d0 d1 d2 z0 z1 z2 o0 o1 o2 y0 y1 y2
      generalize (((World.setCell _ _ _).setCell _ _).setCell _ _).drew = U at HLU ⊢
      obtain ⟨k0, k1, k2, k3, k4, k5, d0, d1, d2, z0, z1, z2, o0, o1, o2, y0, y1, y2⟩ := HLU.out.facts
      go_step3
      try simp only [go_sem]
      refine ⟨_, rfl, ?_⟩
      go_wp2
      refine wp_loop_rounds 3 ?_
      rw [rounds_succ]
      go_wp2
      go_big_region
      go_wp2
      rw [rounds_succ]
      go_wp2
      rw [lands_ret]
      refine bodyPost_ret (v := .agg #[.int .i64 1, .int .u64 ((n1 : Nat) : Int), .string (str t1)]) (by simp [results, Try.results25, go_sem, o0, o1, o2]) rfl ⟨rfl, ?_⟩
      first
        | exact (((HLU.out.hb.setCell (by simp) _).setCell (by simp) _).setCell (by simp) _).drew.drew
        | exact (((HLU.out.hb.setCell (by simp) _).setCell (by simp) _).setCell (by simp) _).drew.drew.drew
        | exact (((HLU.out.hb.setCell (by simp) _).setCell (by simp) _).setCell (by simp) _).drew
    · have e : bestOf n0 t0 n1 t1 = (0, n0, t0) := by unfold bestOf; rw [if_neg h1, if_pos h0]
      rw [e]
      clear e
      go_enter Try.func25, Try.ntmps25
      go_wp2
      refine wp_scope_rounds 5 ?_
      go_wp2
      rw [← HW.out]
      go_step3
      go_wp2
      refine wp_loop_rounds 3 ?_
      rw [rounds_succ]
      go_wp2
      go_big_region
      go_wp2
      go_step3
      try simp only [go_sem]
      refine ⟨_, rfl, ?_⟩
      go_wp2
      have HLV := Lib.hid (HLW.out.set HBL.out 0 n0 t0)
      clear k0 k1 k2 k3 k4 k5 d0 d1 d2 z0 z1 z2 o0 o1 o2 y0 y1 y2
      generalize (((World.setCell _ _ _).setCell _ _).setCell _ _).drew = V at HLV ⊢
      obtain ⟨k0, k1, k2, k3, k4, k5, d0, d1, d2, z0, z1, z2, o0, o1, o2, y0, y1, y2⟩ := HLV.out.facts
      go_step3
      try simp only [go_sem]
      refine ⟨_, rfl, ?_⟩
      go_wp2
      refine wp_loop_rounds 3 ?_
      rw [rounds_succ]
      go_wp2
      go_big_region
      go_wp2
      rw [rounds_succ]
      go_wp2
      go_big_region
      go_wp2
      rw [rounds_succ]
      go_wp2
      rw [lands_ret]
      refine bodyPost_ret (v := .agg #[.int .i64 0, .int .u64 ((n0 : Nat) : Int), .string (str t0)]) (by simp [results, Try.results25, go_sem, o0, o1, o2]) rfl ⟨rfl, ?_⟩
      first
        | exact (((HLV.out.hb.setCell (by simp) _).setCell (by simp) _).setCell (by simp) _).drew.drew
        | exact (((HLV.out.hb.setCell (by simp) _).setCell (by simp) _).setCell (by simp) _).drew.drew.drew
        | exact (((HLV.out.hb.setCell (by simp) _).setCell (by simp) _).setCell (by simp) _).drew
  · by_cases h1 : 0 < n1
    · have e : bestOf n0 t0 n1 t1 = (1, n1, t1) := by unfold bestOf; rw [if_pos (by omega)]
      rw [e]
      clear e
      go_enter Try.func25, Try.ntmps25
      go_wp2
      refine wp_scope_rounds 5 ?_
      go_wp2
      rw [← HW.out]
      go_step3
      go_wp2
      refine wp_loop_rounds 3 ?_
      rw [rounds_succ]
      go_wp2
      go_big_region
      go_wp2
      rw [rounds_succ]
      go_wp2
      go_big_region
      go_wp2
      go_step3
      try simp only [go_sem]
      refine ⟨_, rfl, ?_⟩
      go_wp2
      have HLV := Lib.hid (HLW.out.set HBL.out 1 n1 t1)
      clear k0 k1 k2 k3 k4 k5 d0 d1 d2 z0 z1 z2 o0 o1 o2 y0 y1 y2
      generalize (((World.setCell _ _ _).setCell _ _).setCell _ _).drew = V at HLV ⊢
      obtain ⟨k0, k1, k2, k3, k4, k5, d0, d1, d2, z0, z1, z2, o0, o1, o2, y0, y1, y2⟩ := HLV.out.facts
      go_step3
      try simp only [go_sem]
      refine ⟨_, rfl, ?_⟩
      go_wp2
      refine wp_loop_rounds 3 ?_
      rw [rounds_succ]
      go_wp2
      go_big_region
      go_wp2
      rw [rounds_succ]
      go_wp2
      rw [lands_ret]
      refine bodyPost_ret (v := .agg #[.int .i64 1, .int .u64 ((n1 : Nat) : Int), .string (str t1)]) (by simp [results, Try.results25, go_sem, o0, o1, o2]) rfl ⟨rfl, ?_⟩
      first
        | exact (((HLV.out.hb.setCell (by simp) _).setCell (by simp) _).setCell (by simp) _).drew.drew
        | exact (((HLV.out.hb.setCell (by simp) _).setCell (by simp) _).setCell (by simp) _).drew.drew.drew
        | exact (((HLV.out.hb.setCell (by simp) _).setCell (by simp) _).setCell (by simp) _).drew
    · have e : bestOf n0 t0 n1 t1 = (0, 0, []) := by unfold bestOf; rw [if_neg (by omega), if_neg h0]
      rw [e]
      clear e
      go_enter Try.func25, Try.ntmps25
      go_wp2
      refine wp_scope_rounds 5 ?_
      go_wp2
      rw [← HW.out]
      go_step3
      go_wp2
      refine wp_loop_rounds 3 ?_
      rw [rounds_succ]
      go_wp2
      go_big_region
      go_wp2
      rw [rounds_succ]
      go_wp2
      go_big_region
      go_wp2
      rw [rounds_succ]
      go_wp2
      rw [lands_ret]
      refine bodyPost_ret (v := .agg #[.int .i64 0, .int .u64 ((0 : Nat) : Int), .string (str [])]) (by simp [results, Try.results25, go_sem, o0, o1, o2]) rfl ⟨rfl, ?_⟩
      first
        | exact (((HLW.out.hb.setCell (by simp) _).setCell (by simp) _).setCell (by simp) _).drew.drew
        | exact (((HLW.out.hb.setCell (by simp) _).setCell (by simp) _).setCell (by simp) _).drew.drew.drew
        | exact (((HLW.out.hb.setCell (by simp) _).setCell (by simp) _).setCell (by simp) _).drew

end Go.Proofs.Ytddnjlnhnnpgiaa
