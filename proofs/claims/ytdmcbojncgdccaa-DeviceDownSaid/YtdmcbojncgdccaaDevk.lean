/- A device that is nil, and one that no call made. -/
import Derived.Test.YtdmcbojncgdccaaDevi
import Derived.Test.YtdmcbojncgdccaaDevj
namespace Go.Proofs.Ytdmcbojncgdccaa
open Go.RowKit
attribute [local go_sem] Oper.semAt_some

theorem fuse_nil (n : Int) (w : World) : Calls Try.prog 18 #[.pointer none, .int .i64 n] w fun e w' => e = .returned (.tuple #[]) ∧ w = w' := by
  go_enter Try.func18, Try.ntmps18
  go_wp2
  go_returns
  exact ⟨rfl, rfl⟩
theorem flush_nil (w : World) : Calls Try.prog 12 #[.pointer none] w fun e w' => e = .returned (.int .i64 1) ∧ w = w' := by
  go_enter Try.func12, Try.ntmps12
  go_wp2_with (go_at_call 28; refine (power_nil _).mono ?_; rintro e w1 ⟨rfl, rfl⟩)
  go_ret
  exact ⟨rfl, rfl⟩
theorem clone_nil (w : World) : Calls Try.prog 19 #[.pointer none] w fun e w' => e = .returned (.pointer none) ∧ w = w' := by
  go_enter Try.func19, Try.ntmps19
  go_wp2
  go_ret
  exact ⟨rfl, rfl⟩
theorem same_nils (w : World) : Calls Try.prog 20 #[.pointer none, .pointer none] w fun e w' => e = .returned (.bool true) ∧ w = w' := by
  go_enter Try.func20, Try.ntmps20
  go_wp2
  go_ret
  exact ⟨rfl, rfl⟩
theorem same_nil (g : Nat) (w : World) : Calls Try.prog 20 #[.pointer (some ⟨g, 0, none⟩), .pointer none] w fun e w' => e = .returned (.bool false) ∧ w = w' := by
  go_enter Try.func20, Try.ntmps20
  go_wp2
  go_ret
  exact ⟨rfl, rfl⟩

/-- The cells of a device that no call made; of one whose power went. -/
def bareRow : Array Value := #[.int .i64 0, .map none, .slice none 0 0, .map none, .bool false, .int .u64 0, .int .i64 0]
def bareRow2 (b : Nat) : Array Value := #[.int .i64 0, .map none, .slice none 0 0, .map (some b), .bool false, .int .u64 0, .int .i64 0]
set_option maxRecDepth 8000 in
theorem settle_bare (w : World) (g : Nat) (h : w.heap[g]? = some (.cells bareRow 53 (0, 0))) :
    Calls Try.prog 31 #[.pointer (some ⟨g, 0, none⟩)] w fun e w' => e = .returned (.tuple #[]) ∧ w'.heap[g]? = some (.cells (bareRow2 w.heap.size) 53 (0, 0)) ∧ w.grownBy w' (some g) := by
  have hlt : g < w.heap.size := (Array.getElem?_eq_some_iff.1 h).1
  obtain ⟨W2, hW2⟩ : ∃ W2, W2 = (w.setCell ⟨g, 2, none⟩ (.slice none 0 0)).setCell ⟨g, 3, none⟩ (.map (some w.heap.size)) := ⟨_, rfl⟩
  have hg2 : w.grownBy W2 (some g) := by rw [hW2]; exact grownBy_tr (setCell_grows _ g 2 _) (setCell_grows _ g 3 _)
  have r3 := set_row (set_row h 2 (.slice none 0 0)) 3 (.map (some w.heap.size))
  rw [← hW2] at r3
  have hg0 := World.grownBy_alloc W2 (.map #[] 0) none
  have hfin : (W2.alloc (.map #[] 0)).heap[g]? = some (.cells (bareRow2 w.heap.size) 53 (0, 0)) := by rw [row_far r3 hg0 (fun e => by cases e)]; rfl
  have hgr : w.grownBy (W2.alloc (.map #[] 0)) (some g) := grownBy_tr hg2 ⟨hg0.os, hg0.tape, hg0.output, hg0.size, fun i hi _ => hg0.block i hi (fun e => by cases e)⟩
  have c2 : w.cell? ⟨g, 2, none⟩ = some (.slice none 0 0) := cell_of_row w g 2 _ _ _ h
  have f2 := frozen_of_row w g 2 _ _ h
  have c3 : w.cell? ⟨g, 3, none⟩ = some (.map none) := cell_of_row w g 3 _ _ _ h
  have f3 := frozen_of_row w g 3 _ _ h
  have HF := Lib.hid hfin
  have HG := Lib.hid hgr
  have hmm := @run_makeMap Try.prog
  have HW := Lib.hid hW2
  clear hfin hgr r3 hg0 hg2 hW2 h
  go_enter Try.func31, Try.ntmps31
  go_wp2
  rw [← HW.out]
  go_returns
  exact ⟨rfl, HF.out, HG.out⟩
set_option maxRecDepth 8000 in
theorem crash_bare (w : World) (g : Nat) (h : w.heap[g]? = some (.cells bareRow 53 (0, 0))) :
    Calls Try.prog 15 #[.pointer (some ⟨g, 0, none⟩), .slice none 0 0] w fun e w' => e = .returned (.tuple #[]) ∧ w'.heap[g]? = some (.cells (bareRow2 w.heap.size) 53 (0, 0)) ∧ w.grownBy w' (some g) := by
  have c2 : w.cell? ⟨g, 2, none⟩ = some (.slice none 0 0) := cell_of_row w g 2 _ _ _ h
  have HS := Lib.hid (settle_bare w g h)
  clear h
  go_enter Try.func15, Try.ntmps15
  go_wp2
  go_loopw [14] (fun ir wr => ir = .int .i64 0 ∧ wr = w) (fun ir _ => 1)
  case atStart => exact ⟨rfl, rfl⟩
  case round =>
    obtain ⟨rfl, rfl⟩ := hrel
    go_wp2_with (first
      | (go_at_call 31; refine HS.out.mono ?_; rintro e w3 ⟨rfl, hr3, hg3⟩
         have c4 : w3.cell? ⟨g, 4, none⟩ = some (.bool false) := cell_of_row w3 g 4 _ _ _ hr3
         have c5 : w3.cell? ⟨g, 5, none⟩ = some (.int .u64 0) := cell_of_row w3 g 5 _ _ _ hr3
         have f4 := frozen_of_row w3 g 4 _ _ hr3
         have f5 := frozen_of_row w3 g 5 _ _ hr3)
      | fail)
    have r5 := set_row (set_row hr3 4 (.bool false)) 5 (.int .u64 0)
    have hg5 : w3.grownBy ((w3.setCell ⟨g, 4, none⟩ (.bool false)).setCell ⟨g, 5, none⟩ (.int .u64 0)) (some g) := grownBy_tr (setCell_grows _ g 4 _) (setCell_grows _ g 5 _)
    go_returns
    exact ⟨rfl, r5, grownBy_tr hg3 hg5⟩

set_option maxHeartbeats 2000000 in
set_option maxRecDepth 8000 in
theorem write_out (g N : Nat) (x : Int) (A : Option Addr) (n c : Nat) (w : World) (c0 : w.cell? ⟨g, 0, none⟩ = some (.int .i64 (N : Int))) (c4 : w.cell? ⟨g, 4, none⟩ = some (.bool false)) (hN : N ≤ 65536) (hn : n ≤ 1000000) (hout : withinB N x (((n : Int) + 63) / 64) = false) :
    Calls Try.prog 16 #[.pointer (some ⟨g, 0, none⟩), .int .i64 x, .slice A n c] w fun e w' => e = .returned (.int .i64 30) ∧ Below w.heap.size w w' := by
  have hgl := block_lt_of_cell c4
  have hgl : g < w.heap.size := hgl
  have hW := fun (W : World) (c0 : W.cell? ⟨g, 0, none⟩ = some (.int .i64 (N : Int))) => within_at g N x (((n : Int) + 63) / 64) W c0 hN (by omega)
  rw [hout] at hW
  have HW := Lib.hid hW
  have HN := Lib.hid (fun W => need_any (n : Int) W (by omega) (by omega))
  obtain ⟨W0, hW0, hz0, hr0, hr1, hr2, hb0⟩ := boxes3 w #[.pointer (some ⟨g, 0, none⟩)] #[.int .i64 x] #[.int .i64 0] 26 3 35
  have d4 : W0.cell? ⟨g, 4, none⟩ = some (.bool false) := (hb0.cell (p := ⟨g, 4, none⟩) hgl).trans c4
  have d0 : W0.cell? ⟨g, 0, none⟩ = some (.int .i64 (N : Int)) := (hb0.cell (p := ⟨g, 0, none⟩) hgl).trans c0
  have e0 : W0.cell? ⟨w.heap.size, 0, none⟩ = some (.pointer (some ⟨g, 0, none⟩)) := cell_of_row W0 _ 0 _ _ _ hr0
  have e1 : W0.cell? ⟨w.heap.size + 1, 0, none⟩ = some (.int .i64 x) := cell_of_row W0 _ 0 _ _ _ hr1
  have e2 : W0.cell? ⟨w.heap.size + 1 + 1, 0, none⟩ = some (.int .i64 0) := cell_of_row W0 _ 0 _ _ _ hr2
  have f2 : W0.frozen? ⟨w.heap.size + 1 + 1, 0, none⟩ = false := frozen_of_row W0 _ 0 _ _ hr2
  have HW0 := Lib.hid hW0
  have hni : (n : Int) ≤ 1000000 := by omega
  clear hW0 hz0 c4 c0 hW hout hN hn
  go_enter Try.func16, Try.ntmps16
  go_wp2_with (first
    | (rw [← HW0.out]; go_at_call 28; refine (power_ok g _ d4).mono ?_; rintro e w5 ⟨rfl, rfl⟩)
    | fail)
  go_quiet ((first
    | (go_at_call 14; refine (HN.out _).mono ?_; rintro e w1 ⟨rfl, rfl⟩; exact ⟨rfl, _, rfl⟩)
    | (go_at_call 32; refine (HW.out (World.drewN W0 _) (by exact d0)).mono ?_; rintro e w1 ⟨rfl, rfl⟩; exact ⟨rfl, _, rfl⟩)))
  have hq2 : (W0.drewN nq).heap[w.heap.size + 1 + 1]? = some (.cells #[.int .i64 0] 35 (0, 0)) := hr2
  have hbq : Below w.heap.size w (W0.drewN nq) := ⟨hb0.os, hb0.tape, hb0.output, hb0.size, hb0.block⟩
  have e3 : (W0.drewN nq).cell? ⟨w.heap.size + 1 + 1, 0, none⟩ = some (.int .i64 0) := e2
  have f3 : (W0.drewN nq).frozen? ⟨w.heap.size + 1 + 1, 0, none⟩ = false := f2
  clear e2 f2 e0 e1 d0 d4 HW0 hr0 hr1 hr2 hb0
  generalize W0.drewN nq = W1 at *
  go_wp2
  have r2 := set_row hq2 0 (.int .i64 30)
  exact bodyPost_ret (results_cell1 rfl _ rfl (load_errno (cell_of_row _ _ 0 _ _ _ r2))) rfl ⟨rfl, hbq.grown (setCell_grows W1 _ 0 _) hbq.size (fun q e => by have := Option.some.inj e; omega)⟩

end Go.Proofs.Ytdmcbojncgdccaa
