/- A device's steps: what is counted, kept, settled, seen. -/
import Derived.Test.YtdmcbojncgdccaaSec
namespace Go.Proofs.Ytdmcbojncgdccaa
open Go.RowKit

theorem set_row {w : World} {g : Nat} {cs : Array Value} {e : TypeId} (h : w.heap[g]? = some (.cells cs e (0, 0))) (i : Nat) (u : Value) : (w.setCell ⟨g, i, none⟩ u).heap[g]? = some (.cells (cs.setIfInBounds i u) e (0, 0)) := by
  rw [heap_setCell_same w g i _ _ _ h]
theorem setCell_grows (w : World) (b i : Nat) (u : Value) : w.grownBy (w.setCell ⟨b, i, none⟩ u) (some b) := setCell_by (World.grownBy.refl w (some b)) (p := ⟨b, i, none⟩) rfl u
theorem grownBy_tr {a b c : World} {row : Option Nat} (h : a.grownBy b row) (k : b.grownBy c row) : a.grownBy c row := grownBy_trans h k (.inl rfl)

def Dv.step (d : Dv) : Dv := { d with done := d.done + 1, fuse := d.fuse - 1, down := if d.fuse = 0 then d.down else decide (d.fuse = 1) }
theorem Dv.Ok.step {d : Dv} (h : d.Ok) : d.step.Ok := ⟨h.n, h.S, h.ws, Nat.lt_of_le_of_lt (Nat.sub_le _ _) h.fuse⟩

set_option maxRecDepth 8000 in
theorem step_any {w : World} {B g bs bl k : Nat} {v : Value} {d : Dv} (h : Dev w B g bs bl v k d) (hd : d.done ≤ 1000000000) :
    Calls Try.prog 29 #[.pointer (some ⟨g, 0, none⟩)] w fun e w' => e = .returned (.int .i64 (pw d.step.down)) ∧ Dev w' B g bs bl v k d.step ∧ w.grownBy w' (some g) := by
  have c4 := h.c4
  have c5 := h.c5
  have c6 := h.c6
  have f4 := h.free 4
  have f5 := h.free 5
  have f6 := h.free 6
  have hf := h.ok.fuse
  have hdi : (d.done : Int) ≤ 1000000000 := by omega
  have hd0 : (0 : Int) ≤ (d.done : Int) := by omega
  obtain ⟨q, hq⟩ : ∃ q, q = d.fuse - 1 := ⟨_, rfl⟩
  obtain ⟨bb, hb⟩ : ∃ bb, bb = d.step.down := ⟨_, rfl⟩
  have r6 := set_row h.row 6 (.int .i64 ((d.done : Int) + 1))
  rw [← hb]
  by_cases h0 : d.fuse = 0
  · have e0 : (d.fuse : Int) = 0 := by omega
    have hbd : bb = d.down := by rw [hb]; unfold Dv.step; simp [h0]
    have hfin : Dev (w.setCell ⟨g, 6, none⟩ (.int .i64 ((d.done : Int) + 1))) B g bs bl v k d.step := by
      refine h.set ?_ (setCell_grows w g 6 _) rfl rfl h.ok.step
      rw [r6]
      unfold devRow Dv.step
      simp [h0]
    rw [e0] at c5
    have HF := Lib.hid hfin
    have cp : (w.setCell ⟨g, 6, none⟩ (.int .i64 ((d.done : Int) + 1))).cell? ⟨g, 4, none⟩ = some (.bool bb) := by rw [hbd]; rw [cell_of_row _ g 4 _ _ _ r6]; rfl
    have HP := Lib.hid cp
    have HG := Lib.hid (setCell_grows w g 6 (.int .i64 ((d.done : Int) + 1)))
    clear r6 hq hb h0 hbd hfin cp e0 hf hd h
    go_enter Try.func29, Try.ntmps29
    go_wp2_with (go_at_call 28; refine (power_at g bb _ HP.out).mono ?_; rintro e w1 ⟨rfl, rfl⟩)
    go_ret
    exact ⟨rfl, HF.out, HG.out⟩
  · have w1 : IntKind.u64.wrap ((d.fuse : Int) - 1) = (q : Int) := by rw [IntKind.wrap_u64]; omega
    have d1 : decide ((0 : Int) < (d.fuse : Int)) = true := by simp; omega
    have d2 : decide (0 < d.fuse) = true := by simp; omega
    have d3 : 0 < d.fuse := by omega
    have d4 : ((q : Int) == 0) = bb := by
      rw [hb]
      unfold Dv.step
      simp only [if_neg h0]
      rw [Bool.eq_iff_iff]
      simp
      omega
    have r5 := set_row r6 5 (.int .u64 (q : Int))
    have r4 := set_row r5 4 (.bool bb)
    have hfin : Dev (((w.setCell ⟨g, 6, none⟩ (.int .i64 ((d.done : Int) + 1))).setCell ⟨g, 5, none⟩ (.int .u64 (q : Int))).setCell ⟨g, 4, none⟩ (.bool bb)) B g bs bl v k d.step := by
      refine h.set ?_ (grownBy_tr (grownBy_tr (setCell_grows w g 6 _) (setCell_grows _ g 5 _)) (setCell_grows _ g 4 _)) rfl rfl h.ok.step
      rw [r4, hb, hq]
      rfl
    have HF := Lib.hid hfin
    have cp : (((w.setCell ⟨g, 6, none⟩ (.int .i64 ((d.done : Int) + 1))).setCell ⟨g, 5, none⟩ (.int .u64 (q : Int))).setCell ⟨g, 4, none⟩ (.bool bb)).cell? ⟨g, 4, none⟩ = some (.bool bb) := by rw [cell_of_row _ g 4 _ _ _ r4]; rfl
    have HP := Lib.hid cp
    have HG := Lib.hid (grownBy_tr (grownBy_tr (setCell_grows w g 6 (.int .i64 ((d.done : Int) + 1))) (setCell_grows _ g 5 (.int .u64 (q : Int)))) (setCell_grows _ g 4 (.bool bb)))
    clear r6 r5 r4 hq hb h0 hfin cp hf hd h
    go_enter Try.func29, Try.ntmps29
    go_wp2_with (go_at_call 28; refine (power_at g bb _ HP.out).mono ?_; rintro e w1 ⟨rfl, rfl⟩)
    go_ret
    exact ⟨rfl, HF.out, HG.out⟩

def Dv.settled (d : Dv) : Dv := { d with ws := [] }
theorem Dv.Ok.settled {d : Dv} (h : d.Ok) : d.settled.Ok := ⟨h.n, h.S, (fun p hp => by cases hp), h.fuse⟩
set_option maxRecDepth 8000 in
theorem settle_any {w : World} {B g bs bl k : Nat} {v : Value} {d : Dv} (h : Dev w B g bs bl v k d) :
    Calls Try.prog 31 #[.pointer (some ⟨g, 0, none⟩)] w fun e w' => e = .returned (.tuple #[]) ∧ Dev w' B g bs w.heap.size (.slice none 0 0) k d.settled ∧ w.grownBy w' (some g) := by
  have hlt := h.lt
  have hblt := h.safe.lt
  obtain ⟨W2, hW2⟩ : ∃ W2, W2 = (w.setCell ⟨g, 2, none⟩ (.slice none 0 0)).setCell ⟨g, 3, none⟩ (.map (some w.heap.size)) := ⟨_, rfl⟩
  have hg2 : w.grownBy W2 (some g) := by rw [hW2]; exact grownBy_tr (setCell_grows _ g 2 _) (setCell_grows _ g 3 _)
  have r2 := set_row h.row 2 (.slice none 0 0)
  have r3 := set_row r2 3 (.map (some w.heap.size))
  rw [← hW2] at r3
  have hz2 : W2.heap.size = w.heap.size := by rw [hW2]; simp
  have hm0 : MapI Try.prog 3 (W2.alloc (.map #[] 0)) w.heap.size 0 (fun _ => none) := by rw [← hz2]; exact mapI_made W2
  have hg0 := World.grownBy_alloc W2 (.map #[] 0) none
  have hfin : Dev (W2.alloc (.map #[] 0)) B g bs w.heap.size (.slice none 0 0) k d.settled := by
    refine ⟨by rw [row_far r3 hg0 (fun e => by cases e)]; rfl, ?_, hm0, World.ownsRow_nil _ _ _ _, h.gs, by omega, by omega, (fun q e => by cases e), h.hg, h.hs, Nat.le_trans h.hg (Nat.le_of_lt hlt), h.ok.settled⟩
    exact (h.safe.kept hg2 (fun e => h.gs (Option.some.inj e).symm)).kept hg0 (fun e => by cases e)
  have hgr : w.grownBy (W2.alloc (.map #[] 0)) (some g) := grownBy_tr hg2 ⟨hg0.os, hg0.tape, hg0.output, hg0.size, fun i hi _ => hg0.block i hi (fun e => by cases e)⟩
  have c2 := h.c2
  have f2 := h.free 2
  have c3 := h.c3
  have f3 := h.free 3
  have HF := Lib.hid hfin
  have HG := Lib.hid hgr
  have hmm := @run_makeMap Try.prog
  have HW := Lib.hid hW2
  clear hfin hgr r2 r3 hg0 hg2 hm0 hz2 hW2 h
  go_enter Try.func31, Try.ntmps31
  go_wp2
  rw [← HW.out]
  go_returns
  exact ⟨rfl, HF.out, HG.out⟩

end Go.Proofs.Ytdmcbojncgdccaa
