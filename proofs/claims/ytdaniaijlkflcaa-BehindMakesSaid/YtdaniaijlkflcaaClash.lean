/- What waits, what is told of, and what is void: the program's and the reference's. -/
import Derived.Test.YtdaniaijlkflcaaBehr
namespace Go.Proofs.Ytdaniaijlkflcaa
open Go.RowKit

def En.clash (e : En) (i : Nat) : Bool := if i < e.ix then (match e.at i with | none => true | some l => decide (0 < (cm l.fr l.ct e.fr e.ct).2)) else false
def En.tells (e x : En) : Bool := decide (e.at x.ix = some x.look)
def En.again (e x : En) : Bool := decide (e.kd = 1) && (decide (x.kd = 1) && (decide (e.cl = x.cl) && (decide (e.rq = x.rq) && decide (e.ix ≠ x.ix))))
def En.other (e x : En) : Bool := (e.at x.ix).isSome && !e.tells x
def En.voids (e x : En) : Bool := decide (x.tm < e.tm) && (decide (e.st ≤ x.ix) || (e.other x || e.again x))
theorem En.at_ok {e : En} {w : World} (h : e.Reads w) {i : Nat} {l : Lk} (hl : e.at i = some l) : l.Ok := by
  unfold En.at at hl
  split at hl
  · exact h.oks l (List.mem_of_getElem? hl)
  · cases hl
theorem field_span (a b : Value) (w : World) : (Instr.field 45 (.agg #[a, b]) 1).run Try.prog w = .ok b w := by kernel_rfl
theorem row1 (w : World) (cs : Array Value) (t : TypeId) : ∃ W, W = w.alloc (.cells cs t) ∧ W.heap.size = w.heap.size + 1 ∧ W.heap[w.heap.size]? = some (.cells cs t (0, 0)) ∧ Below w.heap.size w W :=
  ⟨_, rfl, by simp, heap_alloc_new w _, (Below.refl _ _).alloc (Nat.le_refl _) _⟩

set_option maxHeartbeats 1000000 in
theorem clash_any (e : En) (i : Nat) (w : World) (h : e.Reads w) (hi : i < 18446744073709551616) : Calls Try.prog 10 #[.agg e.cells, .int .u64 (i : Int)] w fun r w' => r = .returned (.bool (e.clash i)) ∧ Below w.heap.size w w' := by
  obtain ⟨W, hW, hz, r0, hb⟩ := row1 w e.cells 28
  have hAT := fun W' (hb' : Below W.heap.size W W') => at_any e i W' ((h.below hb).below hb') hi
  have hfr := h.look.2.2.1
  have hct := h.look.2.2.2
  have HB := Lib.hid hb
  have HZ := Lib.hid hz
  by_cases h1 : i < e.ix
  · cases hat : e.at i with
    | none =>
      have hcl : e.clash i = true := by unfold En.clash; rw [if_pos h1, hat]
      rw [hcl]
      rw [hat] at hAT
      have HAT := Lib.hid hAT
      clear hcl hat hAT h hb hz
      obtain ⟨ix, tm, st, kd, cl, rq, fr, ct, da, A, bn, bc, ls⟩ := e
      unfold En.cells at *
      dsimp only at *
      have q1 : decide (ix ≤ i) = false := by simpa using h1
      go_enter Try.func10, Try.ntmps10
      go_wp2_with (first
        | (go_at_call 8; rw [← hW]; refine (HAT.out _ (Below.refl _ _)).mono ?_; unfold toldV Lk.zero Lk.val; dsimp only [Option.getD, Option.isSome]; rintro e w1 ⟨rfl, hb1⟩; have HB1 := Lib.hid hb1; clear hb1)
        | fail)
      go_ret
      exact ⟨rfl, (HB.out.trans (HB1.out.mono HB.out.size)).alloc (by have := HB1.out.size; have := HB.out.size; omega) _⟩
    | some l =>
      have hlo := En.at_ok h hat
      have hcl : e.clash i = decide (0 < (cm l.fr l.ct e.fr e.ct).2) := by unfold En.clash; rw [if_pos h1, hat]
      rw [hcl]
      rw [hat] at hAT
      have hme := fun W' => meet_any l.fr l.ct e.fr e.ct W' hlo.2.2.1 hlo.2.2.2 hfr hct
      have HAT := Lib.hid hAT
      have HME := Lib.hid hme
      clear hcl hat hAT h hb hz hme hlo
      obtain ⟨ix, tm, st, kd, cl, rq, fr, ct, da, A, bn, bc, ls⟩ := e
      obtain ⟨l1, l2, l3, l4⟩ := l
      unfold En.cells at *
      dsimp only at *
      generalize cm l3 l4 fr ct = p at *
      have q1 : decide (ix ≤ i) = false := by simpa using h1
      have qf := fun W' => field_span (.int .u32 (p.1 : Int)) (.int .u32 (p.2 : Int)) W'
      go_enter Try.func10, Try.ntmps10
      go_wp2_with (first
        | (go_at_call 8; rw [← hW]; refine (HAT.out _ (Below.refl _ _)).mono ?_; unfold toldV Lk.val; dsimp only [Option.getD, Option.isSome]; rintro e w1 ⟨rfl, hb1⟩
           have s6 := cellz (j := 6) (u := .int .u32 (fr : Int)) hb1 r0 rfl (by have := HZ.out; omega)
           have s7 := cellz (j := 7) (u := .int .u32 (ct : Int)) hb1 r0 rfl (by have := HZ.out; omega)
           have hlt1 : w.heap.size < w1.heap.size := by have := HZ.out; have := hb1.size; omega
           have HB1 := Lib.hid hb1
           clear hb1)
        | (go_at_call 21; refine (HME.out _).mono ?_; rintro e w2 ⟨rfl, hb2⟩; have HB2 := Lib.hid hb2; clear hb2)
        | fail)
      skip
      go_ret
      exact ⟨rfl, HB.out.trans ((HB1.out.trans ((unal HB2.out).mono HB1.out.size)).mono HB.out.size)⟩
  · have hcl : e.clash i = false := by unfold En.clash; rw [if_neg h1]
    rw [hcl]
    clear hcl hAT h hb hz
    obtain ⟨ix, tm, st, kd, cl, rq, fr, ct, da, A, bn, bc, ls⟩ := e
    unfold En.cells at *
    dsimp only at *
    have q1 : decide (ix ≤ i) = true := by simpa using h1
    go_enter Try.func10, Try.ntmps10
    go_wp2
    go_ret
    exact ⟨rfl, (Below.refl _ _).alloc (Nat.le_refl _) _⟩

set_option maxHeartbeats 1000000 in
theorem rclash_any (e : En) (i : Nat) (w : World) (h : e.Reads w) (hi : i < 18446744073709551616) : Calls Try.prog 11 #[.agg e.cells, .int .u64 (i : Int)] w fun r w' => r = .returned (.bool (e.clash i)) ∧ Below w.heap.size w w' := by
  obtain ⟨W, hW, hz, r0, hb⟩ := row1 w e.cells 28
  have hAT := fun W' (hb' : Below W.heap.size W W') => rat_any e i W' ((h.below hb).below hb') hi
  have hfr := h.look.2.2.1
  have hct := h.look.2.2.2
  have HB := Lib.hid hb
  have HZ := Lib.hid hz
  by_cases h1 : i < e.ix
  · cases hat : e.at i with
    | none =>
      have hcl : e.clash i = true := by unfold En.clash; rw [if_pos h1, hat]
      rw [hcl]
      rw [hat] at hAT
      have HAT := Lib.hid hAT
      clear hcl hat hAT h hb hz
      obtain ⟨ix, tm, st, kd, cl, rq, fr, ct, da, A, bn, bc, ls⟩ := e
      unfold En.cells at *
      dsimp only at *
      have q1 : decide (ix ≤ i) = false := by simpa using h1
      go_enter Try.func11, Try.ntmps11
      go_wp2_with (first
        | (go_at_call 9; rw [← hW]; refine (HAT.out _ (Below.refl _ _)).mono ?_; unfold toldV Lk.zero Lk.val; dsimp only [Option.getD, Option.isSome]; rintro e w1 ⟨rfl, hb1⟩; have HB1 := Lib.hid hb1; clear hb1)
        | fail)
      go_ret
      exact ⟨rfl, (HB.out.trans (HB1.out.mono HB.out.size)).alloc (by have := HB1.out.size; have := HB.out.size; omega) _⟩
    | some l =>
      have hlo := En.at_ok h hat
      have hcl : e.clash i = decide (0 < (cm l.fr l.ct e.fr e.ct).2) := by unfold En.clash; rw [if_pos h1, hat]
      rw [hcl]
      rw [hat] at hAT
      have hme := fun W' => rcommon_any l.fr l.ct e.fr e.ct W' hlo.2.2.1 hlo.2.2.2 hfr hct
      have HAT := Lib.hid hAT
      have HME := Lib.hid hme
      clear hcl hat hAT h hb hz hme hlo
      obtain ⟨ix, tm, st, kd, cl, rq, fr, ct, da, A, bn, bc, ls⟩ := e
      obtain ⟨l1, l2, l3, l4⟩ := l
      unfold En.cells at *
      dsimp only at *
      generalize cm l3 l4 fr ct = p at *
      have q1 : decide (ix ≤ i) = false := by simpa using h1
      have qf := fun W' => field_span (.int .u32 (p.1 : Int)) (.int .u32 (p.2 : Int)) W'
      go_enter Try.func11, Try.ntmps11
      go_wp2_with (first
        | (go_at_call 9; rw [← hW]; refine (HAT.out _ (Below.refl _ _)).mono ?_; unfold toldV Lk.val; dsimp only [Option.getD, Option.isSome]; rintro e w1 ⟨rfl, hb1⟩
           have s6 := cellz (j := 6) (u := .int .u32 (fr : Int)) hb1 r0 rfl (by have := HZ.out; omega)
           have s7 := cellz (j := 7) (u := .int .u32 (ct : Int)) hb1 r0 rfl (by have := HZ.out; omega)
           have hlt1 : w.heap.size < w1.heap.size := by have := HZ.out; have := hb1.size; omega
           have HB1 := Lib.hid hb1
           clear hb1)
        | (go_at_call 22; refine (HME.out _).mono ?_; rintro e w2 ⟨rfl, hb2⟩; have HB2 := Lib.hid hb2; clear hb2)
        | fail)
      skip
      go_ret
      exact ⟨rfl, HB.out.trans ((HB1.out.trans ((unal HB2.out).mono HB1.out.size)).mono HB.out.size)⟩
  · have hcl : e.clash i = false := by unfold En.clash; rw [if_neg h1]
    rw [hcl]
    clear hcl hAT h hb hz
    obtain ⟨ix, tm, st, kd, cl, rq, fr, ct, da, A, bn, bc, ls⟩ := e
    unfold En.cells at *
    dsimp only at *
    have q1 : decide (ix ≤ i) = true := by simpa using h1
    go_enter Try.func11, Try.ntmps11
    go_wp2
    go_ret
    exact ⟨rfl, (Below.refl _ _).alloc (Nat.le_refl _) _⟩


end Go.Proofs.Ytdaniaijlkflcaa
