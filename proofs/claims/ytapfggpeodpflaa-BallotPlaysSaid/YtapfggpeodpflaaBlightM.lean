/- What is void: the program's and the reference's. Who is light: entries, and slices of them. -/
import Derived.Test.YtapfggpeodpflaaAgainM
namespace Go.Proofs.Ytapfggpeodpflaa
open Go.RowKit

set_option maxHeartbeats 2000000 in
theorem other_any (e x : En) (w : World) (h : e.Reads w) (hx : x.Reads w) : Calls Try.prog 80 #[.agg e.cells, .agg x.cells] w fun r w' => r = .returned (.bool (e.other x)) ∧ Below w.heap.size w w' := by
  obtain ⟨W, hW, hz, r0, r1, hb⟩ := boxes2 w e.cells x.cells 55 55
  have hAT := fun W' (hb' : Below W.heap.size W W') => at_any e x.ix W' ((h.below hb).below hb') hx.ix
  have hTL := fun W' (hb' : Below W.heap.size W W') => tells_any e x W' ((h.below hb).below hb') ((hx.below hb).below hb')
  have HB := Lib.hid hb
  have HZ := Lib.hid hz
  have hot : e.other x = ((e.at x.ix).isSome && !e.tells x) := rfl
  rw [hot]
  generalize e.tells x = T at *
  cases hat : e.at x.ix with
  | none =>
    rw [hat] at hAT
    have HAT := Lib.hid hAT
    clear hot hat hAT hTL h hx hb hz
    obtain ⟨ix, tm, st, kd, cl, rq, fr, ct, da, A, bn, bc, ls⟩ := e
    obtain ⟨ix2, tm2, st2, kd2, cl2, rq2, fr2, ct2, da2, A2, bn2, bc2, ls2⟩ := x
    unfold En.cells at *
    dsimp only at *
    go_enter Try.func80, Try.ntmps80
    go_wp2_with (first
      | (go_at_call 85; rw [← hW]; refine (HAT.out _ (Below.refl _ _)).mono ?_; unfold toldV Lk.zero Lk.val; dsimp only [Option.getD, Option.isSome]; rintro e w1 ⟨rfl, hb1⟩
         have HB1 := Lib.hid hb1
         clear hb1)
      | fail)
    go_ret
    exact ⟨rfl, (HB.out.trans (HB1.out.mono HB.out.size)).alloc (by have := HB1.out.size; have := HB.out.size; omega) _⟩
  | some l =>
    rw [hat] at hAT
    have HAT := Lib.hid hAT
    have HTL := Lib.hid hTL
    clear hot hat hAT hTL h hx hb hz
    obtain ⟨ix, tm, st, kd, cl, rq, fr, ct, da, A, bn, bc, ls⟩ := e
    obtain ⟨ix2, tm2, st2, kd2, cl2, rq2, fr2, ct2, da2, A2, bn2, bc2, ls2⟩ := x
    obtain ⟨l1, l2, l3, l4⟩ := l
    unfold En.cells at *
    dsimp only at *
    go_enter Try.func80, Try.ntmps80
    go_wp2_with (first
      | (go_at_call 85; rw [← hW]; refine (HAT.out _ (Below.refl _ _)).mono ?_; unfold toldV Lk.val; dsimp only [Option.getD, Option.isSome]; rintro e w1 ⟨rfl, hb1⟩
         have hlt1 : w.heap.size + 1 < w1.heap.size := by have := HZ.out; have := hb1.size; omega
         have hlt0 : w.heap.size < w1.heap.size := by have := HZ.out; have := hb1.size; omega
         have s0 := cellz (j := 0) (u := .int .u64 (ix : Int)) hb1 r0 rfl (by have := HZ.out; omega)
         have s1 := cellz (j := 1) (u := .int .u64 (tm : Int)) hb1 r0 rfl (by have := HZ.out; omega)
         have s2 := cellz (j := 2) (u := .int .u64 (st : Int)) hb1 r0 rfl (by have := HZ.out; omega)
         have s3 := cellz (j := 3) (u := .int .i64 kd) hb1 r0 rfl (by have := HZ.out; omega)
         have s4 := cellz (j := 4) (u := .int .u64 (cl : Int)) hb1 r0 rfl (by have := HZ.out; omega)
         have s5 := cellz (j := 5) (u := .int .u64 (rq : Int)) hb1 r0 rfl (by have := HZ.out; omega)
         have s6 := cellz (j := 6) (u := .int .u32 (fr : Int)) hb1 r0 rfl (by have := HZ.out; omega)
         have s7 := cellz (j := 7) (u := .int .u32 (ct : Int)) hb1 r0 rfl (by have := HZ.out; omega)
         have s8 := cellz (j := 8) (u := .string (str da)) hb1 r0 rfl (by have := HZ.out; omega)
         have s9 := cellz (j := 9) (u := .slice A bn bc) hb1 r0 rfl (by have := HZ.out; omega)
         have t0 := cellz (j := 0) (u := .int .u64 (ix2 : Int)) hb1 r1 rfl (by have := HZ.out; omega)
         have t1 := cellz (j := 1) (u := .int .u64 (tm2 : Int)) hb1 r1 rfl (by have := HZ.out; omega)
         have t2 := cellz (j := 2) (u := .int .u64 (st2 : Int)) hb1 r1 rfl (by have := HZ.out; omega)
         have t3 := cellz (j := 3) (u := .int .i64 kd2) hb1 r1 rfl (by have := HZ.out; omega)
         have t4 := cellz (j := 4) (u := .int .u64 (cl2 : Int)) hb1 r1 rfl (by have := HZ.out; omega)
         have t5 := cellz (j := 5) (u := .int .u64 (rq2 : Int)) hb1 r1 rfl (by have := HZ.out; omega)
         have t6 := cellz (j := 6) (u := .int .u32 (fr2 : Int)) hb1 r1 rfl (by have := HZ.out; omega)
         have t7 := cellz (j := 7) (u := .int .u32 (ct2 : Int)) hb1 r1 rfl (by have := HZ.out; omega)
         have t8 := cellz (j := 8) (u := .string (str da2)) hb1 r1 rfl (by have := HZ.out; omega)
         have t9 := cellz (j := 9) (u := .slice A2 bn2 bc2) hb1 r1 rfl (by have := HZ.out; omega)
         have HB1 := Lib.hid hb1
         clear hb1)
      | (go_at_call 86; refine (HTL.out _ (HB1.out.alloc HB1.out.size _)).mono ?_; rintro e w2 ⟨rfl, hb2⟩; have HB2 := Lib.hid hb2; clear hb2)
      | fail)
    go_ret
    exact ⟨ret_bool (by simp), HB.out.trans ((HB1.out.trans ((unal HB2.out).mono HB1.out.size)).mono HB.out.size)⟩

set_option maxHeartbeats 4000000 in
theorem voids_any (e x : En) (w : World) (h : e.Reads w) (hx : x.Reads w) : Calls Try.prog 67 #[.agg e.cells, .agg x.cells] w fun r w' => r = .returned (.bool (e.voids x)) ∧ Below w.heap.size w w' := by
  obtain ⟨W, hW, hz, r0, r1, hb⟩ := boxes2 w e.cells x.cells 55 55
  have hOT := fun W' (hb' : Below W.heap.size W W') => other_any e x W' ((h.below hb).below hb') ((hx.below hb).below hb')
  have hAG := fun W' => again_any e x W'
  have hvo : e.voids x = (decide (x.tm < e.tm) && (decide (e.st ≤ x.ix) || (e.other x || e.again x))) := rfl
  rw [hvo]
  clear hvo
  have HB := Lib.hid hb
  have HZ := Lib.hid hz
  have HOT := Lib.hid hOT
  have HAG := Lib.hid hAG
  clear hOT hAG h hx hb hz
  generalize e.other x = O at *
  generalize e.again x = R at *
  obtain ⟨ix, tm, st, kd, cl, rq, fr, ct, da, A, bn, bc, ls⟩ := e
  obtain ⟨ix2, tm2, st2, kd2, cl2, rq2, fr2, ct2, da2, A2, bn2, bc2, ls2⟩ := x
  unfold En.cells at *
  dsimp only at *
  by_cases h1 : tm2 < tm
  · have q1 : decide (tm ≤ tm2) = false := by simpa using h1
    have e1 : decide (tm2 < tm) = true := by simpa using h1
    by_cases h2 : st ≤ ix2
    · have q2 : decide (st ≤ ix2) = true := by simpa using h2
      go_enter Try.func67, Try.ntmps67
      go_wp2
      go_ret
      exact ⟨ret_bool (by simp [e1, q2]), below2 _ _ _⟩
    · have q2 : decide (st ≤ ix2) = false := by simpa using h2
      cases O
      · go_enter Try.func67, Try.ntmps67
        go_wp2_with (first
          | (go_at_call 80; rw [← hW]; refine (HOT.out _ (Below.refl _ _)).mono ?_; rintro e w1 ⟨rfl, hb1⟩
             have s0 := cellz (j := 0) (u := .int .u64 (ix : Int)) hb1 r0 rfl (by have := HZ.out; omega)
             have s1 := cellz (j := 1) (u := .int .u64 (tm : Int)) hb1 r0 rfl (by have := HZ.out; omega)
             have s2 := cellz (j := 2) (u := .int .u64 (st : Int)) hb1 r0 rfl (by have := HZ.out; omega)
             have s3 := cellz (j := 3) (u := .int .i64 kd) hb1 r0 rfl (by have := HZ.out; omega)
             have s4 := cellz (j := 4) (u := .int .u64 (cl : Int)) hb1 r0 rfl (by have := HZ.out; omega)
             have s5 := cellz (j := 5) (u := .int .u64 (rq : Int)) hb1 r0 rfl (by have := HZ.out; omega)
             have s6 := cellz (j := 6) (u := .int .u32 (fr : Int)) hb1 r0 rfl (by have := HZ.out; omega)
             have s7 := cellz (j := 7) (u := .int .u32 (ct : Int)) hb1 r0 rfl (by have := HZ.out; omega)
             have s8 := cellz (j := 8) (u := .string (str da)) hb1 r0 rfl (by have := HZ.out; omega)
             have s9 := cellz (j := 9) (u := .slice A bn bc) hb1 r0 rfl (by have := HZ.out; omega)
             have t0 := cellz (j := 0) (u := .int .u64 (ix2 : Int)) hb1 r1 rfl (by have := HZ.out; omega)
             have t1 := cellz (j := 1) (u := .int .u64 (tm2 : Int)) hb1 r1 rfl (by have := HZ.out; omega)
             have t2 := cellz (j := 2) (u := .int .u64 (st2 : Int)) hb1 r1 rfl (by have := HZ.out; omega)
             have t3 := cellz (j := 3) (u := .int .i64 kd2) hb1 r1 rfl (by have := HZ.out; omega)
             have t4 := cellz (j := 4) (u := .int .u64 (cl2 : Int)) hb1 r1 rfl (by have := HZ.out; omega)
             have t5 := cellz (j := 5) (u := .int .u64 (rq2 : Int)) hb1 r1 rfl (by have := HZ.out; omega)
             have t6 := cellz (j := 6) (u := .int .u32 (fr2 : Int)) hb1 r1 rfl (by have := HZ.out; omega)
             have t7 := cellz (j := 7) (u := .int .u32 (ct2 : Int)) hb1 r1 rfl (by have := HZ.out; omega)
             have t8 := cellz (j := 8) (u := .string (str da2)) hb1 r1 rfl (by have := HZ.out; omega)
             have t9 := cellz (j := 9) (u := .slice A2 bn2 bc2) hb1 r1 rfl (by have := HZ.out; omega)
             have HB1 := Lib.hid hb1
             clear hb1)
          | (go_at_call 81; refine (HAG.out _).mono ?_; rintro e w2 ⟨rfl, hb2⟩; have HB2 := Lib.hid hb2; clear hb2)
          | fail)
        go_ret
        exact ⟨ret_bool (by simp [e1, q2]), HB.out.trans ((HB1.out.trans (HB2.out.mono HB1.out.size)).mono HB.out.size)⟩
      · go_enter Try.func67, Try.ntmps67
        go_wp2_with (first
          | (go_at_call 80; rw [← hW]; refine (HOT.out _ (Below.refl _ _)).mono ?_; rintro e w1 ⟨rfl, hb1⟩
             have HB1 := Lib.hid hb1
             clear hb1)
          | fail)
        go_ret
        exact ⟨ret_bool (by simp [e1, q2]), HB.out.trans (HB1.out.mono HB.out.size)⟩
  · have q1 : decide (tm ≤ tm2) = true := by simpa using h1
    have e1 : decide (tm2 < tm) = false := by simpa using h1
    go_enter Try.func67, Try.ntmps67
    go_wp2
    go_ret
    exact ⟨ret_bool (by simp [e1]), below2 _ _ _⟩

set_option maxHeartbeats 4000000 in
theorem rvoids_any (e x : En) (w : World) (h : e.Reads w) (hx : x.Reads w) : Calls Try.prog 54 #[.agg e.cells, .agg x.cells] w fun r w' => r = .returned (.bool (e.voids x)) ∧ Below w.heap.size w w' := by
  obtain ⟨W, hW, hz, r0, r1, hb⟩ := boxes2 w e.cells x.cells 55 55
  have hAT := fun W' (hb' : Below W.heap.size W W') => rat_any e x.ix W' ((h.below hb).below hb') hx.ix
  have hTL := fun W' (hb' : Below W.heap.size W W') => rtells_any e x W' ((h.below hb).below hb') ((hx.below hb).below hb')
  have hAG := fun W' => ragain_any e x W'
  have hvo : e.voids x = (decide (x.tm < e.tm) && (decide (e.st ≤ x.ix) || (((e.at x.ix).isSome && !e.tells x) || e.again x))) := rfl
  rw [hvo]
  clear hvo
  have hat : ∃ l b, toldV (e.at x.ix) = .tuple #[Lk.val l, .bool b] ∧ (e.at x.ix).isSome = b := ⟨_, _, rfl, rfl⟩
  obtain ⟨l, b, hat, hsb⟩ := hat
  rw [hat] at hAT
  rw [hsb]
  have HB := Lib.hid hb
  have HZ := Lib.hid hz
  have HAT := Lib.hid hAT
  have HTL := Lib.hid hTL
  have HAG := Lib.hid hAG
  clear hAT hTL hAG h hx hb hz hat hsb
  generalize e.tells x = T at *
  generalize e.again x = R at *
  obtain ⟨ix, tm, st, kd, cl, rq, fr, ct, da, A, bn, bc, ls⟩ := e
  obtain ⟨ix2, tm2, st2, kd2, cl2, rq2, fr2, ct2, da2, A2, bn2, bc2, ls2⟩ := x
  obtain ⟨l1, l2, l3, l4⟩ := l
  unfold En.cells Lk.val at *
  dsimp only at *
  by_cases h1 : tm2 < tm
  · have e1 : decide (tm2 < tm) = true := by simpa using h1
    by_cases h2 : st ≤ ix2
    · have q2 : decide (st ≤ ix2) = true := by simpa using h2
      go_enter Try.func54, Try.ntmps54
      go_wp2_with (first
        | (go_at_call 71; rw [← hW]; refine (HAT.out _ (Below.refl _ _)).mono ?_; rintro e w1 ⟨rfl, hb1⟩
           have hlt1 : w.heap.size + 1 < w1.heap.size := by have := HZ.out; have := hb1.size; omega
           have hlt0 : w.heap.size < w1.heap.size := by have := HZ.out; have := hb1.size; omega
           have s0 := cellz (j := 0) (u := .int .u64 (ix : Int)) hb1 r0 rfl (by have := HZ.out; omega)
           have s1 := cellz (j := 1) (u := .int .u64 (tm : Int)) hb1 r0 rfl (by have := HZ.out; omega)
           have s2 := cellz (j := 2) (u := .int .u64 (st : Int)) hb1 r0 rfl (by have := HZ.out; omega)
           have s3 := cellz (j := 3) (u := .int .i64 kd) hb1 r0 rfl (by have := HZ.out; omega)
           have s4 := cellz (j := 4) (u := .int .u64 (cl : Int)) hb1 r0 rfl (by have := HZ.out; omega)
           have s5 := cellz (j := 5) (u := .int .u64 (rq : Int)) hb1 r0 rfl (by have := HZ.out; omega)
           have s6 := cellz (j := 6) (u := .int .u32 (fr : Int)) hb1 r0 rfl (by have := HZ.out; omega)
           have s7 := cellz (j := 7) (u := .int .u32 (ct : Int)) hb1 r0 rfl (by have := HZ.out; omega)
           have s8 := cellz (j := 8) (u := .string (str da)) hb1 r0 rfl (by have := HZ.out; omega)
           have s9 := cellz (j := 9) (u := .slice A bn bc) hb1 r0 rfl (by have := HZ.out; omega)
           have t0 := cellz (j := 0) (u := .int .u64 (ix2 : Int)) hb1 r1 rfl (by have := HZ.out; omega)
           have t1 := cellz (j := 1) (u := .int .u64 (tm2 : Int)) hb1 r1 rfl (by have := HZ.out; omega)
           have t2 := cellz (j := 2) (u := .int .u64 (st2 : Int)) hb1 r1 rfl (by have := HZ.out; omega)
           have t3 := cellz (j := 3) (u := .int .i64 kd2) hb1 r1 rfl (by have := HZ.out; omega)
           have t4 := cellz (j := 4) (u := .int .u64 (cl2 : Int)) hb1 r1 rfl (by have := HZ.out; omega)
           have t5 := cellz (j := 5) (u := .int .u64 (rq2 : Int)) hb1 r1 rfl (by have := HZ.out; omega)
           have t6 := cellz (j := 6) (u := .int .u32 (fr2 : Int)) hb1 r1 rfl (by have := HZ.out; omega)
           have t7 := cellz (j := 7) (u := .int .u32 (ct2 : Int)) hb1 r1 rfl (by have := HZ.out; omega)
           have t8 := cellz (j := 8) (u := .string (str da2)) hb1 r1 rfl (by have := HZ.out; omega)
           have t9 := cellz (j := 9) (u := .slice A2 bn2 bc2) hb1 r1 rfl (by have := HZ.out; omega)
           have HB1 := Lib.hid hb1
           clear hb1)
        | fail)
      go_ret
      exact ⟨ret_bool (by simp [e1, q2]), (HB.out.trans (HB1.out.mono HB.out.size)).alloc (by have := HB1.out.size; have := HB.out.size; omega) _⟩
    · have q2 : decide (st ≤ ix2) = false := by simpa using h2
      cases b
      · skip
        go_enter Try.func54, Try.ntmps54
        go_wp2_with (first
          | (go_at_call 71; rw [← hW]; refine (HAT.out _ (Below.refl _ _)).mono ?_; rintro e w1 ⟨rfl, hb1⟩
             have hlt1 : w.heap.size + 1 < w1.heap.size := by have := HZ.out; have := hb1.size; omega
             have hlt0 : w.heap.size < w1.heap.size := by have := HZ.out; have := hb1.size; omega
             have s0 := cellz (j := 0) (u := .int .u64 (ix : Int)) hb1 r0 rfl (by have := HZ.out; omega)
             have s1 := cellz (j := 1) (u := .int .u64 (tm : Int)) hb1 r0 rfl (by have := HZ.out; omega)
             have s2 := cellz (j := 2) (u := .int .u64 (st : Int)) hb1 r0 rfl (by have := HZ.out; omega)
             have s3 := cellz (j := 3) (u := .int .i64 kd) hb1 r0 rfl (by have := HZ.out; omega)
             have s4 := cellz (j := 4) (u := .int .u64 (cl : Int)) hb1 r0 rfl (by have := HZ.out; omega)
             have s5 := cellz (j := 5) (u := .int .u64 (rq : Int)) hb1 r0 rfl (by have := HZ.out; omega)
             have s6 := cellz (j := 6) (u := .int .u32 (fr : Int)) hb1 r0 rfl (by have := HZ.out; omega)
             have s7 := cellz (j := 7) (u := .int .u32 (ct : Int)) hb1 r0 rfl (by have := HZ.out; omega)
             have s8 := cellz (j := 8) (u := .string (str da)) hb1 r0 rfl (by have := HZ.out; omega)
             have s9 := cellz (j := 9) (u := .slice A bn bc) hb1 r0 rfl (by have := HZ.out; omega)
             have t0 := cellz (j := 0) (u := .int .u64 (ix2 : Int)) hb1 r1 rfl (by have := HZ.out; omega)
             have t1 := cellz (j := 1) (u := .int .u64 (tm2 : Int)) hb1 r1 rfl (by have := HZ.out; omega)
             have t2 := cellz (j := 2) (u := .int .u64 (st2 : Int)) hb1 r1 rfl (by have := HZ.out; omega)
             have t3 := cellz (j := 3) (u := .int .i64 kd2) hb1 r1 rfl (by have := HZ.out; omega)
             have t4 := cellz (j := 4) (u := .int .u64 (cl2 : Int)) hb1 r1 rfl (by have := HZ.out; omega)
             have t5 := cellz (j := 5) (u := .int .u64 (rq2 : Int)) hb1 r1 rfl (by have := HZ.out; omega)
             have t6 := cellz (j := 6) (u := .int .u32 (fr2 : Int)) hb1 r1 rfl (by have := HZ.out; omega)
             have t7 := cellz (j := 7) (u := .int .u32 (ct2 : Int)) hb1 r1 rfl (by have := HZ.out; omega)
             have t8 := cellz (j := 8) (u := .string (str da2)) hb1 r1 rfl (by have := HZ.out; omega)
             have t9 := cellz (j := 9) (u := .slice A2 bn2 bc2) hb1 r1 rfl (by have := HZ.out; omega)
             have HB1 := Lib.hid hb1
             clear hb1)
          | (go_at_call 73; refine (HAG.out _).mono ?_; rintro e w3 ⟨rfl, hb3⟩; have HB3 := Lib.hid hb3; clear hb3)
          | fail)
        go_ret
        exact ⟨ret_bool (by simp [e1, q2]), HB.out.trans ((HB1.out.trans ((unal HB3.out).mono HB1.out.size)).mono HB.out.size)⟩
      · cases T
        · skip
          go_enter Try.func54, Try.ntmps54
          go_wp2_with (first
            | (go_at_call 71; rw [← hW]; refine (HAT.out _ (Below.refl _ _)).mono ?_; rintro e w1 ⟨rfl, hb1⟩
               have hlt1 : w.heap.size + 1 < w1.heap.size := by have := HZ.out; have := hb1.size; omega
               have hlt0 : w.heap.size < w1.heap.size := by have := HZ.out; have := hb1.size; omega
               have s0 := cellz (j := 0) (u := .int .u64 (ix : Int)) hb1 r0 rfl (by have := HZ.out; omega)
               have s1 := cellz (j := 1) (u := .int .u64 (tm : Int)) hb1 r0 rfl (by have := HZ.out; omega)
               have s2 := cellz (j := 2) (u := .int .u64 (st : Int)) hb1 r0 rfl (by have := HZ.out; omega)
               have s3 := cellz (j := 3) (u := .int .i64 kd) hb1 r0 rfl (by have := HZ.out; omega)
               have s4 := cellz (j := 4) (u := .int .u64 (cl : Int)) hb1 r0 rfl (by have := HZ.out; omega)
               have s5 := cellz (j := 5) (u := .int .u64 (rq : Int)) hb1 r0 rfl (by have := HZ.out; omega)
               have s6 := cellz (j := 6) (u := .int .u32 (fr : Int)) hb1 r0 rfl (by have := HZ.out; omega)
               have s7 := cellz (j := 7) (u := .int .u32 (ct : Int)) hb1 r0 rfl (by have := HZ.out; omega)
               have s8 := cellz (j := 8) (u := .string (str da)) hb1 r0 rfl (by have := HZ.out; omega)
               have s9 := cellz (j := 9) (u := .slice A bn bc) hb1 r0 rfl (by have := HZ.out; omega)
               have t0 := cellz (j := 0) (u := .int .u64 (ix2 : Int)) hb1 r1 rfl (by have := HZ.out; omega)
               have t1 := cellz (j := 1) (u := .int .u64 (tm2 : Int)) hb1 r1 rfl (by have := HZ.out; omega)
               have t2 := cellz (j := 2) (u := .int .u64 (st2 : Int)) hb1 r1 rfl (by have := HZ.out; omega)
               have t3 := cellz (j := 3) (u := .int .i64 kd2) hb1 r1 rfl (by have := HZ.out; omega)
               have t4 := cellz (j := 4) (u := .int .u64 (cl2 : Int)) hb1 r1 rfl (by have := HZ.out; omega)
               have t5 := cellz (j := 5) (u := .int .u64 (rq2 : Int)) hb1 r1 rfl (by have := HZ.out; omega)
               have t6 := cellz (j := 6) (u := .int .u32 (fr2 : Int)) hb1 r1 rfl (by have := HZ.out; omega)
               have t7 := cellz (j := 7) (u := .int .u32 (ct2 : Int)) hb1 r1 rfl (by have := HZ.out; omega)
               have t8 := cellz (j := 8) (u := .string (str da2)) hb1 r1 rfl (by have := HZ.out; omega)
               have t9 := cellz (j := 9) (u := .slice A2 bn2 bc2) hb1 r1 rfl (by have := HZ.out; omega)
               have HB1 := Lib.hid hb1
               clear hb1)
            | (go_at_call 72; refine (HTL.out _ (HB1.out.alloc HB1.out.size _)).mono ?_; rintro e w2 ⟨rfl, hb2⟩; have HB2 := Lib.hid hb2; clear hb2)
            | fail)
          go_ret
          exact ⟨ret_bool (by simp [e1, q2]), HB.out.trans ((HB1.out.trans ((unal HB2.out).mono HB1.out.size)).mono HB.out.size)⟩
        · skip
          go_enter Try.func54, Try.ntmps54
          go_wp2_with (first
            | (go_at_call 71; rw [← hW]; refine (HAT.out _ (Below.refl _ _)).mono ?_; rintro e w1 ⟨rfl, hb1⟩
               have hlt1 : w.heap.size + 1 < w1.heap.size := by have := HZ.out; have := hb1.size; omega
               have hlt0 : w.heap.size < w1.heap.size := by have := HZ.out; have := hb1.size; omega
               have s0 := cellz (j := 0) (u := .int .u64 (ix : Int)) hb1 r0 rfl (by have := HZ.out; omega)
               have s1 := cellz (j := 1) (u := .int .u64 (tm : Int)) hb1 r0 rfl (by have := HZ.out; omega)
               have s2 := cellz (j := 2) (u := .int .u64 (st : Int)) hb1 r0 rfl (by have := HZ.out; omega)
               have s3 := cellz (j := 3) (u := .int .i64 kd) hb1 r0 rfl (by have := HZ.out; omega)
               have s4 := cellz (j := 4) (u := .int .u64 (cl : Int)) hb1 r0 rfl (by have := HZ.out; omega)
               have s5 := cellz (j := 5) (u := .int .u64 (rq : Int)) hb1 r0 rfl (by have := HZ.out; omega)
               have s6 := cellz (j := 6) (u := .int .u32 (fr : Int)) hb1 r0 rfl (by have := HZ.out; omega)
               have s7 := cellz (j := 7) (u := .int .u32 (ct : Int)) hb1 r0 rfl (by have := HZ.out; omega)
               have s8 := cellz (j := 8) (u := .string (str da)) hb1 r0 rfl (by have := HZ.out; omega)
               have s9 := cellz (j := 9) (u := .slice A bn bc) hb1 r0 rfl (by have := HZ.out; omega)
               have t0 := cellz (j := 0) (u := .int .u64 (ix2 : Int)) hb1 r1 rfl (by have := HZ.out; omega)
               have t1 := cellz (j := 1) (u := .int .u64 (tm2 : Int)) hb1 r1 rfl (by have := HZ.out; omega)
               have t2 := cellz (j := 2) (u := .int .u64 (st2 : Int)) hb1 r1 rfl (by have := HZ.out; omega)
               have t3 := cellz (j := 3) (u := .int .i64 kd2) hb1 r1 rfl (by have := HZ.out; omega)
               have t4 := cellz (j := 4) (u := .int .u64 (cl2 : Int)) hb1 r1 rfl (by have := HZ.out; omega)
               have t5 := cellz (j := 5) (u := .int .u64 (rq2 : Int)) hb1 r1 rfl (by have := HZ.out; omega)
               have t6 := cellz (j := 6) (u := .int .u32 (fr2 : Int)) hb1 r1 rfl (by have := HZ.out; omega)
               have t7 := cellz (j := 7) (u := .int .u32 (ct2 : Int)) hb1 r1 rfl (by have := HZ.out; omega)
               have t8 := cellz (j := 8) (u := .string (str da2)) hb1 r1 rfl (by have := HZ.out; omega)
               have t9 := cellz (j := 9) (u := .slice A2 bn2 bc2) hb1 r1 rfl (by have := HZ.out; omega)
               have HB1 := Lib.hid hb1
               clear hb1)
            | (go_at_call 72; refine (HTL.out _ (HB1.out.alloc HB1.out.size _)).mono ?_; rintro e w2 ⟨rfl, hb2⟩;
               have hlt2 : w.heap.size + 1 < w2.heap.size := by have := hb2.size; simp at this; omega
               have u0 := (hb2.cell (p := ⟨w.heap.size, 0, none⟩) (by simp; omega)).trans ((World.cell?_alloc_lt w1 _ _ (by simp; omega)).trans s0)
               have u1 := (hb2.cell (p := ⟨w.heap.size, 1, none⟩) (by simp; omega)).trans ((World.cell?_alloc_lt w1 _ _ (by simp; omega)).trans s1)
               have u2 := (hb2.cell (p := ⟨w.heap.size, 2, none⟩) (by simp; omega)).trans ((World.cell?_alloc_lt w1 _ _ (by simp; omega)).trans s2)
               have u3 := (hb2.cell (p := ⟨w.heap.size, 3, none⟩) (by simp; omega)).trans ((World.cell?_alloc_lt w1 _ _ (by simp; omega)).trans s3)
               have u4 := (hb2.cell (p := ⟨w.heap.size, 4, none⟩) (by simp; omega)).trans ((World.cell?_alloc_lt w1 _ _ (by simp; omega)).trans s4)
               have u5 := (hb2.cell (p := ⟨w.heap.size, 5, none⟩) (by simp; omega)).trans ((World.cell?_alloc_lt w1 _ _ (by simp; omega)).trans s5)
               have u6 := (hb2.cell (p := ⟨w.heap.size, 6, none⟩) (by simp; omega)).trans ((World.cell?_alloc_lt w1 _ _ (by simp; omega)).trans s6)
               have u7 := (hb2.cell (p := ⟨w.heap.size, 7, none⟩) (by simp; omega)).trans ((World.cell?_alloc_lt w1 _ _ (by simp; omega)).trans s7)
               have u8 := (hb2.cell (p := ⟨w.heap.size, 8, none⟩) (by simp; omega)).trans ((World.cell?_alloc_lt w1 _ _ (by simp; omega)).trans s8)
               have u9 := (hb2.cell (p := ⟨w.heap.size, 9, none⟩) (by simp; omega)).trans ((World.cell?_alloc_lt w1 _ _ (by simp; omega)).trans s9)
               have v0 := (hb2.cell (p := ⟨w.heap.size + 1, 0, none⟩) (by simp; omega)).trans ((World.cell?_alloc_lt w1 _ _ (by simp; omega)).trans t0)
               have v1 := (hb2.cell (p := ⟨w.heap.size + 1, 1, none⟩) (by simp; omega)).trans ((World.cell?_alloc_lt w1 _ _ (by simp; omega)).trans t1)
               have v2 := (hb2.cell (p := ⟨w.heap.size + 1, 2, none⟩) (by simp; omega)).trans ((World.cell?_alloc_lt w1 _ _ (by simp; omega)).trans t2)
               have v3 := (hb2.cell (p := ⟨w.heap.size + 1, 3, none⟩) (by simp; omega)).trans ((World.cell?_alloc_lt w1 _ _ (by simp; omega)).trans t3)
               have v4 := (hb2.cell (p := ⟨w.heap.size + 1, 4, none⟩) (by simp; omega)).trans ((World.cell?_alloc_lt w1 _ _ (by simp; omega)).trans t4)
               have v5 := (hb2.cell (p := ⟨w.heap.size + 1, 5, none⟩) (by simp; omega)).trans ((World.cell?_alloc_lt w1 _ _ (by simp; omega)).trans t5)
               have v6 := (hb2.cell (p := ⟨w.heap.size + 1, 6, none⟩) (by simp; omega)).trans ((World.cell?_alloc_lt w1 _ _ (by simp; omega)).trans t6)
               have v7 := (hb2.cell (p := ⟨w.heap.size + 1, 7, none⟩) (by simp; omega)).trans ((World.cell?_alloc_lt w1 _ _ (by simp; omega)).trans t7)
               have v8 := (hb2.cell (p := ⟨w.heap.size + 1, 8, none⟩) (by simp; omega)).trans ((World.cell?_alloc_lt w1 _ _ (by simp; omega)).trans t8)
               have v9 := (hb2.cell (p := ⟨w.heap.size + 1, 9, none⟩) (by simp; omega)).trans ((World.cell?_alloc_lt w1 _ _ (by simp; omega)).trans t9)
               have HB2 := Lib.hid hb2; clear hb2)
            | (go_at_call 73; refine (HAG.out _).mono ?_; rintro e w3 ⟨rfl, hb3⟩; have HB3 := Lib.hid hb3; clear hb3)
            | fail)
          go_ret
          exact ⟨ret_bool (by simp [e1, q2]), HB.out.trans ((HB1.out.trans (((unal HB2.out).trans (HB3.out.mono (unal HB2.out).size)).mono HB1.out.size)).mono HB.out.size)⟩
  · have e1 : decide (tm2 < tm) = false := by simpa using h1
    go_enter Try.func54, Try.ntmps54
    go_wp2_with (first
      | (go_at_call 71; rw [← hW]; refine (HAT.out _ (Below.refl _ _)).mono ?_; rintro e w1 ⟨rfl, hb1⟩
         have hlt1 : w.heap.size + 1 < w1.heap.size := by have := HZ.out; have := hb1.size; omega
         have hlt0 : w.heap.size < w1.heap.size := by have := HZ.out; have := hb1.size; omega
         have s0 := cellz (j := 0) (u := .int .u64 (ix : Int)) hb1 r0 rfl (by have := HZ.out; omega)
         have s1 := cellz (j := 1) (u := .int .u64 (tm : Int)) hb1 r0 rfl (by have := HZ.out; omega)
         have s2 := cellz (j := 2) (u := .int .u64 (st : Int)) hb1 r0 rfl (by have := HZ.out; omega)
         have s3 := cellz (j := 3) (u := .int .i64 kd) hb1 r0 rfl (by have := HZ.out; omega)
         have s4 := cellz (j := 4) (u := .int .u64 (cl : Int)) hb1 r0 rfl (by have := HZ.out; omega)
         have s5 := cellz (j := 5) (u := .int .u64 (rq : Int)) hb1 r0 rfl (by have := HZ.out; omega)
         have s6 := cellz (j := 6) (u := .int .u32 (fr : Int)) hb1 r0 rfl (by have := HZ.out; omega)
         have s7 := cellz (j := 7) (u := .int .u32 (ct : Int)) hb1 r0 rfl (by have := HZ.out; omega)
         have s8 := cellz (j := 8) (u := .string (str da)) hb1 r0 rfl (by have := HZ.out; omega)
         have s9 := cellz (j := 9) (u := .slice A bn bc) hb1 r0 rfl (by have := HZ.out; omega)
         have t0 := cellz (j := 0) (u := .int .u64 (ix2 : Int)) hb1 r1 rfl (by have := HZ.out; omega)
         have t1 := cellz (j := 1) (u := .int .u64 (tm2 : Int)) hb1 r1 rfl (by have := HZ.out; omega)
         have t2 := cellz (j := 2) (u := .int .u64 (st2 : Int)) hb1 r1 rfl (by have := HZ.out; omega)
         have t3 := cellz (j := 3) (u := .int .i64 kd2) hb1 r1 rfl (by have := HZ.out; omega)
         have t4 := cellz (j := 4) (u := .int .u64 (cl2 : Int)) hb1 r1 rfl (by have := HZ.out; omega)
         have t5 := cellz (j := 5) (u := .int .u64 (rq2 : Int)) hb1 r1 rfl (by have := HZ.out; omega)
         have t6 := cellz (j := 6) (u := .int .u32 (fr2 : Int)) hb1 r1 rfl (by have := HZ.out; omega)
         have t7 := cellz (j := 7) (u := .int .u32 (ct2 : Int)) hb1 r1 rfl (by have := HZ.out; omega)
         have t8 := cellz (j := 8) (u := .string (str da2)) hb1 r1 rfl (by have := HZ.out; omega)
         have t9 := cellz (j := 9) (u := .slice A2 bn2 bc2) hb1 r1 rfl (by have := HZ.out; omega)
         have HB1 := Lib.hid hb1
         clear hb1)
      | fail)
    go_ret
    exact ⟨ret_bool (by simp [e1]), (HB.out.trans (HB1.out.mono HB.out.size)).alloc (by have := HB1.out.size; have := HB.out.size; omega) _⟩


end Go.Proofs.Ytapfggpeodpflaa

namespace Go.Proofs.Ytapfggpeodpflaa
open Go.RowKit

def ens (es : List En) : List Value := es.flatMap (fun e => e.cells.toList)
theorem ens_len (es : List En) : (ens es).length = es.length * 10 := by
  induction es with
  | nil => rfl
  | cons o os ih =>
    show (o.cells.toList ++ ens os).length = _
    rw [List.length_append, ih]
    show 10 + os.length * 10 = (os.length + 1) * 10
    omega
theorem ens_get (os : List En) (i : Nat) (o : En) (hi : os[i]? = some o) (j : Nat) (u : Value) (hj : o.cells[j]? = some u) : (ens os)[i * 10 + j]? = some u := by
  induction os generalizing i with
  | nil => simp at hi
  | cons p os ih =>
    have e : ens (p :: os) = p.cells.toList ++ ens os := rfl
    have hl : p.cells.toList.length = 10 := rfl
    rw [e]
    cases i with
    | zero =>
      simp only [List.getElem?_cons_zero, Option.some.injEq] at hi
      subst hi
      have hj2 : j < p.cells.toList.length := by have := (Array.getElem?_eq_some_iff.1 hj).1; simpa using this
      rw [Nat.zero_mul, Nat.zero_add, List.getElem?_append_left hj2]
      simpa using hj
    | succ i =>
      simp only [List.getElem?_cons_succ] at hi
      rw [List.getElem?_append_right (by omega), hl, show (i + 1) * 10 + j - 10 = i * 10 + j from by omega]
      exact ih i hi
structure Ents (w : World) (A : Option Addr) (n c : Nat) (es : List En) : Prop where
  rd : Rd w w.heap.size 10 A n c (ens es)
  len : es.length = n
  reads : ∀ e ∈ es, e.Reads w
theorem Ents.below {w w' : World} {A : Option Addr} {n c : Nat} {es : List En} (h : Ents w A n c es) (hb : Below w.heap.size w w') : Ents w' A n c es := ⟨(h.rd.below hb).more hb.size, h.len, fun o ho => (h.reads o ho).below hb⟩
def En.fits (e : En) : Prop := e.da.length ≤ 20000 ∧ e.bn ≤ 200

def LAns (w : World) (p : Prop) (r : Ending) (w' : World) : Prop := ∃ b, r = .returned (.bool b) ∧ (b = true → p) ∧ Below w.heap.size w w'
theorem light9 (e : En) (w : World) (h : e.Reads w) : Calls Try.prog 46 #[.agg e.cells] w (LAns w e.fits) := by
  have hda := h.da
  have hbc := h.rd.2.1
  have hnc := h.rd.1
  clear h
  obtain ⟨ix, tm, st, kd, cl, rq, fr, ct, da, A, bn, bc, ls⟩ := e
  unfold En.cells En.fits
  dsimp only at *
  unfold maxLen at *
  have e1 : (str da).size = da.length := rfl
  generalize da.length = m at *
  go_enter Try.func46, Try.ntmps46
  go_wp2
  · go_ret
    exact ⟨_, rfl, fun h => ⟨by omega, by simp at h; omega⟩, (Below.refl _ _).alloc (Nat.le_refl _) _⟩
  · go_ret
    exact ⟨_, rfl, (fun h => by cases h), (Below.refl _ _).alloc (Nat.le_refl _) _⟩

def Fitl (es : List En) : Prop := es.length ≤ 200 ∧ ∀ e ∈ es, e.fits
set_option maxHeartbeats 4000000 in
theorem light10 {w : World} {A : Option Addr} {n c : Nat} {es : List En} (h : Ents w A n c es) :
    Calls Try.prog 32 #[.slice A n c] w (LAns w (Fitl es)) := by
  have hcap := h.rd.2.1
  have hnc := h.rd.1
  have hnm : (n : Int) ≤ 9223372036854775807 := by unfold maxLen at hcap; omega
  have HH := Lib.hid h
  clear h hcap hnc
  go_enter Try.func32, Try.ntmps32
  go_wp2
  go_loopw [7] (fun ir wr => ∃ (i : Nat), i ≤ n ∧ ir = .int .i64 (i : Int) ∧ Hid (∀ j o, j < i → es[j]? = some o → o.fits) ∧ Below w.heap.size w wr) (fun ir _ => n - (intOf ir).toNat)
  case atStart => exact ⟨0, Nat.zero_le _, rfl, Lib.hid (fun j o hj => absurd hj (Nat.not_lt_zero _)), Below.refl _ _⟩
  case round =>
    obtain ⟨i, hi, rfl, HA, hb⟩ := hrel
    have HB := Lib.hid hb
    clear hb
    by_cases hlt : i < n
    · obtain ⟨p, hp⟩ : ∃ p, es[i]? = some p := ⟨_, List.getElem?_eq_getElem (by have := HH.out.len; omega)⟩
      obtain ⟨b, o, rfl, hbb, hcc⟩ := HH.out.rd.2.2.2 (by omega)
      have hr := HH.out.reads p (List.mem_of_getElem? hp)
      have hli := fun (cs : Obj) => light9 p (wr.alloc cs) (hr.below (HB.out.alloc HB.out.size cs))
      have hc := fun j u (hu : p.cells[j]? = some u) => (HB.out.cell (p := ⟨b, o + (i * 10 + j), none⟩) hbb).trans (hcc _ _ (ens_get es i _ hp j u hu))
      have HP := Lib.hid hp
      have HLI := Lib.hid hli
      have hfit : ∀ P, p.fits = P → True := fun _ _ => trivial
      obtain ⟨ix, tm, st, kd, cl, rq, fr, ct, da, A1, bn, bc, ls⟩ := p
      unfold En.cells at *
      have k0 := hc 0 _ rfl
      have k1 := hc 1 _ rfl
      have k2 := hc 2 _ rfl
      have k3 := hc 3 _ rfl
      have k4 := hc 4 _ rfl
      have k5 := hc 5 _ rfl
      have k6 := hc 6 _ rfl
      have k7 := hc 7 _ rfl
      have k8 := hc 8 _ rfl
      have k9 := hc 9 _ rfl
      dsimp only at k0 k1 k2 k3 k4 k5 k6 k7 k8 k9
      simp only [← Nat.add_assoc, Nat.add_zero] at k0 k1 k2 k3 k4 k5 k6 k7 k8 k9
      have hlti : (i : Int) < (n : Int) := by omega
      have hin : (i : Int) ≤ 9223372036854775806 := by omega
      clear hc hcc hp hli hr hfit
      go_wp2_with (first
        | (go_at_call 46; refine (HLI.out _).mono ?_; rintro e w1 ⟨b1, rfl, hf1, hb1⟩
           have HF1 := Lib.hid hf1
           have HB1 := Lib.hid (HB.out.trans ((unal hb1).mono HB.out.size))
           clear hf1 hb1
           cases b1)
        | fail)
      · go_ret
        exact ⟨_, rfl, (fun h => by cases h), HB1.out⟩
      · go_roundw
        case rel => exact ⟨i + 1, by omega, by go_num, Lib.hid (fun j o hj ho => by
          rcases Nat.lt_or_ge j i with h1 | h1
          · exact HA.out j o h1 ho
          · obtain rfl : j = i := by omega
            rw [HP.out] at ho
            cases ho
            exact HF1.out trivial), HB1.out⟩
        case measure => simp [intOf]; omega
    · obtain rfl : i = n := by omega
      have hall : ∀ e ∈ es, e.fits := fun e he => by
        obtain ⟨j, hj⟩ := List.getElem?_of_mem he
        exact HA.out j e (by have h1 := (List.getElem?_eq_some_iff.1 hj).1; have := HH.out.len; omega) hj
      have HALL := Lib.hid hall
      clear hall
      by_cases h200 : i ≤ 200
      · go_wp2
        go_ret
        exact ⟨_, rfl, fun _ => ⟨by have := HH.out.len; omega, HALL.out⟩, HB.out⟩
      · have q1 : decide (i ≤ 200) = false := by simpa using h200
        go_wp2
        go_ret
        exact ⟨_, rfl, (fun h => by simp at h; omega), HB.out⟩

end Go.Proofs.Ytapfggpeodpflaa
