/- What is void: the program's and the reference's. What is void: the program's and the reference's. -/
import Derived.Test.YtapfggpeodpflaaTellsbM
namespace Go.Proofs.Ytapfggpeodpflaa
open Go.RowKit


set_option maxHeartbeats 2000000 in
theorem again_any (e x : En) (w : World) : Calls Try.prog 81 #[.agg e.cells, .agg x.cells] w fun r w' => r = .returned (.bool (e.again x)) ∧ Below w.heap.size w w' := by
  obtain ⟨ix, tm, st, kd, cl, rq, fr, ct, da, A, bn, bc, ls⟩ := e
  obtain ⟨ix2, tm2, st2, kd2, cl2, rq2, fr2, ct2, da2, A2, bn2, bc2, ls2⟩ := x
  unfold En.cells
  have hg : En.again ⟨ix, tm, st, kd, cl, rq, fr, ct, da, A, bn, bc, ls⟩ ⟨ix2, tm2, st2, kd2, cl2, rq2, fr2, ct2, da2, A2, bn2, bc2, ls2⟩ = ((kd == 1) && ((kd2 == 1) && (((cl : Int) == (cl2 : Int)) && (((rq : Int) == (rq2 : Int)) && ((ix : Int) != (ix2 : Int)))))) := by
    unfold En.again
    have b1 : decide (kd = 1) = (kd == 1) := by by_cases h : kd = 1 <;> simp [h]
    have b2 : decide (kd2 = 1) = (kd2 == 1) := by by_cases h : kd2 = 1 <;> simp [h]
    have b3 : decide (cl = cl2) = ((cl : Int) == (cl2 : Int)) := by by_cases h : cl = cl2 <;> simp [h] <;> omega
    have b4 : decide (rq = rq2) = ((rq : Int) == (rq2 : Int)) := by by_cases h : rq = rq2 <;> simp [h] <;> omega
    have b5 : decide (ix ≠ ix2) = ((ix : Int) != (ix2 : Int)) := by by_cases h : ix = ix2 <;> simp [h] <;> omega
    dsimp only
    rw [b1, b2, b3, b4, b5]
  rw [hg]
  clear hg
  by_cases h1 : kd = 1
  · subst h1
    by_cases h2 : kd2 = 1
    · subst h2
      by_cases h3 : cl = cl2
      · subst h3
        by_cases h4 : rq = rq2
        · subst h4
          by_cases h5 : ix = ix2
          · subst h5
            go_enter Try.func81, Try.ntmps81
            go_wp2
            go_ret
            exact ⟨by simp [*], below2 _ _ _⟩
          · have q5 : ((ix : Int) == (ix2 : Int)) = false := by simp; omega
            have r5 : (ix == ix2) = false := by simpa using h5
            clear h5
            go_enter Try.func81, Try.ntmps81
            go_wp2
            go_ret
            exact ⟨by simp [*], below2 _ _ _⟩
        · have q4 : ((rq : Int) == (rq2 : Int)) = false := by simp; omega
          have r4 : (rq == rq2) = false := by simpa using h4
          clear h4
          go_enter Try.func81, Try.ntmps81
          go_wp2
          go_ret
          exact ⟨by simp [*], below2 _ _ _⟩
      · have q3 : ((cl : Int) == (cl2 : Int)) = false := by simp; omega
        have r3 : (cl == cl2) = false := by simpa using h3
        clear h3
        go_enter Try.func81, Try.ntmps81
        go_wp2
        go_ret
        exact ⟨by simp [*], below2 _ _ _⟩
    · have q2 : (kd2 == 1) = false := by simpa using h2
      clear h2
      go_enter Try.func81, Try.ntmps81
      go_wp2
      go_ret
      exact ⟨by simp [*], below2 _ _ _⟩
  · have q1 : (kd == 1) = false := by simpa using h1
    clear h1
    go_enter Try.func81, Try.ntmps81
    go_wp2
    go_ret
    exact ⟨by simp [*], below2 _ _ _⟩

set_option maxHeartbeats 2000000 in
theorem ragain_any (e x : En) (w : World) : Calls Try.prog 73 #[.agg e.cells, .agg x.cells] w fun r w' => r = .returned (.bool (e.again x)) ∧ Below w.heap.size w w' := by
  obtain ⟨ix, tm, st, kd, cl, rq, fr, ct, da, A, bn, bc, ls⟩ := e
  obtain ⟨ix2, tm2, st2, kd2, cl2, rq2, fr2, ct2, da2, A2, bn2, bc2, ls2⟩ := x
  unfold En.cells
  have hg : En.again ⟨ix, tm, st, kd, cl, rq, fr, ct, da, A, bn, bc, ls⟩ ⟨ix2, tm2, st2, kd2, cl2, rq2, fr2, ct2, da2, A2, bn2, bc2, ls2⟩ = ((kd == 1) && ((kd2 == 1) && (((cl : Int) == (cl2 : Int)) && (((rq : Int) == (rq2 : Int)) && ((ix : Int) != (ix2 : Int)))))) := by
    unfold En.again
    have b1 : decide (kd = 1) = (kd == 1) := by by_cases h : kd = 1 <;> simp [h]
    have b2 : decide (kd2 = 1) = (kd2 == 1) := by by_cases h : kd2 = 1 <;> simp [h]
    have b3 : decide (cl = cl2) = ((cl : Int) == (cl2 : Int)) := by by_cases h : cl = cl2 <;> simp [h] <;> omega
    have b4 : decide (rq = rq2) = ((rq : Int) == (rq2 : Int)) := by by_cases h : rq = rq2 <;> simp [h] <;> omega
    have b5 : decide (ix ≠ ix2) = ((ix : Int) != (ix2 : Int)) := by by_cases h : ix = ix2 <;> simp [h] <;> omega
    dsimp only
    rw [b1, b2, b3, b4, b5]
  rw [hg]
  clear hg
  by_cases h1 : kd = 1
  · subst h1
    by_cases h2 : kd2 = 1
    · subst h2
      by_cases h3 : cl = cl2
      · subst h3
        by_cases h4 : rq = rq2
        · subst h4
          by_cases h5 : ix = ix2
          · subst h5
            go_enter Try.func73, Try.ntmps73
            go_wp2
            go_ret
            exact ⟨by simp [*], below2 _ _ _⟩
          · have q5 : ((ix : Int) == (ix2 : Int)) = false := by simp; omega
            have r5 : (ix == ix2) = false := by simpa using h5
            clear h5
            go_enter Try.func73, Try.ntmps73
            go_wp2
            go_ret
            exact ⟨by simp [*], below2 _ _ _⟩
        · have q4 : ((rq : Int) == (rq2 : Int)) = false := by simp; omega
          have r4 : (rq == rq2) = false := by simpa using h4
          clear h4
          go_enter Try.func73, Try.ntmps73
          go_wp2
          go_ret
          exact ⟨by simp [*], below2 _ _ _⟩
      · have q3 : ((cl : Int) == (cl2 : Int)) = false := by simp; omega
        have r3 : (cl == cl2) = false := by simpa using h3
        clear h3
        go_enter Try.func73, Try.ntmps73
        go_wp2
        go_ret
        exact ⟨by simp [*], below2 _ _ _⟩
    · have q2 : (kd2 == 1) = false := by simpa using h2
      clear h2
      go_enter Try.func73, Try.ntmps73
      go_wp2
      go_ret
      exact ⟨by simp [*], below2 _ _ _⟩
  · have q1 : (kd == 1) = false := by simpa using h1
    clear h1
    go_enter Try.func73, Try.ntmps73
    go_wp2
    go_ret
    exact ⟨by simp [*], below2 _ _ _⟩


end Go.Proofs.Ytapfggpeodpflaa

namespace Go.Proofs.Ytapfggpeodpflaa
open Go.RowKit

set_option maxHeartbeats 2000000 in
theorem other_any (e x : En) (w : World) (h : e.Reads w) (hx : x.Reads w) : Calls Try.prog 80 #[.agg e.cells, .agg x.cells] w fun r w' => r = .returned (.bool (e.other x)) ∧ Below w.heap.size w w' := by
  obtain ⟨W, hW, hz, r0, r1, hb⟩ := boxes2 w e.cells x.cells 55 55
  have hAT := fun W' (hb' : Below W.heap.size W W') => at_any e x.ix W' ((h.below hb).below hb') hx.ix
  have hTL := fun W' (hb' : Below W.heap.size W W') => tells_any e x W' ((h.below hb).below hb') ((hx.below hb).below hb')
  have HB := Lib.hid hb
  have HZ := Lib.hid hz
  have hot : e.other x = ((e.at x.ix).isSome && !e.tells x) := rfl
  rw [hot]
  generalize e.tells x = T at *
  cases hat : e.at x.ix with
  | none =>
    rw [hat] at hAT
    have HAT := Lib.hid hAT
    clear hot hat hAT hTL h hx hb hz
    obtain ⟨ix, tm, st, kd, cl, rq, fr, ct, da, A, bn, bc, ls⟩ := e
    obtain ⟨ix2, tm2, st2, kd2, cl2, rq2, fr2, ct2, da2, A2, bn2, bc2, ls2⟩ := x
    unfold En.cells at *
    dsimp only at *
    go_enter Try.func80, Try.ntmps80
    go_wp2_with (first
      | (go_at_call 85; rw [← hW]; refine (HAT.out _ (Below.refl _ _)).mono ?_; unfold toldV Lk.zero Lk.val; dsimp only [Option.getD, Option.isSome]; rintro e w1 ⟨rfl, hb1⟩
         have HB1 := Lib.hid hb1
         clear hb1)
      | fail)
    go_ret
    exact ⟨rfl, (HB.out.trans (HB1.out.mono HB.out.size)).alloc (by have := HB1.out.size; have := HB.out.size; omega) _⟩
  | some l =>
    rw [hat] at hAT
    have HAT := Lib.hid hAT
    have HTL := Lib.hid hTL
    clear hot hat hAT hTL h hx hb hz
    obtain ⟨ix, tm, st, kd, cl, rq, fr, ct, da, A, bn, bc, ls⟩ := e
    obtain ⟨ix2, tm2, st2, kd2, cl2, rq2, fr2, ct2, da2, A2, bn2, bc2, ls2⟩ := x
    obtain ⟨l1, l2, l3, l4⟩ := l
    unfold En.cells at *
    dsimp only at *
    go_enter Try.func80, Try.ntmps80
    go_wp2_with (first
      | (go_at_call 85; rw [← hW]; refine (HAT.out _ (Below.refl _ _)).mono ?_; unfold toldV Lk.val; dsimp only [Option.getD, Option.isSome]; rintro e w1 ⟨rfl, hb1⟩
         have hlt1 : w.heap.size + 1 < w1.heap.size := by have := HZ.out; have := hb1.size; omega
         have hlt0 : w.heap.size < w1.heap.size := by have := HZ.out; have := hb1.size; omega
         have s0 := cellz (j := 0) (u := .int .u64 (ix : Int)) hb1 r0 rfl (by have := HZ.out; omega)
         have s1 := cellz (j := 1) (u := .int .u64 (tm : Int)) hb1 r0 rfl (by have := HZ.out; omega)
         have s2 := cellz (j := 2) (u := .int .u64 (st : Int)) hb1 r0 rfl (by have := HZ.out; omega)
         have s3 := cellz (j := 3) (u := .int .i64 kd) hb1 r0 rfl (by have := HZ.out; omega)
         have s4 := cellz (j := 4) (u := .int .u64 (cl : Int)) hb1 r0 rfl (by have := HZ.out; omega)
         have s5 := cellz (j := 5) (u := .int .u64 (rq : Int)) hb1 r0 rfl (by have := HZ.out; omega)
         have s6 := cellz (j := 6) (u := .int .u32 (fr : Int)) hb1 r0 rfl (by have := HZ.out; omega)
         have s7 := cellz (j := 7) (u := .int .u32 (ct : Int)) hb1 r0 rfl (by have := HZ.out; omega)
         have s8 := cellz (j := 8) (u := .string (str da)) hb1 r0 rfl (by have := HZ.out; omega)
         have s9 := cellz (j := 9) (u := .slice A bn bc) hb1 r0 rfl (by have := HZ.out; omega)
         have t0 := cellz (j := 0) (u := .int .u64 (ix2 : Int)) hb1 r1 rfl (by have := HZ.out; omega)
         have t1 := cellz (j := 1) (u := .int .u64 (tm2 : Int)) hb1 r1 rfl (by have := HZ.out; omega)
         have t2 := cellz (j := 2) (u := .int .u64 (st2 : Int)) hb1 r1 rfl (by have := HZ.out; omega)
         have t3 := cellz (j := 3) (u := .int .i64 kd2) hb1 r1 rfl (by have := HZ.out; omega)
         have t4 := cellz (j := 4) (u := .int .u64 (cl2 : Int)) hb1 r1 rfl (by have := HZ.out; omega)
         have t5 := cellz (j := 5) (u := .int .u64 (rq2 : Int)) hb1 r1 rfl (by have := HZ.out; omega)
         have t6 := cellz (j := 6) (u := .int .u32 (fr2 : Int)) hb1 r1 rfl (by have := HZ.out; omega)
         have t7 := cellz (j := 7) (u := .int .u32 (ct2 : Int)) hb1 r1 rfl (by have := HZ.out; omega)
         have t8 := cellz (j := 8) (u := .string (str da2)) hb1 r1 rfl (by have := HZ.out; omega)
         have t9 := cellz (j := 9) (u := .slice A2 bn2 bc2) hb1 r1 rfl (by have := HZ.out; omega)
         have HB1 := Lib.hid hb1
         clear hb1)
      | (go_at_call 86; refine (HTL.out _ (HB1.out.alloc HB1.out.size _)).mono ?_; rintro e w2 ⟨rfl, hb2⟩; have HB2 := Lib.hid hb2; clear hb2)
      | fail)
    go_ret
    exact ⟨ret_bool (by simp), HB.out.trans ((HB1.out.trans ((unal HB2.out).mono HB1.out.size)).mono HB.out.size)⟩

set_option maxHeartbeats 4000000 in
theorem voids_any (e x : En) (w : World) (h : e.Reads w) (hx : x.Reads w) : Calls Try.prog 67 #[.agg e.cells, .agg x.cells] w fun r w' => r = .returned (.bool (e.voids x)) ∧ Below w.heap.size w w' := by
  obtain ⟨W, hW, hz, r0, r1, hb⟩ := boxes2 w e.cells x.cells 55 55
  have hOT := fun W' (hb' : Below W.heap.size W W') => other_any e x W' ((h.below hb).below hb') ((hx.below hb).below hb')
  have hAG := fun W' => again_any e x W'
  have hvo : e.voids x = (decide (x.tm < e.tm) && (decide (e.st ≤ x.ix) || (e.other x || e.again x))) := rfl
  rw [hvo]
  clear hvo
  have HB := Lib.hid hb
  have HZ := Lib.hid hz
  have HOT := Lib.hid hOT
  have HAG := Lib.hid hAG
  clear hOT hAG h hx hb hz
  generalize e.other x = O at *
  generalize e.again x = R at *
  obtain ⟨ix, tm, st, kd, cl, rq, fr, ct, da, A, bn, bc, ls⟩ := e
  obtain ⟨ix2, tm2, st2, kd2, cl2, rq2, fr2, ct2, da2, A2, bn2, bc2, ls2⟩ := x
  unfold En.cells at *
  dsimp only at *
  by_cases h1 : tm2 < tm
  · have q1 : decide (tm ≤ tm2) = false := by simpa using h1
    have e1 : decide (tm2 < tm) = true := by simpa using h1
    by_cases h2 : st ≤ ix2
    · have q2 : decide (st ≤ ix2) = true := by simpa using h2
      go_enter Try.func67, Try.ntmps67
      go_wp2
      go_ret
      exact ⟨ret_bool (by simp [e1, q2]), below2 _ _ _⟩
    · have q2 : decide (st ≤ ix2) = false := by simpa using h2
      cases O
      · go_enter Try.func67, Try.ntmps67
        go_wp2_with (first
          | (go_at_call 80; rw [← hW]; refine (HOT.out _ (Below.refl _ _)).mono ?_; rintro e w1 ⟨rfl, hb1⟩
             have s0 := cellz (j := 0) (u := .int .u64 (ix : Int)) hb1 r0 rfl (by have := HZ.out; omega)
             have s1 := cellz (j := 1) (u := .int .u64 (tm : Int)) hb1 r0 rfl (by have := HZ.out; omega)
             have s2 := cellz (j := 2) (u := .int .u64 (st : Int)) hb1 r0 rfl (by have := HZ.out; omega)
             have s3 := cellz (j := 3) (u := .int .i64 kd) hb1 r0 rfl (by have := HZ.out; omega)
             have s4 := cellz (j := 4) (u := .int .u64 (cl : Int)) hb1 r0 rfl (by have := HZ.out; omega)
             have s5 := cellz (j := 5) (u := .int .u64 (rq : Int)) hb1 r0 rfl (by have := HZ.out; omega)
             have s6 := cellz (j := 6) (u := .int .u32 (fr : Int)) hb1 r0 rfl (by have := HZ.out; omega)
             have s7 := cellz (j := 7) (u := .int .u32 (ct : Int)) hb1 r0 rfl (by have := HZ.out; omega)
             have s8 := cellz (j := 8) (u := .string (str da)) hb1 r0 rfl (by have := HZ.out; omega)
             have s9 := cellz (j := 9) (u := .slice A bn bc) hb1 r0 rfl (by have := HZ.out; omega)
             have t0 := cellz (j := 0) (u := .int .u64 (ix2 : Int)) hb1 r1 rfl (by have := HZ.out; omega)
             have t1 := cellz (j := 1) (u := .int .u64 (tm2 : Int)) hb1 r1 rfl (by have := HZ.out; omega)
             have t2 := cellz (j := 2) (u := .int .u64 (st2 : Int)) hb1 r1 rfl (by have := HZ.out; omega)
             have t3 := cellz (j := 3) (u := .int .i64 kd2) hb1 r1 rfl (by have := HZ.out; omega)
             have t4 := cellz (j := 4) (u := .int .u64 (cl2 : Int)) hb1 r1 rfl (by have := HZ.out; omega)
             have t5 := cellz (j := 5) (u := .int .u64 (rq2 : Int)) hb1 r1 rfl (by have := HZ.out; omega)
             have t6 := cellz (j := 6) (u := .int .u32 (fr2 : Int)) hb1 r1 rfl (by have := HZ.out; omega)
             have t7 := cellz (j := 7) (u := .int .u32 (ct2 : Int)) hb1 r1 rfl (by have := HZ.out; omega)
             have t8 := cellz (j := 8) (u := .string (str da2)) hb1 r1 rfl (by have := HZ.out; omega)
             have t9 := cellz (j := 9) (u := .slice A2 bn2 bc2) hb1 r1 rfl (by have := HZ.out; omega)
             have HB1 := Lib.hid hb1
             clear hb1)
          | (go_at_call 81; refine (HAG.out _).mono ?_; rintro e w2 ⟨rfl, hb2⟩; have HB2 := Lib.hid hb2; clear hb2)
          | fail)
        go_ret
        exact ⟨ret_bool (by simp [e1, q2]), HB.out.trans ((HB1.out.trans (HB2.out.mono HB1.out.size)).mono HB.out.size)⟩
      · go_enter Try.func67, Try.ntmps67
        go_wp2_with (first
          | (go_at_call 80; rw [← hW]; refine (HOT.out _ (Below.refl _ _)).mono ?_; rintro e w1 ⟨rfl, hb1⟩
             have HB1 := Lib.hid hb1
             clear hb1)
          | fail)
        go_ret
        exact ⟨ret_bool (by simp [e1, q2]), HB.out.trans (HB1.out.mono HB.out.size)⟩
  · have q1 : decide (tm ≤ tm2) = true := by simpa using h1
    have e1 : decide (tm2 < tm) = false := by simpa using h1
    go_enter Try.func67, Try.ntmps67
    go_wp2
    go_ret
    exact ⟨ret_bool (by simp [e1]), below2 _ _ _⟩

set_option maxHeartbeats 4000000 in
theorem rvoids_any (e x : En) (w : World) (h : e.Reads w) (hx : x.Reads w) : Calls Try.prog 54 #[.agg e.cells, .agg x.cells] w fun r w' => r = .returned (.bool (e.voids x)) ∧ Below w.heap.size w w' := by
  obtain ⟨W, hW, hz, r0, r1, hb⟩ := boxes2 w e.cells x.cells 55 55
  have hAT := fun W' (hb' : Below W.heap.size W W') => rat_any e x.ix W' ((h.below hb).below hb') hx.ix
  have hTL := fun W' (hb' : Below W.heap.size W W') => rtells_any e x W' ((h.below hb).below hb') ((hx.below hb).below hb')
  have hAG := fun W' => ragain_any e x W'
  have hvo : e.voids x = (decide (x.tm < e.tm) && (decide (e.st ≤ x.ix) || (((e.at x.ix).isSome && !e.tells x) || e.again x))) := rfl
  rw [hvo]
  clear hvo
  have hat : ∃ l b, toldV (e.at x.ix) = .tuple #[Lk.val l, .bool b] ∧ (e.at x.ix).isSome = b := ⟨_, _, rfl, rfl⟩
  obtain ⟨l, b, hat, hsb⟩ := hat
  rw [hat] at hAT
  rw [hsb]
  have HB := Lib.hid hb
  have HZ := Lib.hid hz
  have HAT := Lib.hid hAT
  have HTL := Lib.hid hTL
  have HAG := Lib.hid hAG
  clear hAT hTL hAG h hx hb hz hat hsb
  generalize e.tells x = T at *
  generalize e.again x = R at *
  obtain ⟨ix, tm, st, kd, cl, rq, fr, ct, da, A, bn, bc, ls⟩ := e
  obtain ⟨ix2, tm2, st2, kd2, cl2, rq2, fr2, ct2, da2, A2, bn2, bc2, ls2⟩ := x
  obtain ⟨l1, l2, l3, l4⟩ := l
  unfold En.cells Lk.val at *
  dsimp only at *
  by_cases h1 : tm2 < tm
  · have e1 : decide (tm2 < tm) = true := by simpa using h1
    by_cases h2 : st ≤ ix2
    · have q2 : decide (st ≤ ix2) = true := by simpa using h2
      go_enter Try.func54, Try.ntmps54
      go_wp2_with (first
        | (go_at_call 71; rw [← hW]; refine (HAT.out _ (Below.refl _ _)).mono ?_; rintro e w1 ⟨rfl, hb1⟩
           have hlt1 : w.heap.size + 1 < w1.heap.size := by have := HZ.out; have := hb1.size; omega
           have hlt0 : w.heap.size < w1.heap.size := by have := HZ.out; have := hb1.size; omega
           have s0 := cellz (j := 0) (u := .int .u64 (ix : Int)) hb1 r0 rfl (by have := HZ.out; omega)
           have s1 := cellz (j := 1) (u := .int .u64 (tm : Int)) hb1 r0 rfl (by have := HZ.out; omega)
           have s2 := cellz (j := 2) (u := .int .u64 (st : Int)) hb1 r0 rfl (by have := HZ.out; omega)
           have s3 := cellz (j := 3) (u := .int .i64 kd) hb1 r0 rfl (by have := HZ.out; omega)
           have s4 := cellz (j := 4) (u := .int .u64 (cl : Int)) hb1 r0 rfl (by have := HZ.out; omega)
           have s5 := cellz (j := 5) (u := .int .u64 (rq : Int)) hb1 r0 rfl (by have := HZ.out; omega)
           have s6 := cellz (j := 6) (u := .int .u32 (fr : Int)) hb1 r0 rfl (by have := HZ.out; omega)
           have s7 := cellz (j := 7) (u := .int .u32 (ct : Int)) hb1 r0 rfl (by have := HZ.out; omega)
           have s8 := cellz (j := 8) (u := .string (str da)) hb1 r0 rfl (by have := HZ.out; omega)
           have s9 := cellz (j := 9) (u := .slice A bn bc) hb1 r0 rfl (by have := HZ.out; omega)
           have t0 := cellz (j := 0) (u := .int .u64 (ix2 : Int)) hb1 r1 rfl (by have := HZ.out; omega)
           have t1 := cellz (j := 1) (u := .int .u64 (tm2 : Int)) hb1 r1 rfl (by have := HZ.out; omega)
           have t2 := cellz (j := 2) (u := .int .u64 (st2 : Int)) hb1 r1 rfl (by have := HZ.out; omega)
           have t3 := cellz (j := 3) (u := .int .i64 kd2) hb1 r1 rfl (by have := HZ.out; omega)
           have t4 := cellz (j := 4) (u := .int .u64 (cl2 : Int)) hb1 r1 rfl (by have := HZ.out; omega)
           have t5 := cellz (j := 5) (u := .int .u64 (rq2 : Int)) hb1 r1 rfl (by have := HZ.out; omega)
           have t6 := cellz (j := 6) (u := .int .u32 (fr2 : Int)) hb1 r1 rfl (by have := HZ.out; omega)
           have t7 := cellz (j := 7) (u := .int .u32 (ct2 : Int)) hb1 r1 rfl (by have := HZ.out; omega)
           have t8 := cellz (j := 8) (u := .string (str da2)) hb1 r1 rfl (by have := HZ.out; omega)
           have t9 := cellz (j := 9) (u := .slice A2 bn2 bc2) hb1 r1 rfl (by have := HZ.out; omega)
           have HB1 := Lib.hid hb1
           clear hb1)
        | fail)
      go_ret
      exact ⟨ret_bool (by simp [e1, q2]), (HB.out.trans (HB1.out.mono HB.out.size)).alloc (by have := HB1.out.size; have := HB.out.size; omega) _⟩
    · have q2 : decide (st ≤ ix2) = false := by simpa using h2
      cases b
      · skip
        go_enter Try.func54, Try.ntmps54
        go_wp2_with (first
          | (go_at_call 71; rw [← hW]; refine (HAT.out _ (Below.refl _ _)).mono ?_; rintro e w1 ⟨rfl, hb1⟩
             have hlt1 : w.heap.size + 1 < w1.heap.size := by have := HZ.out; have := hb1.size; omega
             have hlt0 : w.heap.size < w1.heap.size := by have := HZ.out; have := hb1.size; omega
             have s0 := cellz (j := 0) (u := .int .u64 (ix : Int)) hb1 r0 rfl (by have := HZ.out; omega)
             have s1 := cellz (j := 1) (u := .int .u64 (tm : Int)) hb1 r0 rfl (by have := HZ.out; omega)
             have s2 := cellz (j := 2) (u := .int .u64 (st : Int)) hb1 r0 rfl (by have := HZ.out; omega)
             have s3 := cellz (j := 3) (u := .int .i64 kd) hb1 r0 rfl (by have := HZ.out; omega)
             have s4 := cellz (j := 4) (u := .int .u64 (cl : Int)) hb1 r0 rfl (by have := HZ.out; omega)
             have s5 := cellz (j := 5) (u := .int .u64 (rq : Int)) hb1 r0 rfl (by have := HZ.out; omega)
             have s6 := cellz (j := 6) (u := .int .u32 (fr : Int)) hb1 r0 rfl (by have := HZ.out; omega)
             have s7 := cellz (j := 7) (u := .int .u32 (ct : Int)) hb1 r0 rfl (by have := HZ.out; omega)
             have s8 := cellz (j := 8) (u := .string (str da)) hb1 r0 rfl (by have := HZ.out; omega)
             have s9 := cellz (j := 9) (u := .slice A bn bc) hb1 r0 rfl (by have := HZ.out; omega)
             have t0 := cellz (j := 0) (u := .int .u64 (ix2 : Int)) hb1 r1 rfl (by have := HZ.out; omega)
             have t1 := cellz (j := 1) (u := .int .u64 (tm2 : Int)) hb1 r1 rfl (by have := HZ.out; omega)
             have t2 := cellz (j := 2) (u := .int .u64 (st2 : Int)) hb1 r1 rfl (by have := HZ.out; omega)
             have t3 := cellz (j := 3) (u := .int .i64 kd2) hb1 r1 rfl (by have := HZ.out; omega)
             have t4 := cellz (j := 4) (u := .int .u64 (cl2 : Int)) hb1 r1 rfl (by have := HZ.out; omega)
             have t5 := cellz (j := 5) (u := .int .u64 (rq2 : Int)) hb1 r1 rfl (by have := HZ.out; omega)
             have t6 := cellz (j := 6) (u := .int .u32 (fr2 : Int)) hb1 r1 rfl (by have := HZ.out; omega)
             have t7 := cellz (j := 7) (u := .int .u32 (ct2 : Int)) hb1 r1 rfl (by have := HZ.out; omega)
             have t8 := cellz (j := 8) (u := .string (str da2)) hb1 r1 rfl (by have := HZ.out; omega)
             have t9 := cellz (j := 9) (u := .slice A2 bn2 bc2) hb1 r1 rfl (by have := HZ.out; omega)
             have HB1 := Lib.hid hb1
             clear hb1)
          | (go_at_call 73; refine (HAG.out _).mono ?_; rintro e w3 ⟨rfl, hb3⟩; have HB3 := Lib.hid hb3; clear hb3)
          | fail)
        go_ret
        exact ⟨ret_bool (by simp [e1, q2]), HB.out.trans ((HB1.out.trans ((unal HB3.out).mono HB1.out.size)).mono HB.out.size)⟩
      · cases T
        · skip
          go_enter Try.func54, Try.ntmps54
          go_wp2_with (first
            | (go_at_call 71; rw [← hW]; refine (HAT.out _ (Below.refl _ _)).mono ?_; rintro e w1 ⟨rfl, hb1⟩
               have hlt1 : w.heap.size + 1 < w1.heap.size := by have := HZ.out; have := hb1.size; omega
               have hlt0 : w.heap.size < w1.heap.size := by have := HZ.out; have := hb1.size; omega
               have s0 := cellz (j := 0) (u := .int .u64 (ix : Int)) hb1 r0 rfl (by have := HZ.out; omega)
               have s1 := cellz (j := 1) (u := .int .u64 (tm : Int)) hb1 r0 rfl (by have := HZ.out; omega)
               have s2 := cellz (j := 2) (u := .int .u64 (st : Int)) hb1 r0 rfl (by have := HZ.out; omega)
               have s3 := cellz (j := 3) (u := .int .i64 kd) hb1 r0 rfl (by have := HZ.out; omega)
               have s4 := cellz (j := 4) (u := .int .u64 (cl : Int)) hb1 r0 rfl (by have := HZ.out; omega)
               have s5 := cellz (j := 5) (u := .int .u64 (rq : Int)) hb1 r0 rfl (by have := HZ.out; omega)
               have s6 := cellz (j := 6) (u := .int .u32 (fr : Int)) hb1 r0 rfl (by have := HZ.out; omega)
               have s7 := cellz (j := 7) (u := .int .u32 (ct : Int)) hb1 r0 rfl (by have := HZ.out; omega)
               have s8 := cellz (j := 8) (u := .string (str da)) hb1 r0 rfl (by have := HZ.out; omega)
               have s9 := cellz (j := 9) (u := .slice A bn bc) hb1 r0 rfl (by have := HZ.out; omega)
               have t0 := cellz (j := 0) (u := .int .u64 (ix2 : Int)) hb1 r1 rfl (by have := HZ.out; omega)
               have t1 := cellz (j := 1) (u := .int .u64 (tm2 : Int)) hb1 r1 rfl (by have := HZ.out; omega)
               have t2 := cellz (j := 2) (u := .int .u64 (st2 : Int)) hb1 r1 rfl (by have := HZ.out; omega)
               have t3 := cellz (j := 3) (u := .int .i64 kd2) hb1 r1 rfl (by have := HZ.out; omega)
               have t4 := cellz (j := 4) (u := .int .u64 (cl2 : Int)) hb1 r1 rfl (by have := HZ.out; omega)
               have t5 := cellz (j := 5) (u := .int .u64 (rq2 : Int)) hb1 r1 rfl (by have := HZ.out; omega)
               have t6 := cellz (j := 6) (u := .int .u32 (fr2 : Int)) hb1 r1 rfl (by have := HZ.out; omega)
               have t7 := cellz (j := 7) (u := .int .u32 (ct2 : Int)) hb1 r1 rfl (by have := HZ.out; omega)
               have t8 := cellz (j := 8) (u := .string (str da2)) hb1 r1 rfl (by have := HZ.out; omega)
               have t9 := cellz (j := 9) (u := .slice A2 bn2 bc2) hb1 r1 rfl (by have := HZ.out; omega)
               have HB1 := Lib.hid hb1
               clear hb1)
            | (go_at_call 72; refine (HTL.out _ (HB1.out.alloc HB1.out.size _)).mono ?_; rintro e w2 ⟨rfl, hb2⟩; have HB2 := Lib.hid hb2; clear hb2)
            | fail)
          go_ret
          exact ⟨ret_bool (by simp [e1, q2]), HB.out.trans ((HB1.out.trans ((unal HB2.out).mono HB1.out.size)).mono HB.out.size)⟩
        · skip
          go_enter Try.func54, Try.ntmps54
          go_wp2_with (first
            | (go_at_call 71; rw [← hW]; refine (HAT.out _ (Below.refl _ _)).mono ?_; rintro e w1 ⟨rfl, hb1⟩
               have hlt1 : w.heap.size + 1 < w1.heap.size := by have := HZ.out; have := hb1.size; omega
               have hlt0 : w.heap.size < w1.heap.size := by have := HZ.out; have := hb1.size; omega
               have s0 := cellz (j := 0) (u := .int .u64 (ix : Int)) hb1 r0 rfl (by have := HZ.out; omega)
               have s1 := cellz (j := 1) (u := .int .u64 (tm : Int)) hb1 r0 rfl (by have := HZ.out; omega)
               have s2 := cellz (j := 2) (u := .int .u64 (st : Int)) hb1 r0 rfl (by have := HZ.out; omega)
               have s3 := cellz (j := 3) (u := .int .i64 kd) hb1 r0 rfl (by have := HZ.out; omega)
               have s4 := cellz (j := 4) (u := .int .u64 (cl : Int)) hb1 r0 rfl (by have := HZ.out; omega)
               have s5 := cellz (j := 5) (u := .int .u64 (rq : Int)) hb1 r0 rfl (by have := HZ.out; omega)
               have s6 := cellz (j := 6) (u := .int .u32 (fr : Int)) hb1 r0 rfl (by have := HZ.out; omega)
               have s7 := cellz (j := 7) (u := .int .u32 (ct : Int)) hb1 r0 rfl (by have := HZ.out; omega)
               have s8 := cellz (j := 8) (u := .string (str da)) hb1 r0 rfl (by have := HZ.out; omega)
               have s9 := cellz (j := 9) (u := .slice A bn bc) hb1 r0 rfl (by have := HZ.out; omega)
               have t0 := cellz (j := 0) (u := .int .u64 (ix2 : Int)) hb1 r1 rfl (by have := HZ.out; omega)
               have t1 := cellz (j := 1) (u := .int .u64 (tm2 : Int)) hb1 r1 rfl (by have := HZ.out; omega)
               have t2 := cellz (j := 2) (u := .int .u64 (st2 : Int)) hb1 r1 rfl (by have := HZ.out; omega)
               have t3 := cellz (j := 3) (u := .int .i64 kd2) hb1 r1 rfl (by have := HZ.out; omega)
               have t4 := cellz (j := 4) (u := .int .u64 (cl2 : Int)) hb1 r1 rfl (by have := HZ.out; omega)
               have t5 := cellz (j := 5) (u := .int .u64 (rq2 : Int)) hb1 r1 rfl (by have := HZ.out; omega)
               have t6 := cellz (j := 6) (u := .int .u32 (fr2 : Int)) hb1 r1 rfl (by have := HZ.out; omega)
               have t7 := cellz (j := 7) (u := .int .u32 (ct2 : Int)) hb1 r1 rfl (by have := HZ.out; omega)
               have t8 := cellz (j := 8) (u := .string (str da2)) hb1 r1 rfl (by have := HZ.out; omega)
               have t9 := cellz (j := 9) (u := .slice A2 bn2 bc2) hb1 r1 rfl (by have := HZ.out; omega)
               have HB1 := Lib.hid hb1
               clear hb1)
            | (go_at_call 72; refine (HTL.out _ (HB1.out.alloc HB1.out.size _)).mono ?_; rintro e w2 ⟨rfl, hb2⟩;
               have hlt2 : w.heap.size + 1 < w2.heap.size := by have := hb2.size; simp at this; omega
               have u0 := (hb2.cell (p := ⟨w.heap.size, 0, none⟩) (by simp; omega)).trans ((World.cell?_alloc_lt w1 _ _ (by simp; omega)).trans s0)
               have u1 := (hb2.cell (p := ⟨w.heap.size, 1, none⟩) (by simp; omega)).trans ((World.cell?_alloc_lt w1 _ _ (by simp; omega)).trans s1)
               have u2 := (hb2.cell (p := ⟨w.heap.size, 2, none⟩) (by simp; omega)).trans ((World.cell?_alloc_lt w1 _ _ (by simp; omega)).trans s2)
               have u3 := (hb2.cell (p := ⟨w.heap.size, 3, none⟩) (by simp; omega)).trans ((World.cell?_alloc_lt w1 _ _ (by simp; omega)).trans s3)
               have u4 := (hb2.cell (p := ⟨w.heap.size, 4, none⟩) (by simp; omega)).trans ((World.cell?_alloc_lt w1 _ _ (by simp; omega)).trans s4)
               have u5 := (hb2.cell (p := ⟨w.heap.size, 5, none⟩) (by simp; omega)).trans ((World.cell?_alloc_lt w1 _ _ (by simp; omega)).trans s5)
               have u6 := (hb2.cell (p := ⟨w.heap.size, 6, none⟩) (by simp; omega)).trans ((World.cell?_alloc_lt w1 _ _ (by simp; omega)).trans s6)
               have u7 := (hb2.cell (p := ⟨w.heap.size, 7, none⟩) (by simp; omega)).trans ((World.cell?_alloc_lt w1 _ _ (by simp; omega)).trans s7)
               have u8 := (hb2.cell (p := ⟨w.heap.size, 8, none⟩) (by simp; omega)).trans ((World.cell?_alloc_lt w1 _ _ (by simp; omega)).trans s8)
               have u9 := (hb2.cell (p := ⟨w.heap.size, 9, none⟩) (by simp; omega)).trans ((World.cell?_alloc_lt w1 _ _ (by simp; omega)).trans s9)
               have v0 := (hb2.cell (p := ⟨w.heap.size + 1, 0, none⟩) (by simp; omega)).trans ((World.cell?_alloc_lt w1 _ _ (by simp; omega)).trans t0)
               have v1 := (hb2.cell (p := ⟨w.heap.size + 1, 1, none⟩) (by simp; omega)).trans ((World.cell?_alloc_lt w1 _ _ (by simp; omega)).trans t1)
               have v2 := (hb2.cell (p := ⟨w.heap.size + 1, 2, none⟩) (by simp; omega)).trans ((World.cell?_alloc_lt w1 _ _ (by simp; omega)).trans t2)
               have v3 := (hb2.cell (p := ⟨w.heap.size + 1, 3, none⟩) (by simp; omega)).trans ((World.cell?_alloc_lt w1 _ _ (by simp; omega)).trans t3)
               have v4 := (hb2.cell (p := ⟨w.heap.size + 1, 4, none⟩) (by simp; omega)).trans ((World.cell?_alloc_lt w1 _ _ (by simp; omega)).trans t4)
               have v5 := (hb2.cell (p := ⟨w.heap.size + 1, 5, none⟩) (by simp; omega)).trans ((World.cell?_alloc_lt w1 _ _ (by simp; omega)).trans t5)
               have v6 := (hb2.cell (p := ⟨w.heap.size + 1, 6, none⟩) (by simp; omega)).trans ((World.cell?_alloc_lt w1 _ _ (by simp; omega)).trans t6)
               have v7 := (hb2.cell (p := ⟨w.heap.size + 1, 7, none⟩) (by simp; omega)).trans ((World.cell?_alloc_lt w1 _ _ (by simp; omega)).trans t7)
               have v8 := (hb2.cell (p := ⟨w.heap.size + 1, 8, none⟩) (by simp; omega)).trans ((World.cell?_alloc_lt w1 _ _ (by simp; omega)).trans t8)
               have v9 := (hb2.cell (p := ⟨w.heap.size + 1, 9, none⟩) (by simp; omega)).trans ((World.cell?_alloc_lt w1 _ _ (by simp; omega)).trans t9)
               have HB2 := Lib.hid hb2; clear hb2)
            | (go_at_call 73; refine (HAG.out _).mono ?_; rintro e w3 ⟨rfl, hb3⟩; have HB3 := Lib.hid hb3; clear hb3)
            | fail)
          go_ret
          exact ⟨ret_bool (by simp [e1, q2]), HB.out.trans ((HB1.out.trans (((unal HB2.out).trans (HB3.out.mono (unal HB2.out).size)).mono HB1.out.size)).mono HB.out.size)⟩
  · have e1 : decide (tm2 < tm) = false := by simpa using h1
    go_enter Try.func54, Try.ntmps54
    go_wp2_with (first
      | (go_at_call 71; rw [← hW]; refine (HAT.out _ (Below.refl _ _)).mono ?_; rintro e w1 ⟨rfl, hb1⟩
         have hlt1 : w.heap.size + 1 < w1.heap.size := by have := HZ.out; have := hb1.size; omega
         have hlt0 : w.heap.size < w1.heap.size := by have := HZ.out; have := hb1.size; omega
         have s0 := cellz (j := 0) (u := .int .u64 (ix : Int)) hb1 r0 rfl (by have := HZ.out; omega)
         have s1 := cellz (j := 1) (u := .int .u64 (tm : Int)) hb1 r0 rfl (by have := HZ.out; omega)
         have s2 := cellz (j := 2) (u := .int .u64 (st : Int)) hb1 r0 rfl (by have := HZ.out; omega)
         have s3 := cellz (j := 3) (u := .int .i64 kd) hb1 r0 rfl (by have := HZ.out; omega)
         have s4 := cellz (j := 4) (u := .int .u64 (cl : Int)) hb1 r0 rfl (by have := HZ.out; omega)
         have s5 := cellz (j := 5) (u := .int .u64 (rq : Int)) hb1 r0 rfl (by have := HZ.out; omega)
         have s6 := cellz (j := 6) (u := .int .u32 (fr : Int)) hb1 r0 rfl (by have := HZ.out; omega)
         have s7 := cellz (j := 7) (u := .int .u32 (ct : Int)) hb1 r0 rfl (by have := HZ.out; omega)
         have s8 := cellz (j := 8) (u := .string (str da)) hb1 r0 rfl (by have := HZ.out; omega)
         have s9 := cellz (j := 9) (u := .slice A bn bc) hb1 r0 rfl (by have := HZ.out; omega)
         have t0 := cellz (j := 0) (u := .int .u64 (ix2 : Int)) hb1 r1 rfl (by have := HZ.out; omega)
         have t1 := cellz (j := 1) (u := .int .u64 (tm2 : Int)) hb1 r1 rfl (by have := HZ.out; omega)
         have t2 := cellz (j := 2) (u := .int .u64 (st2 : Int)) hb1 r1 rfl (by have := HZ.out; omega)
         have t3 := cellz (j := 3) (u := .int .i64 kd2) hb1 r1 rfl (by have := HZ.out; omega)
         have t4 := cellz (j := 4) (u := .int .u64 (cl2 : Int)) hb1 r1 rfl (by have := HZ.out; omega)
         have t5 := cellz (j := 5) (u := .int .u64 (rq2 : Int)) hb1 r1 rfl (by have := HZ.out; omega)
         have t6 := cellz (j := 6) (u := .int .u32 (fr2 : Int)) hb1 r1 rfl (by have := HZ.out; omega)
         have t7 := cellz (j := 7) (u := .int .u32 (ct2 : Int)) hb1 r1 rfl (by have := HZ.out; omega)
         have t8 := cellz (j := 8) (u := .string (str da2)) hb1 r1 rfl (by have := HZ.out; omega)
         have t9 := cellz (j := 9) (u := .slice A2 bn2 bc2) hb1 r1 rfl (by have := HZ.out; omega)
         have HB1 := Lib.hid hb1
         clear hb1)
      | fail)
    go_ret
    exact ⟨ret_bool (by simp [e1]), (HB.out.trans (HB1.out.mono HB.out.size)).alloc (by have := HB1.out.size; have := HB.out.size; omega) _⟩


end Go.Proofs.Ytapfggpeodpflaa
