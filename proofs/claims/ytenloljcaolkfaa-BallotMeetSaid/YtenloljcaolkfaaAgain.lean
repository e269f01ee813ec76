/- What is void: the program's and the reference's. -/
import Derived.Test.YtenloljcaolkfaaTellsb
namespace Go.Proofs.Ytenloljcaolkfaa
open Go.RowKit


set_option maxHeartbeats 2000000 in
theorem again_any (e x : En) (w : World) : Calls Try.prog 81 #[.agg e.cells, .agg x.cells] w fun r w' => r = .returned (.bool (e.again x)) ∧ Below w.heap.size w w' := by
  obtain ⟨ix, tm, st, kd, cl, rq, fr, ct, da, A, bn, bc, ls⟩ := e
  obtain ⟨ix2, tm2, st2, kd2, cl2, rq2, fr2, ct2, da2, A2, bn2, bc2, ls2⟩ := x
  unfold En.cells
  have hg : En.again ⟨ix, tm, st, kd, cl, rq, fr, ct, da, A, bn, bc, ls⟩ ⟨ix2, tm2, st2, kd2, cl2, rq2, fr2, ct2, da2, A2, bn2, bc2, ls2⟩ = ((kd == 1) && ((kd2 == 1) && (((cl : Int) == (cl2 : Int)) && (((rq : Int) == (rq2 : Int)) && ((ix : Int) != (ix2 : Int)))))) := by
    unfold En.again
    have b1 : decide (kd = 1) = (kd == 1) := by by_cases h : kd = 1 <;> simp [h]
    have b2 : decide (kd2 = 1) = (kd2 == 1) := by by_cases h : kd2 = 1 <;> simp [h]
    have b3 : decide (cl = cl2) = ((cl : Int) == (cl2 : Int)) := by by_cases h : cl = cl2 <;> simp [h] <;> omega
    have b4 : decide (rq = rq2) = ((rq : Int) == (rq2 : Int)) := by by_cases h : rq = rq2 <;> simp [h] <;> omega
    have b5 : decide (ix ≠ ix2) = ((ix : Int) != (ix2 : Int)) := by by_cases h : ix = ix2 <;> simp [h] <;> omega
    dsimp only
    rw [b1, b2, b3, b4, b5]
  rw [hg]
  clear hg
  by_cases h1 : kd = 1
  · subst h1
    by_cases h2 : kd2 = 1
    · subst h2
      by_cases h3 : cl = cl2
      · subst h3
        by_cases h4 : rq = rq2
        · subst h4
          by_cases h5 : ix = ix2
          · subst h5
            go_enter Try.func81, Try.ntmps81
            go_wp2
            go_ret
            exact ⟨by simp [*], below2 _ _ _⟩
          · have q5 : ((ix : Int) == (ix2 : Int)) = false := by simp; omega
            have r5 : (ix == ix2) = false := by simpa using h5
            clear h5
            go_enter Try.func81, Try.ntmps81
            go_wp2
            go_ret
            exact ⟨by simp [*], below2 _ _ _⟩
        · have q4 : ((rq : Int) == (rq2 : Int)) = false := by simp; omega
          have r4 : (rq == rq2) = false := by simpa using h4
          clear h4
          go_enter Try.func81, Try.ntmps81
          go_wp2
          go_ret
          exact ⟨by simp [*], below2 _ _ _⟩
      · have q3 : ((cl : Int) == (cl2 : Int)) = false := by simp; omega
        have r3 : (cl == cl2) = false := by simpa using h3
        clear h3
        go_enter Try.func81, Try.ntmps81
        go_wp2
        go_ret
        exact ⟨by simp [*], below2 _ _ _⟩
    · have q2 : (kd2 == 1) = false := by simpa using h2
      clear h2
      go_enter Try.func81, Try.ntmps81
      go_wp2
      go_ret
      exact ⟨by simp [*], below2 _ _ _⟩
  · have q1 : (kd == 1) = false := by simpa using h1
    clear h1
    go_enter Try.func81, Try.ntmps81
    go_wp2
    go_ret
    exact ⟨by simp [*], below2 _ _ _⟩

set_option maxHeartbeats 2000000 in
theorem ragain_any (e x : En) (w : World) : Calls Try.prog 73 #[.agg e.cells, .agg x.cells] w fun r w' => r = .returned (.bool (e.again x)) ∧ Below w.heap.size w w' := by
  obtain ⟨ix, tm, st, kd, cl, rq, fr, ct, da, A, bn, bc, ls⟩ := e
  obtain ⟨ix2, tm2, st2, kd2, cl2, rq2, fr2, ct2, da2, A2, bn2, bc2, ls2⟩ := x
  unfold En.cells
  have hg : En.again ⟨ix, tm, st, kd, cl, rq, fr, ct, da, A, bn, bc, ls⟩ ⟨ix2, tm2, st2, kd2, cl2, rq2, fr2, ct2, da2, A2, bn2, bc2, ls2⟩ = ((kd == 1) && ((kd2 == 1) && (((cl : Int) == (cl2 : Int)) && (((rq : Int) == (rq2 : Int)) && ((ix : Int) != (ix2 : Int)))))) := by
    unfold En.again
    have b1 : decide (kd = 1) = (kd == 1) := by by_cases h : kd = 1 <;> simp [h]
    have b2 : decide (kd2 = 1) = (kd2 == 1) := by by_cases h : kd2 = 1 <;> simp [h]
    have b3 : decide (cl = cl2) = ((cl : Int) == (cl2 : Int)) := by by_cases h : cl = cl2 <;> simp [h] <;> omega
    have b4 : decide (rq = rq2) = ((rq : Int) == (rq2 : Int)) := by by_cases h : rq = rq2 <;> simp [h] <;> omega
    have b5 : decide (ix ≠ ix2) = ((ix : Int) != (ix2 : Int)) := by by_cases h : ix = ix2 <;> simp [h] <;> omega
    dsimp only
    rw [b1, b2, b3, b4, b5]
  rw [hg]
  clear hg
  by_cases h1 : kd = 1
  · subst h1
    by_cases h2 : kd2 = 1
    · subst h2
      by_cases h3 : cl = cl2
      · subst h3
        by_cases h4 : rq = rq2
        · subst h4
          by_cases h5 : ix = ix2
          · subst h5
            go_enter Try.func73, Try.ntmps73
            go_wp2
            go_ret
            exact ⟨by simp [*], below2 _ _ _⟩
          · have q5 : ((ix : Int) == (ix2 : Int)) = false := by simp; omega
            have r5 : (ix == ix2) = false := by simpa using h5
            clear h5
            go_enter Try.func73, Try.ntmps73
            go_wp2
            go_ret
            exact ⟨by simp [*], below2 _ _ _⟩
        · have q4 : ((rq : Int) == (rq2 : Int)) = false := by simp; omega
          have r4 : (rq == rq2) = false := by simpa using h4
          clear h4
          go_enter Try.func73, Try.ntmps73
          go_wp2
          go_ret
          exact ⟨by simp [*], below2 _ _ _⟩
      · have q3 : ((cl : Int) == (cl2 : Int)) = false := by simp; omega
        have r3 : (cl == cl2) = false := by simpa using h3
        clear h3
        go_enter Try.func73, Try.ntmps73
        go_wp2
        go_ret
        exact ⟨by simp [*], below2 _ _ _⟩
    · have q2 : (kd2 == 1) = false := by simpa using h2
      clear h2
      go_enter Try.func73, Try.ntmps73
      go_wp2
      go_ret
      exact ⟨by simp [*], below2 _ _ _⟩
  · have q1 : (kd == 1) = false := by simpa using h1
    clear h1
    go_enter Try.func73, Try.ntmps73
    go_wp2
    go_ret
    exact ⟨by simp [*], below2 _ _ _⟩


end Go.Proofs.Ytenloljcaolkfaa
