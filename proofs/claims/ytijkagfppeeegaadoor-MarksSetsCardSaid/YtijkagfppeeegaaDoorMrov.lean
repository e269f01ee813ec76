/- Contracts of the reference's Over and Join. -/
import Derived.Test.YtijkagfppeeegaaDoorMmade
namespace Go.Proofs.YtijkagfppeeegaaDoor
open Go.RowKit

set_option maxHeartbeats 1000000 in
theorem rover_any (L B low : Nat) (w : World) (hB : B < 18446744073709551616) (hg : Gd L B) (hlow : low < 18446744073709551616) :
    Calls Tryd.prog 25 #[.agg #[.int .u64 (L : Int), .int .u64 (B : Int)], .int .u64 (low : Int)] w fun e w' => e = .returned (.agg #[.int .u64 ((mover L B low).1 : Int), .int .u64 ((mover L B low).2 : Int)]) ∧ Below w.heap.size w w' := by
  by_cases h : low ≤ 4611686018427387840
  · have hL := hg.1
    obtain ⟨m, hm⟩ : ∃ m, m = max L low := ⟨_, rfl⟩
    have hmx : (if L < low then (low : Int) else (L : Int)) = (m : Int) := by rw [hm]; split <;> omega
    have hmy : max (L : Int) (low : Int) = (m : Int) := by rw [hm]; omega
    have hd := fun W => made_is m L B L B 0 (mover L B low).1 (mover L B low).2 W (by omega) (by omega) hB (by omega) hB (mover_lt L B low hB) (mover_gd L B low hB hg)
      (fun x => by
        rw [mover_hs L B low x hB h]
        unfold Un
        by_cases hx : x ≤ L
        · rw [hs_low hx]; simp
        · have e1 : decide (x ≤ m) = decide (x ≤ low) := decide_eq_decide.2 (by omega)
          have e2 : decide (x = 0) = false := by simp; omega
          rw [e1, e2]; simp)
      (fun x hx => by
        unfold Un at hx
        simp only [Bool.or_self, Bool.or_eq_true, decide_eq_true_eq] at hx
        rcases hx with hx | hx
        · have := hs_room hB hx; omega
        · omega)
    have d1 : decide ((4611686018427387840 : Int) < (low : Int)) = false := by simp; omega
    generalize mover L B low = p at *
    obtain ⟨p1, p2⟩ := p
    simp only at hd
    obtain ⟨W, hW, hWs, r0, r1, hwW⟩ := boxes2 w #[.int .u64 (L : Int), .int .u64 (B : Int)] #[.int .u64 0, .int .u64 0] 25 25
    clear hg hL hlow hB hm h
    go_enter Tryd.func25, Tryd.ntmps25
    go_wp2_with fail
    refine (hd _).mono ?_
    rintro e w1 ⟨rfl, hb1⟩
    rw [← hW] at hb1
    have c0 := cellz (j := 0) (u := .int .u64 0) hb1 r1 rfl
    have c1 := cellz (j := 1) (u := .int .u64 0) hb1 r1 rfl
    have z0 := frozenz hb1 0 r1
    have z1 := frozenz hb1 1 r1
    go_wp2
    exact bodyPost_ret (v := .agg #[.int .u64 (p1 : Int), .int .u64 (p2 : Int)]) (by simp [results, Tryd.results25, go_sem, c0, c1]) rfl ⟨rfl, hwW.trans ((((show Below (w.heap.size + 1) W w1 from hb1.mono (by omega)).setCell (Nat.le_refl _) _).setCell (Nat.le_refl _) _).mono (by omega))⟩
  · have hm : mover L B low = (L, B) := by unfold mover; rw [if_pos (.inr (by omega))]
    rw [hm]
    have d1 : decide ((4611686018427387840 : Int) < (low : Int)) = true := by simp; omega
    clear hm h hB hg hlow
    go_enter Tryd.func25, Tryd.ntmps25
    go_wp2
    exact bodyPost_ret (v := .agg #[.int .u64 (L : Int), .int .u64 (B : Int)]) (by simp [results, Tryd.results25, go_sem]) rfl ⟨rfl, ((Below.refl _ _).alloc (Nat.le_refl _) _).alloc (by simp) _⟩

set_option maxHeartbeats 1000000 in
theorem rjoin_any (La Ba Lb Bb : Nat) (w : World) (hA : Ba < 18446744073709551616) (hB : Bb < 18446744073709551616) (hga : Gd La Ba) (hgb : Gd Lb Bb) :
    Calls Tryd.prog 26 #[.agg #[.int .u64 (La : Int), .int .u64 (Ba : Int)], .agg #[.int .u64 (Lb : Int), .int .u64 (Bb : Int)]] w fun e w' => e = .returned (.agg #[.int .u64 ((mjoin La Ba Lb Bb).1 : Int), .int .u64 ((mjoin La Ba Lb Bb).2 : Int)]) ∧ Below w.heap.size w w' := by
  have hLa := hga.1
  have hLb := hgb.1
  obtain ⟨m, hm⟩ : ∃ m, m = max La Lb := ⟨_, rfl⟩
  have hmx : (if La < Lb then (Lb : Int) else (La : Int)) = (m : Int) := by rw [hm]; split <;> omega
  have hmy : max (La : Int) (Lb : Int) = (m : Int) := by rw [hm]; omega
  have hd := fun W => made_is m La Ba Lb Bb 0 (mjoin La Ba Lb Bb).1 (mjoin La Ba Lb Bb).2 W (by omega) (by omega) hA (by omega) hB (mjoin_lt La Ba Lb Bb hA hB) (mjoin_gd La Ba Lb Bb hA hB hga hgb)
    (fun x => by
      rw [mjoin_hs La Ba Lb Bb x hA hB]
      unfold Un
      by_cases hx : x ≤ La
      · rw [hs_low hx]; simp
      · by_cases hy : x ≤ Lb
        · rw [hs_low hy]; simp
        · have e1 : decide (x ≤ m) = false := by simp; omega
          have e2 : decide (x = 0) = false := by simp; omega
          rw [e1, e2]; simp)
    (fun x hx => by
      unfold Un at hx
      simp only [Bool.or_eq_true, decide_eq_true_eq] at hx
      rcases hx with (hx | hx) | hx
      · have := hs_room hA hx; omega
      · have := hs_room hB hx; omega
      · omega)
  generalize mjoin La Ba Lb Bb = p at *
  obtain ⟨p1, p2⟩ := p
  simp only at hd
  obtain ⟨W, hW, hWs, r0, r1, r2, hwW⟩ := boxes3 w #[.int .u64 (La : Int), .int .u64 (Ba : Int)] #[.int .u64 (Lb : Int), .int .u64 (Bb : Int)] #[.int .u64 0, .int .u64 0] 25 25 25
  clear hga hgb hLa hLb hA hB hm
  go_enter Tryd.func26, Tryd.ntmps26
  go_wp2_with fail
  refine (hd _).mono ?_
  rintro e w1 ⟨rfl, hb1⟩
  rw [← hW] at hb1
  have c0 := cellz (j := 0) (u := .int .u64 0) hb1 r2 rfl
  have c1 := cellz (j := 1) (u := .int .u64 0) hb1 r2 rfl
  have z0 := frozenz hb1 0 r2
  have z1 := frozenz hb1 1 r2
  go_wp2
  exact bodyPost_ret (v := .agg #[.int .u64 (p1 : Int), .int .u64 (p2 : Int)]) (by simp [results, Tryd.results26, go_sem, c0, c1]) rfl ⟨rfl, hwW.trans ((((show Below (w.heap.size + 2) W w1 from hb1.mono (by omega)).setCell (Nat.le_refl _) _).setCell (Nat.le_refl _) _).mono (by omega))⟩

end Go.Proofs.YtijkagfppeeegaaDoor
