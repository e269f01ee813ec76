/- What one span has without another: the program's and the reference's are the same, and just these blocks. -/
import Derived.Test.YtijkagfppeeegaaRwithout
namespace Go.Proofs.Ytijkagfppeeegaa
open Go.RowKit

theorem upt_in (x t : Nat) (h : x < t) (h2 : t < x + 4294967296) : upt x t = (x, t - x) := by
  rw [upt_yes x t h]; congr 1; omega
theorem tol_no (L : List (Nat × Nat)) (x y : Nat) (h : min 4294967296 y ≤ x) : tol L x y = L := by unfold tol; rw [upt_no _ _ h, if_pos rfl]
theorem tol_in (L : List (Nat × Nat)) (x y : Nat) (h : x < min 4294967296 y) (h2 : min 4294967296 y < x + 4294967296) : tol L x y = L ++ [(x, min 4294967296 y - x)] := by
  unfold tol
  rw [upt_in _ _ h h2, if_neg]
  simp; omega
theorem jst1 (a b : Nat) : jst [(a, b)] = ([], a, a + b) := by
  show jstep ([], 0, 0) (a, b) = _
  unfold jstep
  by_cases h : 0 < a
  · rw [if_pos h, tol_no _ _ _ (by simp)]
  · rw [if_neg h]; simp; omega
theorem jn1 (a b : Nat) : jn [(a, b)] = tol [] a (a + b) := by unfold jn; rw [jst1]
theorem jn_two (a b c d : Nat) : jn [(a, b), (c, d)] = if a + b < c then tol (tol [] a (a + b)) c (c + d) else tol [] a (max (a + b) (c + d)) := by
  have : jst [(a, b), (c, d)] = jstep (jst [(a, b)]) (c, d) := jst_snoc [(a, b)] (c, d)
  unfold jn
  rw [this, jst1]
  unfold jstep
  split <;> rfl

theorem two_pq (a b c d : Nat) (h1 : b ≠ 0) (h2 : d ≠ 0) : two (a, b) (c, d) = [(a, b), (c, d)] := by unfold two; rw [if_neg h1, if_neg h2]; rfl
theorem two_p (a b c : Nat) (h1 : b ≠ 0) : two (a, b) (c, 0) = [(a, b)] := by unfold two; rw [if_neg h1, if_pos rfl]; rfl
theorem two_q (a c d : Nat) (h2 : d ≠ 0) : two (a, 0) (c, d) = [(c, d)] := by unfold two; rw [if_neg h2, if_pos rfl]; rfl
theorem two_no (a c : Nat) : two (a, 0) (c, 0) = [] := rfl
theorem one_eq (a b c : Nat) (h : b = c) : [(a, b)] = [(a, c)] := by rw [h]
theorem two_eq (a b c d e f : Nat) (h : b = c) (h2 : e = f) : [(a, b), (d, e)] = [(a, c), (d, f)] := by rw [h, h2]

theorem wo_eq (a b c d : Nat) (ha : a < 4294967296) (hb : b < 4294967296) (hc : c < 4294967296) (hd : d < 4294967296) :
    two (upt a (min (en a b) (if en c d ≤ c then en a b else c))) (upt (max a (if en c d ≤ c then en a b else en c d)) (en a b)) = wo a b c d := by
  have hY : en a b = min (a + b) 4294967296 := rfl
  have hU : en c d = min (c + d) 4294967296 := rfl
  generalize en a b = Y at *
  generalize en c d = U at *
  unfold wo
  have hcm : cm a b c d = upt (max a c) (min Y U) := by unfold cm; congr 1; omega
  by_cases hov : min Y U ≤ max a c
  · rw [hcm, upt_no (max a c) (min Y U) hov, if_pos rfl, jn1]
    by_cases haY : a < Y
    · rw [tol_in _ _ _ (by omega) (by omega)]
      have e : min 4294967296 (a + b) - a = Y - a := by omega
      rw [e]
      by_cases hUc : U ≤ c
      · rw [if_pos hUc, if_pos hUc, Nat.min_self, upt_in a Y haY (by omega), upt_no _ Y (by omega)]
        first | (rw [two_pq _ _ _ _ (by omega) (by omega)]; exact two_eq _ _ _ _ _ _ (by omega) (by omega)) | (rw [two_p _ _ _ (by omega)]; exact one_eq _ _ _ (by omega)) | (rw [two_q _ _ _ (by omega)]; exact one_eq _ _ _ (by omega))
      · rw [if_neg hUc, if_neg hUc]
        by_cases hYc : Y ≤ c
        · rw [upt_in a _ (by omega) (by omega), upt_no _ Y (by omega), show min Y c = Y by omega]
          first | (rw [two_pq _ _ _ _ (by omega) (by omega)]; exact two_eq _ _ _ _ _ _ (by omega) (by omega)) | (rw [two_p _ _ _ (by omega)]; exact one_eq _ _ _ (by omega)) | (rw [two_q _ _ _ (by omega)]; exact one_eq _ _ _ (by omega))
        · rw [upt_no a _ (by omega), upt_in _ Y (by omega) (by omega)]
          have e2 : max a U = a := by omega
          rw [e2]
          first | (rw [two_pq _ _ _ _ (by omega) (by omega)]; exact two_eq _ _ _ _ _ _ (by omega) (by omega)) | (rw [two_p _ _ _ (by omega)]; exact one_eq _ _ _ (by omega)) | (rw [two_q _ _ _ (by omega)]; exact one_eq _ _ _ (by omega))
    · rw [tol_no _ _ _ (by omega), upt_no a _ (by omega), upt_no _ Y (by omega)]
      rfl
  · have hUc : ¬ U ≤ c := by omega
    rw [hcm, upt_in (max a c) (min Y U) (by omega) (by omega), if_neg hUc, if_neg hUc, if_neg (show ¬ (max a c, min Y U - max a c) = (0, 0) by simp; omega)]
    unfold ahd bhd
    simp only
    have e1 : min 4294967296 (max a c) = max a c := by omega
    have e2 : max a c + (min Y U - max a c) = min Y U := by omega
    have e3 : min 4294967296 (a + b) = Y := by omega
    have e4 : min Y c = c := by omega
    rw [e1, e2, e3, e4]
    by_cases hac : a < c
    · have m1 : max a c = c := by omega
      rw [m1, upt_in a c hac (by omega)]
      by_cases hUY : U < Y
      · have m2 : min Y U = U := by omega
        have m3 : max a U = U := by omega
        rw [m2, m3, upt_in U Y hUY (by omega)]
        simp only
        have hs : srt a (c - a) U (Y - U) = [(a, c - a), (U, Y - U)] := by unfold srt; rw [if_neg (by omega)]
        rw [hs, jn_two, if_pos (by omega), tol_in _ _ _ (by omega) (by omega), tol_in _ _ _ (by omega) (by omega)]
        first | (rw [two_pq _ _ _ _ (by omega) (by omega)]; exact two_eq _ _ _ _ _ _ (by omega) (by omega)) | (rw [two_p _ _ _ (by omega)]; exact one_eq _ _ _ (by omega)) | (rw [two_q _ _ _ (by omega)]; exact one_eq _ _ _ (by omega))
      · have m2 : min Y U = Y := by omega
        rw [m2, upt_no Y Y (Nat.le_refl _), upt_no _ Y (by omega)]
        simp only
        by_cases ha0 : 0 < a
        · have hs : srt a (c - a) 0 0 = [(0, 0), (a, c - a)] := by unfold srt; rw [if_pos ha0]
          rw [hs, jn_two, if_pos (by omega), tol_no [] 0 _ (by simp), tol_in _ _ _ (by omega) (by omega)]
          first | (rw [two_pq _ _ _ _ (by omega) (by omega)]; exact two_eq _ _ _ _ _ _ (by omega) (by omega)) | (rw [two_p _ _ _ (by omega)]; exact one_eq _ _ _ (by omega)) | (rw [two_q _ _ _ (by omega)]; exact one_eq _ _ _ (by omega))
        · have hs : srt a (c - a) 0 0 = [(a, c - a), (0, 0)] := by unfold srt; rw [if_neg ha0]
          rw [hs, jn_two, if_neg (by omega), tol_in _ _ _ (by omega) (by omega)]
          first | (rw [two_pq _ _ _ _ (by omega) (by omega)]; exact two_eq _ _ _ _ _ _ (by omega) (by omega)) | (rw [two_p _ _ _ (by omega)]; exact one_eq _ _ _ (by omega)) | (rw [two_q _ _ _ (by omega)]; exact one_eq _ _ _ (by omega))
    · have m1 : max a c = a := by omega
      rw [m1, upt_no a c (by omega), upt_no a a (Nat.le_refl _)]
      by_cases hUY : U < Y
      · have m2 : min Y U = U := by omega
        have m3 : max a U = U := by omega
        rw [m2, m3, upt_in U Y hUY (by omega)]
        simp only
        have hs : srt 0 0 U (Y - U) = [(0, 0), (U, Y - U)] := by unfold srt; rw [if_neg (by omega)]
        rw [hs, jn_two, if_pos (by omega), tol_no [] 0 _ (by simp), tol_in _ _ _ (by omega) (by omega)]
        first | (rw [two_pq _ _ _ _ (by omega) (by omega)]; exact two_eq _ _ _ _ _ _ (by omega) (by omega)) | (rw [two_p _ _ _ (by omega)]; exact one_eq _ _ _ (by omega)) | (rw [two_q _ _ _ (by omega)]; exact one_eq _ _ _ (by omega))
      · have m2 : min Y U = Y := by omega
        rw [m2, upt_no Y Y (Nat.le_refl _), upt_no _ Y (by omega)]
        simp only
        have hs : srt 0 0 0 0 = [(0, 0), (0, 0)] := rfl
        rw [hs, jn_two, if_neg (by omega), tol_no [] 0 _ (by simp)]
        rfl

end Go.Proofs.Ytijkagfppeeegaa
