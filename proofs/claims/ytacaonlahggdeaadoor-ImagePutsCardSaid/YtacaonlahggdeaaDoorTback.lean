/- What is written is read. -/
import Derived.Test.YtacaonlahggdeaaDoorTread
namespace Go.Proofs.YtacaonlahggdeaaDoor
open Go.RowKit

theorem unle_le' (k x : Nat) : unle (le k x) = x % 256 ^ k := by
  induction k generalizing x with
  | zero => simp [le, unle, Nat.mod_one]
  | succ k ih =>
    have e : x % 256 ^ (k + 1) = x % 256 + 256 * (x / 256 % 256 ^ k) := by rw [Nat.pow_succ, Nat.mul_comm, Nat.mod_mul]
    rw [e]
    simp only [le, unle, ih, UInt8.toNat_ofNat']
    omega
theorem num_back (k x : Nat) (l : List UInt8) (hk : 1 ≤ k) (hk8 : k ≤ 8) (hx : x < 256 ^ k) : St.num ⟨le k x ++ l, false⟩ (k : Int) = (x, ⟨l, false⟩) := by
  have hn : St.next ⟨le k x ++ l, false⟩ (k : Int) = (le k x, ⟨l, false⟩) := by
    unfold St.next
    rw [if_pos (by simp only [List.length_append, le_len]; omega)]
    simp only [Int.toNat_natCast]
    rw [List.take_append_of_le_length (by rw [le_len]; exact Nat.le_refl _), List.take_of_length_le (by rw [le_len]; exact Nat.le_refl _), List.drop_append_of_le_length (by rw [le_len]; exact Nat.le_refl _), List.drop_of_length_le (by rw [le_len]; exact Nat.le_refl _), List.nil_append]
  unfold St.num
  rw [if_pos (by omega), hn, unle_le', Nat.mod_eq_of_lt hx]
theorem rd1_back (p : Cl) (l : List UInt8) (hp : p.ok) : rd1 ⟨le 8 p.1 ++ (le 2 p.2 ++ l), false⟩ = (p, ⟨l, false⟩) := by
  have h1 := num_back 8 p.1 (le 2 p.2 ++ l) (by decide) (by decide) hp.1
  have h2 := num_back 2 p.2 l (by decide) (by decide) hp.2
  unfold rd1
  rw [show ((8 : Nat) : Int) = 8 from rfl] at h1
  rw [show ((2 : Nat) : Int) = 2 from rfl] at h2
  rw [h1]
  dsimp only
  rw [h2]
  dsimp only
  rw [Nat.mod_eq_of_lt hp.2]
theorem rdN_back (T : List Cl) (hok : ∀ p ∈ T, Cl.ok p) (l : List UInt8) : ∀ k, k ≤ T.length → rdN k ⟨encT T ++ l, false⟩ = (T.take k, ⟨encT (T.drop k) ++ l, false⟩) := by
  intro k
  induction k with
  | zero => intro _; simp [rdN]
  | succ k ih =>
    intro hk
    have hlt : k < T.length := by omega
    have hd : encT (T.drop k) ++ l = le 8 T[k].1 ++ (le 2 T[k].2 ++ (encT (T.drop (k + 1)) ++ l)) := by
      rw [List.drop_eq_getElem_cons hlt]
      show ((le 8 T[k].1 ++ le 2 T[k].2) ++ encT (T.drop (k + 1))) ++ l = _
      simp only [List.append_assoc]
    unfold rdN
    rw [ih (by omega)]
    dsimp only
    rw [hd, rd1_back _ _ (hok _ (List.getElem_mem hlt))]
    dsimp only
    rw [List.take_succ_eq_append_getElem hlt]
theorem rdT_back (T : List Cl) (hT : Tok T) (l : List UInt8) : rdT ⟨encT T ++ l, false⟩ = T := by
  unfold rdT
  rw [rdN_back T hT.2 l 8 (by rw [hT.1]; exact Nat.le_refl _)]
  simp only [Bool.false_eq_true, if_false]
  rw [List.take_of_length_le (by rw [hT.1]; exact Nat.le_refl _)]
end Go.Proofs.YtacaonlahggdeaaDoor
