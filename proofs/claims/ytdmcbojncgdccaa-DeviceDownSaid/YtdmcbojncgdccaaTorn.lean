/- Two writes of a sector, of which beginnings are kept. -/
import Derived.Test.YtdmcbojncgdccaaFirm
namespace Go.Proofs.Ytdmcbojncgdccaa
open Go.RowKit

/-- One sector written while no fuse burns. -/
theorem Dv.write_one (d : Dv) (hd : d.down = false) (hf : d.fuse = 0) (x : Int) (l : List UInt8) (hl : l.length ≤ 64) : d.write x l 1 = ({ d with ws := d.ws ++ [(x, pad l)], done := d.done + 1 }, 0) := by
  have hs : sct l 0 = l := by
    unfold sct
    rw [Nat.mul_zero, List.drop_zero, List.take_of_length_le hl]
  have h0 : d.write x l 1 = ((d.chg (x + ((0 : Nat) : Int), pad (sct l 0))).step, pw (d.chg (x + ((0 : Nat) : Int), pad (sct l 0))).step.down) := by
    rw [Dv.write, if_neg (by simp [Dv.write])]
    rfl
  rw [h0, hs, show x + ((0 : Nat) : Int) = x from by omega]
  obtain ⟨n, S, ws, down, fuse, done⟩ := d
  dsimp only at hd hf
  subst hd
  subst hf
  rfl
/-- What two changes of the sector x leave of it. -/
def torn (s p q : List UInt8) (j k : Nat) : List UInt8 := q.take k ++ (p.take j ++ s.drop j).drop k
theorem torn_get (s p q : List UInt8) (j k i : Nat) (u : UInt8) (hs : s.length = 64) (hp : p.length = 64) (hq : q.length = 64) (hj : j ≤ 64) (hk : k ≤ 64) (h : (torn s p q j k)[i]? = some u) : s[i]? = some u ∨ p[i]? = some u ∨ q[i]? = some u := by
  unfold torn at h
  rcases Nat.lt_or_ge i k with h1 | h1
  · rw [List.getElem?_append_left (by rw [List.length_take]; omega), List.getElem?_take, if_pos h1] at h
    exact .inr (.inr h)
  · rw [List.getElem?_append_right (by rw [List.length_take]; omega), List.length_take, List.getElem?_drop, show k + (i - min k q.length) = i from by omega] at h
    rcases Nat.lt_or_ge i j with h2 | h2
    · rw [List.getElem?_append_left (by rw [List.length_take]; omega), List.getElem?_take, if_pos h2] at h
      exact .inr (.inl h)
    · rw [List.getElem?_append_right (by rw [List.length_take]; omega), List.length_take, List.getElem?_drop, show j + (i - min j p.length) = i from by omega] at h
      exact .inl h
theorem torn_len (s p q : List UInt8) (j k : Nat) (hs : s.length = 64) (hp : p.length = 64) (hq : q.length = 64) (hj : j ≤ 64) (hk : k ≤ 64) : (torn s p q j k).length = 64 := by
  unfold torn
  rw [List.length_append, List.length_take, List.length_drop, List.length_append, List.length_take, List.length_drop]
  omega
theorem Dv.crash_two (d : Dv) (x : Int) (p q : List UInt8) (hw : d.ws = [(x, p), (x, q)]) (ks : List Int) : (d.crash ks).S x = torn (d.S x) p q (kept1 ks 0) (kept1 ks 1) ∧ (d.crash ks).ws = [] ∧ (d.crash ks).down = false ∧ (d.crash ks).fuse = 0 ∧ (d.crash ks).n = d.n := by
  refine ⟨?_, rfl, rfl, rfl, (Dv.crash1_ws d ks d.ws.length).2.1⟩
  show (d.crash1 ks d.ws.length).S x = _
  rw [hw]
  show (d.crash1 ks 2).S x = _
  rw [Dv.crash1, hw]
  show (if x = x then _ else _) = _
  rw [if_pos rfl]
  have h1 : (d.crash1 ks 1).S x = p.take (kept1 ks 0) ++ (d.S x).drop (kept1 ks 0) := by
    rw [Dv.crash1, hw]
    show (if x = x then _ else _) = _
    rw [if_pos rfl]
    rfl
  rw [h1]
  rfl
theorem Dv.calm_bytes (d : Dv) (hw : d.ws = []) (x : Int) : d.bytes x 1 = d.S x := by
  show [] ++ d.seen (x + ((0 : Nat) : Int)) = _
  rw [List.nil_append, show x + ((0 : Nat) : Int) = x from by omega]
  unfold Dv.seen
  rw [hw]
  rfl

end Go.Proofs.Ytdmcbojncgdccaa
