/- What is made of a text is read as it was. -/
import Derived.Test.YtccfiblkgngecaaFreadb
namespace Go.Proofs.Ytccfiblkgngecaa
open Go.RowKit

theorem openOf_sealed (x : List UInt8) : openOf (sealOf x) = (x, 0) := by
  have hl : (sealOf x).length = x.length + 4 := sealOf_len x
  have e1 : (sealOf x).take x.length = x := by rw [sealOf, List.take_left]
  have e2 : (sealOf x).drop x.length = le 4 (more 0 x) := by rw [sealOf, List.drop_left]
  unfold openOf
  rw [if_neg (by omega), hl, Nat.add_sub_cancel, e1, e2, if_pos]
  rw [unle_le]
  exact Nat.mod_eq_of_lt (sum_lt x)
section
variable {m : Nat} {p : List UInt8}
theorem headB_len : (headB m).length = 8 := by rw [headB, List.length_reverse, le_len]
theorem sec_len (hp : p.length = 48) : (sec m p).length = 64 := by simp only [sec, List.length_append, headB_len, le_len]; omega
theorem sec_head : (sec m p).take 8 = headB m := by
  rw [sec, List.append_assoc, List.take_append_of_le_length (by rw [headB_len]; exact Nat.le_refl _), List.take_of_length_le (by rw [headB_len]; exact Nat.le_refl _)]
theorem sec_drop8 : (sec m p).drop 8 = p ++ le 8 m := by
  rw [sec, List.append_assoc, List.drop_append_of_le_length (by rw [headB_len]; exact Nat.le_refl _), List.drop_of_length_le (by rw [headB_len]; exact Nat.le_refl _), List.nil_append]
theorem sec_piece (hp : p.length = 48) : ((sec m p).drop 8).take 48 = p := by
  rw [sec_drop8, List.take_append_of_le_length (by omega), List.take_of_length_le (by omega)]
theorem sec_tail (hp : p.length = 48) : ((sec m p).drop 56).take 8 = le 8 m := by
  rw [show 56 = 8 + 48 from rfl, ← List.drop_drop, sec_drop8, List.drop_append_of_le_length (by omega), List.drop_of_length_le (by omega), List.nil_append, List.take_of_length_le (by rw [le_len]; exact Nat.le_refl _)]
theorem unle_le8' (hm : m < 18446744073709551616) : unle (le 8 m) = m := by
  rw [unle_le]
  exact Nat.mod_eq_of_lt hm
theorem sec_ends (hp : p.length = 48) (hm : m < 18446744073709551616) : headsOf (sec m p) = m ∧ tailsOf (sec m p) = m := by
  have hl := sec_len (m := m) hp
  unfold headsOf tailsOf headOf tailOf
  rw [if_neg (by omega), if_neg (by omega), sec_head, sec_tail hp, headB, List.reverse_reverse, unle_le8' hm]
  exact ⟨rfl, rfl⟩
theorem sec_right (hp : p.length = 48) (hm : m < 18446744073709551616) (h0 : 0 < m) : wrongOf (sec m p) m = 0 := by
  obtain ⟨h1, h2⟩ := sec_ends hp hm
  unfold wrongOf
  rw [h1, h2, if_neg (by simp), if_neg (by omega)]
end
/-- The first sector tells all that the whole's beginning does. -/
theorem take64 (l : List UInt8) (a b : Nat) (h : a + b ≤ 64) : ((l.take 64).drop a).take b = (l.drop a).take b := by
  rw [List.drop_take, List.take_take, Nat.min_eq_left (by omega)]
theorem sect0 (l : List UInt8) : sect l 0 = l.take 64 := by rw [sect, Nat.mul_zero, List.drop_zero]
theorem first_ends (l : List UInt8) (h : 64 ≤ l.length) : headsOf l = headsOf (sect l 0) ∧ tailsOf l = tailsOf (sect l 0) := by
  have hl : (sect l 0).length = 64 := by rw [sect0, List.length_take]; omega
  unfold headsOf tailsOf headOf tailOf
  rw [if_neg (by omega), if_neg (by omega), if_neg (by omega), if_neg (by omega), sect0, take64 _ _ _ (by omega), List.take_take]
  exact ⟨rfl, rfl⟩
theorem first_wrong (l : List UInt8) (h : 64 ≤ l.length) (m : Nat) : wrongOf l m = wrongOf (sect l 0) m := by
  obtain ⟨h1, h2⟩ := first_ends l h
  unfold wrongOf
  rw [h1, h2]
theorem first_size (l : List UInt8) : sizeNum l = unle ((piece l 0).take 4) := by
  unfold sizeNum piece
  rw [sect0, take64 _ _ _ (by omega)]
theorem sect_len (l : List UInt8) (i : Nat) (h : 64 * (i + 1) ≤ l.length) : (sect l i).length = 64 := by rw [sect, List.length_take, List.length_drop]; omega

theorem chunk_len (body : List UInt8) (i k : Nat) (hi : i < k) (h : body.length = 48 * k) : ((body.drop (48 * i)).take 48).length = 48 := by rw [List.length_take, List.length_drop]; omega
theorem secs_sect (m : Nat) (body : List UInt8) (k : Nat) (hb : 48 * k ≤ body.length) : ∀ (i : Nat) (more : List UInt8), i < k → sect (secs m body k ++ more) i = sec m ((body.drop (48 * i)).take 48) := by
  induction k with
  | zero => intro i more hi; omega
  | succ k ih =>
    intro i more hi
    rw [secs, List.append_assoc]
    rcases Nat.lt_or_ge i k with h | h
    · exact ih (by omega) i _ h
    · obtain rfl : i = k := by omega
      have hl := secs_len m body i (by omega)
      have hp : ((body.drop (48 * i)).take 48).length = 48 := by rw [List.length_take, List.length_drop]; omega
      have hs := sec_len (m := m) hp
      rw [sect, List.drop_append_of_le_length (by omega), List.drop_of_length_le (by omega), List.nil_append, List.take_append_of_le_length (by omega), List.take_of_length_le (by omega)]
theorem pieces_secs (m : Nat) (body L : List UInt8) (k : Nat) (h : ∀ i, i < k → sect L i = sec m ((body.drop (48 * i)).take 48)) (hb : 48 * k ≤ body.length) : pieces L k = body.take (48 * k) := by
  induction k with
  | zero => rfl
  | succ k ih =>
    have hp : ((body.drop (48 * k)).take 48).length = 48 := by rw [List.length_take, List.length_drop]; omega
    rw [pieces, ih (fun i hi => h i (by omega)) (by omega), piece, h k (by omega), sec_piece hp, show 48 * (k + 1) = 48 * k + 48 from by omega, List.take_add]
theorem errAt_secs (m : Nat) (L : List UInt8) (k : Nat) (h : ∀ i, i < k → wrongOf (sect L i) m = 0) : errAt L m k = 0 := by
  induction k with
  | zero => rfl
  | succ k ih => rw [errAt, ih (fun i hi => h i (by omega)), if_neg (by decide), h k (by omega)]

/-- Bytes whose first sectors are those of a text's frame are read as that text. -/
theorem read_secs (m : Nat) (l L : List UInt8) (hl : l.length ≤ 65536) (hm : m < 18446744073709551616) (h0 : 0 < m) (hL : 64 * sectorsOf l.length ≤ L.length)
    (h : ∀ i, i < sectorsOf l.length → sect L i = sec m (((bodyOf l (sectorsOf l.length)).drop (48 * i)).take 48)) : readOf L = (m, l, 0) := by
  obtain ⟨k, hk⟩ : ∃ k, k = sectorsOf (l.length : Int) := ⟨_, rfl⟩
  rw [← hk] at hL h
  have hk2 : k = (l.length + 55) / 48 := hk.trans (sectorsOf_at _ hl)
  have hbl := bodyOf_len l k (by omega)
  have hb : (bodyOf l k).length = 48 * k := by omega
  have hright : ∀ i, i < k → wrongOf (sect L i) m = 0 := fun i hi => by rw [h i hi]; exact sec_right (chunk_len _ i k hi hb) hm h0
  obtain ⟨e1, e2⟩ := first_ends L (by omega)
  have hh : headsOf L = m := by rw [e1, h 0 (by omega)]; exact (sec_ends (chunk_len _ 0 k (by omega) hb) hm).1
  have hw : wrongOf L (headsOf L) = 0 := by rw [hh, first_wrong L (by omega)]; exact hright 0 (by omega)
  have hpc : piece L 0 = (bodyOf l k).take 48 := by rw [piece, h 0 (by omega), sec_piece (chunk_len _ 0 k (by omega) hb)]; rfl
  have hsz : sizeNum L = l.length := by
    rw [first_size, hpc, List.take_take, Nat.min_eq_left (by omega), bodyOf, sealOf, List.append_assoc, List.append_assoc, List.take_append_of_le_length (by rw [le_len]; exact Nat.le_refl _), List.take_of_length_le (by rw [le_len]; exact Nat.le_refl _), unle_le]
    exact Nat.mod_eq_of_lt (by omega)
  have hS : sizeOf L = (l.length, 0) := by
    unfold sizeOf
    rw [if_neg (by omega), if_neg (by rw [hw]; decide), hsz, if_neg (by omega)]
  have hJ : joinedOf L k m = (bodyOf l k, 0) := by
    unfold joinedOf
    rw [if_neg (by omega), errAt_secs m L k hright, if_neg (by decide), pieces_secs m _ L k h (by omega), List.take_of_length_le (by omega)]
  have hx : (le 4 l.length ++ l).length = l.length + 4 := by rw [List.length_append, le_len]; omega
  have hsl := sealOf_len (le 4 l.length ++ l)
  have hO : openedOf (bodyOf l k) l.length = (l, 0) := by
    unfold openedOf bodyOf
    rw [List.take_append_of_le_length (by omega), List.take_of_length_le (by omega), openOf_sealed, List.drop_append_of_le_length (by omega), List.drop_of_length_le (by omega), List.nil_append, if_neg (by simp), if_neg, List.drop_append_of_le_length (by rw [le_len]; exact Nat.le_refl _), List.drop_of_length_le (by rw [le_len]; exact Nat.le_refl _), List.nil_append]
    simp [hasNZ]
  unfold readOf
  rw [hS]
  simp only
  rw [← hk, hh, hJ]
  simp only
  rw [hO]
  simp
theorem read_make (m : Nat) (l more : List UInt8) (hl : l.length ≤ 65536) (hm : m < 18446744073709551616) (h0 : 0 < m) : readOf (makeOf m l ++ more) = (m, l, 0) := by
  have hk2 := sectorsOf_at _ hl
  have hbl := bodyOf_len l (sectorsOf (l.length : Int)) (by omega)
  have hsl := secs_len m (bodyOf l (sectorsOf (l.length : Int))) (sectorsOf (l.length : Int)) (by omega)
  refine read_secs m l _ hl hm h0 ?_ fun i hi => secs_sect m _ _ (by omega) i more hi
  rw [makeOf, List.length_append]
  omega

end Go.Proofs.Ytccfiblkgngecaa
