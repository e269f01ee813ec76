/- What is read of any bytes, framed, is their beginning. -/
import Derived.Test.YtbnjpbabdlhobaaFlives
namespace Go.Proofs.Ytbnjpbabdlhobaa
open Go.RowKit

theorem wrong_zero (l : List UInt8) (m : Nat) (h : wrongOf l m = 0) : headsOf l = m ∧ tailsOf l = m ∧ m ≠ 0 := by
  unfold wrongOf at h
  split at h
  · cases h
  · rename_i h1
    split at h
    · cases h
    · rename_i h2
      simp only [not_or, Decidable.not_not] at h1
      exact ⟨h1.2, h1.1.symm.trans h1.2, h2⟩
theorem errAt_all (l : List UInt8) (m k : Nat) (h : errAt l m k = 0) : ∀ i, i < k → wrongOf (sect l i) m = 0 := by
  induction k with
  | zero => intro i hi; omega
  | succ k ih =>
    rw [errAt] at h
    split at h
    · rename_i h1; exact absurd h h1
    · rename_i h1
      intro i hi
      rcases Nat.lt_or_ge i k with h2 | h2
      · exact ih (Decidable.not_not.1 h1) i h2
      · obtain rfl : i = k := by omega
        exact h
theorem pieces_get (l : List UInt8) (k : Nat) (hl : 64 * k ≤ l.length) : ∀ j, j < k → ((pieces l k).drop (48 * j)).take 48 = piece l j := by
  induction k with
  | zero => intro j hj; omega
  | succ k ih =>
    intro j hj
    have hpl := pieces_len l k (by omega)
    have hp := piece_len l k (by omega)
    rw [pieces]
    rcases Nat.lt_or_ge j k with h | h
    · rw [List.drop_append_of_le_length (by omega), List.take_append_of_le_length (by rw [List.length_drop]; omega)]
      exact ih (by omega) j h
    · obtain rfl : j = k := by omega
      rw [List.drop_append_of_le_length (by omega), List.drop_of_length_le (by omega), List.nil_append, List.take_of_length_le (by omega)]
/-- A sector with one number at both ends is that of its piece. -/
theorem sect_sec (s : List UInt8) (m : Nat) (hs : s.length = 64) (h1 : headsOf s = m) (h2 : tailsOf s = m) : s = sec m ((s.drop 8).take 48) := by
  unfold headsOf headOf at h1
  unfold tailsOf tailOf at h2
  rw [if_neg (by omega)] at h1 h2
  have e1 : s.take 8 = headB m := by
    have := le_unle (s.take 8).reverse
    rw [List.length_reverse, List.length_take, Nat.min_eq_left (by omega), h1] at this
    rw [headB, this, List.reverse_reverse]
  have e2 : (s.drop 56).take 8 = le 8 m := by
    have := le_unle ((s.drop 56).take 8)
    rw [List.length_take, List.length_drop, hs, h2] at this
    exact this.symm
  have e3 : (s.drop 56).take 8 = s.drop 56 := List.take_of_length_le (by rw [List.length_drop]; omega)
  rw [sec, ← e1, ← e2, e3, List.append_assoc]
  have e4 : (s.drop 8).take 48 ++ s.drop 56 = s.drop 8 := by
    rw [show s.drop 56 = (s.drop 8).drop 48 from by rw [List.drop_drop]]
    exact List.take_append_drop _ _
  rw [e4]
  exact (List.take_append_drop 8 s).symm
theorem secs_take (m : Nat) (L : List UInt8) (k : Nat) (hL : 64 * k ≤ L.length) (h : ∀ i, i < k → wrongOf (sect L i) m = 0) : ∀ j, j ≤ k → secs m (pieces L k) j = L.take (64 * j) := by
  intro j
  induction j with
  | zero => intro _; rfl
  | succ j ih =>
    intro hj
    obtain ⟨h1, h2, _⟩ := wrong_zero _ _ (h j (by omega))
    rw [secs, ih (by omega), pieces_get L k hL j (by omega), piece, ← sect_sec (sect L j) m (sect_len L j (by omega)) h1 h2, sect, show 64 * (j + 1) = 64 * j + 64 from by omega, List.take_add]
theorem zeros_of (l : List UInt8) (h : hasNZ l = false) : l = List.replicate l.length 0 := by
  rw [List.eq_replicate_iff]
  refine ⟨rfl, fun x hx => ?_⟩
  unfold hasNZ at h
  rw [List.any_eq_false] at h
  have := h x hx
  simpa using this

/-- What comes back of bytes that are read well. -/
theorem read_back (L u : List UInt8) (m : Nat) (h : readOf L = (m, u, 0)) : 0 < m ∧ m < 18446744073709551616 ∧ u.length ≤ 65536 ∧ 64 * sectorsOf u.length ≤ L.length ∧ makeOf m u = L.take (64 * sectorsOf u.length) := by
  have hS0 : (sizeOf L).2 = 0 := by
    refine Decidable.byContradiction fun hh => ?_
    unfold readOf at h
    rw [if_pos hh] at h
    exact hh (by simpa using (congrArg (fun r => r.2.2) h))
  unfold readOf at h
  rw [if_neg (by rw [hS0]; decide)] at h
  obtain ⟨sz, hsz⟩ : ∃ sz, sz = (sizeOf L).1 := ⟨_, rfl⟩
  have hle := sizeOf_le L
  rw [← hsz] at h hle
  unfold sizeOf at hS0 hsz
  split at hS0
  · cases hS0
  · rename_i h64
    split at hS0
    · rename_i hw; exact absurd hS0 hw
    · rename_i hw
      split at hS0
      · cases hS0
      · rename_i hbig
        rw [if_neg h64, if_neg hw, if_neg hbig] at hsz
        simp only at hsz
        have hw0 : wrongOf L (headsOf L) = 0 := Decidable.not_not.1 hw
        obtain ⟨_, _, hm0⟩ := wrong_zero _ _ hw0
        have hmlt := headsOf_lt L
        obtain ⟨M, hM⟩ : ∃ M, M = headsOf L := ⟨_, rfl⟩
        rw [← hM] at h hw0 hm0 hmlt
        obtain ⟨k, hk⟩ : ∃ k, k = sectorsOf (sz : Int) := ⟨_, rfl⟩
        have hk2 : k = (sz + 55) / 48 := hk.trans (sectorsOf_at _ hle)
        rw [← hk] at h
        have hJ0 : (joinedOf L k M).2 = 0 := by
          refine Decidable.byContradiction fun hh => ?_
          rw [if_pos hh] at h
          exact hh (by simpa using (congrArg (fun r => r.2.2) h))
        rw [if_neg (by rw [hJ0]; decide)] at h
        have hjj : joinedOf L k M = (pieces L k, 0) ∧ 64 * k ≤ L.length ∧ errAt L M k = 0 := by
          unfold joinedOf at hJ0 ⊢
          split at hJ0
          · cases hJ0
          · rename_i hl
            split at hJ0
            · rename_i he; exact absurd hJ0 he
            · rename_i he
              exact ⟨by rw [if_neg hl, if_neg he], by omega, Decidable.not_not.1 he⟩
        obtain ⟨hj, hLk, herr⟩ := hjj
        rw [hj] at h
        simp only at h
        have hall := errAt_all L M k herr
        have hpl := pieces_len L k hLk
        have hO0 : (openedOf (pieces L k) sz).2 = 0 := by
          refine Decidable.byContradiction fun hh => ?_
          rw [if_pos hh] at h
          exact hh (by simpa using (congrArg (fun r => r.2.2) h))
        rw [if_neg (by rw [hO0]; decide)] at h
        have hm : M = m := congrArg (fun r => r.1) h
        have hu : (openedOf (pieces L k) sz).1 = u := congrArg (fun r => r.2.1) h
        subst hm
        obtain ⟨t, ht⟩ : ∃ t, t = (openOf ((pieces L k).take (sz + 8))).1 := ⟨_, rfl⟩
        have hb8 : ((pieces L k).take (sz + 8)).length = sz + 8 := by rw [List.length_take]; omega
        have hop : (openOf ((pieces L k).take (sz + 8))).2 = 0 ∧ hasNZ ((pieces L k).drop (sz + 8)) = false ∧ u = t.drop 4 := by
          unfold openedOf at hO0 hu
          split at hO0
          · rename_i he; exact absurd hO0 he
          · rename_i he
            rw [if_neg he] at hu
            split at hO0
            · cases hO0
            · rename_i hz
              rw [if_neg hz] at hu
              exact ⟨Decidable.not_not.1 he, by simpa using hz, by rw [← hu, ht]⟩
        obtain ⟨ho, hz, hut⟩ := hop
        obtain ⟨htl, _⟩ := openOf_len _ ho
        rw [← ht, hb8] at htl
        have htl : t.length = sz + 4 := by omega
        have hseal : sealOf t = (pieces L k).take (sz + 8) := by
          unfold openOf at ho ht
          rw [if_neg (by omega)] at ho ht
          split at ho
          · rename_i hs
            rw [if_pos hs] at ht
            simp only at ht
            rw [ht]
            exact (sealed_iff _ (by omega)).2 hs
          · cases ho
        have hul : u.length = sz := by rw [hut, List.length_drop]; omega
        have ht4 : t.take 4 = le 4 sz := by
          have e1 : (piece L 0).take 4 = t.take 4 := by
            have e2 : t.take 4 = (sealOf t).take 4 := by rw [sealOf, List.take_append_of_le_length (by omega)]
            have e3 := pieces_get L k hLk 0 (by omega)
            rw [Nat.mul_zero, List.drop_zero] at e3
            rw [e2, hseal, List.take_take, Nat.min_eq_left (by omega), ← e3, List.take_take, Nat.min_eq_left (by omega)]
          have e4 := le_unle (t.take 4)
          rw [List.length_take, Nat.min_eq_left (by omega), ← e1, ← first_size, ← hsz] at e4
          rw [← e1]
          exact e4.symm
        have hbody : bodyOf u k = pieces L k := by
          have e1 : le 4 u.length ++ u = t := by rw [hul, ← ht4, hut, List.take_append_drop]
          have e2 := zeros_of _ hz
          rw [List.length_drop, hpl] at e2
          rw [bodyOf, e1, hseal, hul, show k * 48 - (sz + 8) = 48 * k - (sz + 8) from by omega, ← e2, List.take_append_drop]
        refine ⟨by omega, hmlt, by omega, by rw [hul, ← hk]; exact hLk, ?_⟩
        rw [makeOf, hul, ← hk, hbody]
        exact secs_take M L k hLk hall k (Nat.le_refl _)
theorem read_bad (L : List UInt8) (h : (readOf L).2.2 ≠ 0) : (readOf L).1 = 0 ∧ (readOf L).2.1 = [] := by
  unfold readOf at h ⊢
  split
  · exact ⟨rfl, rfl⟩
  · rename_i h1
    rw [if_neg h1] at h
    split
    · exact ⟨rfl, rfl⟩
    · rename_i h2
      rw [if_neg h2] at h
      split
      · exact ⟨rfl, rfl⟩
      · rename_i h3
        rw [if_neg h3] at h
        exact absurd rfl h

end Go.Proofs.Ytbnjpbabdlhobaa
