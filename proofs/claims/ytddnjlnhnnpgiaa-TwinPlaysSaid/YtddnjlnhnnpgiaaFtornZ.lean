/- What is read of any bytes, framed, is their beginning. A frame that is written over another one, or over noughts, of which a beginning of each sector alone came to be: what is read of it. -/
import Derived.Test.YtddnjlnhnnpgiaaFpureZ
namespace Go.Proofs.Ytddnjlnhnnpgiaa
set_option maxRecDepth 20000
open Go.RowKit

theorem wrong_zero (l : List UInt8) (m : Nat) (h : wrongOf l m = 0) : headsOf l = m ∧ tailsOf l = m ∧ m ≠ 0 := by
  unfold wrongOf at h
  split at h
  · cases h
  · rename_i h1
    split at h
    · cases h
    · rename_i h2
      simp only [not_or, Decidable.not_not] at h1
      exact ⟨h1.2, h1.1.symm.trans h1.2, h2⟩
theorem errAt_all (l : List UInt8) (m k : Nat) (h : errAt l m k = 0) : ∀ i, i < k → wrongOf (sect l i) m = 0 := by
  induction k with
  | zero => intro i hi; omega
  | succ k ih =>
    rw [errAt] at h
    split at h
    · rename_i h1; exact absurd h h1
    · rename_i h1
      intro i hi
      rcases Nat.lt_or_ge i k with h2 | h2
      · exact ih (Decidable.not_not.1 h1) i h2
      · obtain rfl : i = k := by omega
        exact h
theorem pieces_get (l : List UInt8) (k : Nat) (hl : 64 * k ≤ l.length) : ∀ j, j < k → ((pieces l k).drop (48 * j)).take 48 = piece l j := by
  induction k with
  | zero => intro j hj; omega
  | succ k ih =>
    intro j hj
    have hpl := pieces_len l k (by omega)
    have hp := piece_len l k (by omega)
    rw [pieces]
    rcases Nat.lt_or_ge j k with h | h
    · rw [List.drop_append_of_le_length (by omega), List.take_append_of_le_length (by rw [List.length_drop]; omega)]
      exact ih (by omega) j h
    · obtain rfl : j = k := by omega
      rw [List.drop_append_of_le_length (by omega), List.drop_of_length_le (by omega), List.nil_append, List.take_of_length_le (by omega)]
/-- A sector with one number at both ends is that of its piece. -/
theorem sect_sec (s : List UInt8) (m : Nat) (hs : s.length = 64) (h1 : headsOf s = m) (h2 : tailsOf s = m) : s = sec m ((s.drop 8).take 48) := by
  unfold headsOf headOf at h1
  unfold tailsOf tailOf at h2
  rw [if_neg (by omega)] at h1 h2
  have e1 : s.take 8 = headB m := by
    have := le_unle (s.take 8).reverse
    rw [List.length_reverse, List.length_take, Nat.min_eq_left (by omega), h1] at this
    rw [headB, this, List.reverse_reverse]
  have e2 : (s.drop 56).take 8 = le 8 m := by
    have := le_unle ((s.drop 56).take 8)
    rw [List.length_take, List.length_drop, hs, h2] at this
    exact this.symm
  have e3 : (s.drop 56).take 8 = s.drop 56 := List.take_of_length_le (by rw [List.length_drop]; omega)
  rw [sec, ← e1, ← e2, e3, List.append_assoc]
  have e4 : (s.drop 8).take 48 ++ s.drop 56 = s.drop 8 := by
    rw [show s.drop 56 = (s.drop 8).drop 48 from by rw [List.drop_drop]]
    exact List.take_append_drop _ _
  rw [e4]
  exact (List.take_append_drop 8 s).symm
theorem secs_take (m : Nat) (L : List UInt8) (k : Nat) (hL : 64 * k ≤ L.length) (h : ∀ i, i < k → wrongOf (sect L i) m = 0) : ∀ j, j ≤ k → secs m (pieces L k) j = L.take (64 * j) := by
  intro j
  induction j with
  | zero => intro _; rfl
  | succ j ih =>
    intro hj
    obtain ⟨h1, h2, _⟩ := wrong_zero _ _ (h j (by omega))
    rw [secs, ih (by omega), pieces_get L k hL j (by omega), piece, ← sect_sec (sect L j) m (sect_len L j (by omega)) h1 h2, sect, show 64 * (j + 1) = 64 * j + 64 from by omega, List.take_add]
theorem zeros_of (l : List UInt8) (h : hasNZ l = false) : l = List.replicate l.length 0 := by
  rw [List.eq_replicate_iff]
  refine ⟨rfl, fun x hx => ?_⟩
  unfold hasNZ at h
  rw [List.any_eq_false] at h
  have := h x hx
  simpa using this

/-- What comes back of bytes that are read well. -/
theorem read_back (L u : List UInt8) (m : Nat) (h : readOf L = (m, u, 0)) : 0 < m ∧ m < 18446744073709551616 ∧ u.length ≤ 65536 ∧ 64 * sectorsOf u.length ≤ L.length ∧ makeOf m u = L.take (64 * sectorsOf u.length) := by
  have hS0 : (sizeOf L).2 = 0 := by
    refine Decidable.byContradiction fun hh => ?_
    unfold readOf at h
    rw [if_pos hh] at h
    exact hh (by simpa using (congrArg (fun r => r.2.2) h))
  unfold readOf at h
  rw [if_neg (by rw [hS0]; decide)] at h
  obtain ⟨sz, hsz⟩ : ∃ sz, sz = (sizeOf L).1 := ⟨_, rfl⟩
  have hle := sizeOf_le L
  rw [← hsz] at h hle
  unfold sizeOf at hS0 hsz
  split at hS0
  · cases hS0
  · rename_i h64
    split at hS0
    · rename_i hw; exact absurd hS0 hw
    · rename_i hw
      split at hS0
      · cases hS0
      · rename_i hbig
        rw [if_neg h64, if_neg hw, if_neg hbig] at hsz
        simp only at hsz
        have hw0 : wrongOf L (headsOf L) = 0 := Decidable.not_not.1 hw
        obtain ⟨_, _, hm0⟩ := wrong_zero _ _ hw0
        have hmlt := headsOf_lt L
        obtain ⟨M, hM⟩ : ∃ M, M = headsOf L := ⟨_, rfl⟩
        rw [← hM] at h hw0 hm0 hmlt
        obtain ⟨k, hk⟩ : ∃ k, k = sectorsOf (sz : Int) := ⟨_, rfl⟩
        have hk2 : k = (sz + 55) / 48 := hk.trans (sectorsOf_at _ hle)
        rw [← hk] at h
        have hJ0 : (joinedOf L k M).2 = 0 := by
          refine Decidable.byContradiction fun hh => ?_
          rw [if_pos hh] at h
          exact hh (by simpa using (congrArg (fun r => r.2.2) h))
        rw [if_neg (by rw [hJ0]; decide)] at h
        have hjj : joinedOf L k M = (pieces L k, 0) ∧ 64 * k ≤ L.length ∧ errAt L M k = 0 := by
          unfold joinedOf at hJ0 ⊢
          split at hJ0
          · cases hJ0
          · rename_i hl
            split at hJ0
            · rename_i he; exact absurd hJ0 he
            · rename_i he
              exact ⟨by rw [if_neg hl, if_neg he], by omega, Decidable.not_not.1 he⟩
        obtain ⟨hj, hLk, herr⟩ := hjj
        rw [hj] at h
        simp only at h
        have hall := errAt_all L M k herr
        have hpl := pieces_len L k hLk
        have hO0 : (openedOf (pieces L k) sz).2 = 0 := by
          refine Decidable.byContradiction fun hh => ?_
          rw [if_pos hh] at h
          exact hh (by simpa using (congrArg (fun r => r.2.2) h))
        rw [if_neg (by rw [hO0]; decide)] at h
        have hm : M = m := congrArg (fun r => r.1) h
        have hu : (openedOf (pieces L k) sz).1 = u := congrArg (fun r => r.2.1) h
        subst hm
        obtain ⟨t, ht⟩ : ∃ t, t = (openOf ((pieces L k).take (sz + 8))).1 := ⟨_, rfl⟩
        have hb8 : ((pieces L k).take (sz + 8)).length = sz + 8 := by rw [List.length_take]; omega
        have hop : (openOf ((pieces L k).take (sz + 8))).2 = 0 ∧ hasNZ ((pieces L k).drop (sz + 8)) = false ∧ u = t.drop 4 := by
          unfold openedOf at hO0 hu
          split at hO0
          · rename_i he; exact absurd hO0 he
          · rename_i he
            rw [if_neg he] at hu
            split at hO0
            · cases hO0
            · rename_i hz
              rw [if_neg hz] at hu
              exact ⟨Decidable.not_not.1 he, by simpa using hz, by rw [← hu, ht]⟩
        obtain ⟨ho, hz, hut⟩ := hop
        obtain ⟨htl, _⟩ := openOf_len _ ho
        rw [← ht, hb8] at htl
        have htl : t.length = sz + 4 := by omega
        have hseal : sealOf t = (pieces L k).take (sz + 8) := by
          unfold openOf at ho ht
          rw [if_neg (by omega)] at ho ht
          split at ho
          · rename_i hs
            rw [if_pos hs] at ht
            simp only at ht
            rw [ht]
            exact (sealed_iff _ (by omega)).2 hs
          · cases ho
        have hul : u.length = sz := by rw [hut, List.length_drop]; omega
        have ht4 : t.take 4 = le 4 sz := by
          have e1 : (piece L 0).take 4 = t.take 4 := by
            have e2 : t.take 4 = (sealOf t).take 4 := by rw [sealOf, List.take_append_of_le_length (by omega)]
            have e3 := pieces_get L k hLk 0 (by omega)
            rw [Nat.mul_zero, List.drop_zero] at e3
            rw [e2, hseal, List.take_take, Nat.min_eq_left (by omega), ← e3, List.take_take, Nat.min_eq_left (by omega)]
          have e4 := le_unle (t.take 4)
          rw [List.length_take, Nat.min_eq_left (by omega), ← e1, ← first_size, ← hsz] at e4
          rw [← e1]
          exact e4.symm
        have hbody : bodyOf u k = pieces L k := by
          have e1 : le 4 u.length ++ u = t := by rw [hul, ← ht4, hut, List.take_append_drop]
          have e2 := zeros_of _ hz
          rw [List.length_drop, hpl] at e2
          rw [bodyOf, e1, hseal, hul, show k * 48 - (sz + 8) = 48 * k - (sz + 8) from by omega, ← e2, List.take_append_drop]
        refine ⟨by omega, hmlt, by omega, by rw [hul, ← hk]; exact hLk, ?_⟩
        rw [makeOf, hul, ← hk, hbody]
        exact secs_take M L k hLk hall k (Nat.le_refl _)
theorem read_bad (L : List UInt8) (h : (readOf L).2.2 ≠ 0) : (readOf L).1 = 0 ∧ (readOf L).2.1 = [] := by
  unfold readOf at h ⊢
  split
  · exact ⟨rfl, rfl⟩
  · rename_i h1
    rw [if_neg h1] at h
    split
    · exact ⟨rfl, rfl⟩
    · rename_i h2
      rw [if_neg h2] at h
      split
      · exact ⟨rfl, rfl⟩
      · rename_i h3
        rw [if_neg h3] at h
        exact absurd rfl h

end Go.Proofs.Ytddnjlnhnnpgiaa

namespace Go.Proofs.Ytddnjlnhnnpgiaa
set_option maxRecDepth 20000
open Go.RowKit

/-- A sector of which the first n bytes came to be. -/
def mix (n : Nat) (new old : List UInt8) : List UInt8 := new.take n ++ old.drop n
theorem mix_len (n : Nat) (new old : List UInt8) (hn : n ≤ 64) (h1 : new.length = 64) (h2 : old.length = 64) : (mix n new old).length = 64 := by
  rw [mix, List.length_append, List.length_take, List.length_drop]
  omega
theorem mix_lo (n a : Nat) (new old : List UInt8) (h : a ≤ n) (h1 : n ≤ new.length) : (mix n new old).take a = new.take a := by
  rw [mix, List.take_append_of_le_length (by rw [List.length_take]; omega), List.take_take, Nat.min_eq_left h]
theorem mix_hi (n a : Nat) (new old : List UInt8) (h : n ≤ a) (h1 : n ≤ new.length) : (mix n new old).drop a = old.drop a := by
  rw [mix, List.drop_append, List.drop_of_length_le (by rw [List.length_take]; omega), List.nil_append, List.length_take, Nat.min_eq_left h1, List.drop_drop]
  congr 1
  omega
theorem head_bytes (s : List UInt8) (hs : 64 ≤ s.length) : s.take 8 = headB (headsOf s) := by
  unfold headsOf headOf
  rw [if_neg (by omega)]
  have := le_unle (s.take 8).reverse
  rw [List.length_reverse, List.length_take, Nat.min_eq_left (by omega)] at this
  rw [headB, this, List.reverse_reverse]
theorem tail_bytes (s : List UInt8) (hs : s.length = 64) : s.drop 56 = le 8 (tailsOf s) := by
  unfold tailsOf tailOf
  rw [if_neg (by omega)]
  have h8 : (s.drop 56).take 8 = s.drop 56 := List.take_of_length_le (by rw [List.length_drop]; omega)
  have := le_unle (s.drop 56)
  rw [List.length_drop, hs] at this
  rw [h8]
  exact this.symm
theorem heads_of (s : List UInt8) (hs : 64 ≤ s.length) : headsOf s = unle (s.take 8).reverse := by
  unfold headsOf headOf
  rw [if_neg (by omega)]
theorem tails_of (s : List UInt8) (hs : s.length = 64) : tailsOf s = unle (s.drop 56) := by
  unfold tailsOf tailOf
  rw [if_neg (by omega), List.take_of_length_le (by rw [List.length_drop]; omega)]
/-- Whole it is only if it is the one, or the other one. -/
theorem mix_whole (n : Nat) (new old : List UInt8) (N O : Nat) (hn : n ≤ 64) (h1 : new.length = 64) (h2 : old.length = 64) (hN : headsOf new = N ∧ tailsOf new = N) (hO : headsOf old = O ∧ tailsOf old = O) (hne : N ≠ O)
    (hw : headsOf (mix n new old) = tailsOf (mix n new old)) : mix n new old = new ∨ mix n new old = old := by
  have hl := mix_len n new old hn h1 h2
  rcases Nat.lt_or_ge n 8 with h8 | h8
  · right
    have ht : tailsOf (mix n new old) = O := by rw [tails_of _ hl, mix_hi n 56 new old (by omega) (by omega), ← tails_of _ h2, hO.2]
    have hh := head_bytes (mix n new old) (by omega)
    rw [hw, ht, ← hO.1, ← head_bytes old (by omega)] at hh
    have hd := mix_hi n 8 new old (by omega) (by omega)
    rw [← List.take_append_drop 8 (mix n new old), hh, hd, List.take_append_drop]
  · rcases Nat.lt_or_ge 56 n with h56 | h56
    · left
      have hh : headsOf (mix n new old) = N := by rw [heads_of _ (by omega), mix_lo n 8 new old h8 (by omega), ← heads_of _ (by omega), hN.1]
      have ht := tail_bytes (mix n new old) hl
      rw [← hw, hh, ← hN.2, ← tail_bytes new h1] at ht
      have hd := mix_lo n 56 new old (by omega) (by omega)
      rw [← List.take_append_drop 56 (mix n new old), ht, hd, List.take_append_drop]
    · exfalso
      have hh : headsOf (mix n new old) = N := by rw [heads_of _ (by omega), mix_lo n 8 new old h8 (by omega), ← heads_of _ (by omega), hN.1]
      have ht : tailsOf (mix n new old) = O := by rw [tails_of _ hl, mix_hi n 56 new old h56 (by omega), ← tails_of _ h2, hO.2]
      exact hne (by rw [← hh, hw, ht])

theorem wrong_cases (l : List UInt8) (m : Nat) (hm : m ≠ 0) : wrongOf l m = 0 ∨ wrongOf l m = 13 := by
  unfold wrongOf
  split
  · exact .inr rfl
  · first
      | exact .inl rfl
      | (rw [if_neg hm]; exact .inl rfl)
theorem errAt_cases (l : List UInt8) (m : Nat) (hm : m ≠ 0) (k : Nat) : errAt l m k = 0 ∨ errAt l m k = 13 := by
  induction k with
  | zero => exact .inl rfl
  | succ k ih =>
    rw [errAt]
    split
    · exact ih
    · exact wrong_cases _ _ hm
/-- Told at the first sector. -/
theorem read_first (L : List UInt8) (h : 64 ≤ L.length) (e : Int) (he : wrongOf L (headsOf L) = e) (h0 : e ≠ 0) : readOf L = (0, [], e) := by
  have hS : sizeOf L = (0, e) := by
    unfold sizeOf
    rw [if_neg (by omega), he, if_pos h0]
  unfold readOf
  rw [hS, if_pos h0]
/-- Told at a later one. -/
theorem read_later (L : List UInt8) (m sz k : Nat) (h : 64 ≤ L.length) (hh : headsOf L = m) (hw : wrongOf L m = 0) (hs : sizeNum L = sz) (hle : sz ≤ 65536) (hk : k = sectorsOf (sz : Int)) (hL : 64 * k ≤ L.length) (he : errAt L m k = 13) : readOf L = (0, [], 13) := by
  have hS : sizeOf L = (sz, 0) := by
    unfold sizeOf
    rw [if_neg (by omega), hh, hw, if_neg (by decide), hs, if_neg (by omega)]
  have hJ : joinedOf L k m = ([], 13) := by
    unfold joinedOf
    rw [if_neg (by omega), he, if_pos (by decide)]
  unfold readOf
  rw [hS]
  simp only
  rw [← hk, hh, hJ]
  simp

/-- All that is known of what came to be: each sector is the new one, of which a beginning came to be over what was there, or what was there. -/
structure Torn (L : List UInt8) (N O : Nat) (text was : List UInt8) : Prop where
  len : 64 * sectorsOf text.length ≤ L.length ∧ (O ≠ 0 → 64 * sectorsOf was.length ≤ L.length)
  new : ∀ i, i < sectorsOf text.length → ∃ n old, n ≤ 64 ∧ old.length = 64 ∧ sect L i = mix n (sec N (((bodyOf text (sectorsOf text.length)).drop (48 * i)).take 48)) old ∧
    ((O ≠ 0 ∧ i < sectorsOf was.length ∧ old = sec O (((bodyOf was (sectorsOf was.length)).drop (48 * i)).take 48)) ∨ ((O = 0 ∨ sectorsOf was.length ≤ i) ∧ old = List.replicate 64 0))
  old : ∀ i, sectorsOf text.length ≤ i → O ≠ 0 → i < sectorsOf was.length → sect L i = sec O (((bodyOf was (sectorsOf was.length)).drop (48 * i)).take 48)

theorem zeros_ends : headsOf (List.replicate 64 0) = 0 ∧ tailsOf (List.replicate 64 0) = 0 := by decide
theorem torn_read (L : List UInt8) (N O : Nat) (text was : List UInt8) (ht : text.length ≤ 65536) (hw : was.length ≤ 65536) (hN : N < 18446744073709551616) (hO : O < N) (h : Torn L N O text was) :
    readOf L = (N, text, 0) ∨ (O ≠ 0 ∧ readOf L = (O, was, 0)) ∨ readOf L = (0, [], 13) ∨ (O = 0 ∧ readOf L = (0, [], 40)) := by
  obtain ⟨kb, hkb⟩ : ∃ k, k = sectorsOf (text.length : Int) := ⟨_, rfl⟩
  obtain ⟨ka, hka⟩ : ∃ k, k = sectorsOf (was.length : Int) := ⟨_, rfl⟩
  have hkb2 : kb = (text.length + 55) / 48 := hkb.trans (sectorsOf_at _ ht)
  have hka2 : ka = (was.length + 55) / 48 := hka.trans (sectorsOf_at _ hw)
  obtain ⟨⟨len1, len2⟩, hnew, hold⟩ := h
  rw [← hkb] at len1 hnew hold
  rw [← hka] at len2 hnew hold
  have hbb := bodyOf_len text kb (by omega)
  have hba := bodyOf_len was ka (by omega)
  have hLl : 64 ≤ L.length := by omega
  -- what a whole sector is
  have key : ∀ i, (i < kb ∨ (O ≠ 0 ∧ i < ka)) → headsOf (sect L i) = tailsOf (sect L i) →
      (i < kb ∧ headsOf (sect L i) = N ∧ sect L i = sec N (((bodyOf text kb).drop (48 * i)).take 48)) ∨
      (O ≠ 0 ∧ i < ka ∧ headsOf (sect L i) = O ∧ sect L i = sec O (((bodyOf was ka).drop (48 * i)).take 48)) ∨
      ((O = 0 ∨ ka ≤ i) ∧ headsOf (sect L i) = 0) := by
    intro i hi hwh
    rcases Nat.lt_or_ge i kb with hik | hik
    · obtain ⟨n, old, hn, hol, hs, hcase⟩ := hnew i hik
      have hpl := chunk_len (bodyOf text kb) i kb hik (by omega)
      have hse := sec_ends (m := N) hpl hN
      have hsl := sec_len (m := N) hpl
      rcases hcase with ⟨h0, hia, he⟩ | ⟨h0, he⟩
      · have hpa := chunk_len (bodyOf was ka) i ka hia (by omega)
        have hsa := sec_ends (m := O) hpa (by omega)
        subst he
        rw [hs] at hwh
        rcases mix_whole n _ _ N O hn hsl hol hse hsa (by omega) hwh with e | e
        · left; rw [hs, e]; exact ⟨hik, hse.1, rfl⟩
        · right; left; rw [hs, e]; exact ⟨h0, hia, hsa.1, rfl⟩
      · subst he
        rw [hs] at hwh
        rcases mix_whole n _ _ N 0 hn hsl hol hse zeros_ends (by omega) hwh with e | e
        · left; rw [hs, e]; exact ⟨hik, hse.1, rfl⟩
        · right; right; rw [hs, e]; exact ⟨h0, zeros_ends.1⟩
    · have h0 : O ≠ 0 ∧ i < ka := by rcases hi with h | h; exact absurd h (by omega); exact h
      have hpa := chunk_len (bodyOf was ka) i ka h0.2 (by omega)
      have hsa := sec_ends (m := O) hpa (by omega)
      have hs := hold i hik h0.1 h0.2
      right; left
      rw [hs]
      exact ⟨h0.1, h0.2, hsa.1, rfl⟩
  obtain ⟨e1, e2⟩ := first_ends L hLl
  have hsize : ∀ (M : Nat) (b : List UInt8) (t : List UInt8) (k : Nat), b = bodyOf t k → k = sectorsOf (t.length : Int) → t.length ≤ 65536 → sect L 0 = sec M ((b.drop (48 * 0)).take 48) → sizeNum L = t.length := by
    intro M b t k hb hk htl hs
    have hk2 : k = (t.length + 55) / 48 := hk.trans (sectorsOf_at _ htl)
    have hbl := bodyOf_len t k (by omega)
    rw [hb] at hs
    have hpc : piece L 0 = (bodyOf t k).take 48 := by rw [piece, hs, sec_piece (chunk_len _ 0 k (by omega) (by omega))]; rfl
    rw [first_size, hpc, List.take_take, Nat.min_eq_left (by omega), bodyOf, sealOf, List.append_assoc, List.append_assoc, List.take_append_of_le_length (by rw [le_len]; exact Nat.le_refl _), List.take_of_length_le (by rw [le_len]; exact Nat.le_refl _), unle_le]
    exact Nat.mod_eq_of_lt (by omega)
  by_cases hwh : headsOf (sect L 0) = tailsOf (sect L 0)
  · rcases key 0 (.inl (by omega)) hwh with ⟨_, hh, hs⟩ | ⟨h0, hia, hh, hs⟩ | ⟨h0, hh⟩
    · -- the new one, or it is told
      have hhL : headsOf L = N := e1.trans hh
      have hwL : wrongOf L N = 0 := by
        unfold wrongOf
        rw [hhL, e2, ← hwh, hh, if_neg (by simp), if_neg (by omega)]
      rcases errAt_cases L N (by omega) kb with he | he
      · left
        refine read_secs N text L ht hN (by omega) (by rw [← hkb]; exact len1) ?_
        rw [← hkb]
        intro i hi
        obtain ⟨w1, w2, _⟩ := wrong_zero _ _ (errAt_all L N kb he i hi)
        rcases key i (.inl hi) (w1.trans w2.symm) with ⟨_, _, q⟩ | ⟨_, _, q, _⟩ | ⟨_, q⟩
        · exact q
        · omega
        · omega
      · exact .inr (.inr (.inl (read_later L N text.length kb hLl hhL hwL (hsize N _ text kb rfl hkb ht hs) ht hkb len1 he)))
    · have hhL : headsOf L = O := e1.trans hh
      have hwL : wrongOf L O = 0 := by
        unfold wrongOf
        rw [hhL, e2, ← hwh, hh, if_neg (by simp), if_neg h0]
      rcases errAt_cases L O h0 ka with he | he
      · refine .inr (.inl ⟨h0, read_secs O was L hw (by omega) (by omega) (by rw [← hka]; exact len2 h0) ?_⟩)
        rw [← hka]
        intro i hi
        obtain ⟨w1, w2, _⟩ := wrong_zero _ _ (errAt_all L O ka he i hi)
        rcases key i (.inr ⟨h0, hi⟩) (w1.trans w2.symm) with ⟨_, q, _⟩ | ⟨_, _, _, q⟩ | ⟨_, q⟩
        · omega
        · exact q
        · omega
      · exact .inr (.inr (.inl (read_later L O was.length ka hLl hhL hwL (hsize O _ was ka rfl hka hw hs) hw hka (len2 h0) he)))
    · have hO0 : O = 0 := by
        rcases h0 with h | h
        · exact h
        · omega
      refine .inr (.inr (.inr ⟨hO0, read_first L hLl 40 ?_ (by decide)⟩))
      unfold wrongOf
      rw [e1, e2, ← hwh, hh, if_neg (by simp), if_pos rfl]
  · refine .inr (.inr (.inl (read_first L hLl 13 ?_ (by decide))))
    unfold wrongOf
    rw [e1, e2, if_pos (.inl hwh)]


/-- The bytes b from the sector number i on, n of them, over L. -/
def splice (L b : List UInt8) (i n : Nat) : List UInt8 := L.take (64 * i) ++ (b.drop (64 * i)).take n ++ L.drop (64 * i + n)
def tornL (L b : List UInt8) (ns : Nat → Nat) : Nat → List UInt8
  | 0 => L
  | i + 1 => splice (tornL L b ns i) b i (ns i)
theorem splice_len (L b : List UInt8) (i n : Nat) (hn : n ≤ 64) (hL : 64 * (i + 1) ≤ L.length) (hb : 64 * (i + 1) ≤ b.length) : (splice L b i n).length = L.length := by
  simp only [splice, List.length_append, List.length_take, List.length_drop]
  omega
theorem tornL_len (L b : List UInt8) (ns : Nat → Nat) (hn : ∀ i, ns i ≤ 64) (i : Nat) (hL : 64 * i ≤ L.length) (hb : 64 * i ≤ b.length) : (tornL L b ns i).length = L.length := by
  induction i with
  | zero => rfl
  | succ i ih =>
    have := ih (by omega) (by omega)
    rw [tornL, splice_len _ _ _ _ (hn i) (by omega) (by omega), this]
theorem splice_other (L b : List UInt8) (i n j : Nat) (hn : n ≤ 64) (hL : 64 * (i + 1) ≤ L.length) (hb : 64 * (i + 1) ≤ b.length) (hj : j ≠ i) : sect (splice L b i n) j = sect L j := by
  have l1 : (L.take (64 * i)).length = 64 * i := by rw [List.length_take]; omega
  have l2 : ((b.drop (64 * i)).take n).length = n := by rw [List.length_take, List.length_drop]; omega
  rcases Nat.lt_or_ge j i with h | h
  · rw [sect, splice, List.append_assoc, List.drop_append_of_le_length (by omega), List.take_append_of_le_length (by rw [List.length_drop]; omega), List.drop_take, List.take_take, Nat.min_eq_left (by omega)]
    rfl
  · rw [sect, splice, List.drop_append, List.drop_of_length_le (by rw [List.length_append]; omega), List.nil_append, List.length_append, l1, l2, List.drop_drop, sect]
    congr 2
    omega
theorem splice_same (L b : List UInt8) (i n : Nat) (hn : n ≤ 64) (hL : 64 * (i + 1) ≤ L.length) (hb : 64 * (i + 1) ≤ b.length) : sect (splice L b i n) i = mix n (sect b i) (sect L i) := by
  have l1 : (L.take (64 * i)).length = 64 * i := by rw [List.length_take]; omega
  have l2 : ((b.drop (64 * i)).take n).length = n := by rw [List.length_take, List.length_drop]; omega
  rw [sect, splice, List.append_assoc, List.drop_append_of_le_length (by omega), List.drop_of_length_le (by omega), List.nil_append, List.take_append, l2, List.take_of_length_le (by omega), mix, sect, sect, List.take_take, Nat.min_eq_left hn, List.drop_take, List.drop_drop]
theorem tornL_sect (L b : List UInt8) (ns : Nat → Nat) (hn : ∀ i, ns i ≤ 64) (i : Nat) (hL : 64 * i ≤ L.length) (hb : 64 * i ≤ b.length) (j : Nat) : sect (tornL L b ns i) j = if j < i then mix (ns j) (sect b j) (sect L j) else sect L j := by
  induction i with
  | zero => rfl
  | succ i ih =>
    have hl := tornL_len L b ns hn i (by omega) (by omega)
    have := ih (by omega) (by omega)
    rw [tornL]
    by_cases hj : j = i
    · subst hj
      rw [splice_same _ _ _ _ (hn j) (by omega) (by omega), this, if_neg (by omega), if_pos (by omega)]
    · rw [splice_other _ _ _ _ _ (hn i) (by omega) (by omega) hj, this]
      by_cases h : j < i
      · rw [if_pos h, if_pos (by omega)]
      · rw [if_neg h, if_neg (by omega)]

/-- What was there: the other frame, or none, and noughts. -/
def wasL (O : Nat) (was : List UInt8) (M : Nat) : List UInt8 := (if O = 0 then [] else makeOf O was) ++ List.replicate (M - (if O = 0 then [] else makeOf O was).length) 0
theorem makeOf_len (m : Nat) (l : List UInt8) (hl : l.length ≤ 65536) : (makeOf m l).length = 64 * sectorsOf l.length := by
  have hk2 := sectorsOf_at _ hl
  have hbl := bodyOf_len l (sectorsOf (l.length : Int)) (by omega)
  rw [makeOf, secs_len _ _ _ (by omega)]
theorem make_sect (m : Nat) (l more : List UInt8) (hl : l.length ≤ 65536) (i : Nat) (hi : i < sectorsOf l.length) : sect (makeOf m l ++ more) i = sec m (((bodyOf l (sectorsOf l.length)).drop (48 * i)).take 48) := by
  have hk2 := sectorsOf_at _ hl
  have hbl := bodyOf_len l (sectorsOf (l.length : Int)) (by omega)
  exact secs_sect m _ _ (by omega) i more hi
theorem torn_is (N O : Nat) (text was : List UInt8) (ns : Nat → Nat) (M : Nat) (ht : text.length ≤ 65536) (hw : was.length ≤ 65536) (hn : ∀ i, ns i ≤ 64)
    (hM : M = max (if O = 0 then [] else makeOf O was).length (makeOf N text).length) : Torn (tornL (wasL O was M) (makeOf N text) ns (sectorsOf text.length)) N O text was := by
  have hb := makeOf_len N text ht
  obtain ⟨kb, hkb⟩ : ∃ k, k = sectorsOf (text.length : Int) := ⟨_, rfl⟩
  obtain ⟨a, ha⟩ : ∃ a, a = (if O = 0 then [] else makeOf O was) := ⟨_, rfl⟩
  have hwl : (wasL O was M).length = M := by
    rw [wasL, ← ha, List.length_append, List.length_replicate]
    rw [← ha] at hM
    omega
  rw [← hkb] at hb ⊢
  have hMb : 64 * kb ≤ M := by omega
  have hlen := tornL_len (wasL O was M) (makeOf N text) ns hn kb (by omega) (by omega)
  have hs := tornL_sect (wasL O was M) (makeOf N text) ns hn kb (by omega) (by omega)
  have hal : O ≠ 0 → a.length = 64 * sectorsOf was.length := fun h => by rw [ha, if_neg h, makeOf_len O was hw]
  have hold : ∀ i, O ≠ 0 → i < sectorsOf was.length → sect (wasL O was M) i = sec O (((bodyOf was (sectorsOf was.length)).drop (48 * i)).take 48) := fun i h hi => by
    rw [wasL, if_neg h]
    exact make_sect O was _ hw i hi
  have hzero : ∀ i, (O = 0 ∨ sectorsOf was.length ≤ i) → i < kb → sect (wasL O was M) i = List.replicate 64 0 := fun i h hi => by
    have h64 : a.length ≤ 64 * i := by
      rcases Decidable.em (O = 0) with h0 | h0
      · rw [ha, if_pos h0]; exact Nat.zero_le _
      · have := hal h0
        rcases h with h | h
        · exact absurd h h0
        · omega
    rw [← ha] at hM
    rw [sect, wasL, ← ha, List.drop_append, List.drop_of_length_le (by omega), List.nil_append, List.drop_replicate, List.take_replicate]
    congr 1
    omega
  refine ⟨⟨by rw [hlen, hwl, ← hkb]; exact hMb, fun h => ?_⟩, ?_, ?_⟩
  · rw [hlen, hwl, ← hal h]
    rw [← ha] at hM
    omega
  · rw [← hkb]
    intro i hi
    have hsb : sect (makeOf N text) i = sec N (((bodyOf text kb).drop (48 * i)).take 48) := by
      have := make_sect N text [] ht i (by rw [← hkb]; exact hi)
      rw [List.append_nil, ← hkb] at this
      exact this
    refine ⟨ns i, sect (wasL O was M) i, hn i, sect_len _ _ (by omega), by rw [hs i, if_pos hi, hsb], ?_⟩
    by_cases h : O ≠ 0 ∧ i < sectorsOf was.length
    · exact .inl ⟨h.1, h.2, hold i h.1 h.2⟩
    · have h' : O = 0 ∨ sectorsOf was.length ≤ i := by
        rcases Decidable.em (O = 0) with h0 | h0
        · exact .inl h0
        · exact .inr (by omega)
      exact .inr ⟨h', hzero i h' hi⟩
  · rw [← hkb]
    intro i hi h0 hia
    rw [hs i, if_neg (by omega)]
    exact hold i h0 hia

/-- copy into what lies behind the byte number o of a row of bytes of one's own. -/
theorem run_cp_at {P : Program} {w : World} {base M o k : Nat} {t tx ty e : TypeId} {z x : Value} {g bt : Nat} {xs news : List Value} (hT : Elem P t e z 1 bt) (hown : w.ownsRow base e 1 (.slice (some ⟨g, 0, none⟩) M M) M xs) (hs : Src P 1 tx x k news w) (hk : o + k ≤ M) :
    ∃ w', (Builtin.copy_ #[t, tx] ty #[.slice (some ⟨g, o, none⟩) (M - o) (M - o), x]).run P w = .ok (goInt k) w' ∧ w'.ownsRow base e 1 (.slice (some ⟨g, 0, none⟩) M M) M (xs.take o ++ news ++ xs.drop (o + k)) ∧ w.grownBy w' (some g) := by
  obtain ⟨ht, ⟨i, hi, hz, hi1, rfl⟩, hzs, hsz⟩ := hT
  have hl := hs.newsLen
  have hmin : Nat.min k (M - o) = k := Nat.min_eq_left (by omega)
  obtain ⟨hx, h2⟩ := hown
  rcases h2 with ⟨hv, _⟩ | ⟨g', cap, cur, hv, hbg, hg, hnc, hcm, hcs, htake⟩
  · cases hv
  · cases hv
    have hst := run_storeCells_at P g o e news 0 cur w hg (by rw [hl, hcs]; omega) hs.one
    simp only [Nat.add_zero] at hst
    have hct : cur.toList = xs := by rw [← htake, List.take_of_length_le (by rw [Array.length_toList, hcs]; omega)]
    rw [hct] at hst
    have hr : (Builtin.copy_ #[t, tx] ty #[.slice (some ⟨g, o, none⟩) (M - o) (M - o), x]).run P w = .ok (goInt k) (w.setRow g (xs.take o ++ news ++ xs.drop (o + news.length)).toArray) := by
      simp [Builtin.copy_, run_underlying ht, Go.sizeOf, Go.typeInfo, hi, hi1, hs.len, hmin, hs.cells, hst]
    rw [hl, Nat.mul_one] at hr
    have hlen : (xs.take o ++ news ++ xs.drop (o + k)).length = M * 1 := by
      simp only [List.length_append, List.length_take, List.length_drop, hl, hx]
      omega
    refine ⟨_, hr, ⟨hlen, .inr ⟨g, M, _, rfl, hbg, setRow_heap w g cur _ e _ hg, Nat.le_refl _, hcm, by rw [List.size_toArray, hlen], ?_⟩⟩, ⟨rfl, rfl, rfl, by simp, fun k _ hk => setRow_other w g k _ (fun e => hk (by rw [e]))⟩⟩
    rw [← hlen]
    exact List.take_length

end Go.Proofs.Ytddnjlnhnnpgiaa
