/- What is read of any bytes, framed, is their beginning. A frame that is written over another one, or over noughts, of which a beginning of each sector alone came to be: what is read of it. What a place tells when beginnings of a frame's sectors alone came to be over what stood there, while all numbers are small. What the merged texts lack of readers. Contracts of math/bits: the table in its variable, TrailingZeros64, Len64. -/
import Derived.Test.YtpalmobmabkadaaGreatDoorFrefZM
import Derived.Test.YtpalmobmabkadaaGreatDoorFzeroZM
import Derived.Test.YtpalmobmabkadaaGreatDoorFjoinbZM
import Derived.Test.YtpalmobmabkadaaGreatDoorSegsZM
import Derived.Lib.TrailingZeros
import Derived.Lib.BitFns
import Derived.Lib.ItoaNum
import Derived.Laws.Bits64b
import Derived.Lib.Walk
import Derived.Lib.Small
namespace Go.Proofs.YtpalmobmabkadaaGreatDoor
set_option maxRecDepth 20000
open Go.RowKit

theorem wrong_zero (l : List UInt8) (m : Nat) (h : wrongOf l m = 0) : headsOf l = m ∧ tailsOf l = m ∧ m ≠ 0 := by
  unfold wrongOf at h
  split at h
  · cases h
  · rename_i h1
    split at h
    · cases h
    · rename_i h2
      simp only [not_or, Decidable.not_not] at h1
      exact ⟨h1.2, h1.1.symm.trans h1.2, h2⟩
theorem errAt_all (l : List UInt8) (m k : Nat) (h : errAt l m k = 0) : ∀ i, i < k → wrongOf (sect l i) m = 0 := by
  induction k with
  | zero => intro i hi; omega
  | succ k ih =>
    rw [errAt] at h
    split at h
    · rename_i h1; exact absurd h h1
    · rename_i h1
      intro i hi
      rcases Nat.lt_or_ge i k with h2 | h2
      · exact ih (Decidable.not_not.1 h1) i h2
      · obtain rfl : i = k := by omega
        exact h
theorem pieces_get (l : List UInt8) (k : Nat) (hl : 64 * k ≤ l.length) : ∀ j, j < k → ((pieces l k).drop (48 * j)).take 48 = piece l j := by
  induction k with
  | zero => intro j hj; omega
  | succ k ih =>
    intro j hj
    have hpl := pieces_len l k (by omega)
    have hp := piece_len l k (by omega)
    rw [pieces]
    rcases Nat.lt_or_ge j k with h | h
    · rw [List.drop_append_of_le_length (by omega), List.take_append_of_le_length (by rw [List.length_drop]; omega)]
      exact ih (by omega) j h
    · obtain rfl : j = k := by omega
      rw [List.drop_append_of_le_length (by omega), List.drop_of_length_le (by omega), List.nil_append, List.take_of_length_le (by omega)]
/-- A sector with one number at both ends is that of its piece. -/
theorem sect_sec (s : List UInt8) (m : Nat) (hs : s.length = 64) (h1 : headsOf s = m) (h2 : tailsOf s = m) : s = sec m ((s.drop 8).take 48) := by
  unfold headsOf headOf at h1
  unfold tailsOf tailOf at h2
  rw [if_neg (by omega)] at h1 h2
  have e1 : s.take 8 = headB m := by
    have := le_unle (s.take 8).reverse
    rw [List.length_reverse, List.length_take, Nat.min_eq_left (by omega), h1] at this
    rw [headB, this, List.reverse_reverse]
  have e2 : (s.drop 56).take 8 = le 8 m := by
    have := le_unle ((s.drop 56).take 8)
    rw [List.length_take, List.length_drop, hs, h2] at this
    exact this.symm
  have e3 : (s.drop 56).take 8 = s.drop 56 := List.take_of_length_le (by rw [List.length_drop]; omega)
  rw [sec, ← e1, ← e2, e3, List.append_assoc]
  have e4 : (s.drop 8).take 48 ++ s.drop 56 = s.drop 8 := by
    rw [show s.drop 56 = (s.drop 8).drop 48 from by rw [List.drop_drop]]
    exact List.take_append_drop _ _
  rw [e4]
  exact (List.take_append_drop 8 s).symm
theorem secs_take (m : Nat) (L : List UInt8) (k : Nat) (hL : 64 * k ≤ L.length) (h : ∀ i, i < k → wrongOf (sect L i) m = 0) : ∀ j, j ≤ k → secs m (pieces L k) j = L.take (64 * j) := by
  intro j
  induction j with
  | zero => intro _; rfl
  | succ j ih =>
    intro hj
    obtain ⟨h1, h2, _⟩ := wrong_zero _ _ (h j (by omega))
    rw [secs, ih (by omega), pieces_get L k hL j (by omega), piece, ← sect_sec (sect L j) m (sect_len L j (by omega)) h1 h2, sect, show 64 * (j + 1) = 64 * j + 64 from by omega, List.take_add]
theorem zeros_of (l : List UInt8) (h : hasNZ l = false) : l = List.replicate l.length 0 := by
  rw [List.eq_replicate_iff]
  refine ⟨rfl, fun x hx => ?_⟩
  unfold hasNZ at h
  rw [List.any_eq_false] at h
  have := h x hx
  simpa using this

/-- What comes back of bytes that are read well. -/
theorem read_back (L u : List UInt8) (m : Nat) (h : readOf L = (m, u, 0)) : 0 < m ∧ m < 18446744073709551616 ∧ u.length ≤ 65536 ∧ 64 * sectorsOf u.length ≤ L.length ∧ makeOf m u = L.take (64 * sectorsOf u.length) := by
  have hS0 : (sizeOf L).2 = 0 := by
    refine Decidable.byContradiction fun hh => ?_
    unfold readOf at h
    rw [if_pos hh] at h
    exact hh (by simpa using (congrArg (fun r => r.2.2) h))
  unfold readOf at h
  rw [if_neg (by rw [hS0]; decide)] at h
  obtain ⟨sz, hsz⟩ : ∃ sz, sz = (sizeOf L).1 := ⟨_, rfl⟩
  have hle := sizeOf_le L
  rw [← hsz] at h hle
  unfold sizeOf at hS0 hsz
  split at hS0
  · cases hS0
  · rename_i h64
    split at hS0
    · rename_i hw; exact absurd hS0 hw
    · rename_i hw
      split at hS0
      · cases hS0
      · rename_i hbig
        rw [if_neg h64, if_neg hw, if_neg hbig] at hsz
        simp only at hsz
        have hw0 : wrongOf L (headsOf L) = 0 := Decidable.not_not.1 hw
        obtain ⟨_, _, hm0⟩ := wrong_zero _ _ hw0
        have hmlt := headsOf_lt L
        obtain ⟨M, hM⟩ : ∃ M, M = headsOf L := ⟨_, rfl⟩
        rw [← hM] at h hw0 hm0 hmlt
        obtain ⟨k, hk⟩ : ∃ k, k = sectorsOf (sz : Int) := ⟨_, rfl⟩
        have hk2 : k = (sz + 55) / 48 := hk.trans (sectorsOf_at _ hle)
        rw [← hk] at h
        have hJ0 : (joinedOf L k M).2 = 0 := by
          refine Decidable.byContradiction fun hh => ?_
          rw [if_pos hh] at h
          exact hh (by simpa using (congrArg (fun r => r.2.2) h))
        rw [if_neg (by rw [hJ0]; decide)] at h
        have hjj : joinedOf L k M = (pieces L k, 0) ∧ 64 * k ≤ L.length ∧ errAt L M k = 0 := by
          unfold joinedOf at hJ0 ⊢
          split at hJ0
          · cases hJ0
          · rename_i hl
            split at hJ0
            · rename_i he; exact absurd hJ0 he
            · rename_i he
              exact ⟨by rw [if_neg hl, if_neg he], by omega, Decidable.not_not.1 he⟩
        obtain ⟨hj, hLk, herr⟩ := hjj
        rw [hj] at h
        simp only at h
        have hall := errAt_all L M k herr
        have hpl := pieces_len L k hLk
        have hO0 : (openedOf (pieces L k) sz).2 = 0 := by
          refine Decidable.byContradiction fun hh => ?_
          rw [if_pos hh] at h
          exact hh (by simpa using (congrArg (fun r => r.2.2) h))
        rw [if_neg (by rw [hO0]; decide)] at h
        have hm : M = m := congrArg (fun r => r.1) h
        have hu : (openedOf (pieces L k) sz).1 = u := congrArg (fun r => r.2.1) h
        subst hm
        obtain ⟨t, ht⟩ : ∃ t, t = (openOf ((pieces L k).take (sz + 8))).1 := ⟨_, rfl⟩
        have hb8 : ((pieces L k).take (sz + 8)).length = sz + 8 := by rw [List.length_take]; omega
        have hop : (openOf ((pieces L k).take (sz + 8))).2 = 0 ∧ hasNZ ((pieces L k).drop (sz + 8)) = false ∧ u = t.drop 4 := by
          unfold openedOf at hO0 hu
          split at hO0
          · rename_i he; exact absurd hO0 he
          · rename_i he
            rw [if_neg he] at hu
            split at hO0
            · cases hO0
            · rename_i hz
              rw [if_neg hz] at hu
              exact ⟨Decidable.not_not.1 he, by simpa using hz, by rw [← hu, ht]⟩
        obtain ⟨ho, hz, hut⟩ := hop
        obtain ⟨htl, _⟩ := openOf_len _ ho
        rw [← ht, hb8] at htl
        have htl : t.length = sz + 4 := by omega
        have hseal : sealOf t = (pieces L k).take (sz + 8) := by
          unfold openOf at ho ht
          rw [if_neg (by omega)] at ho ht
          split at ho
          · rename_i hs
            rw [if_pos hs] at ht
            simp only at ht
            rw [ht]
            exact (sealed_iff _ (by omega)).2 hs
          · cases ho
        have hul : u.length = sz := by rw [hut, List.length_drop]; omega
        have ht4 : t.take 4 = le 4 sz := by
          have e1 : (piece L 0).take 4 = t.take 4 := by
            have e2 : t.take 4 = (sealOf t).take 4 := by rw [sealOf, List.take_append_of_le_length (by omega)]
            have e3 := pieces_get L k hLk 0 (by omega)
            rw [Nat.mul_zero, List.drop_zero] at e3
            rw [e2, hseal, List.take_take, Nat.min_eq_left (by omega), ← e3, List.take_take, Nat.min_eq_left (by omega)]
          have e4 := le_unle (t.take 4)
          rw [List.length_take, Nat.min_eq_left (by omega), ← e1, ← first_size, ← hsz] at e4
          rw [← e1]
          exact e4.symm
        have hbody : bodyOf u k = pieces L k := by
          have e1 : le 4 u.length ++ u = t := by rw [hul, ← ht4, hut, List.take_append_drop]
          have e2 := zeros_of _ hz
          rw [List.length_drop, hpl] at e2
          rw [bodyOf, e1, hseal, hul, show k * 48 - (sz + 8) = 48 * k - (sz + 8) from by omega, ← e2, List.take_append_drop]
        refine ⟨by omega, hmlt, by omega, by rw [hul, ← hk]; exact hLk, ?_⟩
        rw [makeOf, hul, ← hk, hbody]
        exact secs_take M L k hLk hall k (Nat.le_refl _)
theorem read_bad (L : List UInt8) (h : (readOf L).2.2 ≠ 0) : (readOf L).1 = 0 ∧ (readOf L).2.1 = [] := by
  unfold readOf at h ⊢
  split
  · exact ⟨rfl, rfl⟩
  · rename_i h1
    rw [if_neg h1] at h
    split
    · exact ⟨rfl, rfl⟩
    · rename_i h2
      rw [if_neg h2] at h
      split
      · exact ⟨rfl, rfl⟩
      · rename_i h3
        rw [if_neg h3] at h
        exact absurd rfl h

end Go.Proofs.YtpalmobmabkadaaGreatDoor

namespace Go.Proofs.YtpalmobmabkadaaGreatDoor
set_option maxRecDepth 20000
open Go.RowKit

/-- A sector of which the first n bytes came to be. -/
def mix (n : Nat) (new old : List UInt8) : List UInt8 := new.take n ++ old.drop n
theorem mix_len (n : Nat) (new old : List UInt8) (hn : n ≤ 64) (h1 : new.length = 64) (h2 : old.length = 64) : (mix n new old).length = 64 := by
  rw [mix, List.length_append, List.length_take, List.length_drop]
  omega
theorem mix_lo (n a : Nat) (new old : List UInt8) (h : a ≤ n) (h1 : n ≤ new.length) : (mix n new old).take a = new.take a := by
  rw [mix, List.take_append_of_le_length (by rw [List.length_take]; omega), List.take_take, Nat.min_eq_left h]
theorem mix_hi (n a : Nat) (new old : List UInt8) (h : n ≤ a) (h1 : n ≤ new.length) : (mix n new old).drop a = old.drop a := by
  rw [mix, List.drop_append, List.drop_of_length_le (by rw [List.length_take]; omega), List.nil_append, List.length_take, Nat.min_eq_left h1, List.drop_drop]
  congr 1
  omega
theorem head_bytes (s : List UInt8) (hs : 64 ≤ s.length) : s.take 8 = headB (headsOf s) := by
  unfold headsOf headOf
  rw [if_neg (by omega)]
  have := le_unle (s.take 8).reverse
  rw [List.length_reverse, List.length_take, Nat.min_eq_left (by omega)] at this
  rw [headB, this, List.reverse_reverse]
theorem tail_bytes (s : List UInt8) (hs : s.length = 64) : s.drop 56 = le 8 (tailsOf s) := by
  unfold tailsOf tailOf
  rw [if_neg (by omega)]
  have h8 : (s.drop 56).take 8 = s.drop 56 := List.take_of_length_le (by rw [List.length_drop]; omega)
  have := le_unle (s.drop 56)
  rw [List.length_drop, hs] at this
  rw [h8]
  exact this.symm
theorem heads_of (s : List UInt8) (hs : 64 ≤ s.length) : headsOf s = unle (s.take 8).reverse := by
  unfold headsOf headOf
  rw [if_neg (by omega)]
theorem tails_of (s : List UInt8) (hs : s.length = 64) : tailsOf s = unle (s.drop 56) := by
  unfold tailsOf tailOf
  rw [if_neg (by omega), List.take_of_length_le (by rw [List.length_drop]; omega)]
/-- Whole it is only if it is the one, or the other one. -/
theorem mix_whole (n : Nat) (new old : List UInt8) (N O : Nat) (hn : n ≤ 64) (h1 : new.length = 64) (h2 : old.length = 64) (hN : headsOf new = N ∧ tailsOf new = N) (hO : headsOf old = O ∧ tailsOf old = O) (hne : N ≠ O)
    (hw : headsOf (mix n new old) = tailsOf (mix n new old)) : mix n new old = new ∨ mix n new old = old := by
  have hl := mix_len n new old hn h1 h2
  rcases Nat.lt_or_ge n 8 with h8 | h8
  · right
    have ht : tailsOf (mix n new old) = O := by rw [tails_of _ hl, mix_hi n 56 new old (by omega) (by omega), ← tails_of _ h2, hO.2]
    have hh := head_bytes (mix n new old) (by omega)
    rw [hw, ht, ← hO.1, ← head_bytes old (by omega)] at hh
    have hd := mix_hi n 8 new old (by omega) (by omega)
    rw [← List.take_append_drop 8 (mix n new old), hh, hd, List.take_append_drop]
  · rcases Nat.lt_or_ge 56 n with h56 | h56
    · left
      have hh : headsOf (mix n new old) = N := by rw [heads_of _ (by omega), mix_lo n 8 new old h8 (by omega), ← heads_of _ (by omega), hN.1]
      have ht := tail_bytes (mix n new old) hl
      rw [← hw, hh, ← hN.2, ← tail_bytes new h1] at ht
      have hd := mix_lo n 56 new old (by omega) (by omega)
      rw [← List.take_append_drop 56 (mix n new old), ht, hd, List.take_append_drop]
    · exfalso
      have hh : headsOf (mix n new old) = N := by rw [heads_of _ (by omega), mix_lo n 8 new old h8 (by omega), ← heads_of _ (by omega), hN.1]
      have ht : tailsOf (mix n new old) = O := by rw [tails_of _ hl, mix_hi n 56 new old h56 (by omega), ← tails_of _ h2, hO.2]
      exact hne (by rw [← hh, hw, ht])

theorem wrong_cases (l : List UInt8) (m : Nat) (hm : m ≠ 0) : wrongOf l m = 0 ∨ wrongOf l m = 13 := by
  unfold wrongOf
  split
  · exact .inr rfl
  · first
      | exact .inl rfl
      | (rw [if_neg hm]; exact .inl rfl)
theorem errAt_cases (l : List UInt8) (m : Nat) (hm : m ≠ 0) (k : Nat) : errAt l m k = 0 ∨ errAt l m k = 13 := by
  induction k with
  | zero => exact .inl rfl
  | succ k ih =>
    rw [errAt]
    split
    · exact ih
    · exact wrong_cases _ _ hm
/-- Told at the first sector. -/
theorem read_first (L : List UInt8) (h : 64 ≤ L.length) (e : Int) (he : wrongOf L (headsOf L) = e) (h0 : e ≠ 0) : readOf L = (0, [], e) := by
  have hS : sizeOf L = (0, e) := by
    unfold sizeOf
    rw [if_neg (by omega), he, if_pos h0]
  unfold readOf
  rw [hS, if_pos h0]
/-- Told at a later one. -/
theorem read_later (L : List UInt8) (m sz k : Nat) (h : 64 ≤ L.length) (hh : headsOf L = m) (hw : wrongOf L m = 0) (hs : sizeNum L = sz) (hle : sz ≤ 65536) (hk : k = sectorsOf (sz : Int)) (hL : 64 * k ≤ L.length) (he : errAt L m k = 13) : readOf L = (0, [], 13) := by
  have hS : sizeOf L = (sz, 0) := by
    unfold sizeOf
    rw [if_neg (by omega), hh, hw, if_neg (by decide), hs, if_neg (by omega)]
  have hJ : joinedOf L k m = ([], 13) := by
    unfold joinedOf
    rw [if_neg (by omega), he, if_pos (by decide)]
  unfold readOf
  rw [hS]
  simp only
  rw [← hk, hh, hJ]
  simp

/-- All that is known of what came to be: each sector is the new one, of which a beginning came to be over what was there, or what was there. -/
structure Torn (L : List UInt8) (N O : Nat) (text was : List UInt8) : Prop where
  len : 64 * sectorsOf text.length ≤ L.length ∧ (O ≠ 0 → 64 * sectorsOf was.length ≤ L.length)
  new : ∀ i, i < sectorsOf text.length → ∃ n old, n ≤ 64 ∧ old.length = 64 ∧ sect L i = mix n (sec N (((bodyOf text (sectorsOf text.length)).drop (48 * i)).take 48)) old ∧
    ((O ≠ 0 ∧ i < sectorsOf was.length ∧ old = sec O (((bodyOf was (sectorsOf was.length)).drop (48 * i)).take 48)) ∨ ((O = 0 ∨ sectorsOf was.length ≤ i) ∧ old = List.replicate 64 0))
  old : ∀ i, sectorsOf text.length ≤ i → O ≠ 0 → i < sectorsOf was.length → sect L i = sec O (((bodyOf was (sectorsOf was.length)).drop (48 * i)).take 48)

theorem zeros_ends : headsOf (List.replicate 64 0) = 0 ∧ tailsOf (List.replicate 64 0) = 0 := by decide
theorem torn_read (L : List UInt8) (N O : Nat) (text was : List UInt8) (ht : text.length ≤ 65536) (hw : was.length ≤ 65536) (hN : N < 18446744073709551616) (hO : O < N) (h : Torn L N O text was) :
    readOf L = (N, text, 0) ∨ (O ≠ 0 ∧ readOf L = (O, was, 0)) ∨ readOf L = (0, [], 13) ∨ (O = 0 ∧ readOf L = (0, [], 40)) := by
  obtain ⟨kb, hkb⟩ : ∃ k, k = sectorsOf (text.length : Int) := ⟨_, rfl⟩
  obtain ⟨ka, hka⟩ : ∃ k, k = sectorsOf (was.length : Int) := ⟨_, rfl⟩
  have hkb2 : kb = (text.length + 55) / 48 := hkb.trans (sectorsOf_at _ ht)
  have hka2 : ka = (was.length + 55) / 48 := hka.trans (sectorsOf_at _ hw)
  obtain ⟨⟨len1, len2⟩, hnew, hold⟩ := h
  rw [← hkb] at len1 hnew hold
  rw [← hka] at len2 hnew hold
  have hbb := bodyOf_len text kb (by omega)
  have hba := bodyOf_len was ka (by omega)
  have hLl : 64 ≤ L.length := by omega
  -- what a whole sector is
  have key : ∀ i, (i < kb ∨ (O ≠ 0 ∧ i < ka)) → headsOf (sect L i) = tailsOf (sect L i) →
      (i < kb ∧ headsOf (sect L i) = N ∧ sect L i = sec N (((bodyOf text kb).drop (48 * i)).take 48)) ∨
      (O ≠ 0 ∧ i < ka ∧ headsOf (sect L i) = O ∧ sect L i = sec O (((bodyOf was ka).drop (48 * i)).take 48)) ∨
      ((O = 0 ∨ ka ≤ i) ∧ headsOf (sect L i) = 0) := by
    intro i hi hwh
    rcases Nat.lt_or_ge i kb with hik | hik
    · obtain ⟨n, old, hn, hol, hs, hcase⟩ := hnew i hik
      have hpl := chunk_len (bodyOf text kb) i kb hik (by omega)
      have hse := sec_ends (m := N) hpl hN
      have hsl := sec_len (m := N) hpl
      rcases hcase with ⟨h0, hia, he⟩ | ⟨h0, he⟩
      · have hpa := chunk_len (bodyOf was ka) i ka hia (by omega)
        have hsa := sec_ends (m := O) hpa (by omega)
        subst he
        rw [hs] at hwh
        rcases mix_whole n _ _ N O hn hsl hol hse hsa (by omega) hwh with e | e
        · left; rw [hs, e]; exact ⟨hik, hse.1, rfl⟩
        · right; left; rw [hs, e]; exact ⟨h0, hia, hsa.1, rfl⟩
      · subst he
        rw [hs] at hwh
        rcases mix_whole n _ _ N 0 hn hsl hol hse zeros_ends (by omega) hwh with e | e
        · left; rw [hs, e]; exact ⟨hik, hse.1, rfl⟩
        · right; right; rw [hs, e]; exact ⟨h0, zeros_ends.1⟩
    · have h0 : O ≠ 0 ∧ i < ka := by rcases hi with h | h; exact absurd h (by omega); exact h
      have hpa := chunk_len (bodyOf was ka) i ka h0.2 (by omega)
      have hsa := sec_ends (m := O) hpa (by omega)
      have hs := hold i hik h0.1 h0.2
      right; left
      rw [hs]
      exact ⟨h0.1, h0.2, hsa.1, rfl⟩
  obtain ⟨e1, e2⟩ := first_ends L hLl
  have hsize : ∀ (M : Nat) (b : List UInt8) (t : List UInt8) (k : Nat), b = bodyOf t k → k = sectorsOf (t.length : Int) → t.length ≤ 65536 → sect L 0 = sec M ((b.drop (48 * 0)).take 48) → sizeNum L = t.length := by
    intro M b t k hb hk htl hs
    have hk2 : k = (t.length + 55) / 48 := hk.trans (sectorsOf_at _ htl)
    have hbl := bodyOf_len t k (by omega)
    rw [hb] at hs
    have hpc : piece L 0 = (bodyOf t k).take 48 := by rw [piece, hs, sec_piece (chunk_len _ 0 k (by omega) (by omega))]; rfl
    rw [first_size, hpc, List.take_take, Nat.min_eq_left (by omega), bodyOf, sealOf, List.append_assoc, List.append_assoc, List.take_append_of_le_length (by rw [le_len]; exact Nat.le_refl _), List.take_of_length_le (by rw [le_len]; exact Nat.le_refl _), unle_le]
    exact Nat.mod_eq_of_lt (by omega)
  by_cases hwh : headsOf (sect L 0) = tailsOf (sect L 0)
  · rcases key 0 (.inl (by omega)) hwh with ⟨_, hh, hs⟩ | ⟨h0, hia, hh, hs⟩ | ⟨h0, hh⟩
    · -- the new one, or it is told
      have hhL : headsOf L = N := e1.trans hh
      have hwL : wrongOf L N = 0 := by
        unfold wrongOf
        rw [hhL, e2, ← hwh, hh, if_neg (by simp), if_neg (by omega)]
      rcases errAt_cases L N (by omega) kb with he | he
      · left
        refine read_secs N text L ht hN (by omega) (by rw [← hkb]; exact len1) ?_
        rw [← hkb]
        intro i hi
        obtain ⟨w1, w2, _⟩ := wrong_zero _ _ (errAt_all L N kb he i hi)
        rcases key i (.inl hi) (w1.trans w2.symm) with ⟨_, _, q⟩ | ⟨_, _, q, _⟩ | ⟨_, q⟩
        · exact q
        · omega
        · omega
      · exact .inr (.inr (.inl (read_later L N text.length kb hLl hhL hwL (hsize N _ text kb rfl hkb ht hs) ht hkb len1 he)))
    · have hhL : headsOf L = O := e1.trans hh
      have hwL : wrongOf L O = 0 := by
        unfold wrongOf
        rw [hhL, e2, ← hwh, hh, if_neg (by simp), if_neg h0]
      rcases errAt_cases L O h0 ka with he | he
      · refine .inr (.inl ⟨h0, read_secs O was L hw (by omega) (by omega) (by rw [← hka]; exact len2 h0) ?_⟩)
        rw [← hka]
        intro i hi
        obtain ⟨w1, w2, _⟩ := wrong_zero _ _ (errAt_all L O ka he i hi)
        rcases key i (.inr ⟨h0, hi⟩) (w1.trans w2.symm) with ⟨_, q, _⟩ | ⟨_, _, _, q⟩ | ⟨_, q⟩
        · omega
        · exact q
        · omega
      · exact .inr (.inr (.inl (read_later L O was.length ka hLl hhL hwL (hsize O _ was ka rfl hka hw hs) hw hka (len2 h0) he)))
    · have hO0 : O = 0 := by
        rcases h0 with h | h
        · exact h
        · omega
      refine .inr (.inr (.inr ⟨hO0, read_first L hLl 40 ?_ (by decide)⟩))
      unfold wrongOf
      rw [e1, e2, ← hwh, hh, if_neg (by simp), if_pos rfl]
  · refine .inr (.inr (.inl (read_first L hLl 13 ?_ (by decide))))
    unfold wrongOf
    rw [e1, e2, if_pos (.inl hwh)]


/-- The bytes b from the sector number i on, n of them, over L. -/
def splice (L b : List UInt8) (i n : Nat) : List UInt8 := L.take (64 * i) ++ (b.drop (64 * i)).take n ++ L.drop (64 * i + n)
def tornL (L b : List UInt8) (ns : Nat → Nat) : Nat → List UInt8
  | 0 => L
  | i + 1 => splice (tornL L b ns i) b i (ns i)
theorem splice_len (L b : List UInt8) (i n : Nat) (hn : n ≤ 64) (hL : 64 * (i + 1) ≤ L.length) (hb : 64 * (i + 1) ≤ b.length) : (splice L b i n).length = L.length := by
  simp only [splice, List.length_append, List.length_take, List.length_drop]
  omega
theorem tornL_len (L b : List UInt8) (ns : Nat → Nat) (hn : ∀ i, ns i ≤ 64) (i : Nat) (hL : 64 * i ≤ L.length) (hb : 64 * i ≤ b.length) : (tornL L b ns i).length = L.length := by
  induction i with
  | zero => rfl
  | succ i ih =>
    have := ih (by omega) (by omega)
    rw [tornL, splice_len _ _ _ _ (hn i) (by omega) (by omega), this]
theorem splice_other (L b : List UInt8) (i n j : Nat) (hn : n ≤ 64) (hL : 64 * (i + 1) ≤ L.length) (hb : 64 * (i + 1) ≤ b.length) (hj : j ≠ i) : sect (splice L b i n) j = sect L j := by
  have l1 : (L.take (64 * i)).length = 64 * i := by rw [List.length_take]; omega
  have l2 : ((b.drop (64 * i)).take n).length = n := by rw [List.length_take, List.length_drop]; omega
  rcases Nat.lt_or_ge j i with h | h
  · rw [sect, splice, List.append_assoc, List.drop_append_of_le_length (by omega), List.take_append_of_le_length (by rw [List.length_drop]; omega), List.drop_take, List.take_take, Nat.min_eq_left (by omega)]
    rfl
  · rw [sect, splice, List.drop_append, List.drop_of_length_le (by rw [List.length_append]; omega), List.nil_append, List.length_append, l1, l2, List.drop_drop, sect]
    congr 2
    omega
theorem splice_same (L b : List UInt8) (i n : Nat) (hn : n ≤ 64) (hL : 64 * (i + 1) ≤ L.length) (hb : 64 * (i + 1) ≤ b.length) : sect (splice L b i n) i = mix n (sect b i) (sect L i) := by
  have l1 : (L.take (64 * i)).length = 64 * i := by rw [List.length_take]; omega
  have l2 : ((b.drop (64 * i)).take n).length = n := by rw [List.length_take, List.length_drop]; omega
  rw [sect, splice, List.append_assoc, List.drop_append_of_le_length (by omega), List.drop_of_length_le (by omega), List.nil_append, List.take_append, l2, List.take_of_length_le (by omega), mix, sect, sect, List.take_take, Nat.min_eq_left hn, List.drop_take, List.drop_drop]
theorem tornL_sect (L b : List UInt8) (ns : Nat → Nat) (hn : ∀ i, ns i ≤ 64) (i : Nat) (hL : 64 * i ≤ L.length) (hb : 64 * i ≤ b.length) (j : Nat) : sect (tornL L b ns i) j = if j < i then mix (ns j) (sect b j) (sect L j) else sect L j := by
  induction i with
  | zero => rfl
  | succ i ih =>
    have hl := tornL_len L b ns hn i (by omega) (by omega)
    have := ih (by omega) (by omega)
    rw [tornL]
    by_cases hj : j = i
    · subst hj
      rw [splice_same _ _ _ _ (hn j) (by omega) (by omega), this, if_neg (by omega), if_pos (by omega)]
    · rw [splice_other _ _ _ _ _ (hn i) (by omega) (by omega) hj, this]
      by_cases h : j < i
      · rw [if_pos h, if_pos (by omega)]
      · rw [if_neg h, if_neg (by omega)]

/-- What was there: the other frame, or none, and noughts. -/
def wasL (O : Nat) (was : List UInt8) (M : Nat) : List UInt8 := (if O = 0 then [] else makeOf O was) ++ List.replicate (M - (if O = 0 then [] else makeOf O was).length) 0
theorem makeOf_len (m : Nat) (l : List UInt8) (hl : l.length ≤ 65536) : (makeOf m l).length = 64 * sectorsOf l.length := by
  have hk2 := sectorsOf_at _ hl
  have hbl := bodyOf_len l (sectorsOf (l.length : Int)) (by omega)
  rw [makeOf, secs_len _ _ _ (by omega)]
theorem make_sect (m : Nat) (l more : List UInt8) (hl : l.length ≤ 65536) (i : Nat) (hi : i < sectorsOf l.length) : sect (makeOf m l ++ more) i = sec m (((bodyOf l (sectorsOf l.length)).drop (48 * i)).take 48) := by
  have hk2 := sectorsOf_at _ hl
  have hbl := bodyOf_len l (sectorsOf (l.length : Int)) (by omega)
  exact secs_sect m _ _ (by omega) i more hi
theorem torn_is (N O : Nat) (text was : List UInt8) (ns : Nat → Nat) (M : Nat) (ht : text.length ≤ 65536) (hw : was.length ≤ 65536) (hn : ∀ i, ns i ≤ 64)
    (hM : M = max (if O = 0 then [] else makeOf O was).length (makeOf N text).length) : Torn (tornL (wasL O was M) (makeOf N text) ns (sectorsOf text.length)) N O text was := by
  have hb := makeOf_len N text ht
  obtain ⟨kb, hkb⟩ : ∃ k, k = sectorsOf (text.length : Int) := ⟨_, rfl⟩
  obtain ⟨a, ha⟩ : ∃ a, a = (if O = 0 then [] else makeOf O was) := ⟨_, rfl⟩
  have hwl : (wasL O was M).length = M := by
    rw [wasL, ← ha, List.length_append, List.length_replicate]
    rw [← ha] at hM
    omega
  rw [← hkb] at hb ⊢
  have hMb : 64 * kb ≤ M := by omega
  have hlen := tornL_len (wasL O was M) (makeOf N text) ns hn kb (by omega) (by omega)
  have hs := tornL_sect (wasL O was M) (makeOf N text) ns hn kb (by omega) (by omega)
  have hal : O ≠ 0 → a.length = 64 * sectorsOf was.length := fun h => by rw [ha, if_neg h, makeOf_len O was hw]
  have hold : ∀ i, O ≠ 0 → i < sectorsOf was.length → sect (wasL O was M) i = sec O (((bodyOf was (sectorsOf was.length)).drop (48 * i)).take 48) := fun i h hi => by
    rw [wasL, if_neg h]
    exact make_sect O was _ hw i hi
  have hzero : ∀ i, (O = 0 ∨ sectorsOf was.length ≤ i) → i < kb → sect (wasL O was M) i = List.replicate 64 0 := fun i h hi => by
    have h64 : a.length ≤ 64 * i := by
      rcases Decidable.em (O = 0) with h0 | h0
      · rw [ha, if_pos h0]; exact Nat.zero_le _
      · have := hal h0
        rcases h with h | h
        · exact absurd h h0
        · omega
    rw [← ha] at hM
    rw [sect, wasL, ← ha, List.drop_append, List.drop_of_length_le (by omega), List.nil_append, List.drop_replicate, List.take_replicate]
    congr 1
    omega
  refine ⟨⟨by rw [hlen, hwl, ← hkb]; exact hMb, fun h => ?_⟩, ?_, ?_⟩
  · rw [hlen, hwl, ← hal h]
    rw [← ha] at hM
    omega
  · rw [← hkb]
    intro i hi
    have hsb : sect (makeOf N text) i = sec N (((bodyOf text kb).drop (48 * i)).take 48) := by
      have := make_sect N text [] ht i (by rw [← hkb]; exact hi)
      rw [List.append_nil, ← hkb] at this
      exact this
    refine ⟨ns i, sect (wasL O was M) i, hn i, sect_len _ _ (by omega), by rw [hs i, if_pos hi, hsb], ?_⟩
    by_cases h : O ≠ 0 ∧ i < sectorsOf was.length
    · exact .inl ⟨h.1, h.2, hold i h.1 h.2⟩
    · have h' : O = 0 ∨ sectorsOf was.length ≤ i := by
        rcases Decidable.em (O = 0) with h0 | h0
        · exact .inl h0
        · exact .inr (by omega)
      exact .inr ⟨h', hzero i h' hi⟩
  · rw [← hkb]
    intro i hi h0 hia
    rw [hs i, if_neg (by omega)]
    exact hold i h0 hia

/-- copy into what lies behind the byte number o of a row of bytes of one's own. -/
theorem run_cp_at {P : Program} {w : World} {base M o k : Nat} {t tx ty e : TypeId} {z x : Value} {g bt : Nat} {xs news : List Value} (hT : Elem P t e z 1 bt) (hown : w.ownsRow base e 1 (.slice (some ⟨g, 0, none⟩) M M) M xs) (hs : Src P 1 tx x k news w) (hk : o + k ≤ M) :
    ∃ w', (Builtin.copy_ #[t, tx] ty #[.slice (some ⟨g, o, none⟩) (M - o) (M - o), x]).run P w = .ok (goInt k) w' ∧ w'.ownsRow base e 1 (.slice (some ⟨g, 0, none⟩) M M) M (xs.take o ++ news ++ xs.drop (o + k)) ∧ w.grownBy w' (some g) := by
  obtain ⟨ht, ⟨i, hi, hz, hi1, rfl⟩, hzs, hsz⟩ := hT
  have hl := hs.newsLen
  have hmin : Nat.min k (M - o) = k := Nat.min_eq_left (by omega)
  obtain ⟨hx, h2⟩ := hown
  rcases h2 with ⟨hv, _⟩ | ⟨g', cap, cur, hv, hbg, hg, hnc, hcm, hcs, htake⟩
  · cases hv
  · cases hv
    have hst := run_storeCells_at P g o e news 0 cur w hg (by rw [hl, hcs]; omega) hs.one
    simp only [Nat.add_zero] at hst
    have hct : cur.toList = xs := by rw [← htake, List.take_of_length_le (by rw [Array.length_toList, hcs]; omega)]
    rw [hct] at hst
    have hr : (Builtin.copy_ #[t, tx] ty #[.slice (some ⟨g, o, none⟩) (M - o) (M - o), x]).run P w = .ok (goInt k) (w.setRow g (xs.take o ++ news ++ xs.drop (o + news.length)).toArray) := by
      simp [Builtin.copy_, run_underlying ht, Go.sizeOf, Go.typeInfo, hi, hi1, hs.len, hmin, hs.cells, hst]
    rw [hl, Nat.mul_one] at hr
    have hlen : (xs.take o ++ news ++ xs.drop (o + k)).length = M * 1 := by
      simp only [List.length_append, List.length_take, List.length_drop, hl, hx]
      omega
    refine ⟨_, hr, ⟨hlen, .inr ⟨g, M, _, rfl, hbg, setRow_heap w g cur _ e _ hg, Nat.le_refl _, hcm, by rw [List.size_toArray, hlen], ?_⟩⟩, ⟨rfl, rfl, rfl, by simp, fun k _ hk => setRow_other w g k _ (fun e => hk (by rw [e]))⟩⟩
    rw [← hlen]
    exact List.take_length

end Go.Proofs.YtpalmobmabkadaaGreatDoor

namespace Go.Proofs.YtpalmobmabkadaaGreatDoor
set_option maxRecDepth 20000
open Go.RowKit

theorem le8_small {m : Nat} (h : m < 256) : le 8 m = UInt8.ofNat m :: List.replicate 7 0 := by
  have h0 : m / 256 = 0 := Nat.div_eq_of_lt h
  have hm : m % 256 = m := Nat.mod_eq_of_lt h
  show UInt8.ofNat (m % 256) :: le 7 (m / 256) = _
  rw [hm, h0]
  rfl
theorem head_small {s : List UInt8} (hs : s.length = 64) (h : headsOf s < 256) : s.take 7 = List.replicate 7 0 := by
  have e := head_bytes s (by omega)
  rw [headB, le8_small h] at e
  have e2 : s.take 7 = (s.take 8).take 7 := by rw [List.take_take]; rfl
  rw [e2, e]
  rfl
theorem tail_small {s : List UInt8} (hs : s.length = 64) (h : tailsOf s < 256) : s.drop 57 = List.replicate 7 0 := by
  have e := tail_bytes s hs
  rw [le8_small h] at e
  have e2 : s.drop 57 = (s.drop 56).drop 1 := by rw [List.drop_drop]
  rw [e2, e]
  rfl
/-- A sector of which a beginning came to be is the new one, the old one, or its ends differ. -/
theorem mix_small (n : Nat) (new old : List UInt8) (N : Nat) (hn : n ≤ 64) (h1 : new.length = 64) (h2 : old.length = 64) (hN : headsOf new = N ∧ tailsOf new = N) (hN2 : N < 256) (ho : headsOf old < 256) (ho2 : tailsOf old < 256) :
    mix n new old = new ∨ mix n new old = old ∨ (headsOf (mix n new old) = N ∧ tailsOf (mix n new old) = tailsOf old) := by
  have hl := mix_len n new old hn h1 h2
  rcases Nat.lt_or_ge n 8 with h8 | h8
  · right; left
    have e1 : new.take n = (new.take 7).take n := by rw [List.take_take, Nat.min_eq_left (by omega)]
    have e2 : old.take n = (old.take 7).take n := by rw [List.take_take, Nat.min_eq_left (by omega)]
    rw [mix, e1, head_small h1 (by omega), ← head_small h2 ho, ← e2, List.take_append_drop]
  · rcases Nat.lt_or_ge 56 n with h5 | h5
    · left
      have e1 : new.drop n = (new.drop 57).drop (n - 57) := by rw [List.drop_drop]; congr 1; omega
      have e2 : old.drop n = (old.drop 57).drop (n - 57) := by rw [List.drop_drop]; congr 1; omega
      rw [mix, e2, tail_small h2 ho2, ← tail_small h1 (by omega), ← e1, List.take_append_drop]
    · right; right
      refine ⟨?_, ?_⟩
      · rw [heads_of _ (by omega), mix_lo n 8 new old h8 (by omega), ← heads_of _ (by omega), hN.1]
      · rw [tails_of _ hl, mix_hi n 56 new old h5 (by omega), ← tails_of _ h2]

theorem errAt_same (L L' : List UInt8) (m k : Nat) (h : ∀ i, i < k → sect L' i = sect L i) : errAt L' m k = errAt L m k := by
  induction k with
  | zero => rfl
  | succ k ih => rw [errAt, errAt, ih (fun i hi => h i (by omega)), h k (by omega)]
theorem pieces_same (L L' : List UInt8) (k : Nat) (h : ∀ i, i < k → sect L' i = sect L i) : pieces L' k = pieces L k := by
  induction k with
  | zero => rfl
  | succ k ih => rw [pieces, pieces, ih (fun i hi => h i (by omega)), piece, piece, h k (by omega)]
/-- A frame stands in its sectors alone. -/
theorem read_same (L L' : List UInt8) (h64 : 64 ≤ L.length) (hl : L'.length = L.length) (h0 : sect L' 0 = sect L 0) (h : ∀ i, i < sectorsOf (sizeOf L).1 → sect L' i = sect L i) : readOf L' = readOf L := by
  have e1 := first_ends L h64
  have e2 := first_ends L' (by omega)
  rw [h0, ← e1.1, ← e1.2] at e2
  have hsz : sizeOf L' = sizeOf L := by
    unfold sizeOf wrongOf
    rw [first_size L', first_size L, piece, piece, h0, e2.1, e2.2, hl]
  have hj : joinedOf L' (sectorsOf (sizeOf L).1) (headsOf L) = joinedOf L (sectorsOf (sizeOf L).1) (headsOf L) := by
    unfold joinedOf
    rw [errAt_same L L' _ _ h, pieces_same L L' _ h, hl]
  unfold readOf
  rw [hsz, e2.1, hj]
/-- Nothing is read where one of a frame's sectors is of another number. -/
theorem read_other (L : List UInt8) (i : Nat) (hi : i < sectorsOf (sizeOf L).1) (h : headsOf (sect L i) ≠ headsOf L) : (readOf L).1 = 0 ∧ (readOf L).2.1 = [] := by
  unfold readOf
  split
  · exact ⟨rfl, rfl⟩
  · have hj : (joinedOf L (sectorsOf (sizeOf L).1) (headsOf L)).2 ≠ 0 := by
      unfold joinedOf
      split
      · decide
      · split
        · assumption
        · rename_i h2
          have h3 := errAt_all L (headsOf L) _ (Decidable.not_not.1 h2) i hi
          exact absurd (wrong_zero _ _ h3).1 h
    rw [if_pos hj]
    exact ⟨rfl, rfl⟩
theorem read_ends (L : List UInt8) (h64 : 64 ≤ L.length) (h : headsOf (sect L 0) ≠ tailsOf (sect L 0)) : (readOf L).1 = 0 ∧ (readOf L).2.1 = [] := by
  have e := first_ends L h64
  rw [read_first L h64 13 (by unfold wrongOf; rw [if_pos (.inl (by rw [e.1, e.2]; exact h))]) (by decide)]
  exact ⟨rfl, rfl⟩

/-- The chunk number i of a frame's body. -/
def chunkOf (text : List UInt8) (i : Nat) : List UInt8 := ((bodyOf text (sectorsOf text.length)).drop (48 * i)).take 48
theorem chunkOf_len (text : List UInt8) (ht : text.length ≤ 65536) (i : Nat) (hi : i < sectorsOf text.length) : (chunkOf text i).length = 48 := by
  have hk2 := sectorsOf_at _ ht
  have hbl := bodyOf_len text (sectorsOf (text.length : Int)) (by omega)
  exact chunk_len _ i _ hi (by omega)
/-- Each sector is told by numbers below n, the one at the tail is not above the one at the head. -/
def Ends (n : Nat) (s : List UInt8) : Prop := s.length = 64 ∧ headsOf s ≤ n ∧ tailsOf s ≤ headsOf s
theorem Ends.mono {n m : Nat} {s : List UInt8} (h : Ends n s) (hm : n ≤ m) : Ends m s := ⟨h.1, Nat.le_trans h.2.1 hm, h.2.2⟩
theorem ends_Z : Ends 0 (List.replicate 64 0) := ⟨List.length_replicate, Nat.le_of_eq zeros_ends.1, Nat.le_of_eq (zeros_ends.2.trans zeros_ends.1.symm)⟩
/-- A sector of a frame N of which a beginning came to be over a lesser one. -/
theorem mix_ends (N n : Nat) (text old : List UInt8) (i : Nat) (ht : text.length ≤ 65536) (hi : i < sectorsOf text.length) (hn : n ≤ 64) (hN : N < 256) (hN0 : 0 < N) (ho : Ends (N - 1) old) :
    (mix n (sec N (chunkOf text i)) old = sec N (chunkOf text i) ∨ mix n (sec N (chunkOf text i)) old = old ∨ (headsOf (mix n (sec N (chunkOf text i)) old) = N ∧ tailsOf (mix n (sec N (chunkOf text i)) old) < N)) ∧ Ends N (mix n (sec N (chunkOf text i)) old) := by
  have hpl := chunkOf_len text ht i hi
  have hse := sec_ends (m := N) hpl (by omega)
  have hsl := sec_len (m := N) hpl
  obtain ⟨o1, o2, o3⟩ := ho
  have hl := mix_len n (sec N (chunkOf text i)) old hn hsl o1
  rcases mix_small n _ old N hn hsl o1 hse hN (by omega) (by omega) with e | e | ⟨e1, e2⟩
  · exact ⟨.inl e, by rw [e]; exact ⟨hsl, by omega, by omega⟩⟩
  · exact ⟨.inr (.inl e), by rw [e]; exact ⟨o1, by omega, o3⟩⟩
  · exact ⟨.inr (.inr ⟨e1, by omega⟩), hl, by omega, by omega⟩
theorem place_torn (L L' : List UInt8) (q N : Nat) (text : List UInt8) (ns : Nat → Nat) (hL : L.length = 64 * q) (hL' : L'.length = 64 * q) (hK : sectorsOf text.length ≤ q) (ht : text.length ≤ 65536) (hN0 : 0 < N) (hN : N < 256) (hns : ∀ i, ns i ≤ 64)
    (ho : ∀ i, i < q → Ends (N - 1) (sect L i)) (hnew : ∀ i, i < q → sect L' i = if i < sectorsOf text.length then mix (ns i) (sec N (chunkOf text i)) (sect L i) else sect L i) :
    readOf L' = (N, text, 0) ∨ readOf L' = readOf L ∨ ((readOf L').1 = 0 ∧ (readOf L').2.1 = []) := by
  obtain ⟨K, hKe⟩ : ∃ k, k = sectorsOf (text.length : Int) := ⟨_, rfl⟩
  have hK2 : K = (text.length + 55) / 48 := hKe.trans (sectorsOf_at _ ht)
  rw [← hKe] at hK hnew
  have hL64 : 64 ≤ L.length := by omega
  have key : ∀ i, i < q → (i < K ∧ sect L' i = sec N (chunkOf text i)) ∨ sect L' i = sect L i ∨ (headsOf (sect L' i) = N ∧ tailsOf (sect L' i) < N) := by
    intro i hi
    rw [hnew i hi]
    by_cases hk : i < K
    · rw [if_pos hk]
      rcases (mix_ends N (ns i) text (sect L i) i ht (by omega) (hns i) hN hN0 (ho i hi)).1 with e | e | e
      · exact .inl ⟨hk, e⟩
      · exact .inr (.inl e)
      · exact .inr (.inr e)
    · rw [if_neg hk]
      exact .inr (.inl rfl)
  have hsN : ∀ i, i < K → headsOf (sec N (chunkOf text i)) = N := fun i hi => (sec_ends (chunkOf_len text ht i (by omega)) (by omega)).1
  have e' := first_ends L' (by omega)
  rcases key 0 (by omega) with ⟨hk0, e0⟩ | e0 | ⟨e1, e2⟩
  · -- the new one, or nothing
    by_cases hall : ∀ i, i < K → sect L' i = sec N (chunkOf text i)
    · left
      exact read_secs N text L' ht (by omega) hN0 (by rw [← hKe]; omega) (fun i hi => hall i (by omega))
    · right; right
      obtain ⟨j, hj⟩ := Classical.not_forall.1 hall
      obtain ⟨hjK, hj⟩ := Classical.not_imp.1 hj
      have hh : headsOf L' = N := by rw [e'.1, e0, hsN 0 hk0]
      have hjne : headsOf (sect L' j) ≠ N ∨ tailsOf (sect L' j) ≠ N := by
        rcases key j (by omega) with ⟨_, e⟩ | e | ⟨_, e⟩
        · exact absurd e hj
        · left
          rw [e]
          have := (ho j (by omega)).2.1
          omega
        · exact .inr (by omega)
      -- the size is the text's
      have hpl := chunkOf_len text ht 0 (by omega)
      have hsn : sizeNum L' = text.length := by
        rw [first_size, piece, e0, sec_piece hpl, chunkOf, ← hKe, Nat.mul_zero, List.drop_zero, List.take_take, Nat.min_eq_left (by omega), bodyOf, sealOf, List.append_assoc, List.append_assoc, List.take_append_of_le_length (by rw [le_len]; exact Nat.le_refl _), List.take_of_length_le (by rw [le_len]; exact Nat.le_refl _), unle_le]
        exact Nat.mod_eq_of_lt (by omega)
      have hsz : (sizeOf L').1 = text.length ∨ (sizeOf L').2 ≠ 0 := by
        unfold sizeOf
        split
        · exact .inr (by decide)
        · split
          · right; assumption
          · split
            · exact .inr (by decide)
            · exact .inl hsn
      rcases hsz with hsz | hsz
      · unfold readOf
        split
        · exact ⟨rfl, rfl⟩
        · rw [hsz, ← hKe, hh]
          have hj2 : (joinedOf L' K N).2 ≠ 0 := by
            unfold joinedOf
            split
            · decide
            · split
              · assumption
              · rename_i h2
                have h3 := wrong_zero _ _ (errAt_all L' N K (Decidable.not_not.1 h2) j hjK)
                rcases hjne with h | h
                · exact absurd h3.1 h
                · exact absurd h3.2.1 h
          rw [if_pos hj2]
          exact ⟨rfl, rfl⟩
      · unfold readOf
        rw [if_pos hsz]
        exact ⟨rfl, rfl⟩
  · -- the old one, or nothing
    have e := first_ends L hL64
    have hhe : headsOf L' = headsOf L := by rw [e'.1, e0, ← e.1]
    have hhN : headsOf L < N := by rw [e.1]; have := (ho 0 (by omega)).2.1; omega
    have hs1 : (sizeOf L').1 = (sizeOf L).1 := by
      have e2 := e'.2
      rw [e0, ← e.2] at e2
      unfold sizeOf wrongOf
      rw [first_size L', first_size L, piece, piece, e0, hhe, e2, hL', hL]
    right
    by_cases hall : ∀ i, i < sectorsOf (sizeOf L).1 → sect L' i = sect L i
    · exact .inl (read_same L L' hL64 (by omega) e0 hall)
    · right
      obtain ⟨j, hj⟩ := Classical.not_forall.1 hall
      obtain ⟨hjK, hj⟩ := Classical.not_imp.1 hj
      refine read_other L' j (by rw [hs1]; exact hjK) ?_
      rcases Nat.lt_or_ge j q with hq | hq
      · rcases key j hq with ⟨hk, e⟩ | e | ⟨e, _⟩
        · rw [e, hsN j hk, hhe]; omega
        · exact absurd e hj
        · rw [e, hhe]; omega
      · exact absurd (by rw [sect, sect, List.drop_of_length_le (by omega), List.drop_of_length_le (by omega)]) hj
  · right; right
    exact read_ends L' (by omega) (by omega)
end Go.Proofs.YtpalmobmabkadaaGreatDoor

namespace Go.Proofs.YtpalmobmabkadaaGreatDoor
open Go.RowKit
set_option maxRecDepth 20000

theorem bad_nil (w : World) : Calls Tryz.prog 110 #[.pointer none] w fun e w' => e = .returned (.bool false) ∧ w = w' := by
  go_enter Tryz.func110, Tryz.ntmps110
  go_wp2
  go_ret
  exact ⟨rfl, rfl⟩
theorem bad_any (g : Nat) (s : St) (w : World) (h : Rdr w g s) :
    Calls Tryz.prog 110 #[.pointer (some ⟨g, 0, none⟩)] w fun e w' => e = .returned (.bool s.bad) ∧ w = w' := by
  have hc := h.cell1
  go_enter Tryz.func110, Tryz.ntmps110
  go_wp2
  go_ret
  exact ⟨rfl, rfl⟩

theorem open_seal (l : List UInt8) : openOf (sealOf l) = (l, 0) := by
  have hl : (sealOf l).length = l.length + 4 := by unfold sealOf; rw [List.length_append, le_len]
  have h1 : (sealOf l).take l.length = l := List.take_left' rfl
  have h2 : (sealOf l).drop l.length = le 4 (more 0 l) := List.drop_left' rfl
  unfold openOf
  rw [if_neg (by omega), hl, show l.length + 4 - 4 = l.length from by omega, h1, h2, unle_le, if_pos (Nat.mod_eq_of_lt (sum_lt l))]

end Go.Proofs.YtpalmobmabkadaaGreatDoor

namespace Go.Proofs.YtpalmobmabkadaaGreatDoor
open Go.RowKit
set_option maxRecDepth 20000

section
variable {N : Nat} {W wd : World}
end
/-- The table in its variable. -/
def Tab (w : World) : Prop := 0 < w.heap.size ∧ ∀ j, j < 64 → w.cell? ⟨0, j, none⟩ = some (.int .u8 ((Lib.deBruijn64tab.getD j 0 : Nat) : Int))
theorem Tab.below {w w' : World} (h : Tab w) (hb : Below w.heap.size w w') : Tab w' := ⟨Nat.lt_of_lt_of_le h.1 hb.size, fun j hj => kept hb (h.2 j hj) h.1⟩
theorem Tab.step {w W w' : World} (h : Tab w) (hb : Below W.heap.size W w') (hw : Below w.heap.size w W) : Tab w' := h.below (hw.trans (hb.mono hw.size))

theorem tz_core (x k idx : Nat) (w : World) (hx0 : ((x : Int) == 0) = false)
    (key : IntKind.u64.wrap (bits BinOp.and IntKind.u64 (x : Int) (IntKind.u64.wrap (-(x : Int))) * 285870213051353865) / 288230376151711744 = (idx : Int))
    (hi : idx < 64) (hk : k < 64) (hcell : w.cell? ⟨0, idx, none⟩ = some (.int .u8 (k : Int))) :
    Calls Tryz.prog 119 #[.int .u64 (x : Int)] w fun e w' => e = .returned (.int .i64 (k : Int)) ∧ w = w' := by
  go_enter Tryz.func119, Tryz.ntmps119
  go_wp2_with (simp only [key])
  go_ret
  exact ⟨rfl, rfl⟩
theorem tz_key (x a : Nat) (hx : x < 18446744073709551616) (hlow : x &&& (18446744073709551616 - x) = a) (hx0 : x ≠ 0) :
    IntKind.u64.wrap (bits BinOp.and IntKind.u64 (x : Int) (IntKind.u64.wrap (-(x : Int))) * 285870213051353865) / 288230376151711744 = ((a * 285870213051353865 % 18446744073709551616 / 288230376151711744 : Nat) : Int) := by
  have e1 : IntKind.u64.wrap (-(x : Int)) = ((18446744073709551616 - x : Nat) : Int) := by rw [IntKind.wrap_u64]; omega
  rw [e1, bits_and_u64_nat x _ hx (by omega), hlow, IntKind.wrap_u64]
  omega
theorem tz_any (x : Nat) (w : World) (hx : x < 18446744073709551616) (hT : Tab w) :
    Calls Tryz.prog 119 #[.int .u64 (x : Int)] w fun e w' => e = .returned (.int .i64 ((Lib.ctz 64 x : Nat) : Int)) ∧ w = w' := by
  by_cases hx0 : x = 0
  · subst hx0
    go_enter Tryz.func119, Tryz.ntmps119
    go_wp2
    go_ret
    exact ⟨rfl, rfl⟩
  · obtain ⟨hlow, hk⟩ := Lib.lowest_bit 64 x hx0 hx
    obtain ⟨hi, htab⟩ := Lib.deBruijn64_at _ hk
    have hcell := hT.2 _ hi
    rw [htab] at hcell
    exact tz_core x _ _ w (by simp; omega) (tz_key x _ hx hlow hx0) hi hk hcell

theorem tab_val (i : Int) (h0 : 0 ≤ i) (h1 : i < 256) (h : i.toNat < Lib.len8tab.size) : (((Lib.len8tab[i.toNat]'h).toNat : Nat) : Int) = ((Lib.bitLen i.toNat : Nat) : Int) := by
  rw [← Lib.len8_of i h0 (by omega)]
  unfold Lib.len8
  rw [ByteArray.getElem?_lt' _ _ h]
  rfl
theorem tab_fin (k b : Nat) (x : Int) (h : b ≤ 8) (hk : k ≤ 56) (e : ((k + b : Nat) : Int) = x) : wrap64 ((k : Int) + wrap64 (b : Int)) = x := by
  rw [← e]
  unfold wrap64
  omega

set_option maxHeartbeats 4000000 in
set_option maxRecDepth 100000 in
theorem len_int (x : Int) (w : World) (h0 : 0 ≤ x) (h1 : x ≤ 18446744073709551615) :
    Calls Tryz.prog 135 #[.int .u64 x] w fun e w' => e = .returned (.int .i64 (Lib.bitLen x.toNat : Int)) ∧ w = w' := by
  have t9 := Tryz.underlying9
  go_enter Tryz.func135, Tryz.ntmps135
  go_wp2
  all_goals (first | (exfalso; rw [Lib.len8tab_size] at *; omega) | (go_ret; refine ⟨congrArg Ending.returned (congrArg (Value.int IntKind.i64) ?_), rfl⟩))
  all_goals first
    | (rw [tab_val (x / 4294967296 / 65536 / 256) (by omega) (by omega)]
       have e : (x / 4294967296 / 65536 / 256).toNat = x.toNat / 72057594037927936 := by omega
       have l := Lib.bitLen_le8' (x / 4294967296 / 65536 / 256) (by omega) (by omega)
       have s := Lib.bitLen_shift56 x.toNat (by omega) (by omega)
       rw [e] at l ⊢
       exact tab_fin 56 _ _ l (by omega) (by omega))
    | (rw [tab_val (x / 4294967296 / 65536) (by omega) (by omega)]
       have e : (x / 4294967296 / 65536).toNat = x.toNat / 281474976710656 := by omega
       have l := Lib.bitLen_le8' (x / 4294967296 / 65536) (by omega) (by omega)
       have s := Lib.bitLen_shift48 x.toNat (by omega) (by omega)
       rw [e] at l ⊢
       exact tab_fin 48 _ _ l (by omega) (by omega))
    | (rw [tab_val (x / 4294967296 / 256) (by omega) (by omega)]
       have e : (x / 4294967296 / 256).toNat = x.toNat / 1099511627776 := by omega
       have l := Lib.bitLen_le8' (x / 4294967296 / 256) (by omega) (by omega)
       have s := Lib.bitLen_shift40 x.toNat (by omega) (by omega)
       rw [e] at l ⊢
       exact tab_fin 40 _ _ l (by omega) (by omega))
    | (rw [tab_val (x / 4294967296) (by omega) (by omega)]
       have e : (x / 4294967296).toNat = x.toNat / 4294967296 := by omega
       have l := Lib.bitLen_le8' (x / 4294967296) (by omega) (by omega)
       have s := Lib.bitLen_shift32 x.toNat (by omega) (by omega)
       rw [e] at l ⊢
       exact tab_fin 32 _ _ l (by omega) (by omega))
    | (rw [tab_val (x / 65536 / 256) (by omega) (by omega)]
       have e : (x / 65536 / 256).toNat = x.toNat / 16777216 := by omega
       have l := Lib.bitLen_le8' (x / 65536 / 256) (by omega) (by omega)
       have s := Lib.bitLen_shift24 x.toNat (by omega) (by omega)
       rw [e] at l ⊢
       exact tab_fin 24 _ _ l (by omega) (by omega))
    | (rw [tab_val (x / 65536) (by omega) (by omega)]
       have e : (x / 65536).toNat = x.toNat / 65536 := by omega
       have l := Lib.bitLen_le8' (x / 65536) (by omega) (by omega)
       have s := Lib.bitLen_shift16 x.toNat (by omega) (by omega)
       rw [e] at l ⊢
       exact tab_fin 16 _ _ l (by omega) (by omega))
    | (rw [tab_val (x / 256) (by omega) (by omega)]
       have e : (x / 256).toNat = x.toNat / 256 := by omega
       have l := Lib.bitLen_le8' (x / 256) (by omega) (by omega)
       have s := Lib.bitLen_shift8 x.toNat (by omega) (by omega)
       rw [e] at l ⊢
       exact tab_fin 8 _ _ l (by omega) (by omega))
    | (rw [tab_val x (by omega) (by omega)]
       have l := Lib.bitLen_le8' x (by omega) (by omega)
       have := tab_fin 0 _ _ l (by omega) rfl
       simpa using this)
theorem len_any (x : Nat) (w : World) (hx : x < 18446744073709551616) :
    Calls Tryz.prog 135 #[.int .u64 (x : Int)] w fun e w' => e = .returned (.int .i64 ((Lib.bitLen x : Nat) : Int)) ∧ w = w' :=
  len_int (x : Int) w (by omega) (by omega)

end Go.Proofs.YtpalmobmabkadaaGreatDoor
