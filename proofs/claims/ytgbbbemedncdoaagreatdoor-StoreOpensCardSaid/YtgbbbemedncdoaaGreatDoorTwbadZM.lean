/- What is read of any bytes, framed, is their beginning. A frame that is written over another one, or over noughts, of which a beginning of each sector alone came to be: what is read of it. A twin: what is to be saved is made safe. A twin: what is saved. A twin: what is saved, where there is room. twin.Open, where there is no twin. -/
import Derived.Test.YtgbbbemedncdoaaGreatDoorScopeZM
import Derived.Test.YtgbbbemedncdoaaGreatDoorOwnZM
import Derived.BigRegion
import Derived.Deep.DeepCutAuto
import Derived.Deep.CutBlock
namespace Go.Proofs.YtgbbbemedncdoaaGreatDoor
set_option maxRecDepth 20000
open Go.RowKit

theorem wrong_zero (l : List UInt8) (m : Nat) (h : wrongOf l m = 0) : headsOf l = m ∧ tailsOf l = m ∧ m ≠ 0 := by
  unfold wrongOf at h
  split at h
  · cases h
  · rename_i h1
    split at h
    · cases h
    · rename_i h2
      simp only [not_or, Decidable.not_not] at h1
      exact ⟨h1.2, h1.1.symm.trans h1.2, h2⟩
theorem errAt_all (l : List UInt8) (m k : Nat) (h : errAt l m k = 0) : ∀ i, i < k → wrongOf (sect l i) m = 0 := by
  induction k with
  | zero => intro i hi; omega
  | succ k ih =>
    rw [errAt] at h
    split at h
    · rename_i h1; exact absurd h h1
    · rename_i h1
      intro i hi
      rcases Nat.lt_or_ge i k with h2 | h2
      · exact ih (Decidable.not_not.1 h1) i h2
      · obtain rfl : i = k := by omega
        exact h
theorem pieces_get (l : List UInt8) (k : Nat) (hl : 64 * k ≤ l.length) : ∀ j, j < k → ((pieces l k).drop (48 * j)).take 48 = piece l j := by
  induction k with
  | zero => intro j hj; omega
  | succ k ih =>
    intro j hj
    have hpl := pieces_len l k (by omega)
    have hp := piece_len l k (by omega)
    rw [pieces]
    rcases Nat.lt_or_ge j k with h | h
    · rw [List.drop_append_of_le_length (by omega), List.take_append_of_le_length (by rw [List.length_drop]; omega)]
      exact ih (by omega) j h
    · obtain rfl : j = k := by omega
      rw [List.drop_append_of_le_length (by omega), List.drop_of_length_le (by omega), List.nil_append, List.take_of_length_le (by omega)]
/-- A sector with one number at both ends is that of its piece. -/
theorem sect_sec (s : List UInt8) (m : Nat) (hs : s.length = 64) (h1 : headsOf s = m) (h2 : tailsOf s = m) : s = sec m ((s.drop 8).take 48) := by
  unfold headsOf headOf at h1
  unfold tailsOf tailOf at h2
  rw [if_neg (by omega)] at h1 h2
  have e1 : s.take 8 = headB m := by
    have := le_unle (s.take 8).reverse
    rw [List.length_reverse, List.length_take, Nat.min_eq_left (by omega), h1] at this
    rw [headB, this, List.reverse_reverse]
  have e2 : (s.drop 56).take 8 = le 8 m := by
    have := le_unle ((s.drop 56).take 8)
    rw [List.length_take, List.length_drop, hs, h2] at this
    exact this.symm
  have e3 : (s.drop 56).take 8 = s.drop 56 := List.take_of_length_le (by rw [List.length_drop]; omega)
  rw [sec, ← e1, ← e2, e3, List.append_assoc]
  have e4 : (s.drop 8).take 48 ++ s.drop 56 = s.drop 8 := by
    rw [show s.drop 56 = (s.drop 8).drop 48 from by rw [List.drop_drop]]
    exact List.take_append_drop _ _
  rw [e4]
  exact (List.take_append_drop 8 s).symm
theorem secs_take (m : Nat) (L : List UInt8) (k : Nat) (hL : 64 * k ≤ L.length) (h : ∀ i, i < k → wrongOf (sect L i) m = 0) : ∀ j, j ≤ k → secs m (pieces L k) j = L.take (64 * j) := by
  intro j
  induction j with
  | zero => intro _; rfl
  | succ j ih =>
    intro hj
    obtain ⟨h1, h2, _⟩ := wrong_zero _ _ (h j (by omega))
    rw [secs, ih (by omega), pieces_get L k hL j (by omega), piece, ← sect_sec (sect L j) m (sect_len L j (by omega)) h1 h2, sect, show 64 * (j + 1) = 64 * j + 64 from by omega, List.take_add]
theorem zeros_of (l : List UInt8) (h : hasNZ l = false) : l = List.replicate l.length 0 := by
  rw [List.eq_replicate_iff]
  refine ⟨rfl, fun x hx => ?_⟩
  unfold hasNZ at h
  rw [List.any_eq_false] at h
  have := h x hx
  simpa using this

/-- What comes back of bytes that are read well. -/
theorem read_back (L u : List UInt8) (m : Nat) (h : readOf L = (m, u, 0)) : 0 < m ∧ m < 18446744073709551616 ∧ u.length ≤ 65536 ∧ 64 * sectorsOf u.length ≤ L.length ∧ makeOf m u = L.take (64 * sectorsOf u.length) := by
  have hS0 : (sizeOf L).2 = 0 := by
    refine Decidable.byContradiction fun hh => ?_
    unfold readOf at h
    rw [if_pos hh] at h
    exact hh (by simpa using (congrArg (fun r => r.2.2) h))
  unfold readOf at h
  rw [if_neg (by rw [hS0]; decide)] at h
  obtain ⟨sz, hsz⟩ : ∃ sz, sz = (sizeOf L).1 := ⟨_, rfl⟩
  have hle := sizeOf_le L
  rw [← hsz] at h hle
  unfold sizeOf at hS0 hsz
  split at hS0
  · cases hS0
  · rename_i h64
    split at hS0
    · rename_i hw; exact absurd hS0 hw
    · rename_i hw
      split at hS0
      · cases hS0
      · rename_i hbig
        rw [if_neg h64, if_neg hw, if_neg hbig] at hsz
        simp only at hsz
        have hw0 : wrongOf L (headsOf L) = 0 := Decidable.not_not.1 hw
        obtain ⟨_, _, hm0⟩ := wrong_zero _ _ hw0
        have hmlt := headsOf_lt L
        obtain ⟨M, hM⟩ : ∃ M, M = headsOf L := ⟨_, rfl⟩
        rw [← hM] at h hw0 hm0 hmlt
        obtain ⟨k, hk⟩ : ∃ k, k = sectorsOf (sz : Int) := ⟨_, rfl⟩
        have hk2 : k = (sz + 55) / 48 := hk.trans (sectorsOf_at _ hle)
        rw [← hk] at h
        have hJ0 : (joinedOf L k M).2 = 0 := by
          refine Decidable.byContradiction fun hh => ?_
          rw [if_pos hh] at h
          exact hh (by simpa using (congrArg (fun r => r.2.2) h))
        rw [if_neg (by rw [hJ0]; decide)] at h
        have hjj : joinedOf L k M = (pieces L k, 0) ∧ 64 * k ≤ L.length ∧ errAt L M k = 0 := by
          unfold joinedOf at hJ0 ⊢
          split at hJ0
          · cases hJ0
          · rename_i hl
            split at hJ0
            · rename_i he; exact absurd hJ0 he
            · rename_i he
              exact ⟨by rw [if_neg hl, if_neg he], by omega, Decidable.not_not.1 he⟩
        obtain ⟨hj, hLk, herr⟩ := hjj
        rw [hj] at h
        simp only at h
        have hall := errAt_all L M k herr
        have hpl := pieces_len L k hLk
        have hO0 : (openedOf (pieces L k) sz).2 = 0 := by
          refine Decidable.byContradiction fun hh => ?_
          rw [if_pos hh] at h
          exact hh (by simpa using (congrArg (fun r => r.2.2) h))
        rw [if_neg (by rw [hO0]; decide)] at h
        have hm : M = m := congrArg (fun r => r.1) h
        have hu : (openedOf (pieces L k) sz).1 = u := congrArg (fun r => r.2.1) h
        subst hm
        obtain ⟨t, ht⟩ : ∃ t, t = (openOf ((pieces L k).take (sz + 8))).1 := ⟨_, rfl⟩
        have hb8 : ((pieces L k).take (sz + 8)).length = sz + 8 := by rw [List.length_take]; omega
        have hop : (openOf ((pieces L k).take (sz + 8))).2 = 0 ∧ hasNZ ((pieces L k).drop (sz + 8)) = false ∧ u = t.drop 4 := by
          unfold openedOf at hO0 hu
          split at hO0
          · rename_i he; exact absurd hO0 he
          · rename_i he
            rw [if_neg he] at hu
            split at hO0
            · cases hO0
            · rename_i hz
              rw [if_neg hz] at hu
              exact ⟨Decidable.not_not.1 he, by simpa using hz, by rw [← hu, ht]⟩
        obtain ⟨ho, hz, hut⟩ := hop
        obtain ⟨htl, _⟩ := openOf_len _ ho
        rw [← ht, hb8] at htl
        have htl : t.length = sz + 4 := by omega
        have hseal : sealOf t = (pieces L k).take (sz + 8) := by
          unfold openOf at ho ht
          rw [if_neg (by omega)] at ho ht
          split at ho
          · rename_i hs
            rw [if_pos hs] at ht
            simp only at ht
            rw [ht]
            exact (sealed_iff _ (by omega)).2 hs
          · cases ho
        have hul : u.length = sz := by rw [hut, List.length_drop]; omega
        have ht4 : t.take 4 = le 4 sz := by
          have e1 : (piece L 0).take 4 = t.take 4 := by
            have e2 : t.take 4 = (sealOf t).take 4 := by rw [sealOf, List.take_append_of_le_length (by omega)]
            have e3 := pieces_get L k hLk 0 (by omega)
            rw [Nat.mul_zero, List.drop_zero] at e3
            rw [e2, hseal, List.take_take, Nat.min_eq_left (by omega), ← e3, List.take_take, Nat.min_eq_left (by omega)]
          have e4 := le_unle (t.take 4)
          rw [List.length_take, Nat.min_eq_left (by omega), ← e1, ← first_size, ← hsz] at e4
          rw [← e1]
          exact e4.symm
        have hbody : bodyOf u k = pieces L k := by
          have e1 : le 4 u.length ++ u = t := by rw [hul, ← ht4, hut, List.take_append_drop]
          have e2 := zeros_of _ hz
          rw [List.length_drop, hpl] at e2
          rw [bodyOf, e1, hseal, hul, show k * 48 - (sz + 8) = 48 * k - (sz + 8) from by omega, ← e2, List.take_append_drop]
        refine ⟨by omega, hmlt, by omega, by rw [hul, ← hk]; exact hLk, ?_⟩
        rw [makeOf, hul, ← hk, hbody]
        exact secs_take M L k hLk hall k (Nat.le_refl _)
theorem read_bad (L : List UInt8) (h : (readOf L).2.2 ≠ 0) : (readOf L).1 = 0 ∧ (readOf L).2.1 = [] := by
  unfold readOf at h ⊢
  split
  · exact ⟨rfl, rfl⟩
  · rename_i h1
    rw [if_neg h1] at h
    split
    · exact ⟨rfl, rfl⟩
    · rename_i h2
      rw [if_neg h2] at h
      split
      · exact ⟨rfl, rfl⟩
      · rename_i h3
        rw [if_neg h3] at h
        exact absurd rfl h

end Go.Proofs.YtgbbbemedncdoaaGreatDoor

namespace Go.Proofs.YtgbbbemedncdoaaGreatDoor
set_option maxRecDepth 20000
open Go.RowKit

/-- A sector of which the first n bytes came to be. -/
def mix (n : Nat) (new old : List UInt8) : List UInt8 := new.take n ++ old.drop n
theorem mix_len (n : Nat) (new old : List UInt8) (hn : n ≤ 64) (h1 : new.length = 64) (h2 : old.length = 64) : (mix n new old).length = 64 := by
  rw [mix, List.length_append, List.length_take, List.length_drop]
  omega
theorem mix_lo (n a : Nat) (new old : List UInt8) (h : a ≤ n) (h1 : n ≤ new.length) : (mix n new old).take a = new.take a := by
  rw [mix, List.take_append_of_le_length (by rw [List.length_take]; omega), List.take_take, Nat.min_eq_left h]
theorem mix_hi (n a : Nat) (new old : List UInt8) (h : n ≤ a) (h1 : n ≤ new.length) : (mix n new old).drop a = old.drop a := by
  rw [mix, List.drop_append, List.drop_of_length_le (by rw [List.length_take]; omega), List.nil_append, List.length_take, Nat.min_eq_left h1, List.drop_drop]
  congr 1
  omega
theorem head_bytes (s : List UInt8) (hs : 64 ≤ s.length) : s.take 8 = headB (headsOf s) := by
  unfold headsOf headOf
  rw [if_neg (by omega)]
  have := le_unle (s.take 8).reverse
  rw [List.length_reverse, List.length_take, Nat.min_eq_left (by omega)] at this
  rw [headB, this, List.reverse_reverse]
theorem tail_bytes (s : List UInt8) (hs : s.length = 64) : s.drop 56 = le 8 (tailsOf s) := by
  unfold tailsOf tailOf
  rw [if_neg (by omega)]
  have h8 : (s.drop 56).take 8 = s.drop 56 := List.take_of_length_le (by rw [List.length_drop]; omega)
  have := le_unle (s.drop 56)
  rw [List.length_drop, hs] at this
  rw [h8]
  exact this.symm
theorem heads_of (s : List UInt8) (hs : 64 ≤ s.length) : headsOf s = unle (s.take 8).reverse := by
  unfold headsOf headOf
  rw [if_neg (by omega)]
theorem tails_of (s : List UInt8) (hs : s.length = 64) : tailsOf s = unle (s.drop 56) := by
  unfold tailsOf tailOf
  rw [if_neg (by omega), List.take_of_length_le (by rw [List.length_drop]; omega)]
/-- Whole it is only if it is the one, or the other one. -/
theorem mix_whole (n : Nat) (new old : List UInt8) (N O : Nat) (hn : n ≤ 64) (h1 : new.length = 64) (h2 : old.length = 64) (hN : headsOf new = N ∧ tailsOf new = N) (hO : headsOf old = O ∧ tailsOf old = O) (hne : N ≠ O)
    (hw : headsOf (mix n new old) = tailsOf (mix n new old)) : mix n new old = new ∨ mix n new old = old := by
  have hl := mix_len n new old hn h1 h2
  rcases Nat.lt_or_ge n 8 with h8 | h8
  · right
    have ht : tailsOf (mix n new old) = O := by rw [tails_of _ hl, mix_hi n 56 new old (by omega) (by omega), ← tails_of _ h2, hO.2]
    have hh := head_bytes (mix n new old) (by omega)
    rw [hw, ht, ← hO.1, ← head_bytes old (by omega)] at hh
    have hd := mix_hi n 8 new old (by omega) (by omega)
    rw [← List.take_append_drop 8 (mix n new old), hh, hd, List.take_append_drop]
  · rcases Nat.lt_or_ge 56 n with h56 | h56
    · left
      have hh : headsOf (mix n new old) = N := by rw [heads_of _ (by omega), mix_lo n 8 new old h8 (by omega), ← heads_of _ (by omega), hN.1]
      have ht := tail_bytes (mix n new old) hl
      rw [← hw, hh, ← hN.2, ← tail_bytes new h1] at ht
      have hd := mix_lo n 56 new old (by omega) (by omega)
      rw [← List.take_append_drop 56 (mix n new old), ht, hd, List.take_append_drop]
    · exfalso
      have hh : headsOf (mix n new old) = N := by rw [heads_of _ (by omega), mix_lo n 8 new old h8 (by omega), ← heads_of _ (by omega), hN.1]
      have ht : tailsOf (mix n new old) = O := by rw [tails_of _ hl, mix_hi n 56 new old h56 (by omega), ← tails_of _ h2, hO.2]
      exact hne (by rw [← hh, hw, ht])

theorem wrong_cases (l : List UInt8) (m : Nat) (hm : m ≠ 0) : wrongOf l m = 0 ∨ wrongOf l m = 13 := by
  unfold wrongOf
  split
  · exact .inr rfl
  · first
      | exact .inl rfl
      | (rw [if_neg hm]; exact .inl rfl)
theorem errAt_cases (l : List UInt8) (m : Nat) (hm : m ≠ 0) (k : Nat) : errAt l m k = 0 ∨ errAt l m k = 13 := by
  induction k with
  | zero => exact .inl rfl
  | succ k ih =>
    rw [errAt]
    split
    · exact ih
    · exact wrong_cases _ _ hm
/-- Told at the first sector. -/
theorem read_first (L : List UInt8) (h : 64 ≤ L.length) (e : Int) (he : wrongOf L (headsOf L) = e) (h0 : e ≠ 0) : readOf L = (0, [], e) := by
  have hS : sizeOf L = (0, e) := by
    unfold sizeOf
    rw [if_neg (by omega), he, if_pos h0]
  unfold readOf
  rw [hS, if_pos h0]
/-- Told at a later one. -/
theorem read_later (L : List UInt8) (m sz k : Nat) (h : 64 ≤ L.length) (hh : headsOf L = m) (hw : wrongOf L m = 0) (hs : sizeNum L = sz) (hle : sz ≤ 65536) (hk : k = sectorsOf (sz : Int)) (hL : 64 * k ≤ L.length) (he : errAt L m k = 13) : readOf L = (0, [], 13) := by
  have hS : sizeOf L = (sz, 0) := by
    unfold sizeOf
    rw [if_neg (by omega), hh, hw, if_neg (by decide), hs, if_neg (by omega)]
  have hJ : joinedOf L k m = ([], 13) := by
    unfold joinedOf
    rw [if_neg (by omega), he, if_pos (by decide)]
  unfold readOf
  rw [hS]
  simp only
  rw [← hk, hh, hJ]
  simp

/-- All that is known of what came to be: each sector is the new one, of which a beginning came to be over what was there, or what was there. -/
structure Torn (L : List UInt8) (N O : Nat) (text was : List UInt8) : Prop where
  len : 64 * sectorsOf text.length ≤ L.length ∧ (O ≠ 0 → 64 * sectorsOf was.length ≤ L.length)
  new : ∀ i, i < sectorsOf text.length → ∃ n old, n ≤ 64 ∧ old.length = 64 ∧ sect L i = mix n (sec N (((bodyOf text (sectorsOf text.length)).drop (48 * i)).take 48)) old ∧
    ((O ≠ 0 ∧ i < sectorsOf was.length ∧ old = sec O (((bodyOf was (sectorsOf was.length)).drop (48 * i)).take 48)) ∨ ((O = 0 ∨ sectorsOf was.length ≤ i) ∧ old = List.replicate 64 0))
  old : ∀ i, sectorsOf text.length ≤ i → O ≠ 0 → i < sectorsOf was.length → sect L i = sec O (((bodyOf was (sectorsOf was.length)).drop (48 * i)).take 48)

theorem zeros_ends : headsOf (List.replicate 64 0) = 0 ∧ tailsOf (List.replicate 64 0) = 0 := by decide
theorem torn_read (L : List UInt8) (N O : Nat) (text was : List UInt8) (ht : text.length ≤ 65536) (hw : was.length ≤ 65536) (hN : N < 18446744073709551616) (hO : O < N) (h : Torn L N O text was) :
    readOf L = (N, text, 0) ∨ (O ≠ 0 ∧ readOf L = (O, was, 0)) ∨ readOf L = (0, [], 13) ∨ (O = 0 ∧ readOf L = (0, [], 40)) := by
  obtain ⟨kb, hkb⟩ : ∃ k, k = sectorsOf (text.length : Int) := ⟨_, rfl⟩
  obtain ⟨ka, hka⟩ : ∃ k, k = sectorsOf (was.length : Int) := ⟨_, rfl⟩
  have hkb2 : kb = (text.length + 55) / 48 := hkb.trans (sectorsOf_at _ ht)
  have hka2 : ka = (was.length + 55) / 48 := hka.trans (sectorsOf_at _ hw)
  obtain ⟨⟨len1, len2⟩, hnew, hold⟩ := h
  rw [← hkb] at len1 hnew hold
  rw [← hka] at len2 hnew hold
  have hbb := bodyOf_len text kb (by omega)
  have hba := bodyOf_len was ka (by omega)
  have hLl : 64 ≤ L.length := by omega
  -- what a whole sector is
  have key : ∀ i, (i < kb ∨ (O ≠ 0 ∧ i < ka)) → headsOf (sect L i) = tailsOf (sect L i) →
      (i < kb ∧ headsOf (sect L i) = N ∧ sect L i = sec N (((bodyOf text kb).drop (48 * i)).take 48)) ∨
      (O ≠ 0 ∧ i < ka ∧ headsOf (sect L i) = O ∧ sect L i = sec O (((bodyOf was ka).drop (48 * i)).take 48)) ∨
      ((O = 0 ∨ ka ≤ i) ∧ headsOf (sect L i) = 0) := by
    intro i hi hwh
    rcases Nat.lt_or_ge i kb with hik | hik
    · obtain ⟨n, old, hn, hol, hs, hcase⟩ := hnew i hik
      have hpl := chunk_len (bodyOf text kb) i kb hik (by omega)
      have hse := sec_ends (m := N) hpl hN
      have hsl := sec_len (m := N) hpl
      rcases hcase with ⟨h0, hia, he⟩ | ⟨h0, he⟩
      · have hpa := chunk_len (bodyOf was ka) i ka hia (by omega)
        have hsa := sec_ends (m := O) hpa (by omega)
        subst he
        rw [hs] at hwh
        rcases mix_whole n _ _ N O hn hsl hol hse hsa (by omega) hwh with e | e
        · left; rw [hs, e]; exact ⟨hik, hse.1, rfl⟩
        · right; left; rw [hs, e]; exact ⟨h0, hia, hsa.1, rfl⟩
      · subst he
        rw [hs] at hwh
        rcases mix_whole n _ _ N 0 hn hsl hol hse zeros_ends (by omega) hwh with e | e
        · left; rw [hs, e]; exact ⟨hik, hse.1, rfl⟩
        · right; right; rw [hs, e]; exact ⟨h0, zeros_ends.1⟩
    · have h0 : O ≠ 0 ∧ i < ka := by rcases hi with h | h; exact absurd h (by omega); exact h
      have hpa := chunk_len (bodyOf was ka) i ka h0.2 (by omega)
      have hsa := sec_ends (m := O) hpa (by omega)
      have hs := hold i hik h0.1 h0.2
      right; left
      rw [hs]
      exact ⟨h0.1, h0.2, hsa.1, rfl⟩
  obtain ⟨e1, e2⟩ := first_ends L hLl
  have hsize : ∀ (M : Nat) (b : List UInt8) (t : List UInt8) (k : Nat), b = bodyOf t k → k = sectorsOf (t.length : Int) → t.length ≤ 65536 → sect L 0 = sec M ((b.drop (48 * 0)).take 48) → sizeNum L = t.length := by
    intro M b t k hb hk htl hs
    have hk2 : k = (t.length + 55) / 48 := hk.trans (sectorsOf_at _ htl)
    have hbl := bodyOf_len t k (by omega)
    rw [hb] at hs
    have hpc : piece L 0 = (bodyOf t k).take 48 := by rw [piece, hs, sec_piece (chunk_len _ 0 k (by omega) (by omega))]; rfl
    rw [first_size, hpc, List.take_take, Nat.min_eq_left (by omega), bodyOf, sealOf, List.append_assoc, List.append_assoc, List.take_append_of_le_length (by rw [le_len]; exact Nat.le_refl _), List.take_of_length_le (by rw [le_len]; exact Nat.le_refl _), unle_le]
    exact Nat.mod_eq_of_lt (by omega)
  by_cases hwh : headsOf (sect L 0) = tailsOf (sect L 0)
  · rcases key 0 (.inl (by omega)) hwh with ⟨_, hh, hs⟩ | ⟨h0, hia, hh, hs⟩ | ⟨h0, hh⟩
    · -- the new one, or it is told
      have hhL : headsOf L = N := e1.trans hh
      have hwL : wrongOf L N = 0 := by
        unfold wrongOf
        rw [hhL, e2, ← hwh, hh, if_neg (by simp), if_neg (by omega)]
      rcases errAt_cases L N (by omega) kb with he | he
      · left
        refine read_secs N text L ht hN (by omega) (by rw [← hkb]; exact len1) ?_
        rw [← hkb]
        intro i hi
        obtain ⟨w1, w2, _⟩ := wrong_zero _ _ (errAt_all L N kb he i hi)
        rcases key i (.inl hi) (w1.trans w2.symm) with ⟨_, _, q⟩ | ⟨_, _, q, _⟩ | ⟨_, q⟩
        · exact q
        · omega
        · omega
      · exact .inr (.inr (.inl (read_later L N text.length kb hLl hhL hwL (hsize N _ text kb rfl hkb ht hs) ht hkb len1 he)))
    · have hhL : headsOf L = O := e1.trans hh
      have hwL : wrongOf L O = 0 := by
        unfold wrongOf
        rw [hhL, e2, ← hwh, hh, if_neg (by simp), if_neg h0]
      rcases errAt_cases L O h0 ka with he | he
      · refine .inr (.inl ⟨h0, read_secs O was L hw (by omega) (by omega) (by rw [← hka]; exact len2 h0) ?_⟩)
        rw [← hka]
        intro i hi
        obtain ⟨w1, w2, _⟩ := wrong_zero _ _ (errAt_all L O ka he i hi)
        rcases key i (.inr ⟨h0, hi⟩) (w1.trans w2.symm) with ⟨_, q, _⟩ | ⟨_, _, _, q⟩ | ⟨_, q⟩
        · omega
        · exact q
        · omega
      · exact .inr (.inr (.inl (read_later L O was.length ka hLl hhL hwL (hsize O _ was ka rfl hka hw hs) hw hka (len2 h0) he)))
    · have hO0 : O = 0 := by
        rcases h0 with h | h
        · exact h
        · omega
      refine .inr (.inr (.inr ⟨hO0, read_first L hLl 40 ?_ (by decide)⟩))
      unfold wrongOf
      rw [e1, e2, ← hwh, hh, if_neg (by simp), if_pos rfl]
  · refine .inr (.inr (.inl (read_first L hLl 13 ?_ (by decide))))
    unfold wrongOf
    rw [e1, e2, if_pos (.inl hwh)]


/-- The bytes b from the sector number i on, n of them, over L. -/
def splice (L b : List UInt8) (i n : Nat) : List UInt8 := L.take (64 * i) ++ (b.drop (64 * i)).take n ++ L.drop (64 * i + n)
def tornL (L b : List UInt8) (ns : Nat → Nat) : Nat → List UInt8
  | 0 => L
  | i + 1 => splice (tornL L b ns i) b i (ns i)
theorem splice_len (L b : List UInt8) (i n : Nat) (hn : n ≤ 64) (hL : 64 * (i + 1) ≤ L.length) (hb : 64 * (i + 1) ≤ b.length) : (splice L b i n).length = L.length := by
  simp only [splice, List.length_append, List.length_take, List.length_drop]
  omega
theorem tornL_len (L b : List UInt8) (ns : Nat → Nat) (hn : ∀ i, ns i ≤ 64) (i : Nat) (hL : 64 * i ≤ L.length) (hb : 64 * i ≤ b.length) : (tornL L b ns i).length = L.length := by
  induction i with
  | zero => rfl
  | succ i ih =>
    have := ih (by omega) (by omega)
    rw [tornL, splice_len _ _ _ _ (hn i) (by omega) (by omega), this]
theorem splice_other (L b : List UInt8) (i n j : Nat) (hn : n ≤ 64) (hL : 64 * (i + 1) ≤ L.length) (hb : 64 * (i + 1) ≤ b.length) (hj : j ≠ i) : sect (splice L b i n) j = sect L j := by
  have l1 : (L.take (64 * i)).length = 64 * i := by rw [List.length_take]; omega
  have l2 : ((b.drop (64 * i)).take n).length = n := by rw [List.length_take, List.length_drop]; omega
  rcases Nat.lt_or_ge j i with h | h
  · rw [sect, splice, List.append_assoc, List.drop_append_of_le_length (by omega), List.take_append_of_le_length (by rw [List.length_drop]; omega), List.drop_take, List.take_take, Nat.min_eq_left (by omega)]
    rfl
  · rw [sect, splice, List.drop_append, List.drop_of_length_le (by rw [List.length_append]; omega), List.nil_append, List.length_append, l1, l2, List.drop_drop, sect]
    congr 2
    omega
theorem splice_same (L b : List UInt8) (i n : Nat) (hn : n ≤ 64) (hL : 64 * (i + 1) ≤ L.length) (hb : 64 * (i + 1) ≤ b.length) : sect (splice L b i n) i = mix n (sect b i) (sect L i) := by
  have l1 : (L.take (64 * i)).length = 64 * i := by rw [List.length_take]; omega
  have l2 : ((b.drop (64 * i)).take n).length = n := by rw [List.length_take, List.length_drop]; omega
  rw [sect, splice, List.append_assoc, List.drop_append_of_le_length (by omega), List.drop_of_length_le (by omega), List.nil_append, List.take_append, l2, List.take_of_length_le (by omega), mix, sect, sect, List.take_take, Nat.min_eq_left hn, List.drop_take, List.drop_drop]
theorem tornL_sect (L b : List UInt8) (ns : Nat → Nat) (hn : ∀ i, ns i ≤ 64) (i : Nat) (hL : 64 * i ≤ L.length) (hb : 64 * i ≤ b.length) (j : Nat) : sect (tornL L b ns i) j = if j < i then mix (ns j) (sect b j) (sect L j) else sect L j := by
  induction i with
  | zero => rfl
  | succ i ih =>
    have hl := tornL_len L b ns hn i (by omega) (by omega)
    have := ih (by omega) (by omega)
    rw [tornL]
    by_cases hj : j = i
    · subst hj
      rw [splice_same _ _ _ _ (hn j) (by omega) (by omega), this, if_neg (by omega), if_pos (by omega)]
    · rw [splice_other _ _ _ _ _ (hn i) (by omega) (by omega) hj, this]
      by_cases h : j < i
      · rw [if_pos h, if_pos (by omega)]
      · rw [if_neg h, if_neg (by omega)]

/-- What was there: the other frame, or none, and noughts. -/
def wasL (O : Nat) (was : List UInt8) (M : Nat) : List UInt8 := (if O = 0 then [] else makeOf O was) ++ List.replicate (M - (if O = 0 then [] else makeOf O was).length) 0
theorem makeOf_len (m : Nat) (l : List UInt8) (hl : l.length ≤ 65536) : (makeOf m l).length = 64 * sectorsOf l.length := by
  have hk2 := sectorsOf_at _ hl
  have hbl := bodyOf_len l (sectorsOf (l.length : Int)) (by omega)
  rw [makeOf, secs_len _ _ _ (by omega)]
theorem make_sect (m : Nat) (l more : List UInt8) (hl : l.length ≤ 65536) (i : Nat) (hi : i < sectorsOf l.length) : sect (makeOf m l ++ more) i = sec m (((bodyOf l (sectorsOf l.length)).drop (48 * i)).take 48) := by
  have hk2 := sectorsOf_at _ hl
  have hbl := bodyOf_len l (sectorsOf (l.length : Int)) (by omega)
  exact secs_sect m _ _ (by omega) i more hi
theorem torn_is (N O : Nat) (text was : List UInt8) (ns : Nat → Nat) (M : Nat) (ht : text.length ≤ 65536) (hw : was.length ≤ 65536) (hn : ∀ i, ns i ≤ 64)
    (hM : M = max (if O = 0 then [] else makeOf O was).length (makeOf N text).length) : Torn (tornL (wasL O was M) (makeOf N text) ns (sectorsOf text.length)) N O text was := by
  have hb := makeOf_len N text ht
  obtain ⟨kb, hkb⟩ : ∃ k, k = sectorsOf (text.length : Int) := ⟨_, rfl⟩
  obtain ⟨a, ha⟩ : ∃ a, a = (if O = 0 then [] else makeOf O was) := ⟨_, rfl⟩
  have hwl : (wasL O was M).length = M := by
    rw [wasL, ← ha, List.length_append, List.length_replicate]
    rw [← ha] at hM
    omega
  rw [← hkb] at hb ⊢
  have hMb : 64 * kb ≤ M := by omega
  have hlen := tornL_len (wasL O was M) (makeOf N text) ns hn kb (by omega) (by omega)
  have hs := tornL_sect (wasL O was M) (makeOf N text) ns hn kb (by omega) (by omega)
  have hal : O ≠ 0 → a.length = 64 * sectorsOf was.length := fun h => by rw [ha, if_neg h, makeOf_len O was hw]
  have hold : ∀ i, O ≠ 0 → i < sectorsOf was.length → sect (wasL O was M) i = sec O (((bodyOf was (sectorsOf was.length)).drop (48 * i)).take 48) := fun i h hi => by
    rw [wasL, if_neg h]
    exact make_sect O was _ hw i hi
  have hzero : ∀ i, (O = 0 ∨ sectorsOf was.length ≤ i) → i < kb → sect (wasL O was M) i = List.replicate 64 0 := fun i h hi => by
    have h64 : a.length ≤ 64 * i := by
      rcases Decidable.em (O = 0) with h0 | h0
      · rw [ha, if_pos h0]; exact Nat.zero_le _
      · have := hal h0
        rcases h with h | h
        · exact absurd h h0
        · omega
    rw [← ha] at hM
    rw [sect, wasL, ← ha, List.drop_append, List.drop_of_length_le (by omega), List.nil_append, List.drop_replicate, List.take_replicate]
    congr 1
    omega
  refine ⟨⟨by rw [hlen, hwl, ← hkb]; exact hMb, fun h => ?_⟩, ?_, ?_⟩
  · rw [hlen, hwl, ← hal h]
    rw [← ha] at hM
    omega
  · rw [← hkb]
    intro i hi
    have hsb : sect (makeOf N text) i = sec N (((bodyOf text kb).drop (48 * i)).take 48) := by
      have := make_sect N text [] ht i (by rw [← hkb]; exact hi)
      rw [List.append_nil, ← hkb] at this
      exact this
    refine ⟨ns i, sect (wasL O was M) i, hn i, sect_len _ _ (by omega), by rw [hs i, if_pos hi, hsb], ?_⟩
    by_cases h : O ≠ 0 ∧ i < sectorsOf was.length
    · exact .inl ⟨h.1, h.2, hold i h.1 h.2⟩
    · have h' : O = 0 ∨ sectorsOf was.length ≤ i := by
        rcases Decidable.em (O = 0) with h0 | h0
        · exact .inl h0
        · exact .inr (by omega)
      exact .inr ⟨h', hzero i h' hi⟩
  · rw [← hkb]
    intro i hi h0 hia
    rw [hs i, if_neg (by omega)]
    exact hold i h0 hia

/-- copy into what lies behind the byte number o of a row of bytes of one's own. -/
theorem run_cp_at {P : Program} {w : World} {base M o k : Nat} {t tx ty e : TypeId} {z x : Value} {g bt : Nat} {xs news : List Value} (hT : Elem P t e z 1 bt) (hown : w.ownsRow base e 1 (.slice (some ⟨g, 0, none⟩) M M) M xs) (hs : Src P 1 tx x k news w) (hk : o + k ≤ M) :
    ∃ w', (Builtin.copy_ #[t, tx] ty #[.slice (some ⟨g, o, none⟩) (M - o) (M - o), x]).run P w = .ok (goInt k) w' ∧ w'.ownsRow base e 1 (.slice (some ⟨g, 0, none⟩) M M) M (xs.take o ++ news ++ xs.drop (o + k)) ∧ w.grownBy w' (some g) := by
  obtain ⟨ht, ⟨i, hi, hz, hi1, rfl⟩, hzs, hsz⟩ := hT
  have hl := hs.newsLen
  have hmin : Nat.min k (M - o) = k := Nat.min_eq_left (by omega)
  obtain ⟨hx, h2⟩ := hown
  rcases h2 with ⟨hv, _⟩ | ⟨g', cap, cur, hv, hbg, hg, hnc, hcm, hcs, htake⟩
  · cases hv
  · cases hv
    have hst := run_storeCells_at P g o e news 0 cur w hg (by rw [hl, hcs]; omega) hs.one
    simp only [Nat.add_zero] at hst
    have hct : cur.toList = xs := by rw [← htake, List.take_of_length_le (by rw [Array.length_toList, hcs]; omega)]
    rw [hct] at hst
    have hr : (Builtin.copy_ #[t, tx] ty #[.slice (some ⟨g, o, none⟩) (M - o) (M - o), x]).run P w = .ok (goInt k) (w.setRow g (xs.take o ++ news ++ xs.drop (o + news.length)).toArray) := by
      simp [Builtin.copy_, run_underlying ht, Go.sizeOf, Go.typeInfo, hi, hi1, hs.len, hmin, hs.cells, hst]
    rw [hl, Nat.mul_one] at hr
    have hlen : (xs.take o ++ news ++ xs.drop (o + k)).length = M * 1 := by
      simp only [List.length_append, List.length_take, List.length_drop, hl, hx]
      omega
    refine ⟨_, hr, ⟨hlen, .inr ⟨g, M, _, rfl, hbg, setRow_heap w g cur _ e _ hg, Nat.le_refl _, hcm, by rw [List.size_toArray, hlen], ?_⟩⟩, ⟨rfl, rfl, rfl, by simp, fun k _ hk => setRow_other w g k _ (fun e => hk (by rw [e]))⟩⟩
    rw [← hlen]
    exact List.take_length

end Go.Proofs.YtgbbbemedncdoaaGreatDoor

namespace Go.Proofs.YtgbbbemedncdoaaGreatDoor
set_option maxRecDepth 20000
open Go.RowKit

/-- What becomes of a device at which a frame is written and made safe, and what is told. -/
def Dv.save (d : Dv) (x : Int) (m : Nat) (l : List UInt8) : Dv × Int :=
  if d.down = true then (d, 50) else
  if (d.write x (makeOf m l) (sectorsOf l.length)).2 ≠ 0 then d.write x (makeOf m l) (sectorsOf l.length) else
  (d.write x (makeOf m l) (sectorsOf l.length)).1.flush

set_option maxHeartbeats 4000000 in
theorem twwrite_any {w : World} {B g M T : Nat} {N : Nat → Prop} {d : Dv} {t : Tv} (h : Own w B g N M d) (hM : M ≤ 90000) (hT : Tw w T (some ⟨g, 0, none⟩) t) (hTN : ¬ N T)
    (p : Int) (m : Nat) (l : List UInt8) (x : Int) (hx : x = t.base + p * t.size) (hp0 : 0 ≤ p) (hp1 : p ≤ 1) (hb0 : 0 ≤ t.base) (hb1 : t.base ≤ 1000000) (hs0 : 0 ≤ t.size) (hs1 : t.size ≤ 1000) (hl : l.length ≤ 3000) (hm0 : 0 < m) (hm : m < 18446744073709551616) (hxn : x + sectorsOf l.length ≤ d.n) :
    Calls Tryz.prog 100 #[.pointer (some ⟨T, 0, none⟩), .agg #[.int .i64 p, .int .u64 (m : Int), .string (str l)]] w fun e w' => e = .returned (.int .i64 (d.save x m l).2) ∧ Left w B g N (M + 80) (d.save x m l).1 w' := by
  obtain ⟨W, hW⟩ : ∃ W, W = w.alloc (.cells #[.int .i64 p, .int .u64 (m : Int), .string (str l)] 126) := ⟨_, rfl⟩
  have hbW : Below w.heap.size w W := by rw [hW]; exact (Below.refl _ _).alloc (Nat.le_refl _) _
  have hzW : W.heap.size = w.heap.size + 1 := by rw [hW]; simp
  have rW : W.heap[w.heap.size]? = some (.cells #[.int .i64 p, .int .u64 (m : Int), .string (str l)] 126 (0, 0)) := by rw [hW]; exact row_here _ _ rfl
  have hk2 := sectorsOf_at _ (show l.length ≤ 65536 by omega)
  obtain ⟨K, hK0⟩ : ∃ k, k = sectorsOf (l.length : Int) := ⟨_, rfl⟩
  obtain ⟨n3, hn3⟩ : ∃ n, n = 64 * K := ⟨_, rfl⟩
  obtain ⟨y, hy⟩ : ∃ y, y = p * t.size := ⟨_, rfl⟩
  have hy0 : 0 ≤ y ∧ y ≤ 1000 := by
    rcases (show p = 0 ∨ p = 1 by omega) with h | h
    · rw [hy, h]; omega
    · rw [hy, h]; omega
  have hmk := makeOf_len m l (by omega)
  rw [← hK0] at hk2 hxn hmk
  rw [← hn3] at hmk
  have hsv : d.save x m l = if d.down = true then (d, 50) else if (d.write x (makeOf m l) K).2 ≠ 0 then d.write x (makeOf m l) K else (d.write x (makeOf m l) K).1.flush := by rw [hK0]; rfl
  have hMk := fun (W1 : World) (A : Option Addr) (c : Nat) (h : Rd W1 W1.heap.size 1 A l.length c (u8s l)) => make_good m A l.length c l W1 h (by omega) hm0 hm
  rw [← hK0, ← hn3] at hMk
  generalize makeOf m l = L at *
  have k0 := cell_of_row W _ 0 _ _ _ rW
  have k1 := cell_of_row W _ 1 _ _ _ rW
  have k2 := cell_of_row W _ 2 _ _ _ rW
  simp at k0 k1 k2
  have HMK := Lib.hid hMk
  have HL := Lib.hid hl
  have HB := Lib.hid hbW
  have HZ := Lib.hid hzW
  have HR := Lib.hid rW
  have HW := Lib.hid hW
  have HO := Lib.hid h
  have HT := Lib.hid hT
  have HX := Lib.hid hx
  have HS := Lib.hid (And.intro hs0 hs1)
  have HBB := Lib.hid (And.intro hb0 hb1)
  have HP := Lib.hid (And.intro hp0 hp1)
  have HM := Lib.hid (And.intro hm0 hm)
  have HXN := Lib.hid hxn
  have HK := Lib.hid (And.intro hk2 hn3)
  have HY := Lib.hid hy0
  have HSV := Lib.hid hsv
  have HLL := Lib.hid hmk
  have e1 : p * t.size = y := hy.symm
  have e2 : t.base + y = x := by rw [hx, hy]
  have c0 := hT.c0
  have c1 := hT.c1
  have c2 := hT.c2
  have hTlt := hT.lt
  clear hk2 hn3 hy0 hy hK0 hsv hmk hMk hbW hzW rW hW h hT hl hx hs0 hs1 hb0 hb1 hp0 hp1 hm0 hm hxn
  go_enter Tryz.func100, Tryz.ntmps100
  go_wp2_with (first
    | (rw [← HW.out]; refine wpL_strb (o := ⟨some 13, _, _, _, _, _⟩) rfl (.tmp 12) _ _ rfl Tryz.underlying9 Tryz.underlying86 Tryz.underlying5 rfl (by have := HL.out; unfold maxLen; omega) ?_; intro W1 A cap hrd hfar hb1)
    | (go_at_call 124; refine (HMK.out _ _ _ hrd).mono ?_; rintro e w3 ⟨v3, rfl, hown3, hb3⟩)
    | fail)
  have hbW1 : Below w.heap.size w W1 := HB.out.trans (hb1.mono HB.out.size)
  have hb03 : Below w.heap.size w w3 := hbW1.trans (hb3.mono hbW1.size)
  obtain ⟨q, c3, rfl, hq3, hrd3⟩ : ∃ b c, v3 = .slice (some ⟨b, 0, none⟩) n3 c ∧ w.heap.size ≤ b ∧ Rd w3 w3.heap.size 1 (some ⟨b, 0, none⟩) n3 c (u8s L) := by
    rcases hown3.2 with ⟨_, h0⟩ | ⟨g', cap, cur, rfl, hb, _⟩
    · have := HK.out; omega
    · exact ⟨g', cap, rfl, Nat.le_trans hbW1.size hb, ownsRow_rd hown3⟩
  have k0 : w3.cell? ⟨w.heap.size, 0, none⟩ = some (.int .i64 p) := by
    have hz := HZ.out
    exact kept (hb1.trans (hb3.mono hb1.size)) k0 (by omega)
  have c0 := kept hb03 c0 hTlt
  have c1 := kept hb03 c1 hTlt
  have c2 := kept hb03 c2 hTlt
  have O3 := Lib.hid ((HO.out.mono (Nat.le_refl M) (N' := fun i => N i ∧ i < w.heap.size) (fun i hi hn => ⟨hn, hi⟩)).below hb03)
  have HB03 := Lib.hid hb03
  have HRD3 := Lib.hid hrd3
  clear k1 k2 hown3 hb3 hb1 hrd hfar hrd3 hb03 hbW1
  generalize t.base = b0 at *
  generalize t.size = s0 at *
  obtain ⟨hy0, hy1⟩ := HY.out
  have hx0 : 0 ≤ x := by have := HBB.out.1; omega
  have hx1 : x ≤ 2000000 := by have := HBB.out.2; omega
  have HM9 := Lib.hid hM
  clear hM
  cases hd : d.down with
  | true =>
    have HD := Lib.hid hd
    clear hd
    refine wp_keeps (fun i => N i ∧ i < w.heap.size) [([0, 1, 2, 3, 4, 5, 6, 7, 8, 9, 10, 11, 12, 13, 14, 15, 16], 17)] [18] (by kernel_rfl) (by kernel_rfl) (fun d _ _ _ _ h => by cases d <;> exact h) fun wd hbd => ?_
    intro f hf
    have d0 := fun z => (hf z).cell c0 (fun h => hTN h.1)
    have d1 := fun z => (hf z).cell c1 (fun h => hTN h.1)
    have d2 := fun z => (hf z).cell c2 (fun h => hTN h.1)
    have d3 := fun z => (hf z).cell k0 (fun h => Nat.lt_irrefl _ h.2)
    simp only [pickI, Option.toList_some, List.cons_append, List.nil_append, List.getElem?_toArray, List.getElem?_cons_succ, List.getElem?_cons_zero]
    repeat (go_big_quiet_step (fail))
    refine wpQuiet_nil ?_
    clear d0 d1 d2 d3 hf f
    refine seg_op (by simp only [List.getElem?_toArray, List.getElem?_cons_succ, List.getElem?_cons_zero]; rfl) fun KK hKK => ?_
    go_simp
    refine (own_write_down (O3.out.below hbd) HD.out x _ _ _).mono ?_
    rintro e w4 ⟨rfl, hb4⟩
    have hb34 := hbd.trans (hb4.mono hbd.size)
    have hk4 : Keeps (fun i => N i ∧ i < w.heap.size) w3 w4 := Keeps.of_below hb34
    refine hKK.out _ _ (seg_keep hk4 ?_)
    have HB4 := Lib.hid (HB03.out.trans (hb34.mono HB03.out.size))
    clear hKK KK hb34 hk4 hb4 hbd
    intro f hf
    simp only [pickI, Option.toList_some, List.cons_append, List.nil_append, List.getElem?_toArray, List.getElem?_cons_succ, List.getElem?_cons_zero]
    repeat (go_big_quiet_step (fail))
    refine wpQuiet_nil ?_
    clear hf f
    go_wp2_with (fail)
    go_ret
    rw [HSV.out, if_pos HD.out]
    exact ⟨rfl, (HO.out.below HB4.out).mono (by omega) (fun i _ h => .inl h), Keeps.of_below HB4.out⟩
  | false =>
    have HD := Lib.hid hd
    clear hd
    refine wp_keeps (fun i => N i ∧ i < w.heap.size) [([0, 1, 2, 3, 4, 5, 6, 7, 8, 9, 10, 11, 12, 13, 14, 15, 16], 17)] [18] (by kernel_rfl) (by kernel_rfl) (fun d _ _ _ _ h => by cases d <;> exact h) fun wd hbd => ?_
    intro f hf
    have d0 := fun z => (hf z).cell c0 (fun h => hTN h.1)
    have d1 := fun z => (hf z).cell c1 (fun h => hTN h.1)
    have d2 := fun z => (hf z).cell c2 (fun h => hTN h.1)
    have d3 := fun z => (hf z).cell k0 (fun h => Nat.lt_irrefl _ h.2)
    simp only [pickI, Option.toList_some, List.cons_append, List.nil_append, List.getElem?_toArray, List.getElem?_cons_succ, List.getElem?_cons_zero]
    repeat (go_big_quiet_step (fail))
    refine wpQuiet_nil ?_
    clear d0 d1 d2 d3 hf f
    refine seg_op (by simp only [List.getElem?_toArray, List.getElem?_cons_succ, List.getElem?_cons_zero]; rfl) fun KK hKK => ?_
    go_simp
    have hWr := own_write (O3.out.below hbd) (by have := HM9.out; omega) HD.out x (some ⟨q, 0, none⟩) n3 c3 L ((HRD3.out.below hbd).more hbd.size) (fun _ b o e h => by cases e; have := h.2; omega) hx0 (by have := HXN.out; have := HK.out.2; omega) (by have := HK.out; have := HL.out; omega)
    rw [show (n3 + 63) / 64 = K by have := HK.out.2; omega] at hWr
    have hpw := Dv.write_pw d x L K
    have hsv := HSV.out
    rw [if_neg (by rw [HD.out]; decide)] at hsv
    have HS2 := Lib.hid hsv
    clear hsv HSV
    generalize d.write x L K = r at *
    obtain ⟨d1, er⟩ := r
    dsimp only at hWr hpw HS2
    refine hWr.mono ?_
    rintro e w4 ⟨rfl, hO4, hk4⟩
    have hk34 : Keeps (fun i => N i ∧ i < w.heap.size) w3 w4 := (Keeps.of_below hbd).trans hk4 (fun i h => .inl h)
    refine hKK.out _ _ (seg_keep hk34 ?_)
    have c0 := hk34.cell c0 (fun h => hTN h.1)
    have hkw4 : Keeps N w w4 := (Keeps.of_below HB03.out).trans hk34 (fun i h => .inl h.1)
    have hO4' : Own w4 B g (fun i => N i ∧ i < w.heap.size ∨ w3.heap.size ≤ i) (M + 64) d1 := hO4.mono (Nat.le_refl _) (fun i _ h => h.imp id (fun h => Nat.le_trans hbd.size h))
    have HO4 := Lib.hid hO4'
    have HK4 := Lib.hid hkw4
    clear hKK KK hWr hO4 hO4' hk4 hk34 hkw4 hbd
    intro f hf
    simp only [pickI, Option.toList_some, List.cons_append, List.nil_append, List.getElem?_toArray, List.getElem?_cons_succ, List.getElem?_cons_zero]
    repeat (go_big_quiet_step (fail))
    refine wpQuiet_nil ?_
    clear hf f
    rcases hpw with rfl | rfl
    · go_wp2_with (first
        | (go_at_call 59; refine (own_flush HO4.out (by have := HM9.out; omega)).mono ?_; rintro e w5 ⟨rfl, hO5, hk5⟩)
        | fail)
      go_ret
      rw [HS2.out, if_neg (by decide)]
      have hs3 := HB03.out.size
      have hs4 := HK4.out.size
      refine ⟨rfl, hO5.mono (by omega) (fun i _ h => ?_), HK4.out.trans hk5 (fun i h => h.imp (fun h => h.1) (fun h => Nat.le_trans hs3 h))⟩
      rcases h with (h | h) | h
      · exact .inl h.1
      · exact .inr (Nat.le_trans hs3 h)
      · exact .inr (Nat.le_trans hs4 h)
    · go_wp2_with (fail)
      go_ret
      rw [HS2.out, if_pos (by decide)]
      exact ⟨rfl, HO4.out.mono (by omega) (fun i _ h => h.imp (fun h => h.1) (fun h => Nat.le_trans HB03.out.size h)), HK4.out⟩

end Go.Proofs.YtgbbbemedncdoaaGreatDoor

namespace Go.Proofs.YtgbbbemedncdoaaGreatDoor
set_option maxRecDepth 20000
open Go.RowKit

theorem twsave_nil (A : Option Addr) (n c : Nat) (w : World) : Calls Tryz.prog 60 #[.pointer none, .slice A n c] w fun e w' => e = .returned (.int .i64 1) ∧ w = w' := by
  go_enter Tryz.func60, Tryz.ntmps60
  go_wp2_with (first
    | (go_at_call 97; refine (topen_nil _).mono ?_; rintro e w1 ⟨rfl, rfl⟩)
    | fail)
  go_ret
  exact ⟨rfl, rfl⟩
theorem twsave_bare {w : World} {T : Nat} {t : Tv} (h : Tw w T none t) (A : Option Addr) (n c : Nat) : Calls Tryz.prog 60 #[.pointer (some ⟨T, 0, none⟩), .slice A n c] w fun e w' => e = .returned (.int .i64 1) ∧ w = w' := by
  have HO := Lib.hid (topen_bare h)
  clear h
  go_enter Tryz.func60, Tryz.ntmps60
  go_wp2_with (first
    | (go_at_call 97; refine HO.out.mono ?_; rintro e w1 ⟨rfl, rfl⟩)
    | fail)
  go_ret
  exact ⟨rfl, rfl⟩
theorem twsave_long {w : World} {T : Nat} {g : Addr} {t : Tv} (h : Tw w T (some g) t) (h0 : 0 ≤ t.size) (h1 : t.size ≤ 65536) (A : Option Addr) (n c : Nat) (hn : t.room < n) (_ : n ≤ maxLen) : Calls Tryz.prog 60 #[.pointer (some ⟨T, 0, none⟩), .slice A n c] w fun e w' => e = .returned (.int .i64 11) ∧ w = w' := by
  have HO := Lib.hid (topen_any h)
  have HR := Lib.hid (twroom_any h h0 h1)
  have q1 : decide (t.room < (n : Int)) = true := by simpa using hn
  have q2 : t.room < (n : Int) := hn
  generalize t.room = r at *
  clear h h0 h1 hn
  go_enter Tryz.func60, Tryz.ntmps60
  go_wp2_with (first
    | (go_at_call 97; refine HO.out.mono ?_; rintro e w1 ⟨rfl, rfl⟩)
    | (go_at_call 98; refine HR.out.mono ?_; rintro e w1 ⟨rfl, rfl⟩)
    | fail)
  go_ret
  exact ⟨rfl, rfl⟩
theorem twsave_full {w : World} {T : Nat} {g : Addr} {t : Tv} (h : Tw w T (some g) t) (h0 : 0 ≤ t.size) (h1 : t.size ≤ 65536) (A : Option Addr) (n c : Nat) (hn : n ≤ t.room) (hz : t.next = 0) : Calls Tryz.prog 60 #[.pointer (some ⟨T, 0, none⟩), .slice A n c] w fun e w' => e = .returned (.int .i64 31) ∧ w = w' := by
  have HO := Lib.hid (topen_any h)
  have HR := Lib.hid (twroom_any h h0 h1)
  have q1 : decide (t.room < (n : Int)) = false := by simpa using hn
  have q2 : ¬ t.room < (n : Int) := by omega
  have c6 := h.c6
  rw [hz] at c6
  generalize t.room = r at *
  clear h h0 h1 hn hz
  go_enter Tryz.func60, Tryz.ntmps60
  go_wp2_with (first
    | (go_at_call 97; refine HO.out.mono ?_; rintro e w1 ⟨rfl, rfl⟩)
    | (go_at_call 98; refine HR.out.mono ?_; rintro e w1 ⟨rfl, rfl⟩)
    | fail)
  go_ret
  exact ⟨rfl, rfl⟩

end Go.Proofs.YtgbbbemedncdoaaGreatDoor

namespace Go.Proofs.YtgbbbemedncdoaaGreatDoor
set_option maxRecDepth 20000
open Go.RowKit

theorem Dv.save_pw (d : Dv) (x : Int) (m : Nat) (l : List UInt8) : (d.save x m l).2 = 0 ∨ (d.save x m l).2 = 50 := by
  unfold Dv.save
  split
  · exact .inr rfl
  · split
    · rename_i h
      rcases Dv.write_pw d x (makeOf m l) (sectorsOf l.length) with e | e
      · exact absurd e h
      · exact .inr e
    · unfold Dv.flush
      split
      · exact .inr rfl
      · split
        · exact .inr rfl
        · exact .inl rfl
/-- The next number is taken, whatever becomes of it. -/
def Tv.took (t : Tv) : Tv := { t with next := (t.next + 1) % 18446744073709551616 }
/-- What is saved is the last. -/
def Tv.kept (t : Tv) (l : List UInt8) : Tv := { t with place := t.free, number := t.next, text := l, next := (t.next + 1) % 18446744073709551616 }
def Tv.after (t : Tv) (l : List UInt8) (e : Int) : Tv := if e = 0 then t.kept l else t.took

theorem Tw.set {w : World} {T : Nat} {g : Option Addr} {t : Tv} (h : Tw w T g t) (x : Int) (y : Nat) (z : List UInt8) : Tw (((w.setCell ⟨T, 3, none⟩ (.int .i64 x)).setCell ⟨T, 4, none⟩ (.int .u64 (y : Int))).setCell ⟨T, 5, none⟩ (.string (str z))) T g { t with place := x, number := y, text := z } := by
  have r := setCell_row (i := 5) (v := .string (str z)) (setCell_row (i := 4) (v := .int .u64 (y : Int)) (setCell_row (i := 3) (v := .int .i64 x) h))
  unfold Tw
  simp [twRow] at r ⊢
  exact r
theorem Tw.took {w : World} {T : Nat} {g : Option Addr} {t : Tv} (h : Tw w T g t) : Tw (w.setCell ⟨T, 6, none⟩ (.int .u64 (((t.next + 1) % 18446744073709551616 : Nat) : Int))) T g t.took := by
  have r := setCell_row (i := 6) (v := .int .u64 (((t.next + 1) % 18446744073709551616 : Nat) : Int)) h
  unfold Tw
  simp [twRow, Tv.took] at r ⊢
  exact r
theorem keeps_set (w : World) (T i : Nat) (v : Value) : Keeps (fun j => j = T) w (w.setCell ⟨T, i, none⟩ v) := Keeps.one (setCell_grows w T i v)

set_option maxHeartbeats 4000000 in
theorem twsave_ok {w : World} {B g M T : Nat} {N : Nat → Prop} {d : Dv} {t : Tv} (h : Own w B g N M d) (hM : M ≤ 90000) (hT : Tw w T (some ⟨g, 0, none⟩) t) (hTN : ¬ N T)
    (A : Option Addr) (n c : Nat) (l : List UInt8) (hl : Rd w w.heap.size 1 A n c (u8s l)) (hn : n ≤ 3000) (hp0 : 0 ≤ t.place) (hp1 : t.place ≤ 1) (hb0 : 0 ≤ t.base) (hb1 : t.base ≤ 1000000) (hs0 : 0 ≤ t.size) (hs1 : t.size ≤ 1000)
    (hroom : n ≤ t.room) (hm0 : 0 < t.next) (hm : t.next < 18446744073709551616) (hin : t.base + 2 * t.size ≤ d.n) :
    Calls Tryz.prog 60 #[.pointer (some ⟨T, 0, none⟩), .slice A n c] w fun e w' => e = .returned (.int .i64 (d.save (t.base + t.free * t.size) t.next l).2)
      ∧ Own w' B g (fun i => N i ∨ w.heap.size ≤ i) (M + 80) (d.save (t.base + t.free * t.size) t.next l).1 ∧ Tw w' T (some ⟨g, 0, none⟩) (t.after l (d.save (t.base + t.free * t.size) t.next l).2) ∧ Keeps (fun i => N i ∨ i = T) w w' := by
  have hln : l.length = n := by have := hl.len; rwa [u8s_len] at this
  have HO := Lib.hid (topen_any hT)
  have HR := Lib.hid (twroom_any hT hs0 (by omega))
  have HF := Lib.hid (fun (W : World) (hW : Below w.heap.size w W) => (twfree_any (hT.below hW) hp0 hp1).mono (fun e w' hh => (⟨hh.1, by rw [hh.2]; exact Below.refl _ _⟩ : e = .returned (.int .i64 t.free) ∧ Below W.heap.size W w')))
  have hfr : 0 ≤ t.free ∧ t.free ≤ 1 := by unfold Tv.free; split <;> omega
  have hsz : t.free * t.size + t.size ≤ 2 * t.size ∧ 0 ≤ t.free * t.size := by
    rcases (show t.free = 0 ∨ t.free = 1 by omega) with e | e
    · rw [e]; omega
    · rw [e]; omega
  have hk := sectorsOf_at _ (show l.length ≤ 65536 by omega)
  have hks : (sectorsOf (l.length : Int) : Int) ≤ t.size := by
    have : t.room = min (t.size * 48 - 8) 65536 := rfl
    omega
  have HWr := Lib.hid (fun (W : World) (t' : Tv) (hO : Own W B g (fun i => N i ∧ i < w.heap.size) M d) (hT' : Tw W T (some ⟨g, 0, none⟩) t') (hb : t'.base = t.base) (hs : t'.size = t.size) =>
    twwrite_any hO hM hT' (fun h => hTN h.1) t.free t.next l (t.base + t.free * t.size) (by rw [hb, hs]) hfr.1 hfr.2 (by omega) (by omega) (by omega) (by omega) (by omega) hm0 hm (by omega))
  have hpw := Dv.save_pw d (t.base + t.free * t.size) t.next l
  generalize d.save (t.base + t.free * t.size) t.next l = r at *
  obtain ⟨d1, er⟩ := r
  dsimp only at HWr hpw ⊢
  have q1 : decide (t.room < (n : Int)) = false := by simpa using hroom
  have q2 : ¬ t.room < (n : Int) := by omega
  have q3 : (t.next == 0) = false := by simp; omega
  have q4 : ((t.next : Int) == 0) = false := by simp; omega
  have c6 := hT.c6
  have hlt := hT.lt
  have HT := Lib.hid hT
  have HOW := Lib.hid h
  have HL := Lib.hid hl
  have HNX := Lib.hid (And.intro hm0 hm)
  have HPW := Lib.hid hpw
  have hA1 : t.after l 0 = t.kept l := rfl
  have hA2 : t.after l 50 = t.took := rfl
  have HA1 := Lib.hid hA1
  have HA2 := Lib.hid hA2
  clear hln hl hM hfr hsz hk hks hroom hm0 hm hin hp0 hp1 hb0 hb1 hs0 hs1 hT h hpw hA1 hA2
  have hfc := fun (z : World) (hz : Below w.heap.size w z) => run_str Tryz.underlying86 Tryz.underlying5 Tryz.underlying9 ((HL.out.below hz).more hz.size)
  go_enter Tryz.func60, Tryz.ntmps60
  go_wp2_with (first
    | (go_at_call 97; refine HO.out.mono ?_; rintro e w1 ⟨rfl, rfl⟩)
    | (go_at_call 98; refine HR.out.mono ?_; rintro e w1 ⟨rfl, rfl⟩)
    | fail)
  go_cut [5] (fun u wx => ∃ a, u = .pointer (some ⟨a, 0, none⟩) ∧ w.heap.size ≤ a ∧ Hid (wx.heap[a]? = some (.cells #[.int .i64 t.free, .int .u64 (t.next : Int), .string (str l)] 126 (0, 0))) ∧ Hid (Below w.heap.size w wx))
  case first =>
    refine wp_tree w.heap.size (.two [0, 2, 3, 4, 5, 6, 7] 1 9 (.one [8] 9 (.one [] 10 (.fin []))) (.one [] 1 (.one [8] 10 (.fin [])))) (by kernel_rfl) (by kernel_rfl) (fun d _ _ _ _ h => by cases d <;> exact h) fun wd hbd => ?_
    intro q hq
    have d6 := fun z => kept (hq z) c6 hlt
    have dc := fun z => hfc _ (hq z)
    simp only [pickI, Option.toList_some, List.cons_append, List.nil_append, List.getElem?_toArray, List.getElem?_cons_succ, List.getElem?_cons_zero]
    repeat (go_big_quiet_step (fail))
    refine wpQuiet_nil ?_
    clear d6 dc hq q
    refine ⟨?_, ?_⟩
    · skip
      refine seg_op (by simp only [List.getElem?_toArray, List.getElem?_cons_succ, List.getElem?_cons_zero]; rfl) fun K hK => ?_
      go_simp
      refine (HF.out _ hbd).mono ?_
      rintro e v1 ⟨rfl, bv1⟩
      have zv1 := hbd.trans (bv1.mono hbd.size)
      refine hK.out _ _ ⟨zv1, ?_⟩
      clear hK K
      intro q hq
      simp only [pickI, Option.toList_some, List.cons_append, List.nil_append, List.getElem?_toArray, List.getElem?_cons_succ, List.getElem?_cons_zero]
      repeat (go_big_quiet_step (fail))
      refine wpQuiet_nil ?_
      clear hq q
      refine seg_op (by simp only [List.getElem?_toArray, List.getElem?_cons_succ, List.getElem?_cons_zero]; rfl) fun K hK => ?_
      go_simp
      obtain ⟨v2, hv2⟩ : ∃ v, v = v1.alloc (.cells #[.int .i64 0, .int .u64 0, .string { data := #[] }] 126) := ⟨_, rfl⟩
      rw [← hv2]
      have bv2 : Below v1.heap.size v1 v2 := by rw [hv2]; exact (Below.refl _ _).alloc (Nat.le_refl _) _
      have rv2 : v2.heap[v1.heap.size]? = some (.cells #[.int .i64 0, .int .u64 0, .string { data := #[] }] 126 (0, 0)) := by rw [hv2]; exact row_here _ _ rfl
      have gv2 : w.heap.size ≤ v1.heap.size := zv1.size
      have zv2 := zv1.trans (bv2.mono zv1.size)
      refine hK.out _ _ ⟨zv2, ?_⟩
      clear hK K hv2
      intro q hq
      refine wpQuiet_nil ?_
      clear hq q
      have e0 := cell_of_row v2 _ 0 _ _ _ rv2
      have f0 := frozen_of_row v2 _ 0 _ _ rv2
      have e1 := cell_of_row v2 _ 1 _ _ _ rv2
      have f1 := frozen_of_row v2 _ 1 _ _ rv2
      have e2 := cell_of_row v2 _ 2 _ _ _ rv2
      have f2 := frozen_of_row v2 _ 2 _ _ rv2
      simp at e0 e1 e2
      refine seg_op (by simp only [List.getElem?_toArray, List.getElem?_cons_succ, List.getElem?_cons_zero]; rfl) fun K hK => ?_
      go_simp
      have zz := ((zv2.setCell (p := ⟨v1.heap.size, 0, none⟩) gv2 (.int .i64 t.free)).setCell (p := ⟨v1.heap.size, 1, none⟩) gv2 (.int .u64 (t.next : Int))).setCell (p := ⟨v1.heap.size, 2, none⟩) gv2 (.string (str l))
      have rr := setCell_row (i := 2) (v := .string (str l)) (setCell_row (i := 1) (v := .int .u64 (t.next : Int)) (setCell_row (i := 0) (v := .int .i64 t.free) rv2))
      simp at rr
      refine hK.out _ _ ⟨zz, ?_⟩
      clear hK K
      intro q hq
      refine wpQuiet_nil ?_
      clear hq q
      have ZZ := Lib.hid zz
      have RR := Lib.hid rr
      clear zz rr
      go_wp2_with (fail)
      go_meet
      case rel => exact ⟨v1.heap.size, rfl, gv2, RR, ZZ⟩
    · skip
      refine seg_op (by simp only [List.getElem?_toArray, List.getElem?_cons_succ, List.getElem?_cons_zero]; rfl) fun K hK => ?_
      go_simp
      obtain ⟨v3, hv3⟩ : ∃ v, v = wd.alloc (.cells #[.int .i64 0, .int .u64 0, .string { data := #[] }] 126) := ⟨_, rfl⟩
      rw [← hv3]
      have bv3 : Below wd.heap.size wd v3 := by rw [hv3]; exact (Below.refl _ _).alloc (Nat.le_refl _) _
      have rv3 : v3.heap[wd.heap.size]? = some (.cells #[.int .i64 0, .int .u64 0, .string { data := #[] }] 126 (0, 0)) := by rw [hv3]; exact row_here _ _ rfl
      have gv3 : w.heap.size ≤ wd.heap.size := hbd.size
      have zv3 := hbd.trans (bv3.mono hbd.size)
      refine hK.out _ _ ⟨zv3, ?_⟩
      clear hK K hv3
      intro q hq
      refine wpQuiet_nil ?_
      clear hq q
      refine seg_op (by simp only [List.getElem?_toArray, List.getElem?_cons_succ, List.getElem?_cons_zero]; rfl) fun K hK => ?_
      go_simp
      refine (HF.out _ zv3).mono ?_
      rintro e v4 ⟨rfl, bv4⟩
      have zv4 := zv3.trans (bv4.mono zv3.size)
      have rv4 := (bv4.block _ (Array.getElem?_eq_some_iff.1 rv3).1).trans rv3
      refine hK.out _ _ ⟨zv4, ?_⟩
      clear hK K
      intro q hq
      simp only [pickI, Option.toList_some, List.cons_append, List.nil_append, List.getElem?_toArray, List.getElem?_cons_succ, List.getElem?_cons_zero]
      repeat (go_big_quiet_step (fail))
      refine wpQuiet_nil ?_
      clear hq q
      have e0 := cell_of_row v4 _ 0 _ _ _ rv4
      have f0 := frozen_of_row v4 _ 0 _ _ rv4
      have e1 := cell_of_row v4 _ 1 _ _ _ rv4
      have f1 := frozen_of_row v4 _ 1 _ _ rv4
      have e2 := cell_of_row v4 _ 2 _ _ _ rv4
      have f2 := frozen_of_row v4 _ 2 _ _ rv4
      simp at e0 e1 e2
      refine seg_op (by simp only [List.getElem?_toArray, List.getElem?_cons_succ, List.getElem?_cons_zero]; rfl) fun K hK => ?_
      go_simp
      have zz := ((zv4.setCell (p := ⟨wd.heap.size, 0, none⟩) gv3 (.int .i64 t.free)).setCell (p := ⟨wd.heap.size, 1, none⟩) gv3 (.int .u64 (t.next : Int))).setCell (p := ⟨wd.heap.size, 2, none⟩) gv3 (.string (str l))
      have rr := setCell_row (i := 2) (v := .string (str l)) (setCell_row (i := 1) (v := .int .u64 (t.next : Int)) (setCell_row (i := 0) (v := .int .i64 t.free) rv4))
      simp at rr
      refine hK.out _ _ ⟨zz, ?_⟩
      clear hK K
      intro q hq
      refine wpQuiet_nil ?_
      clear hq q
      have ZZ := Lib.hid zz
      have RR := Lib.hid rr
      clear zz rr
      go_wp2_with (fail)
      go_meet
      case rel => exact ⟨wd.heap.size, rfl, gv3, RR, ZZ⟩
  case rest =>
    obtain ⟨a, rfl, ha, RA, ZB⟩ := hcut
    generalize wc = Y at *
    have c6 := kept ZB.out c6 hlt
    have hTY := HT.out.below ZB.out
    have f6 : Y.frozen? ⟨T, 6, none⟩ = false := frozen_of_row Y T 6 _ _ hTY
    have hTV := hTY.took
    obtain ⟨nx, hnx⟩ : ∃ nx, nx = (t.next + 1) % 18446744073709551616 := ⟨_, rfl⟩
    have e1 : IntKind.u64.wrap ((t.next : Int) + 1) = (nx : Int) := by rw [hnx]; simp [IntKind.wrap, IntKind.signed, IntKind.bits]
    rw [← hnx] at hTV
    have hkV := keeps_set Y T 6 (.int .u64 (nx : Int))
    obtain ⟨V, hV⟩ : ∃ V, V = Y.setCell ⟨T, 6, none⟩ (.int .u64 (nx : Int)) := ⟨_, rfl⟩
    rw [← hV] at hTV hkV
    have hne : a ≠ T := by omega
    have rV := hkV.row RA.out hne
    have k0 : V.cell? ⟨a, 0, none⟩ = some (.int .i64 t.free) := cell_of_row V a 0 _ _ _ rV
    have k1 : V.cell? ⟨a, 1, none⟩ = some (.int .u64 (t.next : Int)) := cell_of_row V a 1 _ _ _ rV
    have k2 : V.cell? ⟨a, 2, none⟩ = some (.string (str l)) := cell_of_row V a 2 _ _ _ rV
    have HOV := Lib.hid (((HOW.out.mono (Nat.le_refl M) (N' := fun i => N i ∧ i < w.heap.size) (fun i hi hn => ⟨hn, hi⟩)).below ZB.out).keeps hkV (fun i hi _ h => hTN (hi ▸ h.1)))
    have HTV := Lib.hid hTV
    have HKV := Lib.hid hkV
    have HV := Lib.hid hV
    have HRV := Lib.hid rV
    clear hfc hTY hTV hkV hV rV hnx
    rcases HPW.out with rfl | rfl
    · go_wp2_with (first
        | (go_at_call 100; (try rw [← HV.out]); refine (HWr.out V t.took HOV.out HTV.out rfl rfl).mono ?_; rintro e w5 ⟨rfl, hO5, hk5⟩
           have hT5 : Tw w5 T (some ⟨g, 0, none⟩) t.took := hk5.row HTV.out (fun h => hTN h.1)
           have rA5 := hk5.row HRV.out (fun h => absurd h.2 (Nat.not_lt.2 ha))
           have k0 := cell_of_row w5 a 0 _ _ _ rA5
           have k1 := cell_of_row w5 a 1 _ _ _ rA5
           have k2 := cell_of_row w5 a 2 _ _ _ rA5
           simp at k0 k1 k2
           have m3 := hT5.c3
           have m4 := hT5.c4
           have m5 := hT5.c5
           have g3 : w5.frozen? ⟨T, 3, none⟩ = false := frozen_of_row w5 T 3 _ _ hT5
           have g4 : w5.frozen? ⟨T, 4, none⟩ = false := frozen_of_row w5 T 4 _ _ hT5
           have g5 : w5.frozen? ⟨T, 5, none⟩ = false := frozen_of_row w5 T 5 _ _ hT5
           have HT5 := Lib.hid hT5
           have HO5 := Lib.hid hO5
           have HK5 := Lib.hid hk5
           clear rA5 hT5 hO5 hk5)
        | (rw [← HV.out])
        | fail)
      go_ret
      rw [HA1.out]
      have hsV : w.heap.size ≤ V.heap.size := Nat.le_trans ZB.out.size HKV.out.size
      have kS := ((keeps_set w5 T 3 (.int .i64 t.free)).trans (keeps_set _ T 4 (.int .u64 (t.next : Int))) (fun i h => .inl h)).trans (keeps_set _ T 5 (.string (str l))) (fun i h => .inl h)
      refine ⟨rfl, (HO5.out.keeps kS (fun i hi _ h => ?_)).mono (Nat.le_refl _) (fun i _ h => h.imp (fun h => h.1) (fun h => Nat.le_trans hsV h)), HT5.out.set t.free t.next l, ?_⟩
      · subst hi
        rcases h with h | h
        · exact hTN h.1
        · omega
      · exact (((Keeps.of_below ZB.out).trans HKV.out (fun i h => .inl (.inr h))).trans HK5.out (fun i h => .inl (.inl h.1))).trans kS (fun i h => .inl (.inr h))
    · go_wp2_with (first
        | (go_at_call 100; (try rw [← HV.out]); refine (HWr.out V t.took HOV.out HTV.out rfl rfl).mono ?_; rintro e w5 ⟨rfl, hO5, hk5⟩
           have HO5 := Lib.hid hO5
           have HK5 := Lib.hid hk5
           clear hO5 hk5)
        | (rw [← HV.out])
        | fail)
      go_ret
      rw [HA2.out]
      have hsV : w.heap.size ≤ V.heap.size := Nat.le_trans ZB.out.size HKV.out.size
      exact ⟨rfl, HO5.out.mono (Nat.le_refl _) (fun i _ h => h.imp (fun h => h.1) (fun h => Nat.le_trans hsV h)), HK5.out.row HTV.out (fun h => hTN h.1), ((Keeps.of_below ZB.out).trans HKV.out (fun i h => .inl (.inr h))).trans HK5.out (fun i h => .inl (.inl h.1))⟩

end Go.Proofs.YtgbbbemedncdoaaGreatDoor

namespace Go.Proofs.YtgbbbemedncdoaaGreatDoor
set_option maxRecDepth 20000
open Go.RowKit

/-- What the device refuses is refused. -/
theorem twopen_refused {w : World} (G : Option Addr) (base size : Int) (E : Int) (hE : E ≠ 0)
    (HR : ∀ s : Int, s = IntKind.i64.wrap (2 * min size 65536) → Calls Tryz.prog 68 #[.pointer G, .int .i64 base, .int .i64 s] w fun e w' => e = .returned (.tuple #[.slice none 0 0, .int .i64 E]) ∧ w = w') :
    Calls Tryz.prog 33 #[.pointer G, .int .i64 base, .int .i64 size] w fun e w' => e = .returned (.tuple #[.pointer none, .int .i64 E]) ∧ w = w' := by
  obtain ⟨s1, hs1⟩ : ∃ s, s = min size 65536 := ⟨_, rfl⟩
  have e2 : min size (65536 : Int) = s1 := hs1.symm
  obtain ⟨s2, hs2⟩ : ∃ s, s = IntKind.i64.wrap (2 * s1) := ⟨_, rfl⟩
  have e3 : IntKind.i64.wrap (2 * s1) = s2 := hs2.symm
  have e4 : (2 * s1 + 9223372036854775808) % 18446744073709551616 - 9223372036854775808 = s2 := by rw [hs2]; simp [IntKind.wrap, IntKind.signed, IntKind.bits]; split <;> omega
  have HRR := Lib.hid (HR s2 (by rw [hs2, hs1]))
  have q1 : (E == 0) = false := by simpa using hE
  have q2 : (E != 0) = true := by simpa using hE
  clear HR hs1 hs2
  go_enter Tryz.func33, Tryz.ntmps33
  go_wp2_with (first
    | (go_at_call 68; refine HRR.out.mono ?_; rintro e w1 ⟨rfl, rfl⟩)
    | fail)
  go_ret2
  exact ⟨rfl, rfl⟩

end Go.Proofs.YtgbbbemedncdoaaGreatDoor
