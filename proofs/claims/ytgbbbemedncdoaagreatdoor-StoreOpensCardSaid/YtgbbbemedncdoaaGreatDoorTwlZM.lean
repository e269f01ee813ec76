/- What a place tells when beginnings of a frame's sectors alone came to be over what stood there, while all numbers are small. What a save leaves behind a crash: of each sector that was to be written a beginning, of all others what they were. A twin stands on a calm device: behind each save, and each crash in one, what was saved last is what it was, or what was to be saved. The chapter's example of layer 8: what it comes to. A device and a twin on it, in memory of one's own; what each call leaves of them. -/
import Derived.Test.YtgbbbemedncdoaaGreatDoorTwbadZM
namespace Go.Proofs.YtgbbbemedncdoaaGreatDoor
set_option maxRecDepth 20000
open Go.RowKit

theorem le8_small {m : Nat} (h : m < 256) : le 8 m = UInt8.ofNat m :: List.replicate 7 0 := by
  have h0 : m / 256 = 0 := Nat.div_eq_of_lt h
  have hm : m % 256 = m := Nat.mod_eq_of_lt h
  show UInt8.ofNat (m % 256) :: le 7 (m / 256) = _
  rw [hm, h0]
  rfl
theorem head_small {s : List UInt8} (hs : s.length = 64) (h : headsOf s < 256) : s.take 7 = List.replicate 7 0 := by
  have e := head_bytes s (by omega)
  rw [headB, le8_small h] at e
  have e2 : s.take 7 = (s.take 8).take 7 := by rw [List.take_take]; rfl
  rw [e2, e]
  rfl
theorem tail_small {s : List UInt8} (hs : s.length = 64) (h : tailsOf s < 256) : s.drop 57 = List.replicate 7 0 := by
  have e := tail_bytes s hs
  rw [le8_small h] at e
  have e2 : s.drop 57 = (s.drop 56).drop 1 := by rw [List.drop_drop]
  rw [e2, e]
  rfl
/-- A sector of which a beginning came to be is the new one, the old one, or its ends differ. -/
theorem mix_small (n : Nat) (new old : List UInt8) (N : Nat) (hn : n ≤ 64) (h1 : new.length = 64) (h2 : old.length = 64) (hN : headsOf new = N ∧ tailsOf new = N) (hN2 : N < 256) (ho : headsOf old < 256) (ho2 : tailsOf old < 256) :
    mix n new old = new ∨ mix n new old = old ∨ (headsOf (mix n new old) = N ∧ tailsOf (mix n new old) = tailsOf old) := by
  have hl := mix_len n new old hn h1 h2
  rcases Nat.lt_or_ge n 8 with h8 | h8
  · right; left
    have e1 : new.take n = (new.take 7).take n := by rw [List.take_take, Nat.min_eq_left (by omega)]
    have e2 : old.take n = (old.take 7).take n := by rw [List.take_take, Nat.min_eq_left (by omega)]
    rw [mix, e1, head_small h1 (by omega), ← head_small h2 ho, ← e2, List.take_append_drop]
  · rcases Nat.lt_or_ge 56 n with h5 | h5
    · left
      have e1 : new.drop n = (new.drop 57).drop (n - 57) := by rw [List.drop_drop]; congr 1; omega
      have e2 : old.drop n = (old.drop 57).drop (n - 57) := by rw [List.drop_drop]; congr 1; omega
      rw [mix, e2, tail_small h2 ho2, ← tail_small h1 (by omega), ← e1, List.take_append_drop]
    · right; right
      refine ⟨?_, ?_⟩
      · rw [heads_of _ (by omega), mix_lo n 8 new old h8 (by omega), ← heads_of _ (by omega), hN.1]
      · rw [tails_of _ hl, mix_hi n 56 new old h5 (by omega), ← tails_of _ h2]

theorem errAt_same (L L' : List UInt8) (m k : Nat) (h : ∀ i, i < k → sect L' i = sect L i) : errAt L' m k = errAt L m k := by
  induction k with
  | zero => rfl
  | succ k ih => rw [errAt, errAt, ih (fun i hi => h i (by omega)), h k (by omega)]
theorem pieces_same (L L' : List UInt8) (k : Nat) (h : ∀ i, i < k → sect L' i = sect L i) : pieces L' k = pieces L k := by
  induction k with
  | zero => rfl
  | succ k ih => rw [pieces, pieces, ih (fun i hi => h i (by omega)), piece, piece, h k (by omega)]
/-- A frame stands in its sectors alone. -/
theorem read_same (L L' : List UInt8) (h64 : 64 ≤ L.length) (hl : L'.length = L.length) (h0 : sect L' 0 = sect L 0) (h : ∀ i, i < sectorsOf (sizeOf L).1 → sect L' i = sect L i) : readOf L' = readOf L := by
  have e1 := first_ends L h64
  have e2 := first_ends L' (by omega)
  rw [h0, ← e1.1, ← e1.2] at e2
  have hsz : sizeOf L' = sizeOf L := by
    unfold sizeOf wrongOf
    rw [first_size L', first_size L, piece, piece, h0, e2.1, e2.2, hl]
  have hj : joinedOf L' (sectorsOf (sizeOf L).1) (headsOf L) = joinedOf L (sectorsOf (sizeOf L).1) (headsOf L) := by
    unfold joinedOf
    rw [errAt_same L L' _ _ h, pieces_same L L' _ h, hl]
  unfold readOf
  rw [hsz, e2.1, hj]
/-- Nothing is read where one of a frame's sectors is of another number. -/
theorem read_other (L : List UInt8) (i : Nat) (hi : i < sectorsOf (sizeOf L).1) (h : headsOf (sect L i) ≠ headsOf L) : (readOf L).1 = 0 ∧ (readOf L).2.1 = [] := by
  unfold readOf
  split
  · exact ⟨rfl, rfl⟩
  · have hj : (joinedOf L (sectorsOf (sizeOf L).1) (headsOf L)).2 ≠ 0 := by
      unfold joinedOf
      split
      · decide
      · split
        · assumption
        · rename_i h2
          have h3 := errAt_all L (headsOf L) _ (Decidable.not_not.1 h2) i hi
          exact absurd (wrong_zero _ _ h3).1 h
    rw [if_pos hj]
    exact ⟨rfl, rfl⟩
theorem read_ends (L : List UInt8) (h64 : 64 ≤ L.length) (h : headsOf (sect L 0) ≠ tailsOf (sect L 0)) : (readOf L).1 = 0 ∧ (readOf L).2.1 = [] := by
  have e := first_ends L h64
  rw [read_first L h64 13 (by unfold wrongOf; rw [if_pos (.inl (by rw [e.1, e.2]; exact h))]) (by decide)]
  exact ⟨rfl, rfl⟩

/-- The chunk number i of a frame's body. -/
def chunkOf (text : List UInt8) (i : Nat) : List UInt8 := ((bodyOf text (sectorsOf text.length)).drop (48 * i)).take 48
theorem chunkOf_len (text : List UInt8) (ht : text.length ≤ 65536) (i : Nat) (hi : i < sectorsOf text.length) : (chunkOf text i).length = 48 := by
  have hk2 := sectorsOf_at _ ht
  have hbl := bodyOf_len text (sectorsOf (text.length : Int)) (by omega)
  exact chunk_len _ i _ hi (by omega)
/-- Each sector is told by numbers below n, the one at the tail is not above the one at the head. -/
def Ends (n : Nat) (s : List UInt8) : Prop := s.length = 64 ∧ headsOf s ≤ n ∧ tailsOf s ≤ headsOf s
theorem Ends.mono {n m : Nat} {s : List UInt8} (h : Ends n s) (hm : n ≤ m) : Ends m s := ⟨h.1, Nat.le_trans h.2.1 hm, h.2.2⟩
theorem ends_Z : Ends 0 (List.replicate 64 0) := ⟨List.length_replicate, Nat.le_of_eq zeros_ends.1, Nat.le_of_eq (zeros_ends.2.trans zeros_ends.1.symm)⟩
/-- A sector of a frame N of which a beginning came to be over a lesser one. -/
theorem mix_ends (N n : Nat) (text old : List UInt8) (i : Nat) (ht : text.length ≤ 65536) (hi : i < sectorsOf text.length) (hn : n ≤ 64) (hN : N < 256) (hN0 : 0 < N) (ho : Ends (N - 1) old) :
    (mix n (sec N (chunkOf text i)) old = sec N (chunkOf text i) ∨ mix n (sec N (chunkOf text i)) old = old ∨ (headsOf (mix n (sec N (chunkOf text i)) old) = N ∧ tailsOf (mix n (sec N (chunkOf text i)) old) < N)) ∧ Ends N (mix n (sec N (chunkOf text i)) old) := by
  have hpl := chunkOf_len text ht i hi
  have hse := sec_ends (m := N) hpl (by omega)
  have hsl := sec_len (m := N) hpl
  obtain ⟨o1, o2, o3⟩ := ho
  have hl := mix_len n (sec N (chunkOf text i)) old hn hsl o1
  rcases mix_small n _ old N hn hsl o1 hse hN (by omega) (by omega) with e | e | ⟨e1, e2⟩
  · exact ⟨.inl e, by rw [e]; exact ⟨hsl, by omega, by omega⟩⟩
  · exact ⟨.inr (.inl e), by rw [e]; exact ⟨o1, by omega, o3⟩⟩
  · exact ⟨.inr (.inr ⟨e1, by omega⟩), hl, by omega, by omega⟩
theorem place_torn (L L' : List UInt8) (q N : Nat) (text : List UInt8) (ns : Nat → Nat) (hL : L.length = 64 * q) (hL' : L'.length = 64 * q) (hK : sectorsOf text.length ≤ q) (ht : text.length ≤ 65536) (hN0 : 0 < N) (hN : N < 256) (hns : ∀ i, ns i ≤ 64)
    (ho : ∀ i, i < q → Ends (N - 1) (sect L i)) (hnew : ∀ i, i < q → sect L' i = if i < sectorsOf text.length then mix (ns i) (sec N (chunkOf text i)) (sect L i) else sect L i) :
    readOf L' = (N, text, 0) ∨ readOf L' = readOf L ∨ ((readOf L').1 = 0 ∧ (readOf L').2.1 = []) := by
  obtain ⟨K, hKe⟩ : ∃ k, k = sectorsOf (text.length : Int) := ⟨_, rfl⟩
  have hK2 : K = (text.length + 55) / 48 := hKe.trans (sectorsOf_at _ ht)
  rw [← hKe] at hK hnew
  have hL64 : 64 ≤ L.length := by omega
  have key : ∀ i, i < q → (i < K ∧ sect L' i = sec N (chunkOf text i)) ∨ sect L' i = sect L i ∨ (headsOf (sect L' i) = N ∧ tailsOf (sect L' i) < N) := by
    intro i hi
    rw [hnew i hi]
    by_cases hk : i < K
    · rw [if_pos hk]
      rcases (mix_ends N (ns i) text (sect L i) i ht (by omega) (hns i) hN hN0 (ho i hi)).1 with e | e | e
      · exact .inl ⟨hk, e⟩
      · exact .inr (.inl e)
      · exact .inr (.inr e)
    · rw [if_neg hk]
      exact .inr (.inl rfl)
  have hsN : ∀ i, i < K → headsOf (sec N (chunkOf text i)) = N := fun i hi => (sec_ends (chunkOf_len text ht i (by omega)) (by omega)).1
  have e' := first_ends L' (by omega)
  rcases key 0 (by omega) with ⟨hk0, e0⟩ | e0 | ⟨e1, e2⟩
  · -- the new one, or nothing
    by_cases hall : ∀ i, i < K → sect L' i = sec N (chunkOf text i)
    · left
      exact read_secs N text L' ht (by omega) hN0 (by rw [← hKe]; omega) (fun i hi => hall i (by omega))
    · right; right
      obtain ⟨j, hj⟩ := Classical.not_forall.1 hall
      obtain ⟨hjK, hj⟩ := Classical.not_imp.1 hj
      have hh : headsOf L' = N := by rw [e'.1, e0, hsN 0 hk0]
      have hjne : headsOf (sect L' j) ≠ N ∨ tailsOf (sect L' j) ≠ N := by
        rcases key j (by omega) with ⟨_, e⟩ | e | ⟨_, e⟩
        · exact absurd e hj
        · left
          rw [e]
          have := (ho j (by omega)).2.1
          omega
        · exact .inr (by omega)
      -- the size is the text's
      have hpl := chunkOf_len text ht 0 (by omega)
      have hsn : sizeNum L' = text.length := by
        rw [first_size, piece, e0, sec_piece hpl, chunkOf, ← hKe, Nat.mul_zero, List.drop_zero, List.take_take, Nat.min_eq_left (by omega), bodyOf, sealOf, List.append_assoc, List.append_assoc, List.take_append_of_le_length (by rw [le_len]; exact Nat.le_refl _), List.take_of_length_le (by rw [le_len]; exact Nat.le_refl _), unle_le]
        exact Nat.mod_eq_of_lt (by omega)
      have hsz : (sizeOf L').1 = text.length ∨ (sizeOf L').2 ≠ 0 := by
        unfold sizeOf
        split
        · exact .inr (by decide)
        · split
          · right; assumption
          · split
            · exact .inr (by decide)
            · exact .inl hsn
      rcases hsz with hsz | hsz
      · unfold readOf
        split
        · exact ⟨rfl, rfl⟩
        · rw [hsz, ← hKe, hh]
          have hj2 : (joinedOf L' K N).2 ≠ 0 := by
            unfold joinedOf
            split
            · decide
            · split
              · assumption
              · rename_i h2
                have h3 := wrong_zero _ _ (errAt_all L' N K (Decidable.not_not.1 h2) j hjK)
                rcases hjne with h | h
                · exact absurd h3.1 h
                · exact absurd h3.2.1 h
          rw [if_pos hj2]
          exact ⟨rfl, rfl⟩
      · unfold readOf
        rw [if_pos hsz]
        exact ⟨rfl, rfl⟩
  · -- the old one, or nothing
    have e := first_ends L hL64
    have hhe : headsOf L' = headsOf L := by rw [e'.1, e0, ← e.1]
    have hhN : headsOf L < N := by rw [e.1]; have := (ho 0 (by omega)).2.1; omega
    have hs1 : (sizeOf L').1 = (sizeOf L).1 := by
      have e2 := e'.2
      rw [e0, ← e.2] at e2
      unfold sizeOf wrongOf
      rw [first_size L', first_size L, piece, piece, e0, hhe, e2, hL', hL]
    right
    by_cases hall : ∀ i, i < sectorsOf (sizeOf L).1 → sect L' i = sect L i
    · exact .inl (read_same L L' hL64 (by omega) e0 hall)
    · right
      obtain ⟨j, hj⟩ := Classical.not_forall.1 hall
      obtain ⟨hjK, hj⟩ := Classical.not_imp.1 hj
      refine read_other L' j (by rw [hs1]; exact hjK) ?_
      rcases Nat.lt_or_ge j q with hq | hq
      · rcases key j hq with ⟨hk, e⟩ | e | ⟨e, _⟩
        · rw [e, hsN j hk, hhe]; omega
        · exact absurd e hj
        · rw [e, hhe]; omega
      · exact absurd (by rw [sect, sect, List.drop_of_length_le (by omega), List.drop_of_length_le (by omega)]) hj
  · right; right
    exact read_ends L' (by omega) (by omega)
end Go.Proofs.YtgbbbemedncdoaaGreatDoor

namespace Go.Proofs.YtgbbbemedncdoaaGreatDoor
set_option maxRecDepth 20000
open Go.RowKit

/-- The change number i of a write. -/
def chgOf (x : Int) (l : List UInt8) (i : Nat) : Int × List UInt8 := (x + (i : Int), pad (sct l i))
theorem Dv.write_ws (d : Dv) (hd : d.down = false) (x : Int) (l : List UInt8) (j : Nat) : ∃ i, i ≤ j ∧ (d.write x l j).1.ws = d.ws ++ (List.range i).map (chgOf x l) ∧ ((d.write x l j).2 = 0 → i = j ∧ (d.write x l j).1.down = false) ∧ (d.write x l j).1.S = d.S ∧ (d.write x l j).1.n = d.n := by
  induction j with
  | zero => exact ⟨0, Nat.le_refl _, by simp [Dv.write], fun _ => ⟨rfl, hd⟩, rfl, rfl⟩
  | succ j ih =>
    obtain ⟨i, hi, h1, h2, h3, h4⟩ := ih
    rw [Dv.write]
    by_cases h0 : (d.write x l j).2 ≠ 0
    · rw [if_pos h0]
      exact ⟨i, by omega, h1, fun h => absurd h h0, h3, h4⟩
    · rw [if_neg h0]
      obtain ⟨rfl, h5⟩ := h2 (Decidable.not_not.1 h0)
      refine ⟨i + 1, Nat.le_refl _, ?_, fun h => ⟨rfl, ?_⟩, h3, h4⟩
      · show (d.write x l i).1.ws ++ [_] = _
        rw [h1, List.range_succ, List.map_append, List.append_assoc]
        rfl
      · simp only at h ⊢
        unfold pw at h
        split at h
        · cases h
        · rename_i hh; simpa using hh
theorem lastOf_range (x : Int) (l : List UInt8) (i : Nat) (y : Int) : lastOf ((List.range i).map (chgOf x l)) y = if x ≤ y ∧ y < x + i then some (pad (sct l (y - x).toNat)) else none := by
  induction i with
  | zero => rw [if_neg (by omega)]; rfl
  | succ i ih =>
    rw [List.range_succ, List.map_append, List.map_singleton, lastOf_snoc]
    show (if y = x + (i : Int) then some (pad (sct l i)) else lastOf ((List.range i).map (chgOf x l)) y) = _
    rw [ih]
    by_cases h : y = x + (i : Int)
    · rw [if_pos h, if_pos (by omega)]
      rw [show (y - x).toNat = i by omega]
    · rw [if_neg h]
      by_cases h2 : x ≤ y ∧ y < x + (i : Int)
      · rw [if_pos h2, if_pos (by omega)]
      · rw [if_neg h2, if_neg (by omega)]
theorem dv_crash_range (d : Dv) (x : Int) (l : List UInt8) (j : Nat) (hw : d.ws = (List.range j).map (chgOf x l)) (ks : List Int) (i : Nat) (hi : i ≤ j) (y : Int) :
    (d.crash1 ks i).S y = if x ≤ y ∧ y < x + i then mix (kept1 ks (y - x).toNat) (pad (sct l (y - x).toNat)) (d.S y) else d.S y := by
  induction i with
  | zero => rw [if_neg (by omega)]; rfl
  | succ i ih =>
    have ih := ih (by omega)
    have hg : d.ws[i]? = some (chgOf x l i) := by rw [hw, List.getElem?_map, List.getElem?_range (by omega)]; rfl
    rw [Dv.crash1, hg]
    show (if y = x + (i : Int) then _ else (d.crash1 ks i).S y) = _
    by_cases h : y = x + (i : Int)
    · rw [if_pos h, if_pos (by omega)]
      rw [if_neg (by omega)] at ih
      rw [show (y - x).toNat = i by omega, mix]
      show (pad (sct l i)).take _ ++ ((d.crash1 ks i).S (x + (i : Int))).drop _ = _
      rw [← h, ih]
    · rw [if_neg h, ih]
      by_cases h2 : x ≤ y ∧ y < x + (i : Int)
      · rw [if_pos h2, if_pos (by omega)]
      · rw [if_neg h2, if_neg (by omega)]
theorem mix_none (new old : List UInt8) : mix 0 new old = old := rfl
theorem mix_all (new old : List UInt8) (h1 : new.length = 64) (h2 : old.length = 64) : mix 64 new old = new := by
  rw [mix, List.take_of_length_le (by omega), List.drop_of_length_le (by omega), List.append_nil]
theorem sct_sec (m : Nat) (text : List UInt8) (ht : text.length ≤ 65536) (i : Nat) (hi : i < sectorsOf text.length) : pad (sct (makeOf m text) i) = sec m (chunkOf text i) := by
  have h := make_sect m text [] ht i hi
  rw [List.append_nil] at h
  have h2 : sct (makeOf m text) i = sec m (chunkOf text i) := h
  rw [h2, pad, sec_len (chunkOf_len text ht i hi), Z, List.drop_replicate]
  exact List.append_nil _
theorem Dv.write_fell (d : Dv) (x : Int) (l : List UInt8) (j : Nat) (h : (d.write x l j).2 ≠ 0) : (d.write x l j).1.down = true := by
  induction j with
  | zero => exact absurd rfl h
  | succ j ih =>
    rw [Dv.write] at h ⊢
    by_cases h0 : (d.write x l j).2 ≠ 0
    · rw [if_pos h0]
      exact ih h0
    · rw [if_neg h0] at h ⊢
      simp only at h ⊢
      unfold pw at h
      split at h
      · assumption
      · exact absurd rfl h

/-- What is in a sector behind a save, of which so much came to be. -/
def torns (x : Int) (m : Nat) (text : List UInt8) (ns : Nat → Nat) (S : Int → List UInt8) : Int → List UInt8 :=
  fun y => if x ≤ y ∧ y < x + (sectorsOf text.length : Nat) then mix (ns (y - x).toNat) (sec m (chunkOf text (y - x).toNat)) (S y) else S y
/-- A save that is done. -/
theorem Dv.save_done (d : Dv) (hd : d.down = false) (hw : d.ws = []) (x : Int) (m : Nat) (text : List UInt8) (ht : text.length ≤ 65536) (hS : ∀ y, (d.S y).length = 64) (he : (d.save x m text).2 = 0) :
    (d.save x m text).1.ws = [] ∧ (d.save x m text).1.down = false ∧ (d.save x m text).1.n = d.n ∧ (d.save x m text).1.S = torns x m text (fun _ => 64) d.S := by
  obtain ⟨i, hi, h1, h2, h3, h4⟩ := Dv.write_ws d hd x (makeOf m text) (sectorsOf text.length)
  unfold Dv.save at he ⊢
  rw [if_neg (by rw [hd]; decide)] at he ⊢
  by_cases h0 : (d.write x (makeOf m text) (sectorsOf text.length)).2 ≠ 0
  · rw [if_pos h0] at he
    exact absurd he h0
  · rw [if_neg h0] at he ⊢
    obtain ⟨rfl, h5⟩ := h2 (Decidable.not_not.1 h0)
    generalize (d.write x (makeOf m text) (sectorsOf text.length)).1 = d1 at *
    unfold Dv.flush at he ⊢
    rw [if_neg (by rw [h5]; decide)] at he ⊢
    by_cases h6 : d1.step.down = true
    · rw [if_pos h6] at he
      cases he
    · rw [if_neg h6] at he ⊢
      refine ⟨rfl, (Bool.not_eq_true _ ▸ h6 : d1.step.down = false), h4, ?_⟩
      funext y
      show (lastOf d1.ws y).getD (d1.S y) = _
      rw [h1, hw, List.nil_append, lastOf_range, h3]
      unfold torns
      by_cases h7 : x ≤ y ∧ y < x + ((sectorsOf text.length : Nat) : Int)
      · rw [if_pos h7, if_pos h7]
        rw [mix_all _ _ (sec_len (chunkOf_len text ht (y - x).toNat (by omega))) (hS y)]
        exact sct_sec m text ht (y - x).toNat (by omega)
      · rw [if_neg h7, if_neg h7]
        rfl
theorem Dv.save_fell (d : Dv) (hd : d.down = false) (hw : d.ws = []) (x : Int) (m : Nat) (text : List UInt8) (_ : text.length ≤ 65536) (he : (d.save x m text).2 ≠ 0) :
    ∃ i, i ≤ sectorsOf text.length ∧ (d.save x m text).1.ws = (List.range i).map (chgOf x (makeOf m text)) ∧ (d.save x m text).1.n = d.n ∧ (d.save x m text).1.S = d.S ∧ (d.save x m text).1.down = true := by
  obtain ⟨i, hi, h1, h2, h3, h4⟩ := Dv.write_ws d hd x (makeOf m text) (sectorsOf text.length)
  have h9 := Dv.write_pw d x (makeOf m text) (sectorsOf text.length)
  rw [hw, List.nil_append] at h1
  unfold Dv.save at he ⊢
  rw [if_neg (by rw [hd]; decide)] at he ⊢
  by_cases h0 : (d.write x (makeOf m text) (sectorsOf text.length)).2 ≠ 0
  · rw [if_pos h0] at he ⊢
    exact ⟨i, hi, h1, h4, h3, Dv.write_fell d x _ _ h0⟩
  · rw [if_neg h0] at he ⊢
    obtain ⟨hij, h5⟩ := h2 (Decidable.not_not.1 h0)
    generalize (d.write x (makeOf m text) (sectorsOf text.length)).1 = d1 at *
    unfold Dv.flush at he ⊢
    rw [if_neg (by rw [h5]; decide)] at he ⊢
    by_cases h6 : d1.step.down = true
    · rw [if_pos h6]
      exact ⟨i, hi, h1, h4, h3, h6⟩
    · rw [if_neg h6] at he
      exact absurd rfl he
/-- Behind a save and a crash. -/
theorem Dv.save_crash (d : Dv) (hd : d.down = false) (hw : d.ws = []) (x : Int) (m : Nat) (text : List UInt8) (ht : text.length ≤ 65536) (hS : ∀ y, (d.S y).length = 64) (ks : List Int) :
    ∃ ns : Nat → Nat, (∀ i, ns i ≤ 64) ∧ ((d.save x m text).2 = 0 → ns = fun _ => 64) ∧ ((d.save x m text).1.crash ks).ws = [] ∧ ((d.save x m text).1.crash ks).down = false ∧ ((d.save x m text).1.crash ks).fuse = 0 ∧ ((d.save x m text).1.crash ks).n = d.n ∧ ((d.save x m text).1.crash ks).S = torns x m text ns d.S := by
  by_cases he : (d.save x m text).2 = 0
  · obtain ⟨h1, h2, h3, h4⟩ := Dv.save_done d hd hw x m text ht hS he
    refine ⟨fun _ => 64, fun _ => Nat.le_refl _, fun _ => rfl, rfl, rfl, rfl, ((Dv.crash1_ws _ ks _).2.1).trans h3, ?_⟩
    unfold Dv.crash
    rw [h1]
    exact h4
  · obtain ⟨i, hi, h1, h3, h4, _⟩ := Dv.save_fell d hd hw x m text ht he
    refine ⟨fun j => if j < i then kept1 ks j else 0, fun j => ?_, fun h => absurd h he, rfl, rfl, rfl, ((Dv.crash1_ws _ ks _).2.1).trans h3, ?_⟩
    · dsimp only
      split
      · exact kept1_le ks j
      · omega
    · funext y
      have h := dv_crash_range (d.save x m text).1 x (makeOf m text) i h1 ks i (Nat.le_refl _) y
      rw [h4] at h
      unfold Dv.crash
      rw [h1, List.length_map, List.length_range]
      show ((d.save x m text).1.crash1 ks i).S y = _
      rw [h]
      unfold torns
      by_cases h7 : x ≤ y ∧ y < x + ((i : Nat) : Int)
      · rw [if_pos h7, if_pos (by omega), sct_sec m text ht (y - x).toNat (by omega)]
        dsimp only
        rw [if_pos (by omega)]
      · rw [if_neg h7]
        by_cases h8 : x ≤ y ∧ y < x + ((sectorsOf text.length : Nat) : Int)
        · rw [if_pos h8]
          dsimp only
          rw [if_neg (by omega), mix_none]
        · rw [if_neg h8]
end Go.Proofs.YtgbbbemedncdoaaGreatDoor

namespace Go.Proofs.YtgbbbemedncdoaaGreatDoor
set_option maxRecDepth 20000
open Go.RowKit

theorem bytes_split (d : Dv) (x : Int) (a b : Nat) : d.bytes x (a + b) = d.bytes x a ++ d.bytes (x + a) b := by
  induction b with
  | zero => rw [Nat.add_zero, Dv.bytes, List.append_nil]
  | succ b ih =>
    rw [← Nat.add_assoc, Dv.bytes, Dv.bytes, ih, List.append_assoc, show x + ((a + b : Nat) : Int) = x + (a : Int) + (b : Int) from by omega]
theorem bytes_same (d d' : Dv) (x : Int) (n : Nat) (h : ∀ i, i < n → d'.seen (x + (i : Int)) = d.seen (x + (i : Int))) : d'.bytes x n = d.bytes x n := by
  induction n with
  | zero => rfl
  | succ n ih => rw [Dv.bytes, Dv.bytes, ih (fun i hi => h i (by omega)), h n (by omega)]
theorem sect_bytes (d : Dv) (hd : d.Ok) (x : Int) (n i : Nat) (hi : i < n) : sect (d.bytes x n) i = d.seen (x + (i : Int)) := by
  induction n with
  | zero => omega
  | succ n ih =>
    have hl := Dv.bytes_len hd x n
    have hs := Dv.seen_len hd (x + (n : Int))
    rw [Dv.bytes, sect]
    rcases Nat.lt_or_ge i n with h | h
    · have ih := ih h
      rw [sect] at ih
      rw [List.drop_append_of_le_length (by omega), List.take_append_of_le_length (by rw [List.length_drop]; omega), ih]
    · obtain rfl : i = n := by omega
      rw [List.drop_append, List.drop_of_length_le (by omega), List.nil_append, hl, Nat.sub_self, List.drop_zero, List.take_of_length_le (by omega)]
theorem seen_calm (d : Dv) (h : d.ws = []) (y : Int) : d.seen y = d.S y := by
  unfold Dv.seen
  rw [h]
  rfl
theorem mostOf_le (l : List UInt8) (n k : Nat) (h : ∀ i, i < k → Ends n (sect l i)) : mostOf l k ≤ n := by
  induction k with
  | zero => exact Nat.zero_le _
  | succ k ih =>
    have h1 := ih (fun i hi => h i (by omega))
    have h2 := h k (by omega)
    have := h2.2.1
    have := h2.2.2
    rw [mostOf]
    omega
theorem mostOf_ge (l : List UInt8) (k i : Nat) (hi : i < k) : headsOf (sect l i) ≤ mostOf l k := by
  induction k with
  | zero => omega
  | succ k ih =>
    rw [mostOf]
    rcases Nat.lt_or_ge i k with h | h
    · have := ih h
      omega
    · obtain rfl : i = k := by omega
      omega
theorem held_num (L : List UInt8) : (heldOf L).1 = 0 ∨ (heldOf L).1 = headsOf L := by
  unfold heldOf readOf
  split
  · exact .inl rfl
  · split
    · exact .inl rfl
    · split
      · exact .inl rfl
      · exact .inr rfl
theorem held_len (L : List UInt8) : (heldOf L).2.length ≤ 65536 := by
  by_cases h : (readOf L).2.2 = 0
  · have := read_back L (readOf L).2.1 (readOf L).1 (by rw [← h])
    exact this.2.2.1
  · have h2 : (readOf L).2.1 = [] := by
      unfold readOf at h ⊢
      split
      · rfl
      · rename_i h1
        rw [if_neg h1] at h
        split
        · rfl
        · rename_i h3
          rw [if_neg h3] at h
          split
          · rfl
          · rename_i h4
            rw [if_neg h4] at h
            exact absurd rfl h
    unfold heldOf
    rw [h2]
    exact Nat.zero_le _
/-- What a place of a device holds. -/
def Dv.holds (d : Dv) (x : Int) (n : Nat) : Nat × List UInt8 := heldOf (d.bytes x n)
theorem best_places (d : Dv) (hd : d.Ok) (base : Int) (size : Nat) : bestBy size (d.bytes base (2 * size)) = bestOf (d.holds base size).1 (d.holds base size).2 (d.holds (base + size) size).1 (d.holds (base + size) size).2 := by
  have hl := Dv.bytes_len hd base size
  unfold bestBy Dv.holds
  rw [show 2 * size = size + size by omega, bytes_split, List.take_append_of_le_length (by omega), List.take_of_length_le (by omega), List.drop_append, List.drop_of_length_le (by omega), List.nil_append, hl, Nat.sub_self, List.drop_zero]

/-- Where the better one of two is not, there a greater one becomes the best, and none leaves it the best. -/
theorem best_put (n0 : Nat) (t0 : List UInt8) (n1 : Nat) (t1 : List UInt8) (N : Nat) (t : List UInt8) (h0 : n0 < N) (h1 : n1 < N) :
    ∃ f : Nat, (f = 0 ∨ f = 1) ∧ (f : Int) = (if (bestOf n0 t0 n1 t1).2.1 = 0 then 0 else 1 - (bestOf n0 t0 n1 t1).1)
    ∧ (f = 0 → bestOf N t n1 t1 = (0, N, t) ∧ (bestOf 0 [] n1 t1).2 = (bestOf n0 t0 n1 t1).2)
    ∧ (f = 1 → bestOf n0 t0 N t = (1, N, t) ∧ (bestOf n0 t0 0 []).2 = (bestOf n0 t0 n1 t1).2) := by
  unfold bestOf
  by_cases h : n0 < n1
  · refine ⟨0, .inl rfl, ?_, fun _ => ⟨?_, ?_⟩, fun h => absurd h (by decide)⟩
    · rw [if_pos h, if_neg (by dsimp only; omega)]; rfl
    · rw [if_neg (by omega), if_pos (by omega)]
    · rw [if_pos (by omega), if_pos h]
  · by_cases h2 : 0 < n0
    · refine ⟨1, .inr rfl, ?_, fun h => absurd h (by decide), fun _ => ⟨?_, ?_⟩⟩
      · rw [if_neg h, if_pos h2, if_neg (by dsimp only; omega)]; rfl
      · rw [if_pos (by omega)]
      · rw [if_neg (by omega), if_pos h2, if_neg h]
    · refine ⟨0, .inl rfl, ?_, fun _ => ⟨?_, ?_⟩, fun h => absurd h (by decide)⟩
      · rw [if_neg h, if_neg h2, if_pos rfl]; rfl
      · rw [if_neg (by omega), if_pos (by omega)]
      · rw [if_neg (by omega), if_neg (by omega), if_neg h, if_neg h2]

/-- A twin stands on a calm device. -/
structure Stands (base : Int) (size : Nat) (d : Dv) (t : Tv) : Prop where
  ok : d.Ok
  calm : d.ws = []
  tb : t.base = base
  ts : t.size = (size : Int)
  next : 0 < t.next
  ends : ∀ i, i < 2 * size → Ends (t.next - 1) (d.S (base + (i : Int)))
  best : (t.place, t.number, t.text) = bestBy size (d.bytes base (2 * size))
section
variable {base : Int} {size : Nat} {d : Dv} {t : Tv}
theorem Stands.num (h : Stands base size d t) (hs : 0 < size) : (d.holds base size).1 < t.next ∧ (d.holds (base + size) size).1 < t.next := by
  have key : ∀ k, k < 2 → (d.holds (base + ((k * size : Nat) : Int)) size).1 < t.next := fun k hk => by
    have hx := h.ends (k * size) (by rcases (show k = 0 ∨ k = 1 by omega) with rfl | rfl <;> omega)
    have hn := h.next
    unfold Dv.holds
    have e := first_ends (d.bytes (base + ((k * size : Nat) : Int)) size) (by rw [Dv.bytes_len h.ok]; omega)
    rw [sect_bytes d h.ok _ _ 0 hs, seen_calm d h.calm] at e
    rw [show base + ((k * size : Nat) : Int) + ((0 : Nat) : Int) = base + ((k * size : Nat) : Int) by omega] at e
    have := hx.2.1
    rcases held_num (d.bytes (base + ((k * size : Nat) : Int)) size) with h | h <;> omega
  have h0 := key 0 (by omega)
  have h1 := key 1 (by omega)
  rw [show base + ((0 * size : Nat) : Int) = base by omega] at h0
  rw [show base + ((1 * size : Nat) : Int) = base + size by omega] at h1
  exact ⟨h0, h1⟩
theorem Stands.is (h : Stands base size d t) : (t.place, t.number, t.text) = bestOf (d.holds base size).1 (d.holds base size).2 (d.holds (base + size) size).1 (d.holds (base + size) size).2 := h.best.trans (best_places d h.ok base size)
theorem Stands.text (h : Stands base size d t) : t.text.length ≤ 65536 ∧ t.number < t.next ∨ size = 0 := by
  rcases Nat.eq_zero_or_pos size with h0 | h0
  · exact .inr h0
  · left
    have hb := h.is
    have hn := h.num h0
    have hx := h.next
    have l0 := held_len (d.bytes base size)
    have l1 := held_len (d.bytes (base + size) size)
    unfold bestOf at hb
    split at hb
    · obtain ⟨_, hb2⟩ := Prod.mk.inj hb
      obtain ⟨hb2, hb3⟩ := Prod.mk.inj hb2
      rw [hb2, hb3]
      exact ⟨l1, hn.2⟩
    · split at hb
      · obtain ⟨_, hb2⟩ := Prod.mk.inj hb
        obtain ⟨hb2, hb3⟩ := Prod.mk.inj hb2
        rw [hb2, hb3]
        exact ⟨l0, hn.1⟩
      · obtain ⟨_, hb2⟩ := Prod.mk.inj hb
        obtain ⟨hb2, hb3⟩ := Prod.mk.inj hb2
        rw [hb2, hb3]
        exact ⟨Nat.zero_le _, hx⟩
/-- What is opened stands. -/
theorem stands_open (ho : d.Ok) (hw : d.ws = []) (N : Nat) (hN : N < 256) (he : ∀ i, i < 2 * size → Ends N (d.S (base + (i : Int)))) : Stands base size d (openTv base size (d.bytes base (2 * size))) ∧ (openTv base size (d.bytes base (2 * size))).next ≤ N + 1 := by
  have hsec : ∀ i, i < 2 * size → sect (d.bytes base (2 * size)) i = d.S (base + (i : Int)) := fun i hi => by rw [sect_bytes d ho _ _ i hi, seen_calm d hw]
  have hm := mostOf_le (d.bytes base (2 * size)) N (2 * size) (fun i hi => by rw [hsec i hi]; exact he i hi)
  have hmod : (mostOf (d.bytes base (2 * size)) (2 * size) + 1) % 18446744073709551616 = mostOf (d.bytes base (2 * size)) (2 * size) + 1 := Nat.mod_eq_of_lt (by omega)
  refine ⟨⟨ho, hw, rfl, rfl, ?_, fun i hi => ?_, rfl⟩, ?_⟩
  · show 0 < (mostOf _ _ + 1) % _
    rw [hmod]; omega
  · show Ends ((mostOf _ _ + 1) % _ - 1) _
    rw [hmod]
    have h1 := he i hi
    have h2 := mostOf_ge (d.bytes base (2 * size)) (2 * size) i hi
    rw [hsec i hi] at h2
    exact ⟨h1.1, by omega, h1.2.2⟩
  · show (mostOf _ _ + 1) % _ ≤ _
    rw [hmod]; omega
/-- What a save, of which so much came to be, makes of the places. -/
theorem stands_torn (h : Stands base size d t) (hs : 0 < size) (text : List UInt8) (ht : text.length ≤ 65536) (hK : sectorsOf text.length ≤ size) (hx : t.next < 256) (ns : Nat → Nat) (hns : ∀ i, ns i ≤ 64) (d' : Dv) (ho : d'.Ok) (hw : d'.ws = []) (hS : d'.S = torns (base + t.free * size) t.next text ns d.S) :
    (∀ i, i < 2 * size → Ends t.next (d'.S (base + (i : Int)))) ∧ (0 ≤ t.free ∧ t.free ≤ 1) ∧ (0 ≤ t.place ∧ t.place ≤ 1)
    ∧ ((bestBy size (d'.bytes base (2 * size))).2 = (t.number, t.text) ∨ bestBy size (d'.bytes base (2 * size)) = (t.free, t.next, text))
    ∧ (ns = (fun _ => 64) → bestBy size (d'.bytes base (2 * size)) = (t.free, t.next, text)) := by
  have hn := h.num hs
  have hb := h.is
  obtain ⟨f, hf, hfe, hf0, hf1⟩ := best_put (d.holds base size).1 (d.holds base size).2 (d.holds (base + size) size).1 (d.holds (base + size) size).2 t.next text hn.1 hn.2
  have hfree : t.free = (f : Int) := by
    unfold Tv.free
    rw [hfe, ← hb]
  have hpl : 0 ≤ t.place ∧ t.place ≤ 1 := by
    have e : t.place = (bestOf (d.holds base size).1 (d.holds base size).2 (d.holds (base + size) size).1 (d.holds (base + size) size).2).1 := by rw [← hb]
    rw [e]
    unfold bestOf
    split
    · exact (by decide : (0 : Int) ≤ 1 ∧ (1 : Int) ≤ 1)
    · split
      · exact (by decide : (0 : Int) ≤ 0 ∧ (0 : Int) ≤ 1)
      · exact (by decide : (0 : Int) ≤ 0 ∧ (0 : Int) ≤ 1)
  rw [← hb] at hf0 hf1
  have hx0 := h.next
  rw [hfree] at hS ⊢
  have hxe : base + (f : Int) * (size : Int) = base + ((f * size : Nat) : Int) := by simp
  rw [hxe] at hS
  have hfs : f * size = 0 ∨ f * size = size := by rcases hf with rfl | rfl <;> omega
  have hall : ∀ i, i < 2 * size → d'.S (base + (i : Int)) = if f * size ≤ i ∧ i < f * size + sectorsOf text.length then mix (ns (i - f * size)) (sec t.next (chunkOf text (i - f * size))) (d.S (base + (i : Int))) else d.S (base + (i : Int)) := fun i hi => by
    rw [hS]
    unfold torns
    by_cases hc : f * size ≤ i ∧ i < f * size + sectorsOf text.length
    · rw [if_pos hc, if_pos (by omega)]
      rw [show (base + (i : Int) - (base + ((f * size : Nat) : Int))).toNat = i - f * size by omega]
    · rw [if_neg hc, if_neg (by omega)]
  have hends : ∀ i, i < 2 * size → Ends t.next (d'.S (base + (i : Int))) := fun i hi => by
    rw [hall i hi]
    split
    · rename_i hc
      exact (mix_ends t.next _ text _ _ ht (by omega) (hns _) hx hx0 (h.ends i hi)).2
    · exact (h.ends i hi).mono (by omega)
  have hsec : ∀ (e : Dv), e.Ok → e.ws = [] → ∀ k i, i < size → sect (e.bytes (base + ((k * size : Nat) : Int)) size) i = e.S (base + ((k * size + i : Nat) : Int)) := fun e he hw k i hi => by
    rw [sect_bytes e he _ _ i hi, seen_calm e hw]
    congr 1
    omega
  -- the place that was written
  have hput : (readOf (d'.bytes (base + ((f * size : Nat) : Int)) size) = (t.next, text, 0) ∨ readOf (d'.bytes (base + ((f * size : Nat) : Int)) size) = readOf (d.bytes (base + ((f * size : Nat) : Int)) size) ∨ ((readOf (d'.bytes (base + ((f * size : Nat) : Int)) size)).1 = 0 ∧ (readOf (d'.bytes (base + ((f * size : Nat) : Int)) size)).2.1 = [])) := by
    refine place_torn _ _ size t.next text ns (Dv.bytes_len h.ok _ _) (Dv.bytes_len ho _ _) hK ht hx0 hx hns (fun i hi => ?_) (fun i hi => ?_)
    · rw [hsec d h.ok h.calm f i hi]
      exact h.ends _ (by omega)
    · rw [hsec d h.ok h.calm f i hi, hsec d' ho hw f i hi, hall _ (by omega)]
      rw [show f * size + i - f * size = i by omega]
      by_cases hc : i < sectorsOf text.length
      · rw [if_pos hc, if_pos (by omega)]
      · rw [if_neg hc, if_neg (by omega)]
  have hput2 : ns = (fun _ => 64) → readOf (d'.bytes (base + ((f * size : Nat) : Int)) size) = (t.next, text, 0) := fun hne => by
    refine read_secs t.next text _ ht (by omega) hx0 (by rw [Dv.bytes_len ho]; omega) (fun i hi => ?_)
    rw [hsec d' ho hw f i (by omega), hall _ (by omega), if_pos (by omega), hne, mix_all _ _ (sec_len (chunkOf_len text ht _ (by omega))) (h.ends _ (by omega)).1, show f * size + i - f * size = i by omega]
    rfl
  -- the other one
  have hother : d'.holds (base + (((1 - f) * size : Nat) : Int)) size = d.holds (base + (((1 - f) * size : Nat) : Int)) size := by
    unfold Dv.holds
    rw [bytes_same d d' _ _ (fun i hi => ?_)]
    rw [seen_calm d' hw, seen_calm d h.calm, show base + (((1 - f) * size : Nat) : Int) + (i : Int) = base + (((1 - f) * size + i : Nat) : Int) by omega, hall _ (by rcases hf with rfl | rfl <;> omega), if_neg (by rcases hf with rfl | rfl <;> omega)]
  rw [best_places d' ho]
  refine ⟨hends, by omega, hpl, ?_⟩
  rcases hf with rfl | rfl
  · rw [show base + ((0 * size : Nat) : Int) = base by omega] at hput hput2
    rw [show base + (((1 - 0) * size : Nat) : Int) = base + size by omega] at hother
    obtain ⟨g1, g2⟩ := hf0 rfl
    rw [hother]
    have hnew : readOf (d'.bytes base size) = (t.next, text, 0) → bestOf (d'.holds base size).1 (d'.holds base size).2 (d.holds (base + size) size).1 (d.holds (base + size) size).2 = (((0 : Nat) : Int), t.next, text) := fun e => by
      have e2 : d'.holds base size = (t.next, text) := by unfold Dv.holds heldOf; rw [e]
      rw [e2]
      exact g1
    refine ⟨?_, fun hne => hnew (hput2 hne)⟩
    rcases hput with e | e | ⟨e, e'⟩
    · exact .inr (hnew e)
    · left
      have e2 : d'.holds base size = d.holds base size := by unfold Dv.holds heldOf; rw [e]
      rw [e2, ← hb]
    · left
      have e2 : d'.holds base size = (0, []) := by unfold Dv.holds heldOf; rw [e, e']
      rw [e2]
      exact g2
  · rw [show base + ((1 * size : Nat) : Int) = base + size by omega] at hput hput2
    rw [show base + (((1 - 1) * size : Nat) : Int) = base by omega] at hother
    obtain ⟨g1, g2⟩ := hf1 rfl
    rw [hother]
    have hnew : readOf (d'.bytes (base + size) size) = (t.next, text, 0) → bestOf (d.holds base size).1 (d.holds base size).2 (d'.holds (base + size) size).1 (d'.holds (base + size) size).2 = (((1 : Nat) : Int), t.next, text) := fun e => by
      have e2 : d'.holds (base + size) size = (t.next, text) := by unfold Dv.holds heldOf; rw [e]
      rw [e2]
      exact g1
    refine ⟨?_, fun hne => hnew (hput2 hne)⟩
    rcases hput with e | e | ⟨e, e'⟩
    · exact .inr (hnew e)
    · left
      have e2 : d'.holds (base + size) size = d.holds (base + size) size := by unfold Dv.holds heldOf; rw [e]
      rw [e2, ← hb]
    · left
      have e2 : d'.holds (base + size) size = (0, []) := by unfold Dv.holds heldOf; rw [e, e']
      rw [e2]
      exact g2
/-- A save that is done. -/
theorem stands_save (h : Stands base size d t) (hd : d.down = false) (hs : 0 < size) (text : List UInt8) (ht : text.length ≤ 65536) (hK : sectorsOf text.length ≤ size) (hx : t.next < 256) (he : (d.save (t.base + t.free * t.size) t.next text).2 = 0) (ho : (d.save (t.base + t.free * t.size) t.next text).1.Ok) :
    Stands base size (d.save (t.base + t.free * t.size) t.next text).1 (t.after text 0) ∧ (d.save (t.base + t.free * t.size) t.next text).1.down = false := by
  rw [h.tb, h.ts] at he ho ⊢
  obtain ⟨h1, h2, h3, h4⟩ := Dv.save_done d hd h.calm _ _ text ht h.ok.S he
  obtain ⟨g1, g2, _, g3, g4⟩ := stands_torn h hs text ht hK hx (fun _ => 64) (fun _ => Nat.le_refl _) _ ho h1 h4
  have hmod : (t.next + 1) % 18446744073709551616 = t.next + 1 := Nat.mod_eq_of_lt (by omega)
  refine ⟨⟨ho, h1, h.tb, h.ts, ?_, fun i hi => ?_, ?_⟩, h2⟩
  · show 0 < (t.next + 1) % _
    rw [hmod]; omega
  · show Ends ((t.next + 1) % _ - 1) _
    rw [hmod]
    exact g1 i hi
  · show (t.free, t.next, text) = _
    exact (g4 rfl).symm
theorem torns_ok (d d' : Dv) (h : d.Ok) (x : Int) (m : Nat) (text : List UInt8) (ht : text.length ≤ 65536) (ns : Nat → Nat) (hns : ∀ i, ns i ≤ 64) (hn : d'.n = d.n) (hw : d'.ws = []) (hf : d'.fuse < 18446744073709551616) (hS : d'.S = torns x m text ns d.S) : d'.Ok := by
  refine ⟨by rw [hn]; exact h.n, fun y => ?_, (fun p hp => by rw [hw] at hp; cases hp), hf⟩
  rw [hS]
  unfold torns
  split
  · exact mix_len _ _ _ (hns _) (sec_len (chunkOf_len text ht _ (by omega))) (h.S y)
  · exact h.S y
/-- A save, and a crash. -/
theorem stands_crash (h : Stands base size d t) (hd : d.down = false) (hs : 0 < size) (text : List UInt8) (ht : text.length ≤ 65536) (hK : sectorsOf text.length ≤ size) (hx : t.next < 255) (ks : List Int) (d' : Dv) (hd' : d' = (d.save (t.base + t.free * t.size) t.next text).1.crash ks) :
    Stands base size d' (openTv base size (d'.bytes base (2 * size))) ∧ d'.down = false ∧ d'.fuse = 0 ∧ d'.n = d.n ∧ (openTv base size (d'.bytes base (2 * size))).next ≤ t.next + 1
    ∧ (((openTv base size (d'.bytes base (2 * size))).number = t.number ∧ (openTv base size (d'.bytes base (2 * size))).text = t.text) ∨ ((openTv base size (d'.bytes base (2 * size))).number = t.next ∧ (openTv base size (d'.bytes base (2 * size))).text = text))
    ∧ ((d.save (t.base + t.free * t.size) t.next text).2 = 0 → (openTv base size (d'.bytes base (2 * size))).number = t.next ∧ (openTv base size (d'.bytes base (2 * size))).text = text) := by
  rw [h.tb, h.ts] at hd' ⊢
  obtain ⟨ns, n1, n2, n3, n4, n5, n6, n7⟩ := Dv.save_crash d hd h.calm (base + t.free * size) t.next text ht h.ok.S ks
  rw [← hd'] at n3 n4 n5 n6 n7
  have ho := torns_ok d d' h.ok _ _ text ht ns n1 n6 n3 (by rw [n5]; decide) n7
  obtain ⟨g1, g2, _, g3, g4⟩ := stands_torn h hs text ht hK (by omega) ns n1 d' ho n3 n7
  obtain ⟨s1, s2⟩ := stands_open ho n3 t.next (by omega) g1
  refine ⟨s1, n4, n5, n6, s2, ?_, fun he => ?_⟩
  · rcases g3 with e | e
    · left
      exact Prod.mk.inj e
    · right
      exact Prod.mk.inj (Prod.mk.inj e).2
  · exact Prod.mk.inj (Prod.mk.inj (g4 (n2 he))).2
end
end Go.Proofs.YtgbbbemedncdoaaGreatDoor

namespace Go.Proofs.YtgbbbemedncdoaaGreatDoor
set_option maxRecDepth 20000
open Go.RowKit

def xT0 : Tv := openTv 1 2 ((Dv.new 9).bytes 1 4)
theorem xT0_is : xT0 = ⟨1, 2, 0, 0, [], 1⟩ := by kernel_rfl
def xT1 : Tv := ⟨1, 2, 0, 1, [97], 2⟩
def xT2 : Tv := ⟨1, 2, 1, 2, [98], 3⟩
def xT3 : Tv := ⟨1, 2, 0, 3, [99], 4⟩
def xD1 : Dv := ((Dv.new 9).save 1 1 [97]).1
theorem xD1_e : ((Dv.new 9).save 1 1 [97]).2 = 0 := by kernel_rfl
theorem xD1_d : xD1.down = false := by kernel_rfl
def xD2 : Dv := (xD1.save 3 2 [98]).1
theorem xD2_e : (xD1.save 3 2 [98]).2 = 0 := by kernel_rfl
def xD3 : Dv := (xD2.save 1 3 [99]).1
theorem xD3_e : (xD2.save 1 3 [99]).2 = 0 := by kernel_rfl
theorem xD3_d : xD3.down = false := by kernel_rfl
theorem xD3_n : xD3.n = 9 := by kernel_rfl
theorem xT_is : openTv 1 2 (xD3.bytes 1 4) = xT3 := by kernel_rfl

end Go.Proofs.YtgbbbemedncdoaaGreatDoor

namespace Go.Proofs.YtgbbbemedncdoaaGreatDoor
set_option maxRecDepth 20000
open Go.RowKit

/-- A twin on a device. -/
def Tl (w W : World) (B g T M : Nat) (d : Dv) (t : Tv) : Prop :=
  ∃ N : Nat → Prop, Own W B g N M d ∧ Tw W T (some ⟨g, 0, none⟩) t ∧ ¬ N T ∧ (∀ i, N i → w.heap.size ≤ i) ∧ w.heap.size ≤ T ∧ Below w.heap.size w W
/-- A device alone. -/
def Dl (w W : World) (B g M : Nat) (d : Dv) : Prop := ∃ N : Nat → Prop, Own W B g N M d ∧ (∀ i, N i → w.heap.size ≤ i) ∧ Below w.heap.size w W
section
variable {w W W' : World} {B g T M M' : Nat} {d : Dv} {t : Tv}
theorem Tl.dl (h : Tl w W B g T M d t) : Dl w W B g M d := by
  obtain ⟨N, h1, _, _, h4, _, h6⟩ := h
  exact ⟨N, h1, h4, h6⟩
theorem Tl.tw (h : Tl w W B g T M d t) : Tw W T (some ⟨g, 0, none⟩) t := by obtain ⟨N, _, h2, _⟩ := h; exact h2
theorem Tl.bel (h : Tl w W B g T M d t) : Below w.heap.size w W := by obtain ⟨N, _, _, _, _, _, h6⟩ := h; exact h6
theorem Dl.bel (h : Dl w W B g M d) : Below w.heap.size w W := by obtain ⟨N, _, _, h⟩ := h; exact h
theorem Dl.below (h : Dl w W B g M d) (hb : Below W.heap.size W W') : Dl w W' B g M d := by
  obtain ⟨N, h1, h4, h6⟩ := h
  exact ⟨N, h1.below hb, h4, h6.trans (hb.mono h6.size)⟩
theorem Tl.below (h : Tl w W B g T M d t) (hb : Below W.heap.size W W') : Tl w W' B g T M d t := by
  obtain ⟨N, h1, h2, h3, h4, h5, h6⟩ := h
  exact ⟨N, h1.below hb, h2.below hb, h3, h4, h5, h6.trans (hb.mono h6.size)⟩
theorem Dl.more (h : Dl w W B g M d) (hM : M ≤ M') : Dl w W B g M' d := by
  obtain ⟨N, h1, h4, h6⟩ := h
  exact ⟨N, h1.mono hM (fun i _ h => h), h4, h6⟩
/-- What a call of the device leaves. -/
theorem Dl.left {N : Nat → Prop} (h4 : ∀ i, N i → w.heap.size ≤ i) (h6 : Below w.heap.size w W) {d' : Dv} (h : Left W B g N M' d' W') : Dl w W' B g M' d' :=
  ⟨_, h.1, fun i hi => hi.elim (h4 i) (fun h => Nat.le_trans h6.size h), h6.trans (h.2.below h6.size h4)⟩
theorem Tl.left {N : Nat → Prop} (h2 : Tw W T (some ⟨g, 0, none⟩) t) (h3 : ¬ N T) (h4 : ∀ i, N i → w.heap.size ≤ i) (h5 : w.heap.size ≤ T) (h6 : Below w.heap.size w W) {d' : Dv} (h : Left W B g N M' d' W') : Tl w W' B g T M' d' t :=
  ⟨_, h.1, h.2.row h2 h3, fun hi => hi.elim h3 (fun h => by have := h2.lt; omega), fun i hi => hi.elim (h4 i) (fun h => Nat.le_trans h6.size h), h5, h6.trans (h.2.below h6.size h4)⟩

theorem dl_open (h : Dl w W B g M d) (hd : d.down = false) (base : Int) (size : Nat) (h1 : 1 ≤ size) (h2 : size ≤ 1000) (hb : 0 ≤ base) (hin : base + 2 * size ≤ d.n) :
    Calls Tryz.prog 33 #[.pointer (some ⟨g, 0, none⟩), .int .i64 base, .int .i64 (size : Int)] W fun e w' => ∃ T, e = .returned (.tuple #[.pointer (some ⟨T, 0, none⟩), .int .i64 0]) ∧ Tl w w' B g T M d (openTv base size (d.bytes base (2 * size))) := by
  obtain ⟨N, k1, k4, k6⟩ := h
  have hl := Dv.bytes_len k1.ok base (2 * size)
  have hr := own_read k1 hd base (2 * size) hb (by omega)
  rw [show 64 * (2 * size) = 128 * size by omega] at hr hl
  refine (twopen_ok ⟨g, 0, none⟩ base size (d.bytes base (2 * size)) h1 h2 hl hr).mono ?_
  rintro e w' ⟨T, rfl, hT, hTw, hbl⟩
  exact ⟨T, rfl, fun i => N i ∧ i < W.heap.size, (k1.mono (Nat.le_refl _) (fun i hi hn => ⟨hn, hi⟩)).below hbl, hTw, fun hi => by have := hi.2; omega, fun i hi => k4 i hi.1, Nat.le_trans k6.size hT, k6.trans (hbl.mono k6.size)⟩
theorem tl_save (h : Tl w W B g T M d t) (hM : M ≤ 90000)
    (A : Option Addr) (n c : Nat) (l : List UInt8) (hl : Rd W W.heap.size 1 A n c (u8s l)) (hn : n ≤ 3000) (hp0 : 0 ≤ t.place) (hp1 : t.place ≤ 1) (hb0 : 0 ≤ t.base) (hb1 : t.base ≤ 1000000) (hs0 : 0 ≤ t.size) (hs1 : t.size ≤ 1000)
    (hroom : n ≤ t.room) (hm0 : 0 < t.next) (hm : t.next < 18446744073709551616) (hin : t.base + 2 * t.size ≤ d.n) :
    Calls Tryz.prog 60 #[.pointer (some ⟨T, 0, none⟩), .slice A n c] W fun e w' => e = .returned (.int .i64 (d.save (t.base + t.free * t.size) t.next l).2)
      ∧ Tl w w' B g T (M + 80) (d.save (t.base + t.free * t.size) t.next l).1 (t.after l (d.save (t.base + t.free * t.size) t.next l).2) := by
  obtain ⟨N, k1, k2, k3, k4, k5, k6⟩ := h
  refine (twsave_ok k1 hM k2 k3 A n c l hl hn hp0 hp1 hb0 hb1 hs0 hs1 hroom hm0 hm hin).mono ?_
  rintro e w' ⟨rfl, hO, hT, hK⟩
  exact ⟨rfl, _, hO, hT, fun hi => hi.elim k3 (fun h => by have := k2.lt; omega), fun i hi => hi.elim (k4 i) (fun h => Nat.le_trans k6.size h), k5, k6.trans (hK.below k6.size (fun i hi => hi.elim (k4 i) (fun h => h ▸ k5)))⟩
theorem tl_fuse (h : Tl w W B g T M d t) (n : Int) (hn : Key n) :
    Calls Tryz.prog 15 #[.pointer (some ⟨g, 0, none⟩), .int .i64 n] W fun e w' => e = .returned (.tuple #[]) ∧ Tl w w' B g T M (d.fused n) t := by
  obtain ⟨N, k1, k2, k3, k4, k5, k6⟩ := h
  refine (own_fuse k1 n hn).mono ?_
  rintro e w' ⟨rfl, hL⟩
  exact ⟨rfl, Tl.left k2 k3 k4 k5 k6 hL⟩
theorem dl_crash (h : Dl w W B g M d) (hM : M ≤ 100000) (A : Option Addr) (n c : Nat) (ks : List Int) (hl : Rd W w.heap.size 1 A n c (ks.map (Value.int .i64))) (hn : n ≤ 1000000) :
    Calls Tryz.prog 16 #[.pointer (some ⟨g, 0, none⟩), .slice A n c] W fun e w' => e = .returned (.tuple #[]) ∧ Dl w w' B g (M + 16) (d.crash ks) := by
  obtain ⟨N, k1, k4, k6⟩ := h
  refine (own_crash k1 hM A n c ks (hl.more k6.size) hn (fun h0 b o e hb => ?_)).mono ?_
  · obtain ⟨b', o', e', hb', _⟩ := hl.2.2.2 h0
    rw [e] at e'
    cases e'
    have := k4 _ hb
    omega
  · rintro e w' ⟨rfl, hL⟩
    exact ⟨rfl, Dl.left k4 k6 hL⟩
end

end Go.Proofs.YtgbbbemedncdoaaGreatDoor
