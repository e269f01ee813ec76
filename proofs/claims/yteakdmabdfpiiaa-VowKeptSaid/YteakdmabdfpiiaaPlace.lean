/- What a place tells when beginnings of a frame's sectors alone came to be over what stood there, while all numbers are small. -/
import Derived.Test.YteakdmabdfpiiaaFtornZ
namespace Go.Proofs.Yteakdmabdfpiiaa
set_option maxRecDepth 20000
open Go.RowKit

theorem le8_small {m : Nat} (h : m < 256) : le 8 m = UInt8.ofNat m :: List.replicate 7 0 := by
  have h0 : m / 256 = 0 := Nat.div_eq_of_lt h
  have hm : m % 256 = m := Nat.mod_eq_of_lt h
  show UInt8.ofNat (m % 256) :: le 7 (m / 256) = _
  rw [hm, h0]
  rfl
theorem head_small {s : List UInt8} (hs : s.length = 64) (h : headsOf s < 256) : s.take 7 = List.replicate 7 0 := by
  have e := head_bytes s (by omega)
  rw [headB, le8_small h] at e
  have e2 : s.take 7 = (s.take 8).take 7 := by rw [List.take_take]; rfl
  rw [e2, e]
  rfl
theorem tail_small {s : List UInt8} (hs : s.length = 64) (h : tailsOf s < 256) : s.drop 57 = List.replicate 7 0 := by
  have e := tail_bytes s hs
  rw [le8_small h] at e
  have e2 : s.drop 57 = (s.drop 56).drop 1 := by rw [List.drop_drop]
  rw [e2, e]
  rfl
/-- A sector of which a beginning came to be is the new one, the old one, or its ends differ. -/
theorem mix_small (n : Nat) (new old : List UInt8) (N : Nat) (hn : n ≤ 64) (h1 : new.length = 64) (h2 : old.length = 64) (hN : headsOf new = N ∧ tailsOf new = N) (hN2 : N < 256) (ho : headsOf old < 256) (ho2 : tailsOf old < 256) :
    mix n new old = new ∨ mix n new old = old ∨ (headsOf (mix n new old) = N ∧ tailsOf (mix n new old) = tailsOf old) := by
  have hl := mix_len n new old hn h1 h2
  rcases Nat.lt_or_ge n 8 with h8 | h8
  · right; left
    have e1 : new.take n = (new.take 7).take n := by rw [List.take_take, Nat.min_eq_left (by omega)]
    have e2 : old.take n = (old.take 7).take n := by rw [List.take_take, Nat.min_eq_left (by omega)]
    rw [mix, e1, head_small h1 (by omega), ← head_small h2 ho, ← e2, List.take_append_drop]
  · rcases Nat.lt_or_ge 56 n with h5 | h5
    · left
      have e1 : new.drop n = (new.drop 57).drop (n - 57) := by rw [List.drop_drop]; congr 1; omega
      have e2 : old.drop n = (old.drop 57).drop (n - 57) := by rw [List.drop_drop]; congr 1; omega
      rw [mix, e2, tail_small h2 ho2, ← tail_small h1 (by omega), ← e1, List.take_append_drop]
    · right; right
      refine ⟨?_, ?_⟩
      · rw [heads_of _ (by omega), mix_lo n 8 new old h8 (by omega), ← heads_of _ (by omega), hN.1]
      · rw [tails_of _ hl, mix_hi n 56 new old h5 (by omega), ← tails_of _ h2]

theorem errAt_same (L L' : List UInt8) (m k : Nat) (h : ∀ i, i < k → sect L' i = sect L i) : errAt L' m k = errAt L m k := by
  induction k with
  | zero => rfl
  | succ k ih => rw [errAt, errAt, ih (fun i hi => h i (by omega)), h k (by omega)]
theorem pieces_same (L L' : List UInt8) (k : Nat) (h : ∀ i, i < k → sect L' i = sect L i) : pieces L' k = pieces L k := by
  induction k with
  | zero => rfl
  | succ k ih => rw [pieces, pieces, ih (fun i hi => h i (by omega)), piece, piece, h k (by omega)]
/-- A frame stands in its sectors alone. -/
theorem read_same (L L' : List UInt8) (h64 : 64 ≤ L.length) (hl : L'.length = L.length) (h0 : sect L' 0 = sect L 0) (h : ∀ i, i < sectorsOf (sizeOf L).1 → sect L' i = sect L i) : readOf L' = readOf L := by
  have e1 := first_ends L h64
  have e2 := first_ends L' (by omega)
  rw [h0, ← e1.1, ← e1.2] at e2
  have hsz : sizeOf L' = sizeOf L := by
    unfold sizeOf wrongOf
    rw [first_size L', first_size L, piece, piece, h0, e2.1, e2.2, hl]
  have hj : joinedOf L' (sectorsOf (sizeOf L).1) (headsOf L) = joinedOf L (sectorsOf (sizeOf L).1) (headsOf L) := by
    unfold joinedOf
    rw [errAt_same L L' _ _ h, pieces_same L L' _ h, hl]
  unfold readOf
  rw [hsz, e2.1, hj]
/-- Nothing is read where one of a frame's sectors is of another number. -/
theorem read_other (L : List UInt8) (i : Nat) (hi : i < sectorsOf (sizeOf L).1) (h : headsOf (sect L i) ≠ headsOf L) : (readOf L).1 = 0 ∧ (readOf L).2.1 = [] := by
  unfold readOf
  split
  · exact ⟨rfl, rfl⟩
  · have hj : (joinedOf L (sectorsOf (sizeOf L).1) (headsOf L)).2 ≠ 0 := by
      unfold joinedOf
      split
      · decide
      · split
        · assumption
        · rename_i h2
          have h3 := errAt_all L (headsOf L) _ (Decidable.not_not.1 h2) i hi
          exact absurd (wrong_zero _ _ h3).1 h
    rw [if_pos hj]
    exact ⟨rfl, rfl⟩
theorem read_ends (L : List UInt8) (h64 : 64 ≤ L.length) (h : headsOf (sect L 0) ≠ tailsOf (sect L 0)) : (readOf L).1 = 0 ∧ (readOf L).2.1 = [] := by
  have e := first_ends L h64
  rw [read_first L h64 13 (by unfold wrongOf; rw [if_pos (.inl (by rw [e.1, e.2]; exact h))]) (by decide)]
  exact ⟨rfl, rfl⟩

/-- The chunk number i of a frame's body. -/
def chunkOf (text : List UInt8) (i : Nat) : List UInt8 := ((bodyOf text (sectorsOf text.length)).drop (48 * i)).take 48
theorem chunkOf_len (text : List UInt8) (ht : text.length ≤ 65536) (i : Nat) (hi : i < sectorsOf text.length) : (chunkOf text i).length = 48 := by
  have hk2 := sectorsOf_at _ ht
  have hbl := bodyOf_len text (sectorsOf (text.length : Int)) (by omega)
  exact chunk_len _ i _ hi (by omega)
/-- Each sector is told by numbers below n, the one at the tail is not above the one at the head. -/
def Ends (n : Nat) (s : List UInt8) : Prop := s.length = 64 ∧ headsOf s ≤ n ∧ tailsOf s ≤ headsOf s
theorem Ends.mono {n m : Nat} {s : List UInt8} (h : Ends n s) (hm : n ≤ m) : Ends m s := ⟨h.1, Nat.le_trans h.2.1 hm, h.2.2⟩
theorem ends_Z : Ends 0 (List.replicate 64 0) := ⟨List.length_replicate, Nat.le_of_eq zeros_ends.1, Nat.le_of_eq (zeros_ends.2.trans zeros_ends.1.symm)⟩
/-- A sector of a frame N of which a beginning came to be over a lesser one. -/
theorem mix_ends (N n : Nat) (text old : List UInt8) (i : Nat) (ht : text.length ≤ 65536) (hi : i < sectorsOf text.length) (hn : n ≤ 64) (hN : N < 256) (hN0 : 0 < N) (ho : Ends (N - 1) old) :
    (mix n (sec N (chunkOf text i)) old = sec N (chunkOf text i) ∨ mix n (sec N (chunkOf text i)) old = old ∨ (headsOf (mix n (sec N (chunkOf text i)) old) = N ∧ tailsOf (mix n (sec N (chunkOf text i)) old) < N)) ∧ Ends N (mix n (sec N (chunkOf text i)) old) := by
  have hpl := chunkOf_len text ht i hi
  have hse := sec_ends (m := N) hpl (by omega)
  have hsl := sec_len (m := N) hpl
  obtain ⟨o1, o2, o3⟩ := ho
  have hl := mix_len n (sec N (chunkOf text i)) old hn hsl o1
  rcases mix_small n _ old N hn hsl o1 hse hN (by omega) (by omega) with e | e | ⟨e1, e2⟩
  · exact ⟨.inl e, by rw [e]; exact ⟨hsl, by omega, by omega⟩⟩
  · exact ⟨.inr (.inl e), by rw [e]; exact ⟨o1, by omega, o3⟩⟩
  · exact ⟨.inr (.inr ⟨e1, by omega⟩), hl, by omega, by omega⟩
theorem place_torn (L L' : List UInt8) (q N : Nat) (text : List UInt8) (ns : Nat → Nat) (hL : L.length = 64 * q) (hL' : L'.length = 64 * q) (hK : sectorsOf text.length ≤ q) (ht : text.length ≤ 65536) (hN0 : 0 < N) (hN : N < 256) (hns : ∀ i, ns i ≤ 64)
    (ho : ∀ i, i < q → Ends (N - 1) (sect L i)) (hnew : ∀ i, i < q → sect L' i = if i < sectorsOf text.length then mix (ns i) (sec N (chunkOf text i)) (sect L i) else sect L i) :
    readOf L' = (N, text, 0) ∨ readOf L' = readOf L ∨ ((readOf L').1 = 0 ∧ (readOf L').2.1 = []) := by
  obtain ⟨K, hKe⟩ : ∃ k, k = sectorsOf (text.length : Int) := ⟨_, rfl⟩
  have hK2 : K = (text.length + 55) / 48 := hKe.trans (sectorsOf_at _ ht)
  rw [← hKe] at hK hnew
  have hL64 : 64 ≤ L.length := by omega
  have key : ∀ i, i < q → (i < K ∧ sect L' i = sec N (chunkOf text i)) ∨ sect L' i = sect L i ∨ (headsOf (sect L' i) = N ∧ tailsOf (sect L' i) < N) := by
    intro i hi
    rw [hnew i hi]
    by_cases hk : i < K
    · rw [if_pos hk]
      rcases (mix_ends N (ns i) text (sect L i) i ht (by omega) (hns i) hN hN0 (ho i hi)).1 with e | e | e
      · exact .inl ⟨hk, e⟩
      · exact .inr (.inl e)
      · exact .inr (.inr e)
    · rw [if_neg hk]
      exact .inr (.inl rfl)
  have hsN : ∀ i, i < K → headsOf (sec N (chunkOf text i)) = N := fun i hi => (sec_ends (chunkOf_len text ht i (by omega)) (by omega)).1
  have e' := first_ends L' (by omega)
  rcases key 0 (by omega) with ⟨hk0, e0⟩ | e0 | ⟨e1, e2⟩
  · -- the new one, or nothing
    by_cases hall : ∀ i, i < K → sect L' i = sec N (chunkOf text i)
    · left
      exact read_secs N text L' ht (by omega) hN0 (by rw [← hKe]; omega) (fun i hi => hall i (by omega))
    · right; right
      obtain ⟨j, hj⟩ := Classical.not_forall.1 hall
      obtain ⟨hjK, hj⟩ := Classical.not_imp.1 hj
      have hh : headsOf L' = N := by rw [e'.1, e0, hsN 0 hk0]
      have hjne : headsOf (sect L' j) ≠ N ∨ tailsOf (sect L' j) ≠ N := by
        rcases key j (by omega) with ⟨_, e⟩ | e | ⟨_, e⟩
        · exact absurd e hj
        · left
          rw [e]
          have := (ho j (by omega)).2.1
          omega
        · exact .inr (by omega)
      -- the size is the text's
      have hpl := chunkOf_len text ht 0 (by omega)
      have hsn : sizeNum L' = text.length := by
        rw [first_size, piece, e0, sec_piece hpl, chunkOf, ← hKe, Nat.mul_zero, List.drop_zero, List.take_take, Nat.min_eq_left (by omega), bodyOf, sealOf, List.append_assoc, List.append_assoc, List.take_append_of_le_length (by rw [le_len]; exact Nat.le_refl _), List.take_of_length_le (by rw [le_len]; exact Nat.le_refl _), unle_le]
        exact Nat.mod_eq_of_lt (by omega)
      have hsz : (sizeOf L').1 = text.length ∨ (sizeOf L').2 ≠ 0 := by
        unfold sizeOf
        split
        · exact .inr (by decide)
        · split
          · right; assumption
          · split
            · exact .inr (by decide)
            · exact .inl hsn
      rcases hsz with hsz | hsz
      · unfold readOf
        split
        · exact ⟨rfl, rfl⟩
        · rw [hsz, ← hKe, hh]
          have hj2 : (joinedOf L' K N).2 ≠ 0 := by
            unfold joinedOf
            split
            · decide
            · split
              · assumption
              · rename_i h2
                have h3 := wrong_zero _ _ (errAt_all L' N K (Decidable.not_not.1 h2) j hjK)
                rcases hjne with h | h
                · exact absurd h3.1 h
                · exact absurd h3.2.1 h
          rw [if_pos hj2]
          exact ⟨rfl, rfl⟩
      · unfold readOf
        rw [if_pos hsz]
        exact ⟨rfl, rfl⟩
  · -- the old one, or nothing
    have e := first_ends L hL64
    have hhe : headsOf L' = headsOf L := by rw [e'.1, e0, ← e.1]
    have hhN : headsOf L < N := by rw [e.1]; have := (ho 0 (by omega)).2.1; omega
    have hs1 : (sizeOf L').1 = (sizeOf L).1 := by
      have e2 := e'.2
      rw [e0, ← e.2] at e2
      unfold sizeOf wrongOf
      rw [first_size L', first_size L, piece, piece, e0, hhe, e2, hL', hL]
    right
    by_cases hall : ∀ i, i < sectorsOf (sizeOf L).1 → sect L' i = sect L i
    · exact .inl (read_same L L' hL64 (by omega) e0 hall)
    · right
      obtain ⟨j, hj⟩ := Classical.not_forall.1 hall
      obtain ⟨hjK, hj⟩ := Classical.not_imp.1 hj
      refine read_other L' j (by rw [hs1]; exact hjK) ?_
      rcases Nat.lt_or_ge j q with hq | hq
      · rcases key j hq with ⟨hk, e⟩ | e | ⟨e, _⟩
        · rw [e, hsN j hk, hhe]; omega
        · exact absurd e hj
        · rw [e, hhe]; omega
      · exact absurd (by rw [sect, sect, List.drop_of_length_le (by omega), List.drop_of_length_le (by omega)]) hj
  · right; right
    exact read_ends L' (by omega) (by omega)
end Go.Proofs.Yteakdmabdfpiiaa
