/- A twin stands on a calm device: behind each save, and each crash in one, what was saved last is what it was, or what was to be saved. -/
import Derived.Test.YteakdmabdfpiiaaSafe
namespace Go.Proofs.Yteakdmabdfpiiaa
set_option maxRecDepth 20000
open Go.RowKit

theorem bytes_split (d : Dv) (x : Int) (a b : Nat) : d.bytes x (a + b) = d.bytes x a ++ d.bytes (x + a) b := by
  induction b with
  | zero => rw [Nat.add_zero, Dv.bytes, List.append_nil]
  | succ b ih =>
    rw [← Nat.add_assoc, Dv.bytes, Dv.bytes, ih, List.append_assoc, show x + ((a + b : Nat) : Int) = x + (a : Int) + (b : Int) from by omega]
theorem bytes_same (d d' : Dv) (x : Int) (n : Nat) (h : ∀ i, i < n → d'.seen (x + (i : Int)) = d.seen (x + (i : Int))) : d'.bytes x n = d.bytes x n := by
  induction n with
  | zero => rfl
  | succ n ih => rw [Dv.bytes, Dv.bytes, ih (fun i hi => h i (by omega)), h n (by omega)]
theorem sect_bytes (d : Dv) (hd : d.Ok) (x : Int) (n i : Nat) (hi : i < n) : sect (d.bytes x n) i = d.seen (x + (i : Int)) := by
  induction n with
  | zero => omega
  | succ n ih =>
    have hl := Dv.bytes_len hd x n
    have hs := Dv.seen_len hd (x + (n : Int))
    rw [Dv.bytes, sect]
    rcases Nat.lt_or_ge i n with h | h
    · have ih := ih h
      rw [sect] at ih
      rw [List.drop_append_of_le_length (by omega), List.take_append_of_le_length (by rw [List.length_drop]; omega), ih]
    · obtain rfl : i = n := by omega
      rw [List.drop_append, List.drop_of_length_le (by omega), List.nil_append, hl, Nat.sub_self, List.drop_zero, List.take_of_length_le (by omega)]
theorem seen_calm (d : Dv) (h : d.ws = []) (y : Int) : d.seen y = d.S y := by
  unfold Dv.seen
  rw [h]
  rfl
theorem mostOf_le (l : List UInt8) (n k : Nat) (h : ∀ i, i < k → Ends n (sect l i)) : mostOf l k ≤ n := by
  induction k with
  | zero => exact Nat.zero_le _
  | succ k ih =>
    have h1 := ih (fun i hi => h i (by omega))
    have h2 := h k (by omega)
    have := h2.2.1
    have := h2.2.2
    rw [mostOf]
    omega
theorem mostOf_ge (l : List UInt8) (k i : Nat) (hi : i < k) : headsOf (sect l i) ≤ mostOf l k := by
  induction k with
  | zero => omega
  | succ k ih =>
    rw [mostOf]
    rcases Nat.lt_or_ge i k with h | h
    · have := ih h
      omega
    · obtain rfl : i = k := by omega
      omega
theorem held_num (L : List UInt8) : (heldOf L).1 = 0 ∨ (heldOf L).1 = headsOf L := by
  unfold heldOf readOf
  split
  · exact .inl rfl
  · split
    · exact .inl rfl
    · split
      · exact .inl rfl
      · exact .inr rfl
theorem held_len (L : List UInt8) : (heldOf L).2.length ≤ 65536 := by
  by_cases h : (readOf L).2.2 = 0
  · have := read_back L (readOf L).2.1 (readOf L).1 (by rw [← h])
    exact this.2.2.1
  · have h2 : (readOf L).2.1 = [] := by
      unfold readOf at h ⊢
      split
      · rfl
      · rename_i h1
        rw [if_neg h1] at h
        split
        · rfl
        · rename_i h3
          rw [if_neg h3] at h
          split
          · rfl
          · rename_i h4
            rw [if_neg h4] at h
            exact absurd rfl h
    unfold heldOf
    rw [h2]
    exact Nat.zero_le _
/-- What a place of a device holds. -/
def Dv.holds (d : Dv) (x : Int) (n : Nat) : Nat × List UInt8 := heldOf (d.bytes x n)
theorem best_places (d : Dv) (hd : d.Ok) (base : Int) (size : Nat) : bestBy size (d.bytes base (2 * size)) = bestOf (d.holds base size).1 (d.holds base size).2 (d.holds (base + size) size).1 (d.holds (base + size) size).2 := by
  have hl := Dv.bytes_len hd base size
  unfold bestBy Dv.holds
  rw [show 2 * size = size + size by omega, bytes_split, List.take_append_of_le_length (by omega), List.take_of_length_le (by omega), List.drop_append, List.drop_of_length_le (by omega), List.nil_append, hl, Nat.sub_self, List.drop_zero]

/-- Where the better one of two is not, there a greater one becomes the best, and none leaves it the best. -/
theorem best_put (n0 : Nat) (t0 : List UInt8) (n1 : Nat) (t1 : List UInt8) (N : Nat) (t : List UInt8) (h0 : n0 < N) (h1 : n1 < N) :
    ∃ f : Nat, (f = 0 ∨ f = 1) ∧ (f : Int) = (if (bestOf n0 t0 n1 t1).2.1 = 0 then 0 else 1 - (bestOf n0 t0 n1 t1).1)
    ∧ (f = 0 → bestOf N t n1 t1 = (0, N, t) ∧ (bestOf 0 [] n1 t1).2 = (bestOf n0 t0 n1 t1).2)
    ∧ (f = 1 → bestOf n0 t0 N t = (1, N, t) ∧ (bestOf n0 t0 0 []).2 = (bestOf n0 t0 n1 t1).2) := by
  unfold bestOf
  by_cases h : n0 < n1
  · refine ⟨0, .inl rfl, ?_, fun _ => ⟨?_, ?_⟩, fun h => absurd h (by decide)⟩
    · rw [if_pos h, if_neg (by dsimp only; omega)]; rfl
    · rw [if_neg (by omega), if_pos (by omega)]
    · rw [if_pos (by omega), if_pos h]
  · by_cases h2 : 0 < n0
    · refine ⟨1, .inr rfl, ?_, fun h => absurd h (by decide), fun _ => ⟨?_, ?_⟩⟩
      · rw [if_neg h, if_pos h2, if_neg (by dsimp only; omega)]; rfl
      · rw [if_pos (by omega)]
      · rw [if_neg (by omega), if_pos h2, if_neg h]
    · refine ⟨0, .inl rfl, ?_, fun _ => ⟨?_, ?_⟩, fun h => absurd h (by decide)⟩
      · rw [if_neg h, if_neg h2, if_pos rfl]; rfl
      · rw [if_neg (by omega), if_pos (by omega)]
      · rw [if_neg (by omega), if_neg (by omega), if_neg h, if_neg h2]

/-- A twin stands on a calm device. -/
structure Stands (base : Int) (size : Nat) (d : Dv) (t : Tv) : Prop where
  ok : d.Ok
  calm : d.ws = []
  tb : t.base = base
  ts : t.size = (size : Int)
  next : 0 < t.next
  ends : ∀ i, i < 2 * size → Ends (t.next - 1) (d.S (base + (i : Int)))
  best : (t.place, t.number, t.text) = bestBy size (d.bytes base (2 * size))
section
variable {base : Int} {size : Nat} {d : Dv} {t : Tv}
theorem Stands.num (h : Stands base size d t) (hs : 0 < size) : (d.holds base size).1 < t.next ∧ (d.holds (base + size) size).1 < t.next := by
  have key : ∀ k, k < 2 → (d.holds (base + ((k * size : Nat) : Int)) size).1 < t.next := fun k hk => by
    have hx := h.ends (k * size) (by rcases (show k = 0 ∨ k = 1 by omega) with rfl | rfl <;> omega)
    have hn := h.next
    unfold Dv.holds
    have e := first_ends (d.bytes (base + ((k * size : Nat) : Int)) size) (by rw [Dv.bytes_len h.ok]; omega)
    rw [sect_bytes d h.ok _ _ 0 hs, seen_calm d h.calm] at e
    rw [show base + ((k * size : Nat) : Int) + ((0 : Nat) : Int) = base + ((k * size : Nat) : Int) by omega] at e
    have := hx.2.1
    rcases held_num (d.bytes (base + ((k * size : Nat) : Int)) size) with h | h <;> omega
  have h0 := key 0 (by omega)
  have h1 := key 1 (by omega)
  rw [show base + ((0 * size : Nat) : Int) = base by omega] at h0
  rw [show base + ((1 * size : Nat) : Int) = base + size by omega] at h1
  exact ⟨h0, h1⟩
theorem Stands.is (h : Stands base size d t) : (t.place, t.number, t.text) = bestOf (d.holds base size).1 (d.holds base size).2 (d.holds (base + size) size).1 (d.holds (base + size) size).2 := h.best.trans (best_places d h.ok base size)
theorem Stands.text (h : Stands base size d t) : t.text.length ≤ 65536 ∧ t.number < t.next ∨ size = 0 := by
  rcases Nat.eq_zero_or_pos size with h0 | h0
  · exact .inr h0
  · left
    have hb := h.is
    have hn := h.num h0
    have hx := h.next
    have l0 := held_len (d.bytes base size)
    have l1 := held_len (d.bytes (base + size) size)
    unfold bestOf at hb
    split at hb
    · obtain ⟨_, hb2⟩ := Prod.mk.inj hb
      obtain ⟨hb2, hb3⟩ := Prod.mk.inj hb2
      rw [hb2, hb3]
      exact ⟨l1, hn.2⟩
    · split at hb
      · obtain ⟨_, hb2⟩ := Prod.mk.inj hb
        obtain ⟨hb2, hb3⟩ := Prod.mk.inj hb2
        rw [hb2, hb3]
        exact ⟨l0, hn.1⟩
      · obtain ⟨_, hb2⟩ := Prod.mk.inj hb
        obtain ⟨hb2, hb3⟩ := Prod.mk.inj hb2
        rw [hb2, hb3]
        exact ⟨Nat.zero_le _, hx⟩
/-- What is opened stands. -/
theorem stands_open (ho : d.Ok) (hw : d.ws = []) (N : Nat) (hN : N < 256) (he : ∀ i, i < 2 * size → Ends N (d.S (base + (i : Int)))) : Stands base size d (openTv base size (d.bytes base (2 * size))) ∧ (openTv base size (d.bytes base (2 * size))).next ≤ N + 1 := by
  have hsec : ∀ i, i < 2 * size → sect (d.bytes base (2 * size)) i = d.S (base + (i : Int)) := fun i hi => by rw [sect_bytes d ho _ _ i hi, seen_calm d hw]
  have hm := mostOf_le (d.bytes base (2 * size)) N (2 * size) (fun i hi => by rw [hsec i hi]; exact he i hi)
  have hmod : (mostOf (d.bytes base (2 * size)) (2 * size) + 1) % 18446744073709551616 = mostOf (d.bytes base (2 * size)) (2 * size) + 1 := Nat.mod_eq_of_lt (by omega)
  refine ⟨⟨ho, hw, rfl, rfl, ?_, fun i hi => ?_, rfl⟩, ?_⟩
  · show 0 < (mostOf _ _ + 1) % _
    rw [hmod]; omega
  · show Ends ((mostOf _ _ + 1) % _ - 1) _
    rw [hmod]
    have h1 := he i hi
    have h2 := mostOf_ge (d.bytes base (2 * size)) (2 * size) i hi
    rw [hsec i hi] at h2
    exact ⟨h1.1, by omega, h1.2.2⟩
  · show (mostOf _ _ + 1) % _ ≤ _
    rw [hmod]; omega
/-- What a save, of which so much came to be, makes of the places. -/
theorem stands_torn (h : Stands base size d t) (hs : 0 < size) (text : List UInt8) (ht : text.length ≤ 65536) (hK : sectorsOf text.length ≤ size) (hx : t.next < 256) (ns : Nat → Nat) (hns : ∀ i, ns i ≤ 64) (d' : Dv) (ho : d'.Ok) (hw : d'.ws = []) (hS : d'.S = torns (base + t.free * size) t.next text ns d.S) :
    (∀ i, i < 2 * size → Ends t.next (d'.S (base + (i : Int)))) ∧ (0 ≤ t.free ∧ t.free ≤ 1) ∧ (0 ≤ t.place ∧ t.place ≤ 1)
    ∧ ((bestBy size (d'.bytes base (2 * size))).2 = (t.number, t.text) ∨ bestBy size (d'.bytes base (2 * size)) = (t.free, t.next, text))
    ∧ (ns = (fun _ => 64) → bestBy size (d'.bytes base (2 * size)) = (t.free, t.next, text)) := by
  have hn := h.num hs
  have hb := h.is
  obtain ⟨f, hf, hfe, hf0, hf1⟩ := best_put (d.holds base size).1 (d.holds base size).2 (d.holds (base + size) size).1 (d.holds (base + size) size).2 t.next text hn.1 hn.2
  have hfree : t.free = (f : Int) := by
    unfold Tv.free
    rw [hfe, ← hb]
  have hpl : 0 ≤ t.place ∧ t.place ≤ 1 := by
    have e : t.place = (bestOf (d.holds base size).1 (d.holds base size).2 (d.holds (base + size) size).1 (d.holds (base + size) size).2).1 := by rw [← hb]
    rw [e]
    unfold bestOf
    split
    · exact (by decide : (0 : Int) ≤ 1 ∧ (1 : Int) ≤ 1)
    · split
      · exact (by decide : (0 : Int) ≤ 0 ∧ (0 : Int) ≤ 1)
      · exact (by decide : (0 : Int) ≤ 0 ∧ (0 : Int) ≤ 1)
  rw [← hb] at hf0 hf1
  have hx0 := h.next
  rw [hfree] at hS ⊢
  have hxe : base + (f : Int) * (size : Int) = base + ((f * size : Nat) : Int) := by simp
  rw [hxe] at hS
  have hfs : f * size = 0 ∨ f * size = size := by rcases hf with rfl | rfl <;> omega
  have hall : ∀ i, i < 2 * size → d'.S (base + (i : Int)) = if f * size ≤ i ∧ i < f * size + sectorsOf text.length then mix (ns (i - f * size)) (sec t.next (chunkOf text (i - f * size))) (d.S (base + (i : Int))) else d.S (base + (i : Int)) := fun i hi => by
    rw [hS]
    unfold torns
    by_cases hc : f * size ≤ i ∧ i < f * size + sectorsOf text.length
    · rw [if_pos hc, if_pos (by omega)]
      rw [show (base + (i : Int) - (base + ((f * size : Nat) : Int))).toNat = i - f * size by omega]
    · rw [if_neg hc, if_neg (by omega)]
  have hends : ∀ i, i < 2 * size → Ends t.next (d'.S (base + (i : Int))) := fun i hi => by
    rw [hall i hi]
    split
    · rename_i hc
      exact (mix_ends t.next _ text _ _ ht (by omega) (hns _) hx hx0 (h.ends i hi)).2
    · exact (h.ends i hi).mono (by omega)
  have hsec : ∀ (e : Dv), e.Ok → e.ws = [] → ∀ k i, i < size → sect (e.bytes (base + ((k * size : Nat) : Int)) size) i = e.S (base + ((k * size + i : Nat) : Int)) := fun e he hw k i hi => by
    rw [sect_bytes e he _ _ i hi, seen_calm e hw]
    congr 1
    omega
  -- the place that was written
  have hput : (readOf (d'.bytes (base + ((f * size : Nat) : Int)) size) = (t.next, text, 0) ∨ readOf (d'.bytes (base + ((f * size : Nat) : Int)) size) = readOf (d.bytes (base + ((f * size : Nat) : Int)) size) ∨ ((readOf (d'.bytes (base + ((f * size : Nat) : Int)) size)).1 = 0 ∧ (readOf (d'.bytes (base + ((f * size : Nat) : Int)) size)).2.1 = [])) := by
    refine place_torn _ _ size t.next text ns (Dv.bytes_len h.ok _ _) (Dv.bytes_len ho _ _) hK ht hx0 hx hns (fun i hi => ?_) (fun i hi => ?_)
    · rw [hsec d h.ok h.calm f i hi]
      exact h.ends _ (by omega)
    · rw [hsec d h.ok h.calm f i hi, hsec d' ho hw f i hi, hall _ (by omega)]
      rw [show f * size + i - f * size = i by omega]
      by_cases hc : i < sectorsOf text.length
      · rw [if_pos hc, if_pos (by omega)]
      · rw [if_neg hc, if_neg (by omega)]
  have hput2 : ns = (fun _ => 64) → readOf (d'.bytes (base + ((f * size : Nat) : Int)) size) = (t.next, text, 0) := fun hne => by
    refine read_secs t.next text _ ht (by omega) hx0 (by rw [Dv.bytes_len ho]; omega) (fun i hi => ?_)
    rw [hsec d' ho hw f i (by omega), hall _ (by omega), if_pos (by omega), hne, mix_all _ _ (sec_len (chunkOf_len text ht _ (by omega))) (h.ends _ (by omega)).1, show f * size + i - f * size = i by omega]
    rfl
  -- the other one
  have hother : d'.holds (base + (((1 - f) * size : Nat) : Int)) size = d.holds (base + (((1 - f) * size : Nat) : Int)) size := by
    unfold Dv.holds
    rw [bytes_same d d' _ _ (fun i hi => ?_)]
    rw [seen_calm d' hw, seen_calm d h.calm, show base + (((1 - f) * size : Nat) : Int) + (i : Int) = base + (((1 - f) * size + i : Nat) : Int) by omega, hall _ (by rcases hf with rfl | rfl <;> omega), if_neg (by rcases hf with rfl | rfl <;> omega)]
  rw [best_places d' ho]
  refine ⟨hends, by omega, hpl, ?_⟩
  rcases hf with rfl | rfl
  · rw [show base + ((0 * size : Nat) : Int) = base by omega] at hput hput2
    rw [show base + (((1 - 0) * size : Nat) : Int) = base + size by omega] at hother
    obtain ⟨g1, g2⟩ := hf0 rfl
    rw [hother]
    have hnew : readOf (d'.bytes base size) = (t.next, text, 0) → bestOf (d'.holds base size).1 (d'.holds base size).2 (d.holds (base + size) size).1 (d.holds (base + size) size).2 = (((0 : Nat) : Int), t.next, text) := fun e => by
      have e2 : d'.holds base size = (t.next, text) := by unfold Dv.holds heldOf; rw [e]
      rw [e2]
      exact g1
    refine ⟨?_, fun hne => hnew (hput2 hne)⟩
    rcases hput with e | e | ⟨e, e'⟩
    · exact .inr (hnew e)
    · left
      have e2 : d'.holds base size = d.holds base size := by unfold Dv.holds heldOf; rw [e]
      rw [e2, ← hb]
    · left
      have e2 : d'.holds base size = (0, []) := by unfold Dv.holds heldOf; rw [e, e']
      rw [e2]
      exact g2
  · rw [show base + ((1 * size : Nat) : Int) = base + size by omega] at hput hput2
    rw [show base + (((1 - 1) * size : Nat) : Int) = base by omega] at hother
    obtain ⟨g1, g2⟩ := hf1 rfl
    rw [hother]
    have hnew : readOf (d'.bytes (base + size) size) = (t.next, text, 0) → bestOf (d.holds base size).1 (d.holds base size).2 (d'.holds (base + size) size).1 (d'.holds (base + size) size).2 = (((1 : Nat) : Int), t.next, text) := fun e => by
      have e2 : d'.holds (base + size) size = (t.next, text) := by unfold Dv.holds heldOf; rw [e]
      rw [e2]
      exact g1
    refine ⟨?_, fun hne => hnew (hput2 hne)⟩
    rcases hput with e | e | ⟨e, e'⟩
    · exact .inr (hnew e)
    · left
      have e2 : d'.holds (base + size) size = d.holds (base + size) size := by unfold Dv.holds heldOf; rw [e]
      rw [e2, ← hb]
    · left
      have e2 : d'.holds (base + size) size = (0, []) := by unfold Dv.holds heldOf; rw [e, e']
      rw [e2]
      exact g2
/-- A save that is done. -/
theorem stands_save (h : Stands base size d t) (hd : d.down = false) (hs : 0 < size) (text : List UInt8) (ht : text.length ≤ 65536) (hK : sectorsOf text.length ≤ size) (hx : t.next < 256) (he : (d.save (t.base + t.free * t.size) t.next text).2 = 0) (ho : (d.save (t.base + t.free * t.size) t.next text).1.Ok) :
    Stands base size (d.save (t.base + t.free * t.size) t.next text).1 (t.after text 0) ∧ (d.save (t.base + t.free * t.size) t.next text).1.down = false := by
  rw [h.tb, h.ts] at he ho ⊢
  obtain ⟨h1, h2, h3, h4⟩ := Dv.save_done d hd h.calm _ _ text ht h.ok.S he
  obtain ⟨g1, g2, _, g3, g4⟩ := stands_torn h hs text ht hK hx (fun _ => 64) (fun _ => Nat.le_refl _) _ ho h1 h4
  have hmod : (t.next + 1) % 18446744073709551616 = t.next + 1 := Nat.mod_eq_of_lt (by omega)
  refine ⟨⟨ho, h1, h.tb, h.ts, ?_, fun i hi => ?_, ?_⟩, h2⟩
  · show 0 < (t.next + 1) % _
    rw [hmod]; omega
  · show Ends ((t.next + 1) % _ - 1) _
    rw [hmod]
    exact g1 i hi
  · show (t.free, t.next, text) = _
    exact (g4 rfl).symm
theorem torns_ok (d d' : Dv) (h : d.Ok) (x : Int) (m : Nat) (text : List UInt8) (ht : text.length ≤ 65536) (ns : Nat → Nat) (hns : ∀ i, ns i ≤ 64) (hn : d'.n = d.n) (hw : d'.ws = []) (hf : d'.fuse < 18446744073709551616) (hS : d'.S = torns x m text ns d.S) : d'.Ok := by
  refine ⟨by rw [hn]; exact h.n, fun y => ?_, (fun p hp => by rw [hw] at hp; cases hp), hf⟩
  rw [hS]
  unfold torns
  split
  · exact mix_len _ _ _ (hns _) (sec_len (chunkOf_len text ht _ (by omega))) (h.S y)
  · exact h.S y
/-- A save, and a crash. -/
theorem stands_crash (h : Stands base size d t) (hd : d.down = false) (hs : 0 < size) (text : List UInt8) (ht : text.length ≤ 65536) (hK : sectorsOf text.length ≤ size) (hx : t.next < 255) (ks : List Int) (d' : Dv) (hd' : d' = (d.save (t.base + t.free * t.size) t.next text).1.crash ks) :
    Stands base size d' (openTv base size (d'.bytes base (2 * size))) ∧ d'.down = false ∧ d'.fuse = 0 ∧ d'.n = d.n ∧ (openTv base size (d'.bytes base (2 * size))).next ≤ t.next + 1
    ∧ (((openTv base size (d'.bytes base (2 * size))).number = t.number ∧ (openTv base size (d'.bytes base (2 * size))).text = t.text) ∨ ((openTv base size (d'.bytes base (2 * size))).number = t.next ∧ (openTv base size (d'.bytes base (2 * size))).text = text))
    ∧ ((d.save (t.base + t.free * t.size) t.next text).2 = 0 → (openTv base size (d'.bytes base (2 * size))).number = t.next ∧ (openTv base size (d'.bytes base (2 * size))).text = text) := by
  rw [h.tb, h.ts] at hd' ⊢
  obtain ⟨ns, n1, n2, n3, n4, n5, n6, n7⟩ := Dv.save_crash d hd h.calm (base + t.free * size) t.next text ht h.ok.S ks
  rw [← hd'] at n3 n4 n5 n6 n7
  have ho := torns_ok d d' h.ok _ _ text ht ns n1 n6 n3 (by rw [n5]; decide) n7
  obtain ⟨g1, g2, _, g3, g4⟩ := stands_torn h hs text ht hK (by omega) ns n1 d' ho n3 n7
  obtain ⟨s1, s2⟩ := stands_open ho n3 t.next (by omega) g1
  refine ⟨s1, n4, n5, n6, s2, ?_, fun he => ?_⟩
  · rcases g3 with e | e
    · left
      exact Prod.mk.inj e
    · right
      exact Prod.mk.inj (Prod.mk.inj e).2
  · exact Prod.mk.inj (Prod.mk.inj (g4 (n2 he))).2
end
end Go.Proofs.Yteakdmabdfpiiaa
