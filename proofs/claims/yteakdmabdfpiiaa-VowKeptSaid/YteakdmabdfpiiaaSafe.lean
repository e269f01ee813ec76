/- What a save leaves behind a crash: of each sector that was to be written a beginning, of all others what they were. -/
import Derived.Test.YteakdmabdfpiiaaTwbadZ
import Derived.Test.YteakdmabdfpiiaaPlace
namespace Go.Proofs.Yteakdmabdfpiiaa
set_option maxRecDepth 20000
open Go.RowKit

/-- The change number i of a write. -/
def chgOf (x : Int) (l : List UInt8) (i : Nat) : Int × List UInt8 := (x + (i : Int), pad (sct l i))
theorem Dv.write_ws (d : Dv) (hd : d.down = false) (x : Int) (l : List UInt8) (j : Nat) : ∃ i, i ≤ j ∧ (d.write x l j).1.ws = d.ws ++ (List.range i).map (chgOf x l) ∧ ((d.write x l j).2 = 0 → i = j ∧ (d.write x l j).1.down = false) ∧ (d.write x l j).1.S = d.S ∧ (d.write x l j).1.n = d.n := by
  induction j with
  | zero => exact ⟨0, Nat.le_refl _, by simp [Dv.write], fun _ => ⟨rfl, hd⟩, rfl, rfl⟩
  | succ j ih =>
    obtain ⟨i, hi, h1, h2, h3, h4⟩ := ih
    rw [Dv.write]
    by_cases h0 : (d.write x l j).2 ≠ 0
    · rw [if_pos h0]
      exact ⟨i, by omega, h1, fun h => absurd h h0, h3, h4⟩
    · rw [if_neg h0]
      obtain ⟨rfl, h5⟩ := h2 (Decidable.not_not.1 h0)
      refine ⟨i + 1, Nat.le_refl _, ?_, fun h => ⟨rfl, ?_⟩, h3, h4⟩
      · show (d.write x l i).1.ws ++ [_] = _
        rw [h1, List.range_succ, List.map_append, List.append_assoc]
        rfl
      · simp only at h ⊢
        unfold pw at h
        split at h
        · cases h
        · rename_i hh; simpa using hh
theorem lastOf_range (x : Int) (l : List UInt8) (i : Nat) (y : Int) : lastOf ((List.range i).map (chgOf x l)) y = if x ≤ y ∧ y < x + i then some (pad (sct l (y - x).toNat)) else none := by
  induction i with
  | zero => rw [if_neg (by omega)]; rfl
  | succ i ih =>
    rw [List.range_succ, List.map_append, List.map_singleton, lastOf_snoc]
    show (if y = x + (i : Int) then some (pad (sct l i)) else lastOf ((List.range i).map (chgOf x l)) y) = _
    rw [ih]
    by_cases h : y = x + (i : Int)
    · rw [if_pos h, if_pos (by omega)]
      rw [show (y - x).toNat = i by omega]
    · rw [if_neg h]
      by_cases h2 : x ≤ y ∧ y < x + (i : Int)
      · rw [if_pos h2, if_pos (by omega)]
      · rw [if_neg h2, if_neg (by omega)]
theorem dv_crash_range (d : Dv) (x : Int) (l : List UInt8) (j : Nat) (hw : d.ws = (List.range j).map (chgOf x l)) (ks : List Int) (i : Nat) (hi : i ≤ j) (y : Int) :
    (d.crash1 ks i).S y = if x ≤ y ∧ y < x + i then mix (kept1 ks (y - x).toNat) (pad (sct l (y - x).toNat)) (d.S y) else d.S y := by
  induction i with
  | zero => rw [if_neg (by omega)]; rfl
  | succ i ih =>
    have ih := ih (by omega)
    have hg : d.ws[i]? = some (chgOf x l i) := by rw [hw, List.getElem?_map, List.getElem?_range (by omega)]; rfl
    rw [Dv.crash1, hg]
    show (if y = x + (i : Int) then _ else (d.crash1 ks i).S y) = _
    by_cases h : y = x + (i : Int)
    · rw [if_pos h, if_pos (by omega)]
      rw [if_neg (by omega)] at ih
      rw [show (y - x).toNat = i by omega, mix]
      show (pad (sct l i)).take _ ++ ((d.crash1 ks i).S (x + (i : Int))).drop _ = _
      rw [← h, ih]
    · rw [if_neg h, ih]
      by_cases h2 : x ≤ y ∧ y < x + (i : Int)
      · rw [if_pos h2, if_pos (by omega)]
      · rw [if_neg h2, if_neg (by omega)]
theorem mix_none (new old : List UInt8) : mix 0 new old = old := rfl
theorem mix_all (new old : List UInt8) (h1 : new.length = 64) (h2 : old.length = 64) : mix 64 new old = new := by
  rw [mix, List.take_of_length_le (by omega), List.drop_of_length_le (by omega), List.append_nil]
theorem sct_sec (m : Nat) (text : List UInt8) (ht : text.length ≤ 65536) (i : Nat) (hi : i < sectorsOf text.length) : pad (sct (makeOf m text) i) = sec m (chunkOf text i) := by
  have h := make_sect m text [] ht i hi
  rw [List.append_nil] at h
  have h2 : sct (makeOf m text) i = sec m (chunkOf text i) := h
  rw [h2, pad, sec_len (chunkOf_len text ht i hi), Z, List.drop_replicate]
  exact List.append_nil _
theorem Dv.write_fell (d : Dv) (x : Int) (l : List UInt8) (j : Nat) (h : (d.write x l j).2 ≠ 0) : (d.write x l j).1.down = true := by
  induction j with
  | zero => exact absurd rfl h
  | succ j ih =>
    rw [Dv.write] at h ⊢
    by_cases h0 : (d.write x l j).2 ≠ 0
    · rw [if_pos h0]
      exact ih h0
    · rw [if_neg h0] at h ⊢
      simp only at h ⊢
      unfold pw at h
      split at h
      · assumption
      · exact absurd rfl h

/-- What is in a sector behind a save, of which so much came to be. -/
def torns (x : Int) (m : Nat) (text : List UInt8) (ns : Nat → Nat) (S : Int → List UInt8) : Int → List UInt8 :=
  fun y => if x ≤ y ∧ y < x + (sectorsOf text.length : Nat) then mix (ns (y - x).toNat) (sec m (chunkOf text (y - x).toNat)) (S y) else S y
/-- A save that is done. -/
theorem Dv.save_done (d : Dv) (hd : d.down = false) (hw : d.ws = []) (x : Int) (m : Nat) (text : List UInt8) (ht : text.length ≤ 65536) (hS : ∀ y, (d.S y).length = 64) (he : (d.save x m text).2 = 0) :
    (d.save x m text).1.ws = [] ∧ (d.save x m text).1.down = false ∧ (d.save x m text).1.n = d.n ∧ (d.save x m text).1.S = torns x m text (fun _ => 64) d.S := by
  obtain ⟨i, hi, h1, h2, h3, h4⟩ := Dv.write_ws d hd x (makeOf m text) (sectorsOf text.length)
  unfold Dv.save at he ⊢
  rw [if_neg (by rw [hd]; decide)] at he ⊢
  by_cases h0 : (d.write x (makeOf m text) (sectorsOf text.length)).2 ≠ 0
  · rw [if_pos h0] at he
    exact absurd he h0
  · rw [if_neg h0] at he ⊢
    obtain ⟨rfl, h5⟩ := h2 (Decidable.not_not.1 h0)
    generalize (d.write x (makeOf m text) (sectorsOf text.length)).1 = d1 at *
    unfold Dv.flush at he ⊢
    rw [if_neg (by rw [h5]; decide)] at he ⊢
    by_cases h6 : d1.step.down = true
    · rw [if_pos h6] at he
      cases he
    · rw [if_neg h6] at he ⊢
      refine ⟨rfl, (Bool.not_eq_true _ ▸ h6 : d1.step.down = false), h4, ?_⟩
      funext y
      show (lastOf d1.ws y).getD (d1.S y) = _
      rw [h1, hw, List.nil_append, lastOf_range, h3]
      unfold torns
      by_cases h7 : x ≤ y ∧ y < x + ((sectorsOf text.length : Nat) : Int)
      · rw [if_pos h7, if_pos h7]
        rw [mix_all _ _ (sec_len (chunkOf_len text ht (y - x).toNat (by omega))) (hS y)]
        exact sct_sec m text ht (y - x).toNat (by omega)
      · rw [if_neg h7, if_neg h7]
        rfl
theorem Dv.save_fell (d : Dv) (hd : d.down = false) (hw : d.ws = []) (x : Int) (m : Nat) (text : List UInt8) (_ : text.length ≤ 65536) (he : (d.save x m text).2 ≠ 0) :
    ∃ i, i ≤ sectorsOf text.length ∧ (d.save x m text).1.ws = (List.range i).map (chgOf x (makeOf m text)) ∧ (d.save x m text).1.n = d.n ∧ (d.save x m text).1.S = d.S ∧ (d.save x m text).1.down = true := by
  obtain ⟨i, hi, h1, h2, h3, h4⟩ := Dv.write_ws d hd x (makeOf m text) (sectorsOf text.length)
  have h9 := Dv.write_pw d x (makeOf m text) (sectorsOf text.length)
  rw [hw, List.nil_append] at h1
  unfold Dv.save at he ⊢
  rw [if_neg (by rw [hd]; decide)] at he ⊢
  by_cases h0 : (d.write x (makeOf m text) (sectorsOf text.length)).2 ≠ 0
  · rw [if_pos h0] at he ⊢
    exact ⟨i, hi, h1, h4, h3, Dv.write_fell d x _ _ h0⟩
  · rw [if_neg h0] at he ⊢
    obtain ⟨hij, h5⟩ := h2 (Decidable.not_not.1 h0)
    generalize (d.write x (makeOf m text) (sectorsOf text.length)).1 = d1 at *
    unfold Dv.flush at he ⊢
    rw [if_neg (by rw [h5]; decide)] at he ⊢
    by_cases h6 : d1.step.down = true
    · rw [if_pos h6]
      exact ⟨i, hi, h1, h4, h3, h6⟩
    · rw [if_neg h6] at he
      exact absurd rfl he
/-- Behind a save and a crash. -/
theorem Dv.save_crash (d : Dv) (hd : d.down = false) (hw : d.ws = []) (x : Int) (m : Nat) (text : List UInt8) (ht : text.length ≤ 65536) (hS : ∀ y, (d.S y).length = 64) (ks : List Int) :
    ∃ ns : Nat → Nat, (∀ i, ns i ≤ 64) ∧ ((d.save x m text).2 = 0 → ns = fun _ => 64) ∧ ((d.save x m text).1.crash ks).ws = [] ∧ ((d.save x m text).1.crash ks).down = false ∧ ((d.save x m text).1.crash ks).fuse = 0 ∧ ((d.save x m text).1.crash ks).n = d.n ∧ ((d.save x m text).1.crash ks).S = torns x m text ns d.S := by
  by_cases he : (d.save x m text).2 = 0
  · obtain ⟨h1, h2, h3, h4⟩ := Dv.save_done d hd hw x m text ht hS he
    refine ⟨fun _ => 64, fun _ => Nat.le_refl _, fun _ => rfl, rfl, rfl, rfl, ((Dv.crash1_ws _ ks _).2.1).trans h3, ?_⟩
    unfold Dv.crash
    rw [h1]
    exact h4
  · obtain ⟨i, hi, h1, h3, h4, _⟩ := Dv.save_fell d hd hw x m text ht he
    refine ⟨fun j => if j < i then kept1 ks j else 0, fun j => ?_, fun h => absurd h he, rfl, rfl, rfl, ((Dv.crash1_ws _ ks _).2.1).trans h3, ?_⟩
    · dsimp only
      split
      · exact kept1_le ks j
      · omega
    · funext y
      have h := dv_crash_range (d.save x m text).1 x (makeOf m text) i h1 ks i (Nat.le_refl _) y
      rw [h4] at h
      unfold Dv.crash
      rw [h1, List.length_map, List.length_range]
      show ((d.save x m text).1.crash1 ks i).S y = _
      rw [h]
      unfold torns
      by_cases h7 : x ≤ y ∧ y < x + ((i : Nat) : Int)
      · rw [if_pos h7, if_pos (by omega), sct_sec m text ht (y - x).toNat (by omega)]
        dsimp only
        rw [if_pos (by omega)]
      · rw [if_neg h7]
        by_cases h8 : x ≤ y ∧ y < x + ((sectorsOf text.length : Nat) : Int)
        · rw [if_pos h8]
          dsimp only
          rw [if_neg (by omega), mix_none]
        · rw [if_neg h8]
end Go.Proofs.Yteakdmabdfpiiaa
