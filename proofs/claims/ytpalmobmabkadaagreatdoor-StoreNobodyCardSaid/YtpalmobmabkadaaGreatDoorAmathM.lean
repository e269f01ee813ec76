/- Places as bits of words. -/
import Derived.Test.YtpalmobmabkadaaGreatDoorMbitsM
namespace Go.Proofs.YtpalmobmabkadaaGreatDoor

/-- A place's bit. -/
def bitAt (ws : List Nat) (j : Nat) : Bool := (ws.getD (j / 64) 0).testBit (j % 64)
def flipAt (ws : List Nat) (i : Nat) : List Nat := ws.set (i / 64) ((ws.getD (i / 64) 0) ^^^ 2 ^ (i % 64))
theorem flip_len (ws : List Nat) (i : Nat) : (flipAt ws i).length = ws.length := by unfold flipAt; rw [List.length_set]
theorem flip_bit (ws : List Nat) (i j : Nat) (hi : i / 64 < ws.length) : bitAt (flipAt ws i) j = if i = j then !bitAt ws j else bitAt ws j := by
  unfold bitAt flipAt
  rw [List.getD, List.getElem?_set]
  by_cases h : i / 64 = j / 64
  · rw [if_pos h, if_pos (by omega)]
    simp only [Option.getD_some, Nat.testBit_xor, Nat.testBit_two_pow, h]
    by_cases hm : i % 64 = j % 64
    · rw [if_pos (by omega)]
      simp [hm]
    · rw [if_neg (by omega)]
      simp [hm]
  · rw [if_neg h, if_neg (by omega)]
    rfl
theorem pow64 {k : Nat} (h : k < 64) : 2 ^ k < 18446744073709551616 := Nat.lt_of_le_of_lt (Nat.pow_le_pow_right (n := 2) (by decide) (show k ≤ 63 by omega)) (by decide)
theorem flip_lt {ws : List Nat} (h : ∀ x ∈ ws, x < 18446744073709551616) (i : Nat) : ∀ x ∈ flipAt ws i, x < 18446744073709551616 := by
  intro x hx
  rcases List.mem_or_eq_of_mem_set hx with hx | rfl
  · exact h x hx
  · have h1 : ws.getD (i / 64) 0 < 18446744073709551616 := by
      rw [List.getD]
      cases hg : ws[i / 64]? with
      | none => decide
      | some y => exact h y (List.mem_of_getElem? hg)
    exact Nat.xor_lt_two_pow (n := 64) h1 (pow64 (Nat.mod_lt _ (by decide)))

/-- Places: how many, and the words of their bits (a free one's is set). -/
structure Av where
  n : Nat
  ws : List Nat
  cap : Nat
  tl : List Value
structure Av.Ok (a : Av) (k : Nat) : Prop where
  len : a.ws.length = 8 * k
  room : a.n ≤ 512 * k
  small : k ≤ 200
  caps : k ≤ a.cap ∧ a.cap ≤ maxLen
  lt : ∀ x ∈ a.ws, x < 18446744073709551616
  out : ∀ j, a.n ≤ j → bitAt a.ws j = false
def Av.flip (a : Av) (i : Nat) : Av := ⟨a.n, flipAt a.ws i, a.cap, a.tl⟩
theorem Av.Ok.flip {a : Av} {k : Nat} (h : a.Ok k) {i : Nat} (hi : i < a.n) : (a.flip i).Ok k := by
  have h1 := h.len
  have h2 := h.room
  refine ⟨by rw [← h.len]; exact flip_len _ _, h.room, h.small, h.caps, flip_lt h.lt i, fun j hj => ?_⟩
  have hj' : a.n ≤ j := hj
  show bitAt (flipAt a.ws i) j = false
  rw [flip_bit _ _ _ (by omega), if_neg (by omega)]
  exact h.out j hj'
theorem getD_lt {ws : List Nat} (h : ∀ x ∈ ws, x < 18446744073709551616) (i : Nat) : ws.getD i 0 < 18446744073709551616 := by
  rw [List.getD]
  cases hg : ws[i]? with
  | none => decide
  | some y => exact h y (List.mem_of_getElem? hg)
theorem and_bit (x k : Nat) : (x &&& 2 ^ k ≠ 0) ↔ x.testBit k = true := by
  constructor
  · intro h
    cases hb : x.testBit k
    · exfalso
      apply h
      apply Nat.eq_of_testBit_eq
      intro j
      rw [Nat.testBit_and, Nat.testBit_two_pow, Nat.zero_testBit]
      by_cases hj : k = j
      · subst hj; simp [hb]
      · simp [hj]
    · rfl
  · intro h e
    have := congrArg (fun y => y.testBit k) e
    simp only [Nat.testBit_and, Nat.testBit_two_pow, h, Nat.zero_testBit] at this
    simp at this

end Go.Proofs.YtpalmobmabkadaaGreatDoor
