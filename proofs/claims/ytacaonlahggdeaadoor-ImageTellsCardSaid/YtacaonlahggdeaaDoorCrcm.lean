/- The check sum as plain mathematics: eight steps of a byte bit by bit, and by two looks into a table, come to one number. -/
import Derived.Test.YtacaonlahggdeaaDoorWords
namespace Go.Proofs.YtacaonlahggdeaaDoor

def stp (n : Nat) : Nat := if n % 2 = 1 then n / 2 ^^^ 2197175160 else n / 2
def stpn : Nat → Nat → Nat
  | 0, n => n
  | k + 1, n => stp (stpn k n)
theorem xor_swap (a b c d : Nat) : (a ^^^ b) ^^^ (c ^^^ d) = (a ^^^ c) ^^^ (b ^^^ d) := by
  rw [Nat.xor_assoc, Nat.xor_assoc, ← Nat.xor_assoc b c d, Nat.xor_comm b c, Nat.xor_assoc c b d]
theorem stp_lin (a b : Nat) : stp (a ^^^ b) = stp a ^^^ stp b := by
  have hm : (a ^^^ b) % 2 = (a % 2) ^^^ (b % 2) := Nat.xor_mod_two_pow (n := 1)
  unfold stp
  rw [hm, Nat.xor_div_two]
  rcases Nat.mod_two_eq_zero_or_one a with ha | ha <;> rcases Nat.mod_two_eq_zero_or_one b with hb | hb <;> rw [ha, hb]
  · simp
  · simp [Nat.xor_assoc]
  · simp only [Nat.xor_zero, if_true, Nat.zero_ne_one, if_false]
    rw [Nat.xor_assoc, Nat.xor_comm (b / 2), ← Nat.xor_assoc]
  · simp only [Nat.xor_self, Nat.zero_ne_one, if_false, if_true]
    rw [xor_swap, Nat.xor_self, Nat.xor_zero]
theorem stpn_lin (k a b : Nat) : stpn k (a ^^^ b) = stpn k a ^^^ stpn k b := by
  induction k with
  | zero => rfl
  | succ k ih => rw [stpn, ih, stp_lin]; rfl
theorem stp_even (m : Nat) : stp (2 * m) = m := by
  unfold stp
  rw [if_neg (by omega)]
  omega
theorem stp_lt (n : Nat) (h : n < 4294967296) : stp n < 4294967296 := by
  unfold stp
  split
  · exact Nat.xor_lt_two_pow (n := 32) (by omega) (by omega)
  · omega
theorem stpn_lt (k n : Nat) (h : n < 4294967296) : stpn k n < 4294967296 := by
  induction k with
  | zero => exact h
  | succ k ih => exact stp_lt _ ih
theorem stpn_add (j k n : Nat) : stpn (j + k) n = stpn j (stpn k n) := by
  induction j with
  | zero => rw [Nat.zero_add]; rfl
  | succ j ih => rw [Nat.succ_add, stpn, ih]; rfl
/-- Without its lowest bits a number is what it was, but for these. -/
theorem xor_low (k n : Nat) : n ^^^ (n % 2 ^ k) = 2 ^ k * (n / 2 ^ k) := by
  have h1 : (n ^^^ (n % 2 ^ k)) % 2 ^ k = 0 := by rw [Nat.xor_mod_two_pow, Nat.mod_mod, Nat.xor_self]
  have h2 : (n ^^^ (n % 2 ^ k)) / 2 ^ k = n / 2 ^ k := by
    rw [Nat.xor_div_two_pow, Nat.div_eq_of_lt (Nat.mod_lt _ (Nat.pow_pos (by decide))), Nat.xor_zero]
  have h3 := Nat.div_add_mod (n ^^^ (n % 2 ^ k)) (2 ^ k)
  rw [h1, h2] at h3
  omega
theorem stpn_shift (k m : Nat) : stpn k (2 ^ k * m) = m := by
  induction k generalizing m with
  | zero => simp [stpn]
  | succ k ih =>
    rw [stpn, show 2 ^ (k + 1) * m = 2 ^ k * (2 * m) from by rw [Nat.pow_succ, Nat.mul_assoc], ih, stp_even]
/-- Of k steps, what lies above the lowest k bits only moves down. -/
theorem stpn_low (k n : Nat) : stpn k n = n / 2 ^ k ^^^ stpn k (n % 2 ^ k) := by
  have h := stpn_lin k n (n % 2 ^ k)
  rw [xor_low, stpn_shift] at h
  rw [h, Nat.xor_assoc, Nat.xor_self, Nat.xor_zero]

def byteStep (n : Nat) (x : UInt8) : Nat := stpn 8 (n ^^^ x.toNat)
theorem byteStep_two (n : Nat) (x : UInt8) : byteStep n x = stpn 4 (stpn 4 (n ^^^ x.toNat)) := stpn_add 4 4 _
theorem byteStep_lt (n : Nat) (x : UInt8) (h : n < 4294967296) : byteStep n x < 4294967296 :=
  stpn_lt 8 _ (Nat.xor_lt_two_pow (n := 32) h (by have := x.toNat_lt; omega))

/-- Bit by bit. -/
def bits_ (n x : Nat) : Nat → Nat
  | 0 => n
  | k + 1 => stp (bits_ n x k ^^^ (x / 2 ^ k % 2))
theorem bits_eq (n x k : Nat) : bits_ n x k ^^^ (x / 2 ^ k) = stpn k (n ^^^ x) := by
  induction k with
  | zero => simp [bits_, stpn]
  | succ k ih =>
    have h := xor_low 1 (x / 2 ^ k)
    rw [Nat.pow_one] at h
    have e : x / 2 ^ k = (x / 2 ^ k % 2) ^^^ (2 * (x / 2 ^ k / 2)) := by
      rw [← h, Nat.xor_comm, Nat.xor_assoc, Nat.xor_self, Nat.xor_zero]
    rw [stpn, ← ih]
    have e2 : bits_ n x k ^^^ (x / 2 ^ k) = (bits_ n x k ^^^ (x / 2 ^ k % 2)) ^^^ (2 * (x / 2 ^ k / 2)) := by
      rw [Nat.xor_assoc, ← e]
    rw [e2, stp_lin, stp_even, bits_, Nat.div_div_eq_div_mul, ← Nat.pow_succ]
theorem bits_eight (n : Nat) (x : UInt8) : bits_ n x.toNat 8 = byteStep n x := by
  have h := bits_eq n x.toNat 8
  have := x.toNat_lt
  rw [show x.toNat / 2 ^ 8 = 0 from by omega, Nat.xor_zero] at h
  exact h
theorem bits_lt (n x k : Nat) (h : n < 4294967296) : bits_ n x k < 4294967296 := by
  induction k with
  | zero => exact h
  | succ k ih => exact stp_lt _ (Nat.xor_lt_two_pow (n := 32) ih (by omega))

def crcN (n : Nat) (l : List UInt8) : Nat := l.foldl byteStep n
theorem crcN_lt (n : Nat) (l : List UInt8) (h : n < 4294967296) : crcN n l < 4294967296 := by
  unfold crcN
  induction l generalizing n with
  | nil => exact h
  | cons x l ih => exact ih _ (byteStep_lt n x h)
theorem crcN_app (n : Nat) (l k : List UInt8) : crcN n (l ++ k) = crcN (crcN n l) k := List.foldl_append
theorem crcN_take (n : Nat) (l : List UInt8) (i : Nat) (x : UInt8) (h : l[i]? = some x) : crcN n (l.take (i + 1)) = byteStep (crcN n (l.take i)) x := by
  obtain ⟨hi, rfl⟩ := List.getElem?_eq_some_iff.1 h
  rw [List.take_succ_eq_append_getElem hi, crcN_app]
  rfl
def comp (n : Nat) : Nat := n ^^^ 4294967295
theorem comp_lt (n : Nat) (h : n < 4294967296) : comp n < 4294967296 := Nat.xor_lt_two_pow (n := 32) h (by decide)
theorem comp_comp (n : Nat) : comp (comp n) = n := by unfold comp; rw [Nat.xor_assoc, Nat.xor_self, Nat.xor_zero]
theorem comp_sub (n : Nat) (h : n < 4294967296) : 4294967295 - n = comp n := by
  have h1 : (~~~(BitVec.ofNat 32 n)).toNat = 4294967295 - n := by
    rw [BitVec.toNat_not, BitVec.toNat_ofNat, Nat.mod_eq_of_lt h]
  have h2 : ~~~(BitVec.ofNat 32 n) = BitVec.ofNat 32 n ^^^ BitVec.allOnes 32 := BitVec.xor_allOnes.symm
  rw [← h1, h2, BitVec.toNat_xor, BitVec.toNat_ofNat, BitVec.toNat_allOnes, Nat.mod_eq_of_lt h]
  rfl
/-- The sum of a text that goes on. -/
def more (s : Nat) (l : List UInt8) : Nat := comp (crcN (comp s) l)
theorem more_lt (s : Nat) (l : List UInt8) (h : s < 4294967296) : more s l < 4294967296 := comp_lt _ (crcN_lt _ _ (comp_lt _ h))
theorem more_app (s : Nat) (l k : List UInt8) : more (more s l) k = more s (l ++ k) := by
  unfold more
  rw [comp_comp, crcN_app]

end Go.Proofs.YtacaonlahggdeaaDoor
