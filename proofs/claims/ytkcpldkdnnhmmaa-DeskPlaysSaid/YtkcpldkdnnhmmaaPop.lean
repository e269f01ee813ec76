/- How many bits of a word are set: math/bits.OnesCount64. -/
import Derived.Test.YtkcpldkdnnhmmaaQb
import Derived.Laws.Bits128
namespace Go.Proofs.Ytkcpldkdnnhmmaa.Qu
open Go.RowKit

def pop : Nat → Nat → Nat
  | 0, _ => 0
  | k + 1, x => x % 2 + pop k (x / 2)
theorem pop_count (k x : Nat) : pop k x = (List.range k).countP (x.testBit) := by
  induction k generalizing x with
  | zero => rfl
  | succ k ih =>
    rw [pop, ih, List.range_succ_eq_map, List.countP_cons, List.countP_map]
    have e : (x.testBit ∘ Nat.succ) = (x / 2).testBit := by funext i; simp [Nat.testBit_succ]
    rw [e]
    have h0 : (if x.testBit 0 = true then 1 else 0) = x % 2 := by
      rw [Nat.testBit_zero]
      have : x % 2 < 2 := Nat.mod_lt _ (by decide)
      by_cases h : x % 2 = 1
      · simp [h]
      · have : x % 2 = 0 := by omega
        simp [this]
    omega
theorem pop_add (j k x : Nat) : pop (j + k) x = pop j (x % 2 ^ j) + pop k (x / 2 ^ j) := by
  induction j generalizing x with
  | zero => simp [pop]
  | succ j ih =>
    rw [show j + 1 + k = (j + k) + 1 by omega, pop, pop, ih]
    have e1 : x % 2 ^ (j + 1) % 2 = x % 2 := by
      rw [Nat.pow_succ, Nat.mul_comm, Nat.mod_mul_right_mod]
    have e2 : x % 2 ^ (j + 1) / 2 = x / 2 % 2 ^ j := by
      rw [Nat.pow_succ, Nat.mul_comm, Nat.mod_mul_right_div_self]
    have e3 : x / 2 ^ (j + 1) = x / 2 / 2 ^ j := by
      rw [Nat.div_div_eq_div_mul, Nat.pow_succ, Nat.mul_comm]
    rw [e1, e2, e3]
    omega
theorem pop_le (k x : Nat) : pop k x ≤ k := by
  induction k generalizing x with
  | zero => exact Nat.le_refl _
  | succ k ih => rw [pop]; have := ih (x / 2); have := Nat.mod_lt x (show 0 < 2 by decide); omega

/-- A number by its bytes, the lowest first. -/
def num : List Nat → Nat
  | [] => 0
  | d :: ds => d + 256 * num ds
theorem and_cons {b c : Nat} (y m : Nat) (hb : b < 256) (hc : c < 256) : (b + 256 * y) &&& (c + 256 * m) = (b &&& c) + 256 * (y &&& m) := by
  have h1 : ((b + 256 * y) &&& (c + 256 * m)) % 2 ^ 8 = b &&& c := by
    rw [Nat.and_mod_two_pow]
    rw [show (b + 256 * y) % 2 ^ 8 = b by omega, show (c + 256 * m) % 2 ^ 8 = c by omega]
  have h2 : ((b + 256 * y) &&& (c + 256 * m)) / 2 ^ 8 = y &&& m := by
    rw [Nat.and_div_two_pow]
    rw [show (b + 256 * y) / 2 ^ 8 = y by omega, show (c + 256 * m) / 2 ^ 8 = m by omega]
  have := Nat.div_add_mod ((b + 256 * y) &&& (c + 256 * m)) (2 ^ 8)
  omega
theorem num_le (c : Nat) (l : List Nat) (h : ∀ y ∈ l, y ≤ c) : 255 * num l + c ≤ c * 256 ^ l.length := by
  induction l with
  | nil => simp [num]
  | cons d ds ih =>
    have h1 := h d List.mem_cons_self
    have h2 := ih (fun y hy => h y (List.mem_cons_of_mem _ hy))
    rw [List.length_cons, Nat.pow_succ, ← Nat.mul_assoc]
    generalize c * 256 ^ ds.length = X at *
    simp only [num]
    omega
def f1 (b : Nat) : Nat := (b / 2 &&& 85) + (b &&& 85)
def f2 (b : Nat) : Nat := (b / 4 &&& 51) + (b &&& 51)
def f3 (b : Nat) : Nat := (b / 16 + b) % 16
def Low (d : Nat) : Prop := d < 256 ∧ d / 16 ≤ 4 ∧ d % 16 ≤ 4
theorem byte1a : ∀ b : Fin 256, ∀ t : Fin 2, (b.val / 2 + t.val * 128) &&& 85 = b.val / 2 &&& 85 := by decide +kernel
theorem byte1b : ∀ b : Fin 256, f1 b.val < 256 := by decide +kernel
theorem byte2a : ∀ b : Fin 256, ∀ t : Fin 4, (b.val / 4 + t.val * 64) &&& 51 = b.val / 4 &&& 51 := by decide +kernel
theorem byte2b : ∀ b : Fin 256, f2 b.val < 256 := by decide +kernel
theorem byte3a : ∀ b : Fin 256, f2 (f1 b.val) / 16 ≤ 4 ∧ f2 (f1 b.val) % 16 ≤ 4 := by decide +kernel
theorem byte3b : ∀ b : Fin 256, f3 (f2 (f1 b.val)) = pop 8 b.val := by decide +kernel
def rep (c : Nat) (ds : List Nat) : Nat := num (ds.map fun _ => c)
theorem step1 (ds : List Nat) (h : ∀ d ∈ ds, d < 256) : (num ds / 2 &&& rep 85 ds) + (num ds &&& rep 85 ds) = num (ds.map f1) := by
  induction ds with
  | nil => simp [num, rep]
  | cons b ds ih =>
    have hb := h b List.mem_cons_self
    have ih := ih (fun d hd => h d (List.mem_cons_of_mem _ hd))
    have a := byte1a ⟨b, hb⟩ ⟨num ds % 2, Nat.mod_lt _ (by decide)⟩
    dsimp only at a
    simp only [num, rep, List.map_cons] at ih ⊢
    rw [show (b + 256 * num ds) / 2 = (b / 2 + num ds % 2 * 128) + 256 * (num ds / 2) by omega, and_cons _ _ (by omega) (by decide), and_cons _ _ hb (by decide), a, ← ih]
    unfold f1
    omega
theorem step2 (ds : List Nat) (h : ∀ d ∈ ds, d < 256) : (num ds / 4 &&& rep 51 ds) + (num ds &&& rep 51 ds) = num (ds.map f2) := by
  induction ds with
  | nil => simp [num, rep]
  | cons b ds ih =>
    have hb := h b List.mem_cons_self
    have ih := ih (fun d hd => h d (List.mem_cons_of_mem _ hd))
    have a := byte2a ⟨b, hb⟩ ⟨num ds % 4, Nat.mod_lt _ (by decide)⟩
    dsimp only at a
    simp only [num, rep, List.map_cons] at ih ⊢
    rw [show (b + 256 * num ds) / 4 = (b / 4 + num ds % 4 * 64) + 256 * (num ds / 4) by omega, and_cons _ _ (by omega) (by decide), and_cons _ _ hb (by decide), a, ← ih]
    unfold f2
    omega
theorem num_low {ds : List Nat} (h : ∀ d ∈ ds, Low d) : num ds % 16 ≤ 4 := by
  cases ds with
  | nil => exact Nat.zero_le _
  | cons b ds => have := (h b List.mem_cons_self).2.2; simp only [num]; omega
theorem step3 (ds : List Nat) (h : ∀ d ∈ ds, Low d) : (num ds / 16 + num ds) &&& rep 15 ds = num (ds.map f3) := by
  induction ds with
  | nil => simp [num, rep]
  | cons b ds ih =>
    obtain ⟨hb, h1, h2⟩ := h b List.mem_cons_self
    have hl := num_low (fun d hd => h d (List.mem_cons_of_mem _ hd))
    have ih := ih (fun d hd => h d (List.mem_cons_of_mem _ hd))
    simp only [num, rep, List.map_cons] at ih ⊢
    rw [show (b + 256 * num ds) / 16 + (b + 256 * num ds) = (b / 16 + num ds % 16 * 16 + b) + 256 * (num ds / 16 + num ds) by omega, and_cons _ _ (by omega) (by decide), ih]
    rw [show (15 : Nat) = 2 ^ 4 - 1 by rfl, Nat.and_two_pow_sub_one_eq_mod]
    unfold f3
    omega
def digs : Nat → Nat → List Nat
  | 0, _ => []
  | k + 1, x => x % 256 :: digs k (x / 256)
theorem num_digs (k x : Nat) (h : x < 256 ^ k) : num (digs k x) = x := by
  induction k generalizing x with
  | zero => simp [digs, num]; simp at h; exact h.symm
  | succ k ih =>
    rw [digs, num, ih _ (by rw [Nat.pow_succ, Nat.mul_comm] at h; exact Nat.div_lt_of_lt_mul h)]
    omega
theorem digits8 (x : Nat) (hx : x < 18446744073709551616) : ∃ a b c d e f g h : Nat, x = num [a, b, c, d, e, f, g, h] ∧ a < 256 ∧ b < 256 ∧ c < 256 ∧ d < 256 ∧ e < 256 ∧ f < 256 ∧ g < 256 ∧ h < 256 :=
  have m := fun y : Nat => Nat.mod_lt y (show 0 < 256 by decide)
  ⟨_, _, _, _, _, _, _, _, (num_digs 8 x hx).symm, m _, m _, m _, m _, m _, m _, m _, m _⟩
theorem num_div (d : Nat) (ds : List Nat) (h : d < 256) : num (d :: ds) / 256 = num ds := by
  rw [num]
  generalize num ds = X
  omega
theorem num_div2 (d e : Nat) (ds : List Nat) (h : d < 256) (k : e < 256) : num (d :: e :: ds) / 65536 = num ds := by
  rw [show (65536 : Nat) = 256 * 256 by rfl, ← Nat.div_div_eq_div_mul, num_div _ _ h, num_div _ _ k]
theorem num_div4 (a b c d : Nat) (ds : List Nat) (ha : a < 256) (hb : b < 256) (hc : c < 256) (hd : d < 256) : num (a :: b :: c :: d :: ds) / 4294967296 = num ds := by
  rw [show (4294967296 : Nat) = 65536 * 65536 by rfl, ← Nat.div_div_eq_div_mul, num_div2 _ _ _ ha hb, num_div2 _ _ _ hc hd]
def zadd : List Nat → List Nat → List Nat
  | [], m => m
  | l, [] => l
  | a :: l, b :: m => (a + b) :: zadd l m
theorem num_add (l m : List Nat) : num l + num m = num (zadd l m) := by
  induction l generalizing m with
  | nil => simp [zadd, num]
  | cons a l ih =>
    cases m with
    | nil => simp [zadd, num]
    | cons b m =>
      have := ih m
      simp only [zadd, num]
      rw [← this]
      generalize num l = X
      generalize num m = Y
      omega
theorem num_top (c : Nat) (l : List Nat) (hl : l.length = 8) (hc : c ≤ 68) (h : ∀ y ∈ l, y ≤ c) : num l < 9223372036854775808 := by
  have := num_le c l h
  rw [hl] at this
  generalize num l = X at *
  omega
theorem pop_num (b : Nat) (ds : List Nat) (k : Nat) (hb : b < 256) : pop (8 + k) (num (b :: ds)) = pop 8 b + pop k (num ds) := by
  rw [pop_add]
  simp only [num]
  rw [show (b + 256 * num ds) % 2 ^ 8 = b by omega, show (b + 256 * num ds) / 2 ^ 8 = num ds by omega]

end Go.Proofs.Ytkcpldkdnnhmmaa.Qu
