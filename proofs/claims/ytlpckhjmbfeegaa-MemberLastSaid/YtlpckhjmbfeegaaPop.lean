/- How many bits of a word are set: math/bits.OnesCount64. -/
import Derived.Test.YtlpckhjmbfeegaaQb
import Derived.Laws.Bits128
namespace Go.Proofs.Ytlpckhjmbfeegaa.Qu
open Go.RowKit

def pop : Nat → Nat → Nat
  | 0, _ => 0
  | k + 1, x => x % 2 + pop k (x / 2)
theorem pop_count (k x : Nat) : pop k x = (List.range k).countP (x.testBit) := by
  induction k generalizing x with
  | zero => rfl
  | succ k ih =>
    rw [pop, ih, List.range_succ_eq_map, List.countP_cons, List.countP_map]
    have e : (x.testBit ∘ Nat.succ) = (x / 2).testBit := by funext i; simp [Nat.testBit_succ]
    rw [e]
    have h0 : (if x.testBit 0 = true then 1 else 0) = x % 2 := by
      rw [Nat.testBit_zero]
      have : x % 2 < 2 := Nat.mod_lt _ (by decide)
      by_cases h : x % 2 = 1
      · simp [h]
      · have : x % 2 = 0 := by omega
        simp [this]
    omega
theorem pop_add (j k x : Nat) : pop (j + k) x = pop j (x % 2 ^ j) + pop k (x / 2 ^ j) := by
  induction j generalizing x with
  | zero => simp [pop]
  | succ j ih =>
    rw [show j + 1 + k = (j + k) + 1 by omega, pop, pop, ih]
    have e1 : x % 2 ^ (j + 1) % 2 = x % 2 := by
      rw [Nat.pow_succ, Nat.mul_comm, Nat.mod_mul_right_mod]
    have e2 : x % 2 ^ (j + 1) / 2 = x / 2 % 2 ^ j := by
      rw [Nat.pow_succ, Nat.mul_comm, Nat.mod_mul_right_div_self]
    have e3 : x / 2 ^ (j + 1) = x / 2 / 2 ^ j := by
      rw [Nat.div_div_eq_div_mul, Nat.pow_succ, Nat.mul_comm]
    rw [e1, e2, e3]
    omega
theorem pop_le (k x : Nat) : pop k x ≤ k := by
  induction k generalizing x with
  | zero => exact Nat.le_refl _
  | succ k ih => rw [pop]; have := ih (x / 2); have := Nat.mod_lt x (show 0 < 2 by decide); omega

/-- A number by its bytes, the lowest first. -/
def num : List Nat → Nat
  | [] => 0
  | d :: ds => d + 256 * num ds
theorem and_cons {b c : Nat} (y m : Nat) (hb : b < 256) (hc : c < 256) : (b + 256 * y) &&& (c + 256 * m) = (b &&& c) + 256 * (y &&& m) := by
  have h1 : ((b + 256 * y) &&& (c + 256 * m)) % 2 ^ 8 = b &&& c := by
    rw [Nat.and_mod_two_pow]
    rw [show (b + 256 * y) % 2 ^ 8 = b by omega, show (c + 256 * m) % 2 ^ 8 = c by omega]
  have h2 : ((b + 256 * y) &&& (c + 256 * m)) / 2 ^ 8 = y &&& m := by
    rw [Nat.and_div_two_pow]
    rw [show (b + 256 * y) / 2 ^ 8 = y by omega, show (c + 256 * m) / 2 ^ 8 = m by omega]
  have := Nat.div_add_mod ((b + 256 * y) &&& (c + 256 * m)) (2 ^ 8)
  omega
theorem num_le (c : Nat) (l : List Nat) (h : ∀ y ∈ l, y ≤ c) : 255 * num l + c ≤ c * 256 ^ l.length := by
  induction l with
  | nil => simp [num]
  | cons d ds ih =>
    have h1 := h d List.mem_cons_self
    have h2 := ih (fun y hy => h y (List.mem_cons_of_mem _ hy))
    rw [List.length_cons, Nat.pow_succ, ← Nat.mul_assoc]
    generalize c * 256 ^ ds.length = X at *
    simp only [num]
    omega
def f1 (b : Nat) : Nat := (b / 2 &&& 85) + (b &&& 85)
def f2 (b : Nat) : Nat := (b / 4 &&& 51) + (b &&& 51)
def f3 (b : Nat) : Nat := (b / 16 + b) % 16
def Low (d : Nat) : Prop := d < 256 ∧ d / 16 ≤ 4 ∧ d % 16 ≤ 4
theorem byte1a : ∀ b : Fin 256, ∀ t : Fin 2, (b.val / 2 + t.val * 128) &&& 85 = b.val / 2 &&& 85 := by decide +kernel
theorem byte1b : ∀ b : Fin 256, f1 b.val < 256 := by decide +kernel
theorem byte2a : ∀ b : Fin 256, ∀ t : Fin 4, (b.val / 4 + t.val * 64) &&& 51 = b.val / 4 &&& 51 := by decide +kernel
theorem byte2b : ∀ b : Fin 256, f2 b.val < 256 := by decide +kernel
theorem byte3a : ∀ b : Fin 256, f2 (f1 b.val) / 16 ≤ 4 ∧ f2 (f1 b.val) % 16 ≤ 4 := by decide +kernel
theorem byte3b : ∀ b : Fin 256, f3 (f2 (f1 b.val)) = pop 8 b.val := by decide +kernel
def rep (c : Nat) (ds : List Nat) : Nat := num (ds.map fun _ => c)
theorem step1 (ds : List Nat) (h : ∀ d ∈ ds, d < 256) : (num ds / 2 &&& rep 85 ds) + (num ds &&& rep 85 ds) = num (ds.map f1) := by
  induction ds with
  | nil => simp [num, rep]
  | cons b ds ih =>
    have hb := h b List.mem_cons_self
    have ih := ih (fun d hd => h d (List.mem_cons_of_mem _ hd))
    have a := byte1a ⟨b, hb⟩ ⟨num ds % 2, Nat.mod_lt _ (by decide)⟩
    dsimp only at a
    simp only [num, rep, List.map_cons] at ih ⊢
    rw [show (b + 256 * num ds) / 2 = (b / 2 + num ds % 2 * 128) + 256 * (num ds / 2) by omega, and_cons _ _ (by omega) (by decide), and_cons _ _ hb (by decide), a, ← ih]
    unfold f1
    omega
theorem step2 (ds : List Nat) (h : ∀ d ∈ ds, d < 256) : (num ds / 4 &&& rep 51 ds) + (num ds &&& rep 51 ds) = num (ds.map f2) := by
  induction ds with
  | nil => simp [num, rep]
  | cons b ds ih =>
    have hb := h b List.mem_cons_self
    have ih := ih (fun d hd => h d (List.mem_cons_of_mem _ hd))
    have a := byte2a ⟨b, hb⟩ ⟨num ds % 4, Nat.mod_lt _ (by decide)⟩
    dsimp only at a
    simp only [num, rep, List.map_cons] at ih ⊢
    rw [show (b + 256 * num ds) / 4 = (b / 4 + num ds % 4 * 64) + 256 * (num ds / 4) by omega, and_cons _ _ (by omega) (by decide), and_cons _ _ hb (by decide), a, ← ih]
    unfold f2
    omega
theorem num_low {ds : List Nat} (h : ∀ d ∈ ds, Low d) : num ds % 16 ≤ 4 := by
  cases ds with
  | nil => exact Nat.zero_le _
  | cons b ds => have := (h b List.mem_cons_self).2.2; simp only [num]; omega
theorem step3 (ds : List Nat) (h : ∀ d ∈ ds, Low d) : (num ds / 16 + num ds) &&& rep 15 ds = num (ds.map f3) := by
  induction ds with
  | nil => simp [num, rep]
  | cons b ds ih =>
    obtain ⟨hb, h1, h2⟩ := h b List.mem_cons_self
    have hl := num_low (fun d hd => h d (List.mem_cons_of_mem _ hd))
    have ih := ih (fun d hd => h d (List.mem_cons_of_mem _ hd))
    simp only [num, rep, List.map_cons] at ih ⊢
    rw [show (b + 256 * num ds) / 16 + (b + 256 * num ds) = (b / 16 + num ds % 16 * 16 + b) + 256 * (num ds / 16 + num ds) by omega, and_cons _ _ (by omega) (by decide), ih]
    rw [show (15 : Nat) = 2 ^ 4 - 1 by rfl, Nat.and_two_pow_sub_one_eq_mod]
    unfold f3
    omega
def digs : Nat → Nat → List Nat
  | 0, _ => []
  | k + 1, x => x % 256 :: digs k (x / 256)
theorem num_digs (k x : Nat) (h : x < 256 ^ k) : num (digs k x) = x := by
  induction k generalizing x with
  | zero => simp [digs, num]; simp at h; exact h.symm
  | succ k ih =>
    rw [digs, num, ih _ (by rw [Nat.pow_succ, Nat.mul_comm] at h; exact Nat.div_lt_of_lt_mul h)]
    omega
theorem digits8 (x : Nat) (hx : x < 18446744073709551616) : ∃ a b c d e f g h : Nat, x = num [a, b, c, d, e, f, g, h] ∧ a < 256 ∧ b < 256 ∧ c < 256 ∧ d < 256 ∧ e < 256 ∧ f < 256 ∧ g < 256 ∧ h < 256 :=
  have m := fun y : Nat => Nat.mod_lt y (show 0 < 256 by decide)
  ⟨_, _, _, _, _, _, _, _, (num_digs 8 x hx).symm, m _, m _, m _, m _, m _, m _, m _, m _⟩
theorem num_div (d : Nat) (ds : List Nat) (h : d < 256) : num (d :: ds) / 256 = num ds := by
  rw [num]
  generalize num ds = X
  omega
theorem num_div2 (d e : Nat) (ds : List Nat) (h : d < 256) (k : e < 256) : num (d :: e :: ds) / 65536 = num ds := by
  rw [show (65536 : Nat) = 256 * 256 by rfl, ← Nat.div_div_eq_div_mul, num_div _ _ h, num_div _ _ k]
theorem num_div4 (a b c d : Nat) (ds : List Nat) (ha : a < 256) (hb : b < 256) (hc : c < 256) (hd : d < 256) : num (a :: b :: c :: d :: ds) / 4294967296 = num ds := by
  rw [show (4294967296 : Nat) = 65536 * 65536 by rfl, ← Nat.div_div_eq_div_mul, num_div2 _ _ _ ha hb, num_div2 _ _ _ hc hd]
def zadd : List Nat → List Nat → List Nat
  | [], m => m
  | l, [] => l
  | a :: l, b :: m => (a + b) :: zadd l m
theorem num_add (l m : List Nat) : num l + num m = num (zadd l m) := by
  induction l generalizing m with
  | nil => simp [zadd, num]
  | cons a l ih =>
    cases m with
    | nil => simp [zadd, num]
    | cons b m =>
      have := ih m
      simp only [zadd, num]
      rw [← this]
      generalize num l = X
      generalize num m = Y
      omega
theorem num_top (c : Nat) (l : List Nat) (hl : l.length = 8) (hc : c ≤ 68) (h : ∀ y ∈ l, y ≤ c) : num l < 9223372036854775808 := by
  have := num_le c l h
  rw [hl] at this
  generalize num l = X at *
  omega
theorem pop_num (b : Nat) (ds : List Nat) (k : Nat) (hb : b < 256) : pop (8 + k) (num (b :: ds)) = pop 8 b + pop k (num ds) := by
  rw [pop_add]
  simp only [num]
  rw [show (b + 256 * num ds) % 2 ^ 8 = b by omega, show (b + 256 * num ds) / 2 ^ 8 = num ds by omega]

theorem ones_any (x : Nat) (w : World) (hx : x < 18446744073709551616) :
    Calls Try.prog 67 #[.int .u64 (x : Int)] w fun e w' => e = .returned (.int .i64 ((pop 64 x : Nat) : Int)) ∧ w = w' := by
  obtain ⟨a, b, c, d, e, f, g, h, rfl, ha, hb, hc, hd, he, hf, hg, hh⟩ := digits8 x hx
  have hp : pop 64 (num [a, b, c, d, e, f, g, h]) = pop 8 a + pop 8 b + pop 8 c + pop 8 d + pop 8 e + pop 8 f + pop 8 g + pop 8 h := by
    rw [pop_num a _ 56 ha, pop_num b _ 48 hb, pop_num c _ 40 hc, pop_num d _ 32 hd, pop_num e _ 24 he, pop_num f _ 16 hf, pop_num g _ 8 hg, pop_num h [] 0 hh]
    simp only [pop]
    omega
  rw [hp]
  have hall : ∀ y ∈ [a, b, c, d, e, f, g, h], y < 256 := by simp; omega
  have s1 := step1 _ hall
  have hall1 : ∀ y ∈ [a, b, c, d, e, f, g, h].map f1, y < 256 := by
    intro y hy
    obtain ⟨z, hz, rfl⟩ := List.mem_map.1 hy
    exact byte1b ⟨z, hall z hz⟩
  have s2 := step2 _ hall1
  have hall2 : ∀ y ∈ ([a, b, c, d, e, f, g, h].map f1).map f2, Low y := by
    intro y hy
    obtain ⟨z, hz, rfl⟩ := List.mem_map.1 hy
    obtain ⟨z, hz2, rfl⟩ := List.mem_map.1 hz
    exact ⟨byte2b ⟨f1 z, hall1 _ hz⟩, byte3a ⟨z, hall z hz2⟩⟩
  have s3 := step3 _ hall2
  have q1 := fun z hz => byte1b ⟨z, hall z hz⟩
  have m1 := num_le 255 ([a, b, c, d, e, f, g, h].map f1) (fun y hy => by have := hall1 y hy; omega)
  have m2 := num_le 68 (([a, b, c, d, e, f, g, h].map f1).map f2) (fun y hy => by obtain ⟨_, h1, h2⟩ := hall2 y hy; omega)
  simp only [List.length_map, List.length_cons, List.length_nil] at m1 m2
  have m1 : num ([a, b, c, d, e, f, g, h].map f1) < 18446744073709551616 := by
    generalize num ([a, b, c, d, e, f, g, h].map f1) = X at m1 ⊢
    omega
  have hm2 : num (([a, b, c, d, e, f, g, h].map f1).map f2) / 16 + num (([a, b, c, d, e, f, g, h].map f1).map f2) < 18446744073709551616 := by
    generalize num (([a, b, c, d, e, f, g, h].map f1).map f2) = X at m2 ⊢
    omega
  have m2 : num (([a, b, c, d, e, f, g, h].map f1).map f2) < 18446744073709551616 := Nat.lt_of_le_of_lt (Nat.le_add_left _ _) hm2
  have r55 : rep 85 [a, b, c, d, e, f, g, h] = 6148914691236517205 := by simp [rep, num]
  have r33 : rep 51 ([a, b, c, d, e, f, g, h].map f1) = 3689348814741910323 := by simp [rep, num]
  have r0f : rep 15 (([a, b, c, d, e, f, g, h].map f1).map f2) = 1085102592571150095 := by simp [rep, num]
  rw [r55] at s1
  rw [r33] at s2
  rw [r0f] at s3
  have hX3 : num ((([a, b, c, d, e, f, g, h].map f1).map f2).map f3) = num [pop 8 a, pop 8 b, pop 8 c, pop 8 d, pop 8 e, pop 8 f, pop 8 g, pop 8 h] := by
    simp only [List.map_cons, List.map_nil]
    rw [byte3b ⟨a, ha⟩, byte3b ⟨b, hb⟩, byte3b ⟨c, hc⟩, byte3b ⟨d, hd⟩, byte3b ⟨e, he⟩, byte3b ⟨f, hf⟩, byte3b ⟨g, hg⟩, byte3b ⟨h, hh⟩]
  rw [hX3] at s3
  have p1 := pop_le 8 a
  have p2 := pop_le 8 b
  have p3 := pop_le 8 c
  have p4 := pop_le 8 d
  have p5 := pop_le 8 e
  have p6 := pop_le 8 f
  have p7 := pop_le 8 g
  have p8 := pop_le 8 h
  generalize num [a, b, c, d, e, f, g, h] = X0 at *
  generalize num ([a, b, c, d, e, f, g, h].map f1) = X1 at *
  generalize num (([a, b, c, d, e, f, g, h].map f1).map f2) = X2 at *
  generalize pop 8 a = A at *
  generalize pop 8 b = B at *
  generalize pop 8 c = C at *
  generalize pop 8 d = D at *
  generalize pop 8 e = E at *
  generalize pop 8 f = F at *
  generalize pop 8 g = G at *
  generalize pop 8 h = H at *
  clear hall hall1 hall2 q1 r55 r33 r0f hX3 hp ha hb hc hd he hf hg hh a b c d e f g h
  obtain ⟨X3, e3⟩ : ∃ X3, X3 = num [A, B, C, D, E, F, G, H] := ⟨_, rfl⟩
  rw [← e3] at s3
  have k1 : IntKind.u64.wrap (bits .and .u64 ((X0 : Int) / 2) 6148914691236517205 + bits .and .u64 (X0 : Int) 6148914691236517205) = (X1 : Int) := by
    have t1 := bits_and_u64_nat (X0 / 2) 6148914691236517205 (by omega) (by decide)
    have t2 := bits_and_u64_nat X0 6148914691236517205 hx (by decide)
    have t3 : ((X0 / 2 : Nat) : Int) = (X0 : Int) / 2 := by omega
    rw [t3] at t1
    rw [show ((6148914691236517205 : Nat) : Int) = 6148914691236517205 from rfl] at t1 t2
    rw [t1, t2, ← Int.natCast_add, s1, u64w _ (by omega) (by omega)]
  have k2 : IntKind.u64.wrap (bits .and .u64 ((X1 : Int) / 4) 3689348814741910323 + bits .and .u64 (X1 : Int) 3689348814741910323) = (X2 : Int) := by
    have t1 := bits_and_u64_nat (X1 / 4) 3689348814741910323 (by omega) (by decide)
    have t2 := bits_and_u64_nat X1 3689348814741910323 m1 (by decide)
    have t3 : ((X1 / 4 : Nat) : Int) = (X1 : Int) / 4 := by omega
    rw [t3] at t1
    rw [show ((3689348814741910323 : Nat) : Int) = 3689348814741910323 from rfl] at t1 t2
    rw [t1, t2, ← Int.natCast_add, s2, u64w _ (by omega) (by omega)]
  have k3 : bits .and .u64 ((X2 : Int) / 16 + (X2 : Int)) 1085102592571150095 = (X3 : Int) := by
    rw [show (X2 : Int) / 16 + (X2 : Int) = ((X2 / 16 + X2 : Nat) : Int) by omega]
    have t1 := bits_and_u64_nat (X2 / 16 + X2) 1085102592571150095 hm2 (by decide)
    rw [s3] at t1
    exact t1
  have d3 : X3 / 256 = num [B, C, D, E, F, G, H] := by rw [e3]; exact num_div _ _ (by omega)
  obtain ⟨X4, e4⟩ : ∃ X4, X4 = X3 + X3 / 256 := ⟨_, rfl⟩
  have v4 : X4 = num [A + B, B + C, C + D, D + E, E + F, F + G, G + H, H] := by rw [e4, d3, e3]; exact num_add _ _
  have d4 : X4 / 65536 = num [C + D, D + E, E + F, F + G, G + H, H] := by rw [v4]; exact num_div2 _ _ _ (by omega) (by omega)
  obtain ⟨X5, e5⟩ : ∃ X5, X5 = X4 + X4 / 65536 := ⟨_, rfl⟩
  have v5 : X5 = num [A + B + (C + D), B + C + (D + E), C + D + (E + F), D + E + (F + G), E + F + (G + H), F + G + H, G + H, H] := by rw [e5, d4, v4]; exact num_add _ _
  have d5 : X5 / 4294967296 = num [E + F + (G + H), F + G + H, G + H, H] := by rw [v5]; exact num_div4 _ _ _ _ _ (by omega) (by omega) (by omega) (by omega)
  obtain ⟨X6, e6⟩ : ∃ X6, X6 = X5 + X5 / 4294967296 := ⟨_, rfl⟩
  have v6 : X6 = num [A + B + (C + D) + (E + F + (G + H)), B + C + (D + E) + (F + G + H), C + D + (E + F) + (G + H), D + E + (F + G) + H, E + F + (G + H), F + G + H, G + H, H] := by rw [e6, d5, v5]; exact num_add _ _
  have t6 : X6 < 9223372036854775808 := by
    rw [v6]
    refine num_top 64 _ rfl (by decide) ?_
    simp only [List.mem_cons, List.not_mem_nil, or_false]
    rintro y (rfl | rfl | rfl | rfl | rfl | rfl | rfl | rfl) <;> omega
  have g8 : X6 % 128 = A + B + C + D + E + F + G + H := by
    rw [v6, num]
    generalize num _ = X
    omega
  clear v4 v5 v6 d3 d4 d5 e3
  have k4 : IntKind.u64.wrap ((X3 : Int) + (X3 : Int) / 256) = (X4 : Int) := by
    rw [show (X3 : Int) + (X3 : Int) / 256 = (X4 : Int) by omega]
    exact u64w _ (by omega) (by omega)
  have k5 : IntKind.u64.wrap ((X4 : Int) + (X4 : Int) / 65536) = (X5 : Int) := by
    rw [show (X4 : Int) + (X4 : Int) / 65536 = (X5 : Int) by omega]
    exact u64w _ (by omega) (by omega)
  have k6 : IntKind.u64.wrap ((X5 : Int) + (X5 : Int) / 4294967296) = (X6 : Int) := by
    rw [show (X5 : Int) + (X5 : Int) / 4294967296 = (X6 : Int) by omega]
    exact u64w _ (by omega) (by omega)
  have k7 : wrap64 (X6 : Int) = (X6 : Int) := by unfold wrap64; omega
  have k8 : bits .and .i64 (X6 : Int) 127 = ((A + B + C + D + E + F + G + H : Nat) : Int) := by
    rw [i64_and127, ← g8]
    rfl
  clear s1 s2 s3 m1 m2 hm2 e4 e5 e6 t6 g8 p1 p2 p3 p4 p5 p6 p7 p8 hx
  go_enter Try.func67, Try.ntmps67
  go_wp2_with (simp only [k7])
  go_ret
  exact ⟨rfl, rfl⟩
end Go.Proofs.Ytlpckhjmbfeegaa.Qu
