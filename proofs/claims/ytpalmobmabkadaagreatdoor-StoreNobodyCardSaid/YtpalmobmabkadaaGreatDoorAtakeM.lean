/- Contracts of package alloc: first. How many bits of a word are set: math/bits.OnesCount64. Contracts of package alloc: Free. Contracts of package alloc: Take, Some. -/
import Derived.Test.YtpalmobmabkadaaGreatDoorAeqM
import Derived.Test.YtpalmobmabkadaaGreatDoorFrefZM
import Derived.Test.YtpalmobmabkadaaGreatDoorAmathM
import Derived.Laws.Bits128
import Derived.Test.YtpalmobmabkadaaGreatDoorFjoinbZM
namespace Go.Proofs.YtpalmobmabkadaaGreatDoor
open Go.RowKit
set_option maxRecDepth 20000

section
variable {w w' : World} {g R k : Nat} {a : Av}
theorem first_none (h : Alw w g R k a) (hf : FirstIs a.ws none) :
    Calls Tryz.prog 137 #[.pointer (some ⟨g, 0, none⟩)] w fun e w' => e = .returned (.tuple #[.int .i64 0, .bool false]) ∧ w = w' := by
  have c1 := h.c1
  have hlen := h.ok.len
  have hsm := h.ok.small
  have hrows := h.rows
  have hz : ∀ q, q < k → rowOf a.ws q = Z8 := fun q hq => row_zero (rowOf_len hlen hq) (rowOf_lt h.ok.lt q) (fun j hj => by rw [rowOf_bit _ _ _ hj]; exact hf _)
  have HR := Lib.hid hrows
  have HL := Lib.hid hlen
  have HZ := Lib.hid hz
  clear h hf hlen hrows hz
  go_enter Tryz.func137, Tryz.ntmps137
  go_wp2_with (fail)
  refine wp_scope_rounds 1 ?_
  go_wp2_with (fail)
  go_loop [4] (fun ir => ∃ i : Nat, i ≤ k ∧ ir = .int .i64 (i : Int)) (fun ir => k - (intOf ir).toNat)
  case atStart => exact ⟨0, Nat.zero_le _, rfl⟩
  case round =>
    obtain ⟨i, hi, rfl⟩ := hrel
    by_cases hlt : i < k
    · go_wp2_with (first
        | (refine wpL_row rfl (.tmp 19) rfl rfl HR.out HL.out hlt ?_)
        | (refine wpL_zero_aeq rfl rfl ?_)
        | (refine wpL_neq rfl (.tmp 20) (.tmp 21) _ rfl rfl rfl (rowOf_len HL.out hlt) (by rfl) false (by rw [HZ.out i hlt]; rfl) ?_)
        | fail)
      go_round
      case rel => exact ⟨i + 1, by omega, by go_num⟩
      case measure => simp [intOf]; omega
    · obtain rfl : i = k := by omega
      go_wp2
      go_ret2
      exact ⟨rfl, rfl⟩
theorem first_some (h : Alw w g R k a) (hT : Tab w) {j : Nat} (hf : FirstIs a.ws (some j)) :
    Calls Tryz.prog 137 #[.pointer (some ⟨g, 0, none⟩)] w fun e w' => e = .returned (.tuple #[.int .i64 (j : Int), .bool true]) ∧ Below w.heap.size w w' := by
  have c1 := h.c1
  have hlen := h.ok.len
  have hsm := h.ok.small
  have hrows := h.rows
  have hj := first_lt h.ok hf
  have hq : j / 512 < k := by have := h.ok.room; omega
  have hz : ∀ q, q < j / 512 → rowOf a.ws q = Z8 := fun q hq2 => row_zero (rowOf_len hlen (by omega)) (rowOf_lt h.ok.lt q) (fun i hi => by rw [rowOf_bit _ _ _ hi]; exact hf.2 _ (by omega))
  have hbit : bitAt (rowOf a.ws (j / 512)) (j % 512) = true := by
    rw [rowOf_bit _ _ _ (by omega), show 512 * (j / 512) + j % 512 = j by omega]
    exact hf.1
  have hne : (!decide (rowOf a.ws (j / 512) = Z8)) = true := by simpa using row_not_zero hbit
  have hrow := rowfirst_any (rowOf a.ws (j / 512)) (j % 512) w (rowOf_len hlen hq) (rowOf_lt h.ok.lt _) (by omega) ⟨hbit, fun i hi => by rw [rowOf_bit _ _ _ (by omega)]; exact hf.2 _ (by omega)⟩ hT
  have hfin : ((j / 512 : Nat) : Int) * 512 + ((j % 512 : Nat) : Int) = (j : Int) := by omega
  have hm : Unit → ((j % 512 : Nat) : Int) < 512 := fun _ => by omega
  have HR := Lib.hid hrows
  have HL := Lib.hid hlen
  have HZ := Lib.hid hz
  have HN := Lib.hid hne
  have HC := Lib.hid hrow
  have HF := Lib.hid hfin
  generalize j / 512 = q at *
  generalize j % 512 = m at *
  have HM := Lib.hid hm
  have HQ := Lib.hid hq
  clear h hf hlen hrows hz hne hbit hrow hfin hj hT hm hq
  go_enter Tryz.func137, Tryz.ntmps137
  go_wp2_with (fail)
  refine wp_scope_rounds 1 ?_
  go_wp2_with (fail)
  go_loop [4] (fun ir => ∃ i : Nat, i ≤ q ∧ ir = .int .i64 (i : Int)) (fun ir => q - (intOf ir).toNat)
  case atStart => exact ⟨0, Nat.zero_le _, rfl⟩
  case round =>
    obtain ⟨i, hi, rfl⟩ := hrel
    have hik : i < k := by have := HQ.out; omega
    by_cases hlt : i < q
    · have HLT := Lib.hid hlt
      have HI := Lib.hid hi
      clear hlt hi
      go_wp2_with (first
        | (refine wpL_row rfl (.tmp 19) rfl rfl HR.out HL.out hik ?_)
        | (refine wpL_zero_aeq rfl rfl ?_)
        | (refine wpL_neq rfl (.tmp 20) (.tmp 21) _ rfl rfl rfl (rowOf_len HL.out hik) (by rfl) false (by rw [HZ.out i HLT.out]; rfl) ?_)
        | fail)
      go_round
      case rel => exact ⟨i + 1, by have := HLT.out; omega, by go_num⟩
      case measure => have := HLT.out; simp [intOf]; omega
    · obtain rfl : i = q := by omega
      go_wp2_with (first
        | (refine wpL_row rfl (.tmp 19) rfl rfl HR.out HL.out hik ?_)
        | (refine wpL_zero_aeq rfl rfl ?_)
        | (refine wpL_neq rfl (.tmp 20) (.tmp 21) _ rfl rfl rfl (rowOf_len HL.out hik) (by rfl) true HN.out.symm ?_)
        | fail)
      go_step3
      try simp only [go_sem]
      refine ⟨_, rfl, ?_⟩
      go_wp2_with (first
        | (refine wpL_row rfl (.tmp 30) rfl rfl HR.out HL.out hik ?_)
        | (go_at_call 145; refine HC.out.mono ?_; rintro e w1 ⟨rfl, hb1⟩; have hm1 := HM.out ())
        | fail)
      rw [lands_ret]
      go_ret2
      exact ⟨by simp [HF.out], hb1⟩
end

end Go.Proofs.YtpalmobmabkadaaGreatDoor

namespace Go.Proofs.YtpalmobmabkadaaGreatDoor
open Go.RowKit
set_option maxRecDepth 20000

def pop : Nat → Nat → Nat
  | 0, _ => 0
  | k + 1, x => x % 2 + pop k (x / 2)
theorem pop_count (k x : Nat) : pop k x = (List.range k).countP (x.testBit) := by
  induction k generalizing x with
  | zero => rfl
  | succ k ih =>
    rw [pop, ih, List.range_succ_eq_map, List.countP_cons, List.countP_map]
    have e : (x.testBit ∘ Nat.succ) = (x / 2).testBit := by funext i; simp [Nat.testBit_succ]
    rw [e]
    have h0 : (if x.testBit 0 = true then 1 else 0) = x % 2 := by
      rw [Nat.testBit_zero]
      have : x % 2 < 2 := Nat.mod_lt _ (by decide)
      by_cases h : x % 2 = 1
      · simp [h]
      · have : x % 2 = 0 := by omega
        simp [this]
    omega
theorem pop_add (j k x : Nat) : pop (j + k) x = pop j (x % 2 ^ j) + pop k (x / 2 ^ j) := by
  induction j generalizing x with
  | zero => simp [pop]
  | succ j ih =>
    rw [show j + 1 + k = (j + k) + 1 by omega, pop, pop, ih]
    have e1 : x % 2 ^ (j + 1) % 2 = x % 2 := by
      rw [Nat.pow_succ, Nat.mul_comm, Nat.mod_mul_right_mod]
    have e2 : x % 2 ^ (j + 1) / 2 = x / 2 % 2 ^ j := by
      rw [Nat.pow_succ, Nat.mul_comm, Nat.mod_mul_right_div_self]
    have e3 : x / 2 ^ (j + 1) = x / 2 / 2 ^ j := by
      rw [Nat.div_div_eq_div_mul, Nat.pow_succ, Nat.mul_comm]
    rw [e1, e2, e3]
    omega
theorem pop_le (k x : Nat) : pop k x ≤ k := by
  induction k generalizing x with
  | zero => exact Nat.le_refl _
  | succ k ih => rw [pop]; have := ih (x / 2); have := Nat.mod_lt x (show 0 < 2 by decide); omega

/-- A number by its bytes, the lowest first. -/
def num : List Nat → Nat
  | [] => 0
  | d :: ds => d + 256 * num ds
theorem and_cons {b c : Nat} (y m : Nat) (hb : b < 256) (hc : c < 256) : (b + 256 * y) &&& (c + 256 * m) = (b &&& c) + 256 * (y &&& m) := by
  have h1 : ((b + 256 * y) &&& (c + 256 * m)) % 2 ^ 8 = b &&& c := by
    rw [Nat.and_mod_two_pow]
    rw [show (b + 256 * y) % 2 ^ 8 = b by omega, show (c + 256 * m) % 2 ^ 8 = c by omega]
  have h2 : ((b + 256 * y) &&& (c + 256 * m)) / 2 ^ 8 = y &&& m := by
    rw [Nat.and_div_two_pow]
    rw [show (b + 256 * y) / 2 ^ 8 = y by omega, show (c + 256 * m) / 2 ^ 8 = m by omega]
  have := Nat.div_add_mod ((b + 256 * y) &&& (c + 256 * m)) (2 ^ 8)
  omega
theorem num_le (c : Nat) (l : List Nat) (h : ∀ y ∈ l, y ≤ c) : 255 * num l + c ≤ c * 256 ^ l.length := by
  induction l with
  | nil => simp [num]
  | cons d ds ih =>
    have h1 := h d List.mem_cons_self
    have h2 := ih (fun y hy => h y (List.mem_cons_of_mem _ hy))
    rw [List.length_cons, Nat.pow_succ, ← Nat.mul_assoc]
    generalize c * 256 ^ ds.length = X at *
    simp only [num]
    omega
def f1 (b : Nat) : Nat := (b / 2 &&& 85) + (b &&& 85)
def f2 (b : Nat) : Nat := (b / 4 &&& 51) + (b &&& 51)
def f3 (b : Nat) : Nat := (b / 16 + b) % 16
def Low (d : Nat) : Prop := d < 256 ∧ d / 16 ≤ 4 ∧ d % 16 ≤ 4
theorem byte1a : ∀ b : Fin 256, ∀ t : Fin 2, (b.val / 2 + t.val * 128) &&& 85 = b.val / 2 &&& 85 := by decide +kernel
theorem byte1b : ∀ b : Fin 256, f1 b.val < 256 := by decide +kernel
theorem byte2a : ∀ b : Fin 256, ∀ t : Fin 4, (b.val / 4 + t.val * 64) &&& 51 = b.val / 4 &&& 51 := by decide +kernel
theorem byte2b : ∀ b : Fin 256, f2 b.val < 256 := by decide +kernel
theorem byte3a : ∀ b : Fin 256, f2 (f1 b.val) / 16 ≤ 4 ∧ f2 (f1 b.val) % 16 ≤ 4 := by decide +kernel
theorem byte3b : ∀ b : Fin 256, f3 (f2 (f1 b.val)) = pop 8 b.val := by decide +kernel
def rep (c : Nat) (ds : List Nat) : Nat := num (ds.map fun _ => c)
theorem step1 (ds : List Nat) (h : ∀ d ∈ ds, d < 256) : (num ds / 2 &&& rep 85 ds) + (num ds &&& rep 85 ds) = num (ds.map f1) := by
  induction ds with
  | nil => simp [num, rep]
  | cons b ds ih =>
    have hb := h b List.mem_cons_self
    have ih := ih (fun d hd => h d (List.mem_cons_of_mem _ hd))
    have a := byte1a ⟨b, hb⟩ ⟨num ds % 2, Nat.mod_lt _ (by decide)⟩
    dsimp only at a
    simp only [num, rep, List.map_cons] at ih ⊢
    rw [show (b + 256 * num ds) / 2 = (b / 2 + num ds % 2 * 128) + 256 * (num ds / 2) by omega, and_cons _ _ (by omega) (by decide), and_cons _ _ hb (by decide), a, ← ih]
    unfold f1
    omega
theorem step2 (ds : List Nat) (h : ∀ d ∈ ds, d < 256) : (num ds / 4 &&& rep 51 ds) + (num ds &&& rep 51 ds) = num (ds.map f2) := by
  induction ds with
  | nil => simp [num, rep]
  | cons b ds ih =>
    have hb := h b List.mem_cons_self
    have ih := ih (fun d hd => h d (List.mem_cons_of_mem _ hd))
    have a := byte2a ⟨b, hb⟩ ⟨num ds % 4, Nat.mod_lt _ (by decide)⟩
    dsimp only at a
    simp only [num, rep, List.map_cons] at ih ⊢
    rw [show (b + 256 * num ds) / 4 = (b / 4 + num ds % 4 * 64) + 256 * (num ds / 4) by omega, and_cons _ _ (by omega) (by decide), and_cons _ _ hb (by decide), a, ← ih]
    unfold f2
    omega
theorem num_low {ds : List Nat} (h : ∀ d ∈ ds, Low d) : num ds % 16 ≤ 4 := by
  cases ds with
  | nil => exact Nat.zero_le _
  | cons b ds => have := (h b List.mem_cons_self).2.2; simp only [num]; omega
theorem step3 (ds : List Nat) (h : ∀ d ∈ ds, Low d) : (num ds / 16 + num ds) &&& rep 15 ds = num (ds.map f3) := by
  induction ds with
  | nil => simp [num, rep]
  | cons b ds ih =>
    obtain ⟨hb, h1, h2⟩ := h b List.mem_cons_self
    have hl := num_low (fun d hd => h d (List.mem_cons_of_mem _ hd))
    have ih := ih (fun d hd => h d (List.mem_cons_of_mem _ hd))
    simp only [num, rep, List.map_cons] at ih ⊢
    rw [show (b + 256 * num ds) / 16 + (b + 256 * num ds) = (b / 16 + num ds % 16 * 16 + b) + 256 * (num ds / 16 + num ds) by omega, and_cons _ _ (by omega) (by decide), ih]
    rw [show (15 : Nat) = 2 ^ 4 - 1 by rfl, Nat.and_two_pow_sub_one_eq_mod]
    unfold f3
    omega
def digs : Nat → Nat → List Nat
  | 0, _ => []
  | k + 1, x => x % 256 :: digs k (x / 256)
theorem num_digs (k x : Nat) (h : x < 256 ^ k) : num (digs k x) = x := by
  induction k generalizing x with
  | zero => simp [digs, num]; simp at h; exact h.symm
  | succ k ih =>
    rw [digs, num, ih _ (by rw [Nat.pow_succ, Nat.mul_comm] at h; exact Nat.div_lt_of_lt_mul h)]
    omega
theorem digits8 (x : Nat) (hx : x < 18446744073709551616) : ∃ a b c d e f g h : Nat, x = num [a, b, c, d, e, f, g, h] ∧ a < 256 ∧ b < 256 ∧ c < 256 ∧ d < 256 ∧ e < 256 ∧ f < 256 ∧ g < 256 ∧ h < 256 :=
  have m := fun y : Nat => Nat.mod_lt y (show 0 < 256 by decide)
  ⟨_, _, _, _, _, _, _, _, (num_digs 8 x hx).symm, m _, m _, m _, m _, m _, m _, m _, m _⟩
theorem num_div (d : Nat) (ds : List Nat) (h : d < 256) : num (d :: ds) / 256 = num ds := by
  rw [num]
  generalize num ds = X
  omega
theorem num_div2 (d e : Nat) (ds : List Nat) (h : d < 256) (k : e < 256) : num (d :: e :: ds) / 65536 = num ds := by
  rw [show (65536 : Nat) = 256 * 256 by rfl, ← Nat.div_div_eq_div_mul, num_div _ _ h, num_div _ _ k]
theorem num_div4 (a b c d : Nat) (ds : List Nat) (ha : a < 256) (hb : b < 256) (hc : c < 256) (hd : d < 256) : num (a :: b :: c :: d :: ds) / 4294967296 = num ds := by
  rw [show (4294967296 : Nat) = 65536 * 65536 by rfl, ← Nat.div_div_eq_div_mul, num_div2 _ _ _ ha hb, num_div2 _ _ _ hc hd]
def zadd : List Nat → List Nat → List Nat
  | [], m => m
  | l, [] => l
  | a :: l, b :: m => (a + b) :: zadd l m
theorem num_add (l m : List Nat) : num l + num m = num (zadd l m) := by
  induction l generalizing m with
  | nil => simp [zadd, num]
  | cons a l ih =>
    cases m with
    | nil => simp [zadd, num]
    | cons b m =>
      have := ih m
      simp only [zadd, num]
      rw [← this]
      generalize num l = X
      generalize num m = Y
      omega
theorem num_top (c : Nat) (l : List Nat) (hl : l.length = 8) (hc : c ≤ 68) (h : ∀ y ∈ l, y ≤ c) : num l < 9223372036854775808 := by
  have := num_le c l h
  rw [hl] at this
  generalize num l = X at *
  omega
theorem pop_num (b : Nat) (ds : List Nat) (k : Nat) (hb : b < 256) : pop (8 + k) (num (b :: ds)) = pop 8 b + pop k (num ds) := by
  rw [pop_add]
  simp only [num]
  rw [show (b + 256 * num ds) % 2 ^ 8 = b by omega, show (b + 256 * num ds) / 2 ^ 8 = num ds by omega]

theorem ones_any (x : Nat) (w : World) (hx : x < 18446744073709551616) :
    Calls Tryz.prog 136 #[.int .u64 (x : Int)] w fun e w' => e = .returned (.int .i64 ((pop 64 x : Nat) : Int)) ∧ w = w' := by
  obtain ⟨a, b, c, d, e, f, g, h, rfl, ha, hb, hc, hd, he, hf, hg, hh⟩ := digits8 x hx
  have hp : pop 64 (num [a, b, c, d, e, f, g, h]) = pop 8 a + pop 8 b + pop 8 c + pop 8 d + pop 8 e + pop 8 f + pop 8 g + pop 8 h := by
    rw [pop_num a _ 56 ha, pop_num b _ 48 hb, pop_num c _ 40 hc, pop_num d _ 32 hd, pop_num e _ 24 he, pop_num f _ 16 hf, pop_num g _ 8 hg, pop_num h [] 0 hh]
    simp only [pop]
    omega
  rw [hp]
  have hall : ∀ y ∈ [a, b, c, d, e, f, g, h], y < 256 := by simp; omega
  have s1 := step1 _ hall
  have hall1 : ∀ y ∈ [a, b, c, d, e, f, g, h].map f1, y < 256 := by
    intro y hy
    obtain ⟨z, hz, rfl⟩ := List.mem_map.1 hy
    exact byte1b ⟨z, hall z hz⟩
  have s2 := step2 _ hall1
  have hall2 : ∀ y ∈ ([a, b, c, d, e, f, g, h].map f1).map f2, Low y := by
    intro y hy
    obtain ⟨z, hz, rfl⟩ := List.mem_map.1 hy
    obtain ⟨z, hz2, rfl⟩ := List.mem_map.1 hz
    exact ⟨byte2b ⟨f1 z, hall1 _ hz⟩, byte3a ⟨z, hall z hz2⟩⟩
  have s3 := step3 _ hall2
  have q1 := fun z hz => byte1b ⟨z, hall z hz⟩
  have m1 := num_le 255 ([a, b, c, d, e, f, g, h].map f1) (fun y hy => by have := hall1 y hy; omega)
  have m2 := num_le 68 (([a, b, c, d, e, f, g, h].map f1).map f2) (fun y hy => by obtain ⟨_, h1, h2⟩ := hall2 y hy; omega)
  simp only [List.length_map, List.length_cons, List.length_nil] at m1 m2
  have m1 : num ([a, b, c, d, e, f, g, h].map f1) < 18446744073709551616 := by
    generalize num ([a, b, c, d, e, f, g, h].map f1) = X at m1 ⊢
    omega
  have hm2 : num (([a, b, c, d, e, f, g, h].map f1).map f2) / 16 + num (([a, b, c, d, e, f, g, h].map f1).map f2) < 18446744073709551616 := by
    generalize num (([a, b, c, d, e, f, g, h].map f1).map f2) = X at m2 ⊢
    omega
  have m2 : num (([a, b, c, d, e, f, g, h].map f1).map f2) < 18446744073709551616 := Nat.lt_of_le_of_lt (Nat.le_add_left _ _) hm2
  have r55 : rep 85 [a, b, c, d, e, f, g, h] = 6148914691236517205 := by simp [rep, num]
  have r33 : rep 51 ([a, b, c, d, e, f, g, h].map f1) = 3689348814741910323 := by simp [rep, num]
  have r0f : rep 15 (([a, b, c, d, e, f, g, h].map f1).map f2) = 1085102592571150095 := by simp [rep, num]
  rw [r55] at s1
  rw [r33] at s2
  rw [r0f] at s3
  have hX3 : num ((([a, b, c, d, e, f, g, h].map f1).map f2).map f3) = num [pop 8 a, pop 8 b, pop 8 c, pop 8 d, pop 8 e, pop 8 f, pop 8 g, pop 8 h] := by
    simp only [List.map_cons, List.map_nil]
    rw [byte3b ⟨a, ha⟩, byte3b ⟨b, hb⟩, byte3b ⟨c, hc⟩, byte3b ⟨d, hd⟩, byte3b ⟨e, he⟩, byte3b ⟨f, hf⟩, byte3b ⟨g, hg⟩, byte3b ⟨h, hh⟩]
  rw [hX3] at s3
  have p1 := pop_le 8 a
  have p2 := pop_le 8 b
  have p3 := pop_le 8 c
  have p4 := pop_le 8 d
  have p5 := pop_le 8 e
  have p6 := pop_le 8 f
  have p7 := pop_le 8 g
  have p8 := pop_le 8 h
  generalize num [a, b, c, d, e, f, g, h] = X0 at *
  generalize num ([a, b, c, d, e, f, g, h].map f1) = X1 at *
  generalize num (([a, b, c, d, e, f, g, h].map f1).map f2) = X2 at *
  generalize pop 8 a = A at *
  generalize pop 8 b = B at *
  generalize pop 8 c = C at *
  generalize pop 8 d = D at *
  generalize pop 8 e = E at *
  generalize pop 8 f = F at *
  generalize pop 8 g = G at *
  generalize pop 8 h = H at *
  clear hall hall1 hall2 q1 r55 r33 r0f hX3 hp ha hb hc hd he hf hg hh a b c d e f g h
  obtain ⟨X3, e3⟩ : ∃ X3, X3 = num [A, B, C, D, E, F, G, H] := ⟨_, rfl⟩
  rw [← e3] at s3
  have k1 : IntKind.u64.wrap (bits .and .u64 ((X0 : Int) / 2) 6148914691236517205 + bits .and .u64 (X0 : Int) 6148914691236517205) = (X1 : Int) := by
    have t1 := bits_and_u64_nat (X0 / 2) 6148914691236517205 (by omega) (by decide)
    have t2 := bits_and_u64_nat X0 6148914691236517205 hx (by decide)
    have t3 : ((X0 / 2 : Nat) : Int) = (X0 : Int) / 2 := by omega
    rw [t3] at t1
    rw [show ((6148914691236517205 : Nat) : Int) = 6148914691236517205 from rfl] at t1 t2
    rw [t1, t2, ← Int.natCast_add, s1, u64w _ (by omega) (by omega)]
  have k2 : IntKind.u64.wrap (bits .and .u64 ((X1 : Int) / 4) 3689348814741910323 + bits .and .u64 (X1 : Int) 3689348814741910323) = (X2 : Int) := by
    have t1 := bits_and_u64_nat (X1 / 4) 3689348814741910323 (by omega) (by decide)
    have t2 := bits_and_u64_nat X1 3689348814741910323 m1 (by decide)
    have t3 : ((X1 / 4 : Nat) : Int) = (X1 : Int) / 4 := by omega
    rw [t3] at t1
    rw [show ((3689348814741910323 : Nat) : Int) = 3689348814741910323 from rfl] at t1 t2
    rw [t1, t2, ← Int.natCast_add, s2, u64w _ (by omega) (by omega)]
  have k3 : bits .and .u64 ((X2 : Int) / 16 + (X2 : Int)) 1085102592571150095 = (X3 : Int) := by
    rw [show (X2 : Int) / 16 + (X2 : Int) = ((X2 / 16 + X2 : Nat) : Int) by omega]
    have t1 := bits_and_u64_nat (X2 / 16 + X2) 1085102592571150095 hm2 (by decide)
    rw [s3] at t1
    exact t1
  have d3 : X3 / 256 = num [B, C, D, E, F, G, H] := by rw [e3]; exact num_div _ _ (by omega)
  obtain ⟨X4, e4⟩ : ∃ X4, X4 = X3 + X3 / 256 := ⟨_, rfl⟩
  have v4 : X4 = num [A + B, B + C, C + D, D + E, E + F, F + G, G + H, H] := by rw [e4, d3, e3]; exact num_add _ _
  have d4 : X4 / 65536 = num [C + D, D + E, E + F, F + G, G + H, H] := by rw [v4]; exact num_div2 _ _ _ (by omega) (by omega)
  obtain ⟨X5, e5⟩ : ∃ X5, X5 = X4 + X4 / 65536 := ⟨_, rfl⟩
  have v5 : X5 = num [A + B + (C + D), B + C + (D + E), C + D + (E + F), D + E + (F + G), E + F + (G + H), F + G + H, G + H, H] := by rw [e5, d4, v4]; exact num_add _ _
  have d5 : X5 / 4294967296 = num [E + F + (G + H), F + G + H, G + H, H] := by rw [v5]; exact num_div4 _ _ _ _ _ (by omega) (by omega) (by omega) (by omega)
  obtain ⟨X6, e6⟩ : ∃ X6, X6 = X5 + X5 / 4294967296 := ⟨_, rfl⟩
  have v6 : X6 = num [A + B + (C + D) + (E + F + (G + H)), B + C + (D + E) + (F + G + H), C + D + (E + F) + (G + H), D + E + (F + G) + H, E + F + (G + H), F + G + H, G + H, H] := by rw [e6, d5, v5]; exact num_add _ _
  have t6 : X6 < 9223372036854775808 := by
    rw [v6]
    refine num_top 64 _ rfl (by decide) ?_
    simp only [List.mem_cons, List.not_mem_nil, or_false]
    rintro y (rfl | rfl | rfl | rfl | rfl | rfl | rfl | rfl) <;> omega
  have g8 : X6 % 128 = A + B + C + D + E + F + G + H := by
    rw [v6, num]
    generalize num _ = X
    omega
  clear v4 v5 v6 d3 d4 d5 e3
  have k4 : IntKind.u64.wrap ((X3 : Int) + (X3 : Int) / 256) = (X4 : Int) := by
    rw [show (X3 : Int) + (X3 : Int) / 256 = (X4 : Int) by omega]
    exact u64w _ (by omega) (by omega)
  have k5 : IntKind.u64.wrap ((X4 : Int) + (X4 : Int) / 65536) = (X5 : Int) := by
    rw [show (X4 : Int) + (X4 : Int) / 65536 = (X5 : Int) by omega]
    exact u64w _ (by omega) (by omega)
  have k6 : IntKind.u64.wrap ((X5 : Int) + (X5 : Int) / 4294967296) = (X6 : Int) := by
    rw [show (X5 : Int) + (X5 : Int) / 4294967296 = (X6 : Int) by omega]
    exact u64w _ (by omega) (by omega)
  have k7 : wrap64 (X6 : Int) = (X6 : Int) := by unfold wrap64; omega
  have k8 : bits .and .i64 (X6 : Int) 127 = ((A + B + C + D + E + F + G + H : Nat) : Int) := by
    rw [i64_and127, ← g8]
    rfl
  clear s1 s2 s3 m1 m2 hm2 e4 e5 e6 t6 g8 p1 p2 p3 p4 p5 p6 p7 p8 hx
  go_enter Tryz.func136, Tryz.ntmps136
  go_wp2_with (simp only [k7])
  go_ret
  exact ⟨rfl, rfl⟩
end Go.Proofs.YtpalmobmabkadaaGreatDoor

namespace Go.Proofs.YtpalmobmabkadaaGreatDoor
open Go.RowKit
set_option maxRecDepth 20000

def popAll (ws : List Nat) : Nat := (ws.map (pop 64)).sum
theorem popAll_take {ws : List Nat} {i : Nat} (h : i < ws.length) : popAll (ws.take (i + 1)) = popAll (ws.take i) + pop 64 (ws.getD i 0) := by
  unfold popAll
  rw [List.take_succ_eq_append_getElem h, List.map_append, List.sum_append, List.getD, List.getElem?_eq_getElem h]
  simp
theorem popAll_le (ws : List Nat) : popAll ws ≤ 64 * ws.length := by
  induction ws with
  | nil => exact Nat.le_refl _
  | cons x ws ih =>
    have e : popAll (x :: ws) = pop 64 x + popAll ws := rfl
    have := pop_le 64 x
    rw [e, List.length_cons]
    omega
theorem popAll_count (ws : List Nat) : popAll ws = (List.range (64 * ws.length)).countP (bitAt ws) := by
  induction ws with
  | nil => rfl
  | cons x ws ih =>
    have e : popAll (x :: ws) = pop 64 x + popAll ws := rfl
    rw [e, ih, pop_count, List.length_cons, show 64 * (ws.length + 1) = 64 + 64 * ws.length by omega, List.range_add, List.countP_append, List.countP_map]
    have e1 : (List.range 64).countP x.testBit = (List.range 64).countP (bitAt (x :: ws)) := List.countP_congr (by
      intro i hi
      rw [List.mem_range] at hi
      unfold bitAt
      rw [show i / 64 = 0 by omega, show i % 64 = i by omega]
      rfl)
    have e2 : (List.range (64 * ws.length)).countP (bitAt ws) = (List.range (64 * ws.length)).countP (bitAt (x :: ws) ∘ fun x => 64 + x) := List.countP_congr (by
      intro i _
      show bitAt ws i = true ↔ bitAt (x :: ws) (64 + i) = true
      unfold bitAt
      rw [show (64 + i) / 64 = i / 64 + 1 by omega, show (64 + i) % 64 = i % 64 by omega, List.getD_cons_succ])
    rw [e1, e2]
def Av.free (a : Av) : Nat := popAll a.ws

section
variable {w : World}
theorem row_und : Tryz.prog.underlying 201 = some (.array 8 34) := Tryz.underlying201
theorem u64s_one (xs : List Nat) : ∀ u ∈ u64s xs, u.oneCell' = true := by
  intro u hu
  unfold u64s at hu
  obtain ⟨x, _, rfl⟩ := List.mem_map.1 hu
  rfl
theorem u64s_len (xs : List Nat) : (u64s xs).length = xs.length := by unfold u64s; rw [List.length_map]
theorem row_zeroes (w : World) : (zeroValue 201).run Tryz.prog w = .ok (.agg (u64s Z8).toArray) w := by kernel_rfl
theorem row_stores {g : Nat} {e : TypeId} {S T : List Nat} (hr : w.heap[g]? = some (.cells (u64s S).toArray e (0, 0))) (hS : S.length = 8) (hT : T.length = 8) : (Instr.storeAt 201 (.pointer (some ⟨g, 0, none⟩)) (.agg (u64s T).toArray)).run Tryz.prog w = .ok () (w.setRow g (u64s T).toArray) := by
  simp only [Instr.storeAt, Instr.sureAddr, Sem.run_bind, Sem.run_pure, Result.andThen_ok]
  exact run_storeVar_row w g e 201 _ _ hr (by rw [size_row]; simp [u64s_len, hT]) (by simp [u64s_len, hS, hT]) (by
    rw [Array.all_eq_true_iff_forall_mem]
    intro x hx
    exact u64s_one T x (by simpa using hx))
theorem row_newVar (v : Value) : (newVar 201 v).run Tryz.prog w = .ok ⟨w.heap.size, 0, none⟩ (w.alloc (.cells v.cells 201)) := by rfl
variable {ops : Array Oper} {rest : List Oper} {o : Oper} {a : Act} {Q : Exit → Act → World → Prop}
/-- A new row of words. -/
def NewRw (w : World) (T : List Nat) (W : World) (b : Nat) : Prop := Hid (b = w.heap.size) ∧ Hid (W.heap[b]? = some (.cells (u64s T).toArray 201 (0, 0))) ∧ Hid (Below w.heap.size w W) ∧ Hid (W.heap.size = b + 1)
theorem wpL_rnew (hgd : o.guard = none) (ho : o.op = .alloc 201)
    (hk : ∀ (W : World) (b : Nat), NewRw w Z8 W b → wpList Tryz.prog ops Q rest (a.put o.dst (.pointer (some ⟨b, 0, none⟩))) W) : wpList Tryz.prog ops Q (o :: rest) a w := by
  refine wpList_plain hgd fun K hK => ?_
  have hr : (Instr.alloc 201 true (.tuple #[])).run Tryz.prog w = .ok (.pointer (some ⟨w.heap.size, 0, none⟩)) (w.alloc (.cells (u64s Z8).toArray 201)) := by
    have h0 : (newVar 201 (.agg (u64s Z8).toArray)).run Tryz.prog w = .ok ⟨w.heap.size, 0, none⟩ (w.alloc (.cells (u64s Z8).toArray 201)) := row_newVar _
    simp only [Instr.alloc, Sem.run_bind, row_zeroes, Result.andThen_ok, h0, Sem.run_pure]
  unfold Oper.wp
  simp only [execOp, ho, Sem.run_bind, hr, Result.andThen_ok, Sem.run_pure]
  exact hK _ _ (hk _ _ ⟨Lib.hid rfl, Lib.hid (heap_alloc_new w _), Lib.hid ((Below.refl _ _).alloc (Nat.le_refl _) _), Lib.hid (by simp)⟩)
theorem wpL_rstore (hgd : o.guard = none) (x y : Operand) (ho : o.op = .store 201 x y) {g : Nat} {e : TypeId} {S T : List Nat} (hx : a.eval x = .pointer (some ⟨g, 0, none⟩)) (hy : a.eval y = .agg (u64s T).toArray) (hr : w.heap[g]? = some (.cells (u64s S).toArray e (0, 0))) (hS : S.length = 8) (hT : T.length = 8)
    {N : Nat} {w0 : World} (hb : Below N w0 w) (hg : N ≤ g)
    (hk : ∀ W : World, Hid (W.heap[g]? = some (.cells (u64s T).toArray e (0, 0))) → Hid (Below N w0 W) → Hid (W.heap.size = w.heap.size) → wpList Tryz.prog ops Q rest (a.put o.dst undef) W) : wpList Tryz.prog ops Q (o :: rest) a w := by
  refine wpList_plain hgd fun K hK => ?_
  have hrun := row_stores hr hS hT
  unfold Oper.wp
  simp only [execOp, ho, hx, hy, Sem.run_bind, hrun, Result.andThen_ok, Sem.run_pure]
  exact hK _ _ (hk _ (Lib.hid (setRow_heap w g _ _ e _ hr)) (Lib.hid ⟨hb.os, hb.tape, hb.output, by have := hb.size; simpa using this, fun k hk => (setRow_other w g k _ (by omega)).trans (hb.block k hk)⟩) (Lib.hid (by simp)))
theorem wpL_rload (hgd : o.guard = none) (x : Operand) (ho : o.op = .load 201 x) {g : Nat} {e : TypeId} {fr : Nat × Nat} {T : List Nat} (hx : a.eval x = .pointer (some ⟨g, 0, none⟩)) (hr : w.heap[g]? = some (.cells (u64s T).toArray e fr)) (hT : T.length = 8)
    (hk : wpList Tryz.prog ops Q rest (a.put o.dst (.agg (u64s T).toArray)) w) : wpList Tryz.prog ops Q (o :: rest) a w := by
  refine wpList_plain hgd fun K hK => ?_
  have hrun : (Instr.loadAt 201 (.pointer (some ⟨g, 0, none⟩))).run Tryz.prog w = .ok (.agg (u64s T).toArray) w := by
    simp only [Instr.loadAt, Instr.sureAddr, Sem.run_bind, Sem.run_pure, Result.andThen_ok]
    exact run_loadVar_row w g e _ _ fr _ hr row_und rfl (by rw [size_row]; simp [u64s_len, hT])
  unfold Oper.wp
  simp only [execOp, ho, hx, Sem.run_bind, hrun, Result.andThen_ok, Sem.run_pure]
  exact hK _ _ hk
theorem row_index {T : List Nat} (hT : T.length = 8) {i : Nat} (hi : i < 8) (w : World) : (Instr.index 201 (.agg (u64s T).toArray) (.int .i64 (i : Int))).run Tryz.prog w = .ok (.int .u64 ((T.getD i 0 : Nat) : Int)) w := by
  have hs : (Go.sizeOf 34).run Tryz.prog w = .ok 1 w := by kernel_rfl
  have ha : (isAgg 34).run Tryz.prog w = .ok false w := by unfold isAgg; rw [Sem.run_bind, run_underlying Tryz.underlying34 w]; rfl
  have hg : (u64s T)[i]? = some (.int .u64 ((T.getD i 0 : Nat) : Int)) := by simp [u64s, List.getD, List.getElem?_eq_getElem (show i < T.length by omega)]
  have hpart : (part 34 (u64s T).toArray (i * 1)).run Tryz.prog w = .ok (.int .u64 ((T.getD i 0 : Nat) : Int)) w := by
    simp only [part, Sem.run_bind, ha, Result.andThen_ok, Nat.mul_one, List.getElem?_toArray, hg]
    rfl
  have hlt : (0 : Int) ≤ (i : Int) ∧ (i : Int) < ((8 : Nat) : Int) := by omega
  simp only [Instr.index, asIntOf, Sem.run_bind, Sem.run_pure, Result.andThen_ok, run_underlying row_und, if_pos hlt, hs, Int.toNat_natCast, hpart]
end

section
variable {w w' : World} {g R k : Nat} {a : Av}
set_option maxHeartbeats 1000000 in
theorem afree_any (h : Alw w g R k a) :
    Calls Tryz.prog 120 #[.pointer (some ⟨g, 0, none⟩)] w fun e w' => e = .returned (.int .i64 ((a.free : Nat) : Int)) ∧ Below w.heap.size w w' := by
  have c1 := h.c1
  have hsm := h.ok.small
  have HR := Lib.hid (fun (W : World) (hb : Below w.heap.size w W) => (h.below hb).rows)
  have HL := Lib.hid h.ok.len
  have HX := Lib.hid h.ok.lt
  clear h
  go_enter Tryz.func120, Tryz.ntmps120
  go_wp2_with (fail)
  go_loopw [3, 15] (fun nr ir wr => ∃ i : Nat, i ≤ k ∧ ir = .int .i64 (i : Int) ∧ nr = .int .i64 ((popAll (a.ws.take (8 * i)) : Nat) : Int) ∧ Hid (Below w.heap.size w wr)) (fun _ ir _ => k - (intOf ir).toNat)
  case atStart => exact ⟨0, Nat.zero_le _, rfl, rfl, Lib.hid (Below.refl _ _)⟩
  case round =>
    obtain ⟨i, hi, rfl, rfl, RB⟩ := hrel
    by_cases hlt : i < k
    · have hT := rowOf_len HL.out hlt
      have HT := Lib.hid hT
      have HI := Lib.hid (fun j (hj : j < 8) => row_index hT hj)
      have hpl := popAll_le (a.ws.take (8 * i))
      rw [List.length_take] at hpl
      have HPL := Lib.hid hpl
      clear hT hpl
      go_wp2_with (first
        | (refine wpL_row rfl (.tmp 17) rfl rfl (HR.out _ RB.out) HL.out hlt ?_)
        | (refine wpL_rnew rfl rfl ?_; intro W1 b ⟨hb1, hr1, hl1, hs1⟩)
        | (refine wpL_rstore rfl (.tmp 5) (.tmp 18) rfl rfl rfl hr1.out (by rfl) HT.out hl1.out (Nat.le_of_eq hb1.out.symm) ?_; intro W2 hr2 hl2 hs2)
        | (refine wpL_rload rfl (.tmp 5) rfl rfl hr2.out HT.out ?_)
        | fail)
      clear hb1 hr1 hl1 hs1 hr2 hs2
      go_loop [3, 20] (fun nr jr => ∃ j : Nat, j ≤ 8 ∧ jr = .int .i64 (j : Int) ∧ nr = .int .i64 ((popAll (a.ws.take (8 * i + j)) : Nat) : Int)) (fun _ jr => 8 - (intOf jr).toNat)
      case atStart => exact ⟨0, Nat.zero_le _, rfl, rfl⟩
      case round =>
        obtain ⟨j, hj, rfl, rfl⟩ := hrel
        by_cases hjl : j < 8
        · have hix := HI.out j hjl W2
          have hin : 8 * i + j < a.ws.length := by have := HL.out; omega
          have htk := popAll_take hin
          have hge : (rowOf a.ws i).getD j 0 = a.ws.getD (8 * i + j) 0 := rowOf_get _ _ _ hjl
          have hlt2 := getD_lt HX.out (8 * i + j)
          rw [hge] at hix
          have hle := popAll_le (a.ws.take (8 * i + j))
          rw [List.length_take] at hle
          have hp64 := pop_le 64 (a.ws.getD (8 * i + j) 0)
          have HN := Lib.hid (show ((popAll (a.ws.take (8 * i + j)) : Nat) : Int) + ((pop 64 (a.ws.getD (8 * i + j) 0) : Nat) : Int) = ((popAll (a.ws.take (8 * i + (j + 1))) : Nat) : Int) by rw [← Nat.add_assoc, htk]; omega)
          have hones := ones_any _ W2 hlt2
          have hb1 : ((popAll (a.ws.take (8 * i + j)) : Nat) : Int) ≤ 102400 := by have := HL.out; have := hle; omega
          generalize a.ws.getD (8 * i + j) 0 = x at *
          generalize popAll (a.ws.take (8 * i + j)) = n0 at *
          generalize pop 64 x = p0 at *
          have HO := Lib.hid hones
          clear hin htk hge hlt2 hle hones
          go_wp2_with (first
            | (go_at_call 136; refine HO.out.mono ?_; rintro e w1 ⟨rfl, rfl⟩)
            | fail)
          go_round
          case rel => exact ⟨j + 1, by omega, by go_num, by simp [HN.out]⟩
          case measure => simp [intOf]; omega
        · obtain rfl : j = 8 := by omega
          go_wp2
          go_roundw
          case rel => exact ⟨i + 1, by omega, by go_num, by rw [show 8 * (i + 1) = 8 * i + 8 by omega], Lib.hid (RB.out.trans (hl2.out.mono RB.out.size))⟩
          case measure => simp [intOf]; omega
    · obtain rfl : i = k := by omega
      rw [List.take_of_length_le (by rw [HL.out]; exact Nat.le_refl _)]
      go_wp2
      go_ret
      exact ⟨rfl, RB.out⟩
end
end Go.Proofs.YtpalmobmabkadaaGreatDoor

namespace Go.Proofs.YtpalmobmabkadaaGreatDoor
open Go.RowKit
set_option maxRecDepth 20000

def Av.first (a : Av) : Option Nat := (List.range a.n).find? (bitAt a.ws)
theorem first_is {a : Av} {k : Nat} (h : a.Ok k) : FirstIs a.ws a.first := by
  unfold Av.first
  cases hf : (List.range a.n).find? (bitAt a.ws) with
  | none =>
    intro j
    by_cases hj : j < a.n
    · have := List.find?_eq_none.1 hf j (List.mem_range.2 hj)
      simpa using this
    · exact h.out j (by omega)
  | some j =>
    obtain ⟨h1, _, h3⟩ := List.find?_range_eq_some.1 hf
    exact ⟨h1, fun i hi => by simpa using h3 i hi⟩
def Av.take (a : Av) : (Int × Int) × Av := match a.first with
  | none => ((0, 31), a)
  | some j => (((j : Int), 0), a.flip j)
def Av.some : Nat → Av → List Int × Av
  | 0, a => ([], a)
  | m + 1, a => ((Av.some m a).1 ++ [(Av.some m a).2.take.1.1], (Av.some m a).2.take.2)
theorem Av.some_len (m : Nat) (a : Av) : (Av.some m a).1.length = m := by
  induction m with
  | zero => rfl
  | succ m ih => rw [Av.some, List.length_append, ih]; rfl
theorem Av.take_n (a : Av) : a.take.2.n = a.n := by
  unfold Av.take
  cases a.first <;> rfl
theorem Av.some_n (m : Nat) (a : Av) : (Av.some m a).2.n = a.n := by
  induction m with
  | zero => rfl
  | succ m ih => rw [Av.some, Av.take_n, ih]
theorem Av.take_ok {a : Av} {k : Nat} (h : a.Ok k) : a.take.2.Ok k := by
  have hf := first_is h
  unfold Av.take
  cases hj : a.first with
  | none => exact h
  | some j => rw [hj] at hf; exact h.flip (first_lt h hf)
theorem Av.some_ok {a : Av} {k : Nat} (h : a.Ok k) (m : Nat) : (Av.some m a).2.Ok k := by
  induction m with
  | zero => exact h
  | succ m ih => exact Av.take_ok ih

section
variable {w w' : World} {g R k : Nat} {a : Av}
theorem grown_of_below {b : Nat} (h : Below w.heap.size w w') : w.grownBy w' (some b) := below_grown h _
/-- What Take does. -/
def Took (w : World) (g R k : Nat) (a : Av) (e : Ending) (w' : World) : Prop := e = .returned (.tuple #[.int .i64 a.take.1.1, .int .i64 a.take.1.2]) ∧ Alw w' g R k a.take.2 ∧ w.grownBy w' (some R)
theorem atake_any (h : Alw w g R k a) (hT : Tab w) :
    Calls Tryz.prog 121 #[.pointer (some ⟨g, 0, none⟩)] w (Took w g R k a) := by
  have hf := first_is h.ok
  unfold Took Av.take
  cases hj : a.first with
  | none =>
    rw [hj] at hf
    have HC := Lib.hid (first_none h hf)
    have HH := Lib.hid h
    clear h hf hj hT
    dsimp only
    go_enter Tryz.func121, Tryz.ntmps121
    go_wp2_with (first
      | (go_at_call 137; refine HC.out.mono ?_; rintro e w1 ⟨rfl, rfl⟩)
      | fail)
    go_ret2
    exact ⟨rfl, HH.out, grown_refl _ _⟩
  | some j =>
    rw [hj] at hf
    have HC := Lib.hid (first_some h hT hf)
    have HT := Lib.hid (fun (W : World) (hb : Below w.heap.size w W) => turn_any (h.below hb) j (first_lt h.ok hf))
    clear h hf hj hT
    dsimp only
    go_enter Tryz.func121, Tryz.ntmps121
    go_wp2_with (first
      | (go_at_call 137; refine HC.out.mono ?_; rintro e w1 ⟨rfl, hb1⟩)
      | (go_at_call 114; refine (HT.out _ hb1).mono ?_; rintro e w2 ⟨rfl, hA2, hg2⟩)
      | fail)
    go_ret2
    exact ⟨rfl, hA2, grown_below hb1 hg2 (fun _ _ => .inr trivial)⟩

def is (l : List Int) : List Value := l.map (.int .i64)
theorem is_len (l : List Int) : (is l).length = l.length := by unfold is; rw [List.length_map]
theorem below_of_grown {row : Option Nat} (h : w.grownBy w' row) (hr : ∀ q, row = some q → w.heap.size ≤ q) : Below w.heap.size w w' :=
  ⟨h.os, h.tape, h.output, h.size, fun i hi => h.block i hi (fun e => by have := hr i e.symm; omega)⟩
theorem Alw.far (h : Alw w g R k a) {L : Nat} (hg : w.grownBy w' (some L)) (h1 : L ≠ g) (h2 : L ≠ R) : Alw w' g R k a :=
  ⟨row_far h.row hg (fun e => h1 (by injection e with e; exact e.symm)), row_far h.rows hg (fun e => h2 (by injection e with e; exact e.symm)), h.ne, h.ok, h.pos⟩
theorem ownsRow_row {base n sz : Nat} {e : TypeId} {L : Nat} {xs : List Value} (h : w.ownsRow base e sz (.slice (some ⟨L, 0, none⟩) n n) n xs) : w.heap[L]? = some (.cells xs.toArray e (0, 0)) ∧ base ≤ L := by
  obtain ⟨hx, ⟨hv, _⟩ | ⟨q, cap, cur, hv, hbg, hq, hnc, hcm, hcs, htake⟩⟩ := h
  · cases hv
  · cases hv
    have e1 : cur.toList = xs := by rw [← htake, List.take_of_length_le (by simp; omega)]
    rw [hq, ← e1]
    exact ⟨by simp, hbg⟩
theorem Tab.grown (h : Tab w) {L : Nat} (hg : w.grownBy w' (some L)) (hL : 0 < L) : Tab w' := by
  refine ⟨Nat.lt_of_lt_of_le h.1 hg.size, fun j hj => ?_⟩
  have e : w'.heap[0]? = w.heap[0]? := hg.block 0 h.1 (by intro e; injection e with e; omega)
  have := h.2 j hj
  rw [World.cell?, e]
  exact this
theorem int_elem : Elem Tryz.prog 48 3 (.int .i64 0) 1 8 := Elem.mk_ Tryz.underlying48 (by kernel_rfl) rfl (by decide)
end
end Go.Proofs.YtpalmobmabkadaaGreatDoor
