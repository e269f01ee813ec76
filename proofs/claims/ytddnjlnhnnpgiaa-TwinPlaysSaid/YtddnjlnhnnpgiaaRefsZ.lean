/- The check sum as plain mathematics: eight steps of a byte bit by bit, and by two looks into a table, come to one number. Contracts of package crc. Contracts of crc's Seal and Open. Contracts of the document's own check sum (keelsonref02). -/
import Derived.Test.YtddnjlnhnnpgiaaWords
import Derived.Test.YtddnjlnhnnpgiaaTextZ
import Derived.Deep.WholeRow
import Derived.Test.YtddnjlnhnnpgiaaRefbZ
import Derived.Test.YtddnjlnhnnpgiaaSegsZ
namespace Go.Proofs.Ytddnjlnhnnpgiaa
set_option maxRecDepth 20000

def stp (n : Nat) : Nat := if n % 2 = 1 then n / 2 ^^^ 2197175160 else n / 2
def stpn : Nat → Nat → Nat
  | 0, n => n
  | k + 1, n => stp (stpn k n)
theorem xor_swap (a b c d : Nat) : (a ^^^ b) ^^^ (c ^^^ d) = (a ^^^ c) ^^^ (b ^^^ d) := by
  rw [Nat.xor_assoc, Nat.xor_assoc, ← Nat.xor_assoc b c d, Nat.xor_comm b c, Nat.xor_assoc c b d]
theorem stp_lin (a b : Nat) : stp (a ^^^ b) = stp a ^^^ stp b := by
  have hm : (a ^^^ b) % 2 = (a % 2) ^^^ (b % 2) := Nat.xor_mod_two_pow (n := 1)
  unfold stp
  rw [hm, Nat.xor_div_two]
  rcases Nat.mod_two_eq_zero_or_one a with ha | ha <;> rcases Nat.mod_two_eq_zero_or_one b with hb | hb <;> rw [ha, hb]
  · simp
  · simp [Nat.xor_assoc]
  · simp only [Nat.xor_zero, if_true, Nat.zero_ne_one, if_false]
    rw [Nat.xor_assoc, Nat.xor_comm (b / 2), ← Nat.xor_assoc]
  · simp only [Nat.xor_self, Nat.zero_ne_one, if_false, if_true]
    rw [xor_swap, Nat.xor_self, Nat.xor_zero]
theorem stpn_lin (k a b : Nat) : stpn k (a ^^^ b) = stpn k a ^^^ stpn k b := by
  induction k with
  | zero => rfl
  | succ k ih => rw [stpn, ih, stp_lin]; rfl
theorem stp_even (m : Nat) : stp (2 * m) = m := by
  unfold stp
  rw [if_neg (by omega)]
  omega
theorem stp_lt (n : Nat) (h : n < 4294967296) : stp n < 4294967296 := by
  unfold stp
  split
  · exact Nat.xor_lt_two_pow (n := 32) (by omega) (by omega)
  · omega
theorem stpn_lt (k n : Nat) (h : n < 4294967296) : stpn k n < 4294967296 := by
  induction k with
  | zero => exact h
  | succ k ih => exact stp_lt _ ih
theorem stpn_add (j k n : Nat) : stpn (j + k) n = stpn j (stpn k n) := by
  induction j with
  | zero => rw [Nat.zero_add]; rfl
  | succ j ih => rw [Nat.succ_add, stpn, ih]; rfl
/-- Without its lowest bits a number is what it was, but for these. -/
theorem xor_low (k n : Nat) : n ^^^ (n % 2 ^ k) = 2 ^ k * (n / 2 ^ k) := by
  have h1 : (n ^^^ (n % 2 ^ k)) % 2 ^ k = 0 := by rw [Nat.xor_mod_two_pow, Nat.mod_mod, Nat.xor_self]
  have h2 : (n ^^^ (n % 2 ^ k)) / 2 ^ k = n / 2 ^ k := by
    rw [Nat.xor_div_two_pow, Nat.div_eq_of_lt (Nat.mod_lt _ (Nat.pow_pos (by decide))), Nat.xor_zero]
  have h3 := Nat.div_add_mod (n ^^^ (n % 2 ^ k)) (2 ^ k)
  rw [h1, h2] at h3
  omega
theorem stpn_shift (k m : Nat) : stpn k (2 ^ k * m) = m := by
  induction k generalizing m with
  | zero => simp [stpn]
  | succ k ih =>
    rw [stpn, show 2 ^ (k + 1) * m = 2 ^ k * (2 * m) from by rw [Nat.pow_succ, Nat.mul_assoc], ih, stp_even]
/-- Of k steps, what lies above the lowest k bits only moves down. -/
theorem stpn_low (k n : Nat) : stpn k n = n / 2 ^ k ^^^ stpn k (n % 2 ^ k) := by
  have h := stpn_lin k n (n % 2 ^ k)
  rw [xor_low, stpn_shift] at h
  rw [h, Nat.xor_assoc, Nat.xor_self, Nat.xor_zero]

def byteStep (n : Nat) (x : UInt8) : Nat := stpn 8 (n ^^^ x.toNat)
theorem byteStep_two (n : Nat) (x : UInt8) : byteStep n x = stpn 4 (stpn 4 (n ^^^ x.toNat)) := stpn_add 4 4 _
theorem byteStep_lt (n : Nat) (x : UInt8) (h : n < 4294967296) : byteStep n x < 4294967296 :=
  stpn_lt 8 _ (Nat.xor_lt_two_pow (n := 32) h (by have := x.toNat_lt; omega))

/-- Bit by bit. -/
def bits_ (n x : Nat) : Nat → Nat
  | 0 => n
  | k + 1 => stp (bits_ n x k ^^^ (x / 2 ^ k % 2))
theorem bits_eq (n x k : Nat) : bits_ n x k ^^^ (x / 2 ^ k) = stpn k (n ^^^ x) := by
  induction k with
  | zero => simp [bits_, stpn]
  | succ k ih =>
    have h := xor_low 1 (x / 2 ^ k)
    rw [Nat.pow_one] at h
    have e : x / 2 ^ k = (x / 2 ^ k % 2) ^^^ (2 * (x / 2 ^ k / 2)) := by
      rw [← h, Nat.xor_comm, Nat.xor_assoc, Nat.xor_self, Nat.xor_zero]
    rw [stpn, ← ih]
    have e2 : bits_ n x k ^^^ (x / 2 ^ k) = (bits_ n x k ^^^ (x / 2 ^ k % 2)) ^^^ (2 * (x / 2 ^ k / 2)) := by
      rw [Nat.xor_assoc, ← e]
    rw [e2, stp_lin, stp_even, bits_, Nat.div_div_eq_div_mul, ← Nat.pow_succ]
theorem bits_eight (n : Nat) (x : UInt8) : bits_ n x.toNat 8 = byteStep n x := by
  have h := bits_eq n x.toNat 8
  have := x.toNat_lt
  rw [show x.toNat / 2 ^ 8 = 0 from by omega, Nat.xor_zero] at h
  exact h
theorem bits_lt (n x k : Nat) (h : n < 4294967296) : bits_ n x k < 4294967296 := by
  induction k with
  | zero => exact h
  | succ k ih => exact stp_lt _ (Nat.xor_lt_two_pow (n := 32) ih (by omega))

def crcN (n : Nat) (l : List UInt8) : Nat := l.foldl byteStep n
theorem crcN_lt (n : Nat) (l : List UInt8) (h : n < 4294967296) : crcN n l < 4294967296 := by
  unfold crcN
  induction l generalizing n with
  | nil => exact h
  | cons x l ih => exact ih _ (byteStep_lt n x h)
theorem crcN_app (n : Nat) (l k : List UInt8) : crcN n (l ++ k) = crcN (crcN n l) k := List.foldl_append
theorem crcN_take (n : Nat) (l : List UInt8) (i : Nat) (x : UInt8) (h : l[i]? = some x) : crcN n (l.take (i + 1)) = byteStep (crcN n (l.take i)) x := by
  obtain ⟨hi, rfl⟩ := List.getElem?_eq_some_iff.1 h
  rw [List.take_succ_eq_append_getElem hi, crcN_app]
  rfl
def comp (n : Nat) : Nat := n ^^^ 4294967295
theorem comp_lt (n : Nat) (h : n < 4294967296) : comp n < 4294967296 := Nat.xor_lt_two_pow (n := 32) h (by decide)
theorem comp_comp (n : Nat) : comp (comp n) = n := by unfold comp; rw [Nat.xor_assoc, Nat.xor_self, Nat.xor_zero]
theorem comp_sub (n : Nat) (h : n < 4294967296) : 4294967295 - n = comp n := by
  have h1 : (~~~(BitVec.ofNat 32 n)).toNat = 4294967295 - n := by
    rw [BitVec.toNat_not, BitVec.toNat_ofNat, Nat.mod_eq_of_lt h]
  have h2 : ~~~(BitVec.ofNat 32 n) = BitVec.ofNat 32 n ^^^ BitVec.allOnes 32 := BitVec.xor_allOnes.symm
  rw [← h1, h2, BitVec.toNat_xor, BitVec.toNat_ofNat, BitVec.toNat_allOnes, Nat.mod_eq_of_lt h]
  rfl
/-- The sum of a text that goes on. -/
def more (s : Nat) (l : List UInt8) : Nat := comp (crcN (comp s) l)
theorem more_lt (s : Nat) (l : List UInt8) (h : s < 4294967296) : more s l < 4294967296 := comp_lt _ (crcN_lt _ _ (comp_lt _ h))
theorem more_app (s : Nat) (l k : List UInt8) : more (more s l) k = more s (l ++ k) := by
  unfold more
  rw [comp_comp, crcN_app]

end Go.Proofs.Ytddnjlnhnnpgiaa

namespace Go.Proofs.Ytddnjlnhnnpgiaa
set_option maxRecDepth 20000
open Go.RowKit

theorem and_one (m : Nat) (hm : m < 4294967296) : bits .and .u32 (m : Int) 1 = ((m % 2 : Nat) : Int) := by
  have := u32_and_nat m 1 hm (by decide)
  rw [nat_mask1] at this
  exact this
theorem xor_u32 (a b : Nat) (ha : a < 4294967296) (hb : b < 4294967296) : bits .xor .u32 (a : Int) (b : Int) = ((a ^^^ b : Nat) : Int) := u32_xor_nat a b ha hb
theorem xor_poly (m : Nat) (hm : m < 4294967296) : bits .xor .u32 ((m : Int) / 2) 2197175160 = ((m / 2 ^^^ 2197175160 : Nat) : Int) := xor_u32 (m / 2) 2197175160 (by omega) (by decide)

theorem four_any (n : Nat) (w : World) (hn : Hid (n < 4294967296)) :
    Calls Try.prog 102 #[.int .u32 (n : Int)] w fun e w' => e = .returned (.int .u32 ((stpn 4 n : Nat) : Int)) ∧ w = w' := by
  go_enter Try.func102, Try.ntmps102
  go_wp2
  go_loop [0, 4] (fun nr ir => ∃ i m : Nat, i ≤ 4 ∧ Hid (m = stpn i n) ∧ ir = .int .i64 i ∧ nr = .int .u32 (m : Int)) (fun _ ir => 4 - (intOf ir).toNat)
  case atStart => exact ⟨0, n, Nat.zero_le _, Lib.hid rfl, rfl, rfl⟩
  case round =>
    obtain ⟨i, m, hi, hm, rfl, rfl⟩ := hrel
    by_cases hlt : i < 4
    · have hm32 : Hid (m < 4294967296) := by rw [hm.out]; exact stpn_lt i n hn.out
      rcases Nat.mod_two_eq_zero_or_one m with hp | hp
      · have ha : bits .and .u32 (m : Int) 1 = 0 := by rw [and_one m hm32.out, hp]; rfl
        have HP := Lib.hid hp
        clear hp
        go_wp2
        go_round
        case rel => exact ⟨i + 1, m / 2, by omega, Lib.hid (by rw [stpn, ← hm.out, stp, if_neg (by rw [HP.out]; decide)]), by go_num, by go_num⟩
        case measure => simp [intOf]; omega
      · have ha : bits .and .u32 (m : Int) 1 = 1 := by rw [and_one m hm32.out, hp]; rfl
        have HP := Lib.hid hp
        clear hp
        go_wp2
        go_round
        case rel => exact ⟨i + 1, m / 2 ^^^ 2197175160, by omega, Lib.hid (by rw [stpn, ← hm.out, stp, if_pos HP.out]), by go_num, by rw [xor_poly m hm32.out]⟩
        case measure => simp [intOf]; omega
    · go_wp2
      go_ret
      obtain rfl : i = 4 := by omega
      exact ⟨by rw [← hm.out]; rfl, rfl⟩

/-- The table, of which the first i places are filled. -/
def tabv (i : Nat) : Array Value := ((List.range 16).map fun j => Value.int .u32 ((if j < i then stpn 4 j else 0 : Nat) : Int)).toArray
theorem tabv_size (i : Nat) : (tabv i).size = 16 := by simp [tabv]
theorem tabv_get (i j : Nat) (hj : j < 16) : (tabv i)[j]? = some (.int .u32 ((if j < i then stpn 4 j else 0 : Nat) : Int)) := by
  simp [tabv, hj]
theorem tabv_put (i : Nat) : (tabv i).setIfInBounds i (.int .u32 ((stpn 4 i : Nat) : Int)) = tabv (i + 1) := by
  apply Array.ext'
  apply List.ext_getElem?
  intro j
  simp only [Array.toList_setIfInBounds, List.getElem?_set, Array.length_toList, tabv_size]
  by_cases hij : i = j
  · subst hij
    by_cases h : i < 16
    · rw [if_pos rfl, if_pos h, Array.getElem?_toList, tabv_get _ _ h, if_pos (Nat.lt_succ_self _)]
    · rw [if_pos rfl, if_neg h, Array.getElem?_toList, Array.getElem?_eq_none (by rw [tabv_size]; omega)]
  · rw [if_neg hij, Array.getElem?_toList, Array.getElem?_toList]
    by_cases h : j < 16
    · rw [tabv_get _ _ h, tabv_get _ _ h]
      by_cases hj : j < i
      · rw [if_pos hj, if_pos (by omega)]
      · rw [if_neg hj, if_neg (by omega)]
    · rw [Array.getElem?_eq_none (by rw [tabv_size]; omega), Array.getElem?_eq_none (by rw [tabv_size]; omega)]

theorem two_rows (w : World) (a b : Array Value) (t : TypeId) : ((w.alloc (.cells a t)).alloc (.cells b t)).heap[w.heap.size + 1]? = some (.cells b t (0, 0)) ∧ ((w.alloc (.cells a t)).alloc (.cells b t)).heap[w.heap.size]? = some (.cells a t (0, 0)) := by
  have h := heap_alloc_new (w.alloc (.cells a t)) (.cells b t)
  rw [World.size_alloc] at h
  exact ⟨h, (heap_alloc_old (w.alloc (.cells a t)) _ (by simp)).trans (heap_alloc_new w _)⟩

theorem fours_any (w : World) :
    Calls Try.prog 101 #[] w fun e w' => e = .returned (.agg (tabv 16)) ∧ Below w.heap.size w w' := by
  go_enter Try.func101, Try.ntmps101
  go_wp2
  go_loopw [4] (fun ir wr => ∃ i : Nat, i ≤ 16 ∧ ir = .int .i64 i ∧ Hid (wr.heap[w.heap.size + 1]? = some (.cells (tabv i) 153 (0, 0))) ∧ Hid (wr.heap[w.heap.size]? = some (.cells (tabv 0) 153 (0, 0))) ∧ Below w.heap.size w wr) (fun ir _ => 16 - (intOf ir).toNat)
  case atStart => exact ⟨0, Nat.zero_le _, rfl, Lib.hid (two_rows w (tabv 0) (tabv 0) 153).1, Lib.hid (two_rows w (tabv 0) (tabv 0) 153).2, ((Below.refl _ _).alloc (Nat.le_refl _) _).alloc (by simp) _⟩
  case round =>
    obtain ⟨i, hi, rfl, h1, h0, hb⟩ := hrel
    by_cases hlt : i < 16
    · have hc : wr.cell? ⟨w.heap.size + 1, i, none⟩ = some (.int .u32 ((if i < i then stpn 4 i else 0 : Nat) : Int)) := by rw [cell_of_row wr _ i _ _ _ h1.out, tabv_get _ _ hlt]
      have hf : wr.frozen? ⟨w.heap.size + 1, i, none⟩ = false := frozen_of_row wr _ i _ _ h1.out
      go_wp2_with (go_at_call 102; refine (four_any i _ (Lib.hid (by omega))).mono ?_; rintro e w1 ⟨rfl, rfl⟩)
      go_roundw
      case rel =>
        refine ⟨i + 1, by omega, by go_num, Lib.hid ?_, Lib.hid ?_, hb.setCell (by simp) _⟩
        · rw [heap_setCell_same wr _ i _ _ _ h1.out, tabv_put]
        · rw [heap_setCell_other _ _ _ _ (by simp)]; exact h0.out
      case measure => simp [intOf]; omega
    · have h16 : wr.heap[w.heap.size + 1]? = some (.cells (tabv 16) 153 (0, 0)) := by
        have e : i = 16 := by omega
        rw [← e]; exact h1.out
      have H16 := Lib.hid h16
      clear h16 h1
      go_wp2_with (first
        | (refine (show wpList _ _ _ (⟨some 14, _, _, _, _, _⟩ :: _) _ _ from ?_); refine wpList_load_row rfl 153 (.tmp 2) rfl (w.heap.size + 1) rfl 153 (tabv 16) (0, 0) _ H16.out Try.underlying153 rfl (by rw [tabv_size]; kernel_rfl) ?_)
        | (refine (show wpList _ _ _ (⟨none, .store _ (.tmp 0) (.tmp 14), _, _, _, _⟩ :: _) _ _ from ?_); refine wpList_store_row rfl 153 (.tmp 0) (.tmp 14) rfl w.heap.size (tabv 16) rfl rfl 153 (tabv 0) h0.out (by rw [tabv_size]; kernel_rfl) (by rw [tabv_size, tabv_size]) (by kernel_rfl) ?_)
        | fail)
      refine bodyPost_ret (results_cell_row rfl _ _ w.heap.size 153 (tabv 16) (0, 0) _ (by rfl) (setRow_heap wr _ _ _ _ _ h0.out) Try.underlying153 rfl (by rw [tabv_size]; kernel_rfl)) rfl ⟨rfl, below_setRow hb (Nat.le_refl _) _⟩

theorem and_15 (m : Nat) (hm : m < 4294967296) : bits .and .u32 (m : Int) 15 = ((m % 16 : Nat) : Int) := by
  have := u32_and_nat m 15 hm (by decide)
  rw [nat_mask4] at this
  exact this
theorem xor_div (a t : Nat) (ha : a < 4294967296) (ht : t < 4294967296) : bits .xor .u32 ((a : Int) / 16) (t : Int) = ((a / 16 ^^^ t : Nat) : Int) := xor_u32 (a / 16) t (by omega) ht
/-- One look into the table. -/
theorem look (w : World) (B x : Nat) (hx : x < 4294967296) (h : w.heap[B]? = some (.cells (tabv 16) 153 (0, 0))) :
    ∃ r t y : Nat, bits .and .u32 (x : Int) 15 = (r : Int) ∧ (r : Int) < 16 ∧ w.cell? ⟨B, r, none⟩ = some (.int .u32 (t : Int)) ∧ bits .xor .u32 ((x : Int) / 16) (t : Int) = (y : Int) ∧ Hid (y = stpn 4 x) := by
  have ht : stpn 4 (x % 16) < 4294967296 := stpn_lt 4 _ (by omega)
  refine ⟨x % 16, stpn 4 (x % 16), x / 16 ^^^ stpn 4 (x % 16), and_15 x hx, by omega, ?_, xor_div x _ hx ht, Lib.hid (stpn_low 4 x).symm⟩
  rw [cell_of_row w B _ _ _ _ h, tabv_get _ _ (by omega), if_pos (by omega)]

theorem xor_max (m : Nat) (hm : m < 4294967296) : bits .xor .u32 IntKind.u32.max (m : Int) = ((comp m : Nat) : Int) := by
  have := u32_xor_nat 4294967295 m (by decide) hm
  rw [show IntKind.u32.max = ((4294967295 : Nat) : Int) from rfl, this, Nat.xor_comm]
  rfl
theorem more_any (A : Option Addr) (n c : Nat) (l : List UInt8) (m : Nat) (w : World) (hsl : Rd w w.heap.size 1 A n c (u8s l)) (hm : Hid (m < 4294967296)) (hn : n ≤ 1000000) :
    Calls Try.prog 100 #[.int .u32 (m : Int), .slice A n c] w fun e w' => e = .returned (.int .u32 ((more m l : Nat) : Int)) ∧ Below w.heap.size w w' := by
  have hln : l.length = n := by have := hsl.len; rwa [u8s_len] at this
  have HLN := Lib.hid hln
  clear hln
  go_enter Try.func100, Try.ntmps100
  go_wp2_with (first
    | (go_at_call 101; refine (fours_any _).mono ?_; rintro e w1 ⟨rfl, hb1⟩; have hz1 := hb1.size)
    | (refine (show wpList _ _ _ (⟨none, .store _ (.tmp 5) (.tmp 9), _, _, _, _⟩ :: _) _ _ from ?_); refine wpList_store_row rfl 153 (.tmp 5) (.tmp 9) rfl w1.heap.size (tabv 16) rfl rfl 153 _ (heap_alloc_new w1 _) (by rw [tabv_size]; kernel_rfl) (by rw [tabv_size]; rfl) (by kernel_rfl) ?_
       obtain ⟨w2, hw2⟩ : ∃ w2, w2 = (w1.alloc (.cells (tabv 0) 153)).setRow w1.heap.size (tabv 16) := ⟨_, rfl⟩
       refine (show wpList _ _ _ _ _ ((w1.alloc (.cells (tabv 0) 153)).setRow w1.heap.size (tabv 16)) from ?_)
       rw [← hw2]
       have hrow : w2.heap[w1.heap.size]? = some (.cells (tabv 16) 153 (0, 0)) := by rw [hw2]; exact setRow_heap _ _ _ _ _ _ (heap_alloc_new w1 _)
       have hb2 : Below w.heap.size w w2 := by rw [hw2]; exact below_setRow (hb1.alloc hz1 _) hz1 _
       have HROW := Lib.hid hrow
       clear hrow hw2)
    | fail)
  go_loop [6, 14] (fun nr ir => ∃ i q : Nat, i ≤ n ∧ Hid (q = crcN (comp m) (l.take i)) ∧ ir = .int .i64 i ∧ nr = .int .u32 (q : Int)) (fun _ ir => n - (intOf ir).toNat)
  case atStart => exact ⟨0, comp m, Nat.zero_le _, Lib.hid rfl, rfl, by rw [xor_max m hm.out]⟩
  case round =>
    obtain ⟨i, q, hi, hq, rfl, rfl⟩ := hrel
    have hq32 : Hid (q < 4294967296) := by rw [hq.out]; exact crcN_lt _ _ (comp_lt _ hm.out)
    by_cases hlt : i < n
    · obtain ⟨b, o, u, rfl, hbl, hu, hc⟩ := (hsl.below hb2).at_ hlt
      obtain ⟨x, hx, rfl⟩ := u8s_get _ _ _ hu
      have HX := Lib.hid hx
      clear hu hx
      have hx255 : (x.toNat : Int) ≤ 255 := by have := x.toNat_lt; omega
      have hx0 : 0 ≤ (x.toNat : Int) := by omega
      obtain ⟨x1, hx1⟩ : ∃ x1, x1 = q ^^^ x.toNat := ⟨_, rfl⟩
      have e1 : bits .xor .u32 (q : Int) (x.toNat : Int) = (x1 : Int) := by rw [hx1]; exact xor_u32 _ _ hq32.out (by omega)
      have hl1 : x1 < 4294967296 := by rw [hx1]; exact Nat.xor_lt_two_pow (n := 32) hq32.out (by omega)
      have HX1 := Lib.hid hx1
      clear hx1
      obtain ⟨r1, t1, y1, e2, l2, c2, e3, hy1⟩ := look w2 w1.heap.size x1 hl1 HROW.out
      have hl2 : y1 < 4294967296 := by rw [hy1.out]; exact stpn_lt 4 _ hl1
      obtain ⟨r2, t2, y2, e4, l4, c4, e5, hy2⟩ := look w2 w1.heap.size y1 hl2 HROW.out
      have HL1 := Lib.hid hl1
      have HL2 := Lib.hid hl2
      clear hl1 hl2
      have HD : Hid (crcN (comp m) (l.take (i + 1)) = y2) := Lib.hid (by rw [crcN_take _ _ _ _ HX.out, byteStep_two, ← hq.out, ← HX1.out, ← hy1.out, ← hy2.out])
      go_wp2
      go_round
      case rel => exact ⟨i + 1, y2, by omega, Lib.hid HD.out.symm, by go_num, rfl⟩
      case measure => simp [intOf]; omega
    · go_wp2
      go_ret
      have hin : i = n := by omega
      refine ⟨?_, hb2⟩
      have e : more m l = comp q := by rw [hq.out, List.take_of_length_le (by rw [HLN.out, hin]; exact Nat.le_refl _)]; rfl
      rw [e, ← xor_max q hq32.out]
      rfl

theorem sum_any (A : Option Addr) (n c : Nat) (l : List UInt8) (w : World) (h : Rd w w.heap.size 1 A n c (u8s l)) (hn : n ≤ 1000000) :
    Calls Try.prog 95 #[.slice A n c] w fun e w' => e = .returned (.int .u32 ((more 0 l : Nat) : Int)) ∧ Below w.heap.size w w' := by
  go_enter Try.func95, Try.ntmps95
  go_wp2_with (go_at_call 100; refine (more_any _ _ _ l 0 _ h (Lib.hid (by decide)) hn).mono ?_; rintro e w1 ⟨rfl, hb1⟩)
  go_ret
  exact ⟨rfl, hb1⟩

end Go.Proofs.Ytddnjlnhnnpgiaa

namespace Go.Proofs.Ytddnjlnhnnpgiaa
set_option maxRecDepth 20000
open Go.RowKit

def sealOf (l : List UInt8) : List UInt8 := l ++ le 4 (more 0 l)
theorem sum_lt (l : List UInt8) : more 0 l < 4294967296 := more_lt 0 l (by decide)

theorem seal_any (A : Option Addr) (n c : Nat) (l : List UInt8) (w : World) (h : Rd w w.heap.size 1 A n c (u8s l)) (hn : n ≤ 500000) :
    Calls Try.prog 93 #[.slice A n c] w fun e w' => ∃ v, e = .returned v ∧ w'.ownsRow w.heap.size 5 1 v (n + 4) (u8s (sealOf l)) ∧ Below w.heap.size w w' := by
  have hM := sum_lt l
  have hS := sum_any A n c l w h (by omega)
  have hfin : l ++ puts 4 [more 0 l] = sealOf l := by simp [sealOf, puts]
  generalize more 0 l = M at hM hS hfin
  have HS := Lib.hid hS
  have HF := Lib.hid hfin
  clear hS hfin
  have hM1 : (M : Int) ≤ 4294967295 := by omega
  go_enter Try.func93, Try.ntmps93
  go_wp2_with (first
    | (go_at_call 95; refine (HS.out).mono ?_; rintro e w1 ⟨rfl, hb1⟩; have hz1 := hb1.size; have hr1 := (h.below hb1).more hz1)
    | (go_at_call 77; refine (put_good _ _ _ _ 1 1 l [M] 4 _ (((hr1.below ((Below.refl _ _).alloc (Nat.le_refl _) _))).more (by simp)) (Rd.lit w1 #[.int .u64 (M : Int)] _ rfl (by unfold maxLen; omega) (by simp)) (by omega) (by omega) (by omega)).mono ?_; rintro e w2 ⟨v2, rfl, hown2, hb2⟩))
  go_ret
  refine ⟨_, rfl, ?_, ?_⟩
  · rw [HF.out] at hown2
    exact ownsRow_low hown2 (by simp; omega)
  · exact hb1.trans (((Below.refl _ _).alloc hz1 _).trans (hb2.mono (by simp; omega)))

def Tells (w : World) (t : List UInt8) (E : Int) (e : Ending) (w' : World) : Prop :=
  ∃ A n c, e = .returned (.tuple #[.slice A n c, .int .i64 E]) ∧ n = t.length ∧ Rd w' w'.heap.size 1 A n c (u8s t) ∧ Below w.heap.size w w'
def openOf (l : List UInt8) : List UInt8 × Int :=
  if l.length < 4 then ([], 10) else if unle (l.drop (l.length - 4)) = more 0 (l.take (l.length - 4)) then (l.take (l.length - 4), 0) else ([], 12)

theorem st_num4 (t : List UInt8) (ht : t.length = 4) : St.num ⟨t, false⟩ 4 = (unle t, ⟨[], false⟩) := by
  have e1 : t.take 4 = t := List.take_of_length_le (by omega)
  have e2 : t.drop 4 = [] := List.drop_of_length_le (by omega)
  unfold St.num St.next
  rw [if_pos ⟨by omega, by omega⟩]
  dsimp only
  rw [if_pos ⟨by omega, by rw [ht]; omega⟩, show (4 : Int).toNat = 4 from rfl, e1, e2]
theorem open_short (A : Option Addr) (n c : Nat) (w : World) (hn : n < 4) :
    Calls Try.prog 84 #[.slice A n c] w (Tells w [] 10) := by
  go_enter Try.func84, Try.ntmps84
  go_wp2
  go_ret2
  exact ⟨_, _, _, rfl, rfl, Rd.nil_, Below.refl _ _⟩

theorem open_long (A : Option Addr) (n c : Nat) (l : List UInt8) (w : World) (h : Rd w w.heap.size 1 A n c (u8s l)) (hn : n ≤ 500000) (h4 : 4 ≤ n) :
    Calls Try.prog 84 #[.slice A n c] w (Tells w (openOf l).1 (openOf l).2) := by
  have hln : l.length = n := by have := h.len; rwa [u8s_len] at this
  have hopen : openOf l = if unle (l.drop (n - 4)) = more 0 (l.take (n - 4)) then (l.take (n - 4), 0) else ([], 12) := by
    unfold openOf
    rw [hln, if_neg (by omega)]
  have hnext : St.next ⟨l, false⟩ ((n : Int) - 4) = (l.take (n - 4), ⟨l.drop (n - 4), false⟩) := by
    unfold St.next
    rw [if_pos ⟨by omega, by rw [hln]; omega⟩]
    rw [show ((n : Int) - 4).toNat = n - 4 from by omega]
  have hnum : St.num ⟨l.drop (n - 4), false⟩ 4 = (unle (l.drop (n - 4)), ⟨[], false⟩) := st_num4 _ (by rw [List.length_drop, hln]; omega)
  have hU : unle (l.drop (n - 4)) < 4294967296 := by
    have := unle_lt (l.drop (n - 4))
    rw [List.length_drop, hln, show n - (n - 4) = 4 from by omega] at this
    exact this
  have hM := sum_lt (l.take (n - 4))
  have htl : (l.take (n - 4)).length = n - 4 := by rw [List.length_take]; omega
  have HO := Lib.hid hopen
  have HX := Lib.hid hnext
  have HY := Lib.hid hnum
  have HT := Lib.hid htl
  clear hopen hnext hnum hln htl
  generalize unle (l.drop (n - 4)) = U at *
  generalize hMM : more 0 (l.take (n - 4)) = M at *
  have HM := Lib.hid hMM
  clear hMM
  have hM1 : (M : Int) ≤ 4294967295 := by omega
  by_cases hUM : U = M
  · subst hUM
    have q1 : ((U : Int) != (U : Int)) = false := bne_self_eq_false _
    go_enter Try.func84, Try.ntmps84
    go_wp2_with (first
      | (go_at_call 72; refine (read_any _ _ _ l _ h (by omega)).mono ?_; rintro e w1 ⟨g, rfl, hg, hR, hb1⟩; have hz1 := hb1.size)
      | (go_at_call 79; refine (take_any _ _ _ _ hR).mono ?_; rw [HX.out]; rintro e w2 ⟨v2, rfl, hown2, hR2, hg2⟩
         rw [HT.out] at hown2
         have hb2 : Below w.heap.size w w2 := hb1.grown hg2 hz1 (fun k e => by cases e; exact hg)
         obtain ⟨A2, c2, rfl⟩ := ownsRow_form hown2)
      | (go_at_call 73; refine (num_all _ _ _ _ hR2).mono ?_; rw [HY.out]; rintro e w3 ⟨rfl, hR3, hg3⟩
         have hb3 : Below w.heap.size w w3 := hb2.grown hg3 hb2.size (fun k e => by cases e; exact hg)
         have hr3 : Rd w3 w3.heap.size 1 A2 (n - 4) c2 (u8s (l.take (n - 4))) := ownsRow_far hown2 hg3 (fun k e => by have h1 := (hown2.lt k e).1; have h2 := hR.lt; omega)
         have hz3 := hb3.size)
      | (go_at_call 95; refine (sum_any _ _ _ _ _ hr3 (by omega)).mono ?_; rw [HM.out]; rintro e w4 ⟨rfl, hb4⟩)
      | fail)
    go_ret2
    rw [HO.out, if_pos (by trivial)]
    exact ⟨_, _, _, rfl, HT.out.symm, (hr3.below hb4).more hb4.size, hb3.trans (hb4.mono hz3)⟩
  · have q1 : ((U : Int) != (M : Int)) = true := by simp; omega
    go_enter Try.func84, Try.ntmps84
    go_wp2_with (first
      | (go_at_call 72; refine (read_any _ _ _ l _ h (by omega)).mono ?_; rintro e w1 ⟨g, rfl, hg, hR, hb1⟩; have hz1 := hb1.size)
      | (go_at_call 79; refine (take_any _ _ _ _ hR).mono ?_; rw [HX.out]; rintro e w2 ⟨v2, rfl, hown2, hR2, hg2⟩
         rw [HT.out] at hown2
         have hb2 : Below w.heap.size w w2 := hb1.grown hg2 hz1 (fun k e => by cases e; exact hg)
         obtain ⟨A2, c2, rfl⟩ := ownsRow_form hown2)
      | (go_at_call 73; refine (num_all _ _ _ _ hR2).mono ?_; rw [HY.out]; rintro e w3 ⟨rfl, hR3, hg3⟩
         have hb3 : Below w.heap.size w w3 := hb2.grown hg3 hb2.size (fun k e => by cases e; exact hg)
         have hr3 : Rd w3 w3.heap.size 1 A2 (n - 4) c2 (u8s (l.take (n - 4))) := ownsRow_far hown2 hg3 (fun k e => by have h1 := (hown2.lt k e).1; have h2 := hR.lt; omega)
         have hz3 := hb3.size)
      | (go_at_call 95; refine (sum_any _ _ _ _ _ hr3 (by omega)).mono ?_; rw [HM.out]; rintro e w4 ⟨rfl, hb4⟩)
      | fail)
    go_ret2
    rw [HO.out, if_neg hUM]
    exact ⟨_, _, _, rfl, rfl, Rd.nil_, hb3.trans (hb4.mono hz3)⟩

theorem open_any (A : Option Addr) (n c : Nat) (l : List UInt8) (w : World) (h : Rd w w.heap.size 1 A n c (u8s l)) (hn : n ≤ 500000) :
    Calls Try.prog 84 #[.slice A n c] w (Tells w (openOf l).1 (openOf l).2) := by
  by_cases h4 : n < 4
  · have hln : l.length = n := by have := h.len; rwa [u8s_len] at this
    have e : openOf l = ([], 10) := by unfold openOf; rw [if_pos (by omega)]
    rw [e]
    exact open_short A n c w h4
  · exact open_long A n c l w h hn (by omega)

end Go.Proofs.Ytddnjlnhnnpgiaa

namespace Go.Proofs.Ytddnjlnhnnpgiaa
set_option maxRecDepth 20000
open Go.RowKit

theorem rbit_any (n b : Nat) (w : World) (hn : Hid (n < 4294967296)) (hb : b ≤ 1) :
    Calls Try.prog 99 #[.int .u32 (n : Int), .int .u32 (b : Int)] w fun e w' => e = .returned (.int .u32 ((stp (n ^^^ b) : Nat) : Int)) ∧ w = w' := by
  have hx : bits .xor .u32 (n : Int) (b : Int) = ((n ^^^ b : Nat) : Int) := xor_u32 n b hn.out (by omega)
  have hd : (n ^^^ b) / 2 = n / 2 := by rw [Nat.xor_div_two, show b / 2 = 0 from by omega, Nat.xor_zero]
  have hlt : n ^^^ b < 4294967296 := Nat.xor_lt_two_pow (n := 32) hn.out (by omega)
  have ha := and_one (n ^^^ b) hlt
  have hs : stp (n ^^^ b) = if (n ^^^ b) % 2 = 1 then n / 2 ^^^ 2197175160 else n / 2 := by unfold stp; rw [hd]
  generalize n ^^^ b = x at *
  have HS := Lib.hid hs
  clear hs hd
  rcases Nat.mod_two_eq_zero_or_one x with hp | hp
  · rw [hp] at ha
    have HP := Lib.hid hp
    clear hp
    go_enter Try.func99, Try.ntmps99
    go_wp2
    go_ret
    exact ⟨by rw [HS.out, if_neg (by rw [HP.out]; decide)]; simp, rfl⟩
  · rw [hp] at ha
    have HP := Lib.hid hp
    clear hp
    go_enter Try.func99, Try.ntmps99
    go_wp2
    go_ret
    exact ⟨by rw [HS.out, if_pos HP.out, ← xor_poly n hn.out]; rfl, rfl⟩

theorem bit_at (x : UInt8) (k : Nat) : ∃ bb : Nat, bits .and .u32 ((x.toNat : Int) / 2 ^ k % 4294967296) 1 = (bb : Int) ∧ bb ≤ 1 ∧ Hid (bb = x.toNat / 2 ^ k % 2) := by
  have hx := x.toNat_lt
  have h1 : x.toNat / 2 ^ k ≤ x.toNat := Nat.div_le_self _ _
  refine ⟨x.toNat / 2 ^ k % 2, ?_, by omega, Lib.hid rfl⟩
  have e : ((x.toNat : Int) / 2 ^ k % 4294967296) = ((x.toNat / 2 ^ k : Nat) : Int) := by
    have e1 : ((x.toNat : Int) / 2 ^ k) = ((x.toNat / 2 ^ k : Nat) : Int) := by simp
    rw [e1]
    have h2 : ((x.toNat / 2 ^ k : Nat) : Int) ≤ (x.toNat : Int) := by exact_mod_cast h1
    exact Int.emod_eq_of_lt (Int.natCast_nonneg _) (by omega)
  rw [e, and_one _ (by omega)]
theorem rmore_any (A : Option Addr) (n c : Nat) (l : List UInt8) (m : Nat) (w : World) (hsl : Rd w w.heap.size 1 A n c (u8s l)) (hm : Hid (m < 4294967296)) (hn : n ≤ 1000000) :
    Calls Try.prog 94 #[.int .u32 (m : Int), .slice A n c] w fun e w' => e = .returned (.int .u32 ((more m l : Nat) : Int)) ∧ w = w' := by
  have hln : l.length = n := by have := hsl.len; rwa [u8s_len] at this
  have HLN := Lib.hid hln
  clear hln
  have hc0 : bits .xor .u32 (m : Int) 4294967295 = ((comp m : Nat) : Int) := xor_u32 m 4294967295 hm.out (by decide)
  go_enter Try.func94, Try.ntmps94
  go_wp2
  clear hc0
  go_loop [5, 6, 7] (fun nr ir _ => ∃ i q : Nat, i ≤ n ∧ Hid (q = crcN (comp m) (l.take i)) ∧ ir = .int .i64 i ∧ nr = .int .u32 (q : Int)) (fun _ ir _ => n - (intOf ir).toNat)
  case atStart => exact ⟨0, comp m, Nat.zero_le _, Lib.hid rfl, rfl, rfl⟩
  case round =>
    obtain ⟨i, q, hi, hq, rfl, rfl⟩ := hrel
    have hq32 : Hid (q < 4294967296) := by rw [hq.out]; exact crcN_lt _ _ (comp_lt _ hm.out)
    by_cases hlt : i < n
    · obtain ⟨b, o, u, rfl, hbl, hu, hc⟩ := hsl.at_ hlt
      obtain ⟨x, hx, rfl⟩ := u8s_get _ _ _ hu
      have HX := Lib.hid hx
      clear hu hx
      have hx255 : (x.toNat : Int) ≤ 255 := by have := x.toNat_lt; omega
      have hx0 : 0 ≤ (x.toNat : Int) := by omega
      go_wp2
      go_loop [5, 7] (fun nr kr => ∃ k p : Nat, k ≤ 8 ∧ Hid (p = bits_ q x.toNat k) ∧ kr = .int .i64 k ∧ nr = .int .u32 (p : Int)) (fun _ kr => 8 - (intOf kr).toNat)
      case atStart => exact ⟨0, q, Nat.zero_le _, Lib.hid rfl, rfl, rfl⟩
      case round =>
        obtain ⟨k, p, hk, hp, rfl, rfl⟩ := hrel
        by_cases hk8 : k < 8
        · obtain ⟨bb, hbit, hb1, hbb⟩ := bit_at x k
          have hp32 : Hid (p < 4294967296) := by rw [hp.out]; exact bits_lt _ _ _ hq32.out
          go_wp2_with (go_at_call 99; refine (rbit_any p bb _ hp32 hb1).mono ?_; rintro e w1 ⟨rfl, rfl⟩)
          go_round
          case rel => exact ⟨k + 1, stp (p ^^^ bb), by omega, Lib.hid (by rw [bits_, hp.out, hbb.out]), by go_num, rfl⟩
          case measure => simp [intOf]; omega
        · go_wp2
          go_roundw
          case rel =>
            obtain rfl : k = 8 := by omega
            exact ⟨i + 1, p, by omega, Lib.hid (by rw [crcN_take _ _ _ _ HX.out, hp.out, bits_eight, hq.out]), by go_num, rfl⟩
          case measure => simp [intOf]; omega
    · go_wp2
      go_ret
      have hin : i = n := by omega
      refine ⟨?_, rfl⟩
      have e : more m l = comp q := by rw [hq.out, List.take_of_length_le (by rw [HLN.out, hin]; exact Nat.le_refl _)]; rfl
      have e2 : bits .xor .u32 (q : Int) 4294967295 = ((comp q : Nat) : Int) := xor_u32 q 4294967295 hq32.out (by decide)
      rw [e, ← e2]
      rfl

theorem rsum_any (A : Option Addr) (n c : Nat) (l : List UInt8) (w : World) (h : Rd w w.heap.size 1 A n c (u8s l)) (hn : n ≤ 1000000) :
    Calls Try.prog 80 #[.slice A n c] w fun e w' => e = .returned (.int .u32 ((more 0 l : Nat) : Int)) ∧ w = w' := by
  go_enter Try.func80, Try.ntmps80
  go_wp2_with (go_at_call 94; refine (rmore_any _ _ _ l 0 _ h (Lib.hid (by decide)) hn).mono ?_; rintro e w1 ⟨rfl, rfl⟩)
  go_ret
  exact ⟨rfl, rfl⟩

theorem rseal_any (A : Option Addr) (n c : Nat) (l : List UInt8) (w : World) (h : Rd w w.heap.size 1 A n c (u8s l)) (hn : n ≤ 500000) :
    Calls Try.prog 57 #[.slice A n c] w fun e w' => ∃ v, e = .returned v ∧ w'.ownsRow w.heap.size 5 1 v (n + 4) (u8s (sealOf l)) ∧ Below w.heap.size w w' := by
  have hM := sum_lt l
  have hS := rsum_any A n c l w h (by omega)
  have hfin : l ++ le 4 (more 0 l) = sealOf l := rfl
  generalize more 0 l = M at hM hS hfin
  have HS := Lib.hid hS
  have HF := Lib.hid hfin
  have HM := Lib.hid (show M < 18446744073709551616 by omega)
  clear hS hfin
  have hM1 : (M : Int) ≤ 4294967295 := by omega
  go_enter Try.func57, Try.ntmps57
  go_wp2_with (first
    | (go_at_call 80; refine (HS.out).mono ?_; rintro e w1 ⟨rfl, rfl⟩)
    | (go_at_call 58; refine (rput_good _ _ _ l 4 M _ h (by omega) (by omega) (by omega) HM).mono ?_; rintro e w2 ⟨v2, rfl, hown2, hb2⟩))
  go_ret
  exact ⟨_, rfl, by rw [← HF.out]; exact hown2, hb2⟩

theorem ropen_short (A : Option Addr) (n c : Nat) (w : World) (hn : n < 4) :
    Calls Try.prog 55 #[.slice A n c] w (Tells w [] 10) := by
  go_enter Try.func55, Try.ntmps55
  go_wp2
  go_ret2
  exact ⟨_, _, _, rfl, rfl, Rd.nil_, Below.refl _ _⟩

/-- Whether a text is the seal of all but its last bytes. -/
theorem sealed_iff (l : List UInt8) (h4 : 4 ≤ l.length) : sealOf (l.take (l.length - 4)) = l ↔ unle (l.drop (l.length - 4)) = more 0 (l.take (l.length - 4)) := by
  have hd : (l.drop (l.length - 4)).length = 4 := by rw [List.length_drop]; omega
  have hl : l.take (l.length - 4) ++ l.drop (l.length - 4) = l := List.take_append_drop _ _
  constructor
  · intro h
    have h2 : le 4 (more 0 (l.take (l.length - 4))) = l.drop (l.length - 4) := by
      have h3 : l.take (l.length - 4) ++ le 4 (more 0 (l.take (l.length - 4))) = l.take (l.length - 4) ++ l.drop (l.length - 4) := by rw [hl]; exact h
      exact List.append_cancel_left h3
    rw [← h2, unle_le, Nat.mod_eq_of_lt (sum_lt _)]
  · intro h
    have h2 := le_unle (l.drop (l.length - 4))
    rw [hd, h] at h2
    unfold sealOf
    rw [h2, hl]

theorem str_inj {a b : List UInt8} (h : (str a).toList = (str b).toList) : a = b := by
  have e : ∀ l : List UInt8, (str l).toList = l := fun l => ByteArray.toList_mk l
  rwa [e, e] at h
theorem ropen_long (A : Option Addr) (n c : Nat) (l : List UInt8) (w : World) (h : Rd w w.heap.size 1 A n c (u8s l)) (hn : n ≤ 500000) (h4 : 4 ≤ n) :
    Calls Try.prog 55 #[.slice A n c] w (Tells w (openOf l).1 (openOf l).2) := by
  have hln : l.length = n := by have := h.len; rwa [u8s_len] at this
  have hnc : (n : Int) ≤ (c : Int) := by have := h.1; omega
  have hrt : Rd w w.heap.size 1 A (n - 4) c (u8s (l.take (n - 4))) := by rw [u8s_take]; exact h.pre (by omega)
  have hiff := sealed_iff l (by omega)
  have hopen : openOf l = if unle (l.drop (n - 4)) = more 0 (l.take (n - 4)) then (l.take (n - 4), 0) else ([], 12) := by
    unfold openOf
    rw [hln, if_neg (by omega)]
  rw [hln] at hiff
  have HO := Lib.hid hopen
  clear hopen
  by_cases hs : sealOf (l.take (n - 4)) = l
  · have h1 := hiff.1 hs
    have q1 : ((str (sealOf (l.take (n - 4)))).toList == (str l).toList) = true := by rw [hs]; exact beq_self_eq_true _
    have H1 := Lib.hid h1
    have HLN := Lib.hid hln
    clear h1 hiff hs hln
    go_enter Try.func55, Try.ntmps55
    go_wp2
    refine wp_grow [([0, 3, 4], 1)] [2, 5] (by kernel_rfl) (by kernel_rfl) (fun d _ _ _ _ h => by cases d <;> exact h) fun wd hbd => ?_
    have hzd := hbd.size
    intro f hf
    have F1 := fun z => run_str (P := Try.prog) Try.underlying38 Try.underlying5 Try.underlying9 (h.below (hf z))
    simp only [pickI, Option.toList_some, List.cons_append, List.nil_append, List.getElem?_toArray, List.getElem?_cons_succ, List.getElem?_cons_zero]
    repeat (go_big_quiet_step (fail))
    refine wpQuiet_nil ?_
    clear F1 hf f
    refine seg_op (by simp only [List.getElem?_toArray, List.getElem?_cons_succ, List.getElem?_cons_zero]; rfl) fun K hK => ?_
    go_simp
    refine (rseal_any _ _ _ _ _ ((hrt.below hbd).more hzd) (by omega)).mono ?_
    rintro e w2 ⟨v2, rfl, hown2, hb2⟩
    rw [show n - 4 + 4 = n from by omega] at hown2
    obtain ⟨A2, c2, rfl⟩ := ownsRow_form hown2
    have hr2 := ownsRow_rd hown2
    refine hK.out _ _ ⟨fun x => Below w2.heap.size w2 x, Below.refl _ _, fun x hx => hbd.trans ((hb2.trans (hx.mono hb2.size)).mono hzd), ?_⟩
    clear hK K
    intro f hf
    have F2 := fun z => run_str (P := Try.prog) Try.underlying38 Try.underlying5 Try.underlying9 (hr2.below (hf z))
    simp only [pickI, Option.toList_some, List.cons_append, List.nil_append, List.getElem?_toArray, List.getElem?_cons_succ, List.getElem?_cons_zero]
    repeat (go_big_quiet_step (fail))
    refine wpQuiet_nil ?_
    clear F2 hf f
    go_wp2
    go_ret2
    have hb02 := hbd.trans (hb2.mono hzd)
    rw [HO.out, if_pos H1.out]
    exact ⟨_, _, _, rfl, by rw [List.length_take, HLN.out]; omega, (hrt.below hb02).more hb02.size, hb02⟩
  · have h1 := fun x => hs (hiff.2 x)
    have q1 : ((str (sealOf (l.take (n - 4)))).toList == (str l).toList) = false := by
      rw [beq_eq_false_iff_ne]
      intro e
      exact hs (str_inj e)
    have H1 := Lib.hid h1
    clear h1 hiff hs hln
    go_enter Try.func55, Try.ntmps55
    go_wp2
    refine wp_grow [([0, 3, 4], 1)] [2, 5] (by kernel_rfl) (by kernel_rfl) (fun d _ _ _ _ h => by cases d <;> exact h) fun wd hbd => ?_
    have hzd := hbd.size
    intro f hf
    have F1 := fun z => run_str (P := Try.prog) Try.underlying38 Try.underlying5 Try.underlying9 (h.below (hf z))
    simp only [pickI, Option.toList_some, List.cons_append, List.nil_append, List.getElem?_toArray, List.getElem?_cons_succ, List.getElem?_cons_zero]
    repeat (go_big_quiet_step (fail))
    refine wpQuiet_nil ?_
    clear F1 hf f
    refine seg_op (by simp only [List.getElem?_toArray, List.getElem?_cons_succ, List.getElem?_cons_zero]; rfl) fun K hK => ?_
    go_simp
    refine (rseal_any _ _ _ _ _ ((hrt.below hbd).more hzd) (by omega)).mono ?_
    rintro e w2 ⟨v2, rfl, hown2, hb2⟩
    rw [show n - 4 + 4 = n from by omega] at hown2
    obtain ⟨A2, c2, rfl⟩ := ownsRow_form hown2
    have hr2 := ownsRow_rd hown2
    refine hK.out _ _ ⟨fun x => Below w2.heap.size w2 x, Below.refl _ _, fun x hx => hbd.trans ((hb2.trans (hx.mono hb2.size)).mono hzd), ?_⟩
    clear hK K
    intro f hf
    have F2 := fun z => run_str (P := Try.prog) Try.underlying38 Try.underlying5 Try.underlying9 (hr2.below (hf z))
    simp only [pickI, Option.toList_some, List.cons_append, List.nil_append, List.getElem?_toArray, List.getElem?_cons_succ, List.getElem?_cons_zero]
    repeat (go_big_quiet_step (fail))
    refine wpQuiet_nil ?_
    clear F2 hf f
    go_wp2
    go_ret2
    have hb02 := hbd.trans (hb2.mono hzd)
    rw [HO.out, if_neg H1.out]
    exact ⟨_, _, _, rfl, rfl, Rd.nil_, hb02⟩

theorem ropen_any (A : Option Addr) (n c : Nat) (l : List UInt8) (w : World) (h : Rd w w.heap.size 1 A n c (u8s l)) (hn : n ≤ 500000) :
    Calls Try.prog 55 #[.slice A n c] w (Tells w (openOf l).1 (openOf l).2) := by
  by_cases h4 : n < 4
  · have hln : l.length = n := by have := h.len; rwa [u8s_len] at this
    have e : openOf l = ([], 10) := by unfold openOf; rw [if_pos (by omega)]
    rw [e]
    exact ropen_short A n c w h4
  · exact ropen_long A n c l w h hn (by omega)

end Go.Proofs.Ytddnjlnhnnpgiaa
