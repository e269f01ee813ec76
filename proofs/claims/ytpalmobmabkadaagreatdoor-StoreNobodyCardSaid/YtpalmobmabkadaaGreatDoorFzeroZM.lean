/- The check sum as plain mathematics: eight steps of a byte bit by bit, and by two looks into a table, come to one number. Contracts of package crc. Contracts of crc's Seal and Open. Contracts of the document's own check sum (keelsonref02). math/bits.ReverseBytes64. Parts of package frame. append of so many noughts onto a row of one's own. -/
import Derived.Test.YtpalmobmabkadaaGreatDoorSegsZM
import Derived.Deep.WholeRow
import Derived.Laws.Bits64b
import Derived.Lib.AppendZerosOnto
namespace Go.Proofs.YtpalmobmabkadaaGreatDoor
set_option maxRecDepth 20000

def stp (n : Nat) : Nat := if n % 2 = 1 then n / 2 ^^^ 2197175160 else n / 2
def stpn : Nat → Nat → Nat
  | 0, n => n
  | k + 1, n => stp (stpn k n)
theorem xor_swap (a b c d : Nat) : (a ^^^ b) ^^^ (c ^^^ d) = (a ^^^ c) ^^^ (b ^^^ d) := by
  rw [Nat.xor_assoc, Nat.xor_assoc, ← Nat.xor_assoc b c d, Nat.xor_comm b c, Nat.xor_assoc c b d]
theorem stp_lin (a b : Nat) : stp (a ^^^ b) = stp a ^^^ stp b := by
  have hm : (a ^^^ b) % 2 = (a % 2) ^^^ (b % 2) := Nat.xor_mod_two_pow (n := 1)
  unfold stp
  rw [hm, Nat.xor_div_two]
  rcases Nat.mod_two_eq_zero_or_one a with ha | ha <;> rcases Nat.mod_two_eq_zero_or_one b with hb | hb <;> rw [ha, hb]
  · simp
  · simp [Nat.xor_assoc]
  · simp only [Nat.xor_zero, if_true, Nat.zero_ne_one, if_false]
    rw [Nat.xor_assoc, Nat.xor_comm (b / 2), ← Nat.xor_assoc]
  · simp only [Nat.xor_self, Nat.zero_ne_one, if_false, if_true]
    rw [xor_swap, Nat.xor_self, Nat.xor_zero]
theorem stpn_lin (k a b : Nat) : stpn k (a ^^^ b) = stpn k a ^^^ stpn k b := by
  induction k with
  | zero => rfl
  | succ k ih => rw [stpn, ih, stp_lin]; rfl
theorem stp_even (m : Nat) : stp (2 * m) = m := by
  unfold stp
  rw [if_neg (by omega)]
  omega
theorem stp_lt (n : Nat) (h : n < 4294967296) : stp n < 4294967296 := by
  unfold stp
  split
  · exact Nat.xor_lt_two_pow (n := 32) (by omega) (by omega)
  · omega
theorem stpn_lt (k n : Nat) (h : n < 4294967296) : stpn k n < 4294967296 := by
  induction k with
  | zero => exact h
  | succ k ih => exact stp_lt _ ih
theorem stpn_add (j k n : Nat) : stpn (j + k) n = stpn j (stpn k n) := by
  induction j with
  | zero => rw [Nat.zero_add]; rfl
  | succ j ih => rw [Nat.succ_add, stpn, ih]; rfl
/-- Without its lowest bits a number is what it was, but for these. -/
theorem xor_low (k n : Nat) : n ^^^ (n % 2 ^ k) = 2 ^ k * (n / 2 ^ k) := by
  have h1 : (n ^^^ (n % 2 ^ k)) % 2 ^ k = 0 := by rw [Nat.xor_mod_two_pow, Nat.mod_mod, Nat.xor_self]
  have h2 : (n ^^^ (n % 2 ^ k)) / 2 ^ k = n / 2 ^ k := by
    rw [Nat.xor_div_two_pow, Nat.div_eq_of_lt (Nat.mod_lt _ (Nat.pow_pos (by decide))), Nat.xor_zero]
  have h3 := Nat.div_add_mod (n ^^^ (n % 2 ^ k)) (2 ^ k)
  rw [h1, h2] at h3
  omega
theorem stpn_shift (k m : Nat) : stpn k (2 ^ k * m) = m := by
  induction k generalizing m with
  | zero => simp [stpn]
  | succ k ih =>
    rw [stpn, show 2 ^ (k + 1) * m = 2 ^ k * (2 * m) from by rw [Nat.pow_succ, Nat.mul_assoc], ih, stp_even]
/-- Of k steps, what lies above the lowest k bits only moves down. -/
theorem stpn_low (k n : Nat) : stpn k n = n / 2 ^ k ^^^ stpn k (n % 2 ^ k) := by
  have h := stpn_lin k n (n % 2 ^ k)
  rw [xor_low, stpn_shift] at h
  rw [h, Nat.xor_assoc, Nat.xor_self, Nat.xor_zero]

def byteStep (n : Nat) (x : UInt8) : Nat := stpn 8 (n ^^^ x.toNat)
theorem byteStep_two (n : Nat) (x : UInt8) : byteStep n x = stpn 4 (stpn 4 (n ^^^ x.toNat)) := stpn_add 4 4 _
theorem byteStep_lt (n : Nat) (x : UInt8) (h : n < 4294967296) : byteStep n x < 4294967296 :=
  stpn_lt 8 _ (Nat.xor_lt_two_pow (n := 32) h (by have := x.toNat_lt; omega))

/-- Bit by bit. -/
def bits_ (n x : Nat) : Nat → Nat
  | 0 => n
  | k + 1 => stp (bits_ n x k ^^^ (x / 2 ^ k % 2))
theorem bits_eq (n x k : Nat) : bits_ n x k ^^^ (x / 2 ^ k) = stpn k (n ^^^ x) := by
  induction k with
  | zero => simp [bits_, stpn]
  | succ k ih =>
    have h := xor_low 1 (x / 2 ^ k)
    rw [Nat.pow_one] at h
    have e : x / 2 ^ k = (x / 2 ^ k % 2) ^^^ (2 * (x / 2 ^ k / 2)) := by
      rw [← h, Nat.xor_comm, Nat.xor_assoc, Nat.xor_self, Nat.xor_zero]
    rw [stpn, ← ih]
    have e2 : bits_ n x k ^^^ (x / 2 ^ k) = (bits_ n x k ^^^ (x / 2 ^ k % 2)) ^^^ (2 * (x / 2 ^ k / 2)) := by
      rw [Nat.xor_assoc, ← e]
    rw [e2, stp_lin, stp_even, bits_, Nat.div_div_eq_div_mul, ← Nat.pow_succ]
theorem bits_eight (n : Nat) (x : UInt8) : bits_ n x.toNat 8 = byteStep n x := by
  have h := bits_eq n x.toNat 8
  have := x.toNat_lt
  rw [show x.toNat / 2 ^ 8 = 0 from by omega, Nat.xor_zero] at h
  exact h
theorem bits_lt (n x k : Nat) (h : n < 4294967296) : bits_ n x k < 4294967296 := by
  induction k with
  | zero => exact h
  | succ k ih => exact stp_lt _ (Nat.xor_lt_two_pow (n := 32) ih (by omega))

def crcN (n : Nat) (l : List UInt8) : Nat := l.foldl byteStep n
theorem crcN_lt (n : Nat) (l : List UInt8) (h : n < 4294967296) : crcN n l < 4294967296 := by
  unfold crcN
  induction l generalizing n with
  | nil => exact h
  | cons x l ih => exact ih _ (byteStep_lt n x h)
theorem crcN_app (n : Nat) (l k : List UInt8) : crcN n (l ++ k) = crcN (crcN n l) k := List.foldl_append
theorem crcN_take (n : Nat) (l : List UInt8) (i : Nat) (x : UInt8) (h : l[i]? = some x) : crcN n (l.take (i + 1)) = byteStep (crcN n (l.take i)) x := by
  obtain ⟨hi, rfl⟩ := List.getElem?_eq_some_iff.1 h
  rw [List.take_succ_eq_append_getElem hi, crcN_app]
  rfl
def comp (n : Nat) : Nat := n ^^^ 4294967295
theorem comp_lt (n : Nat) (h : n < 4294967296) : comp n < 4294967296 := Nat.xor_lt_two_pow (n := 32) h (by decide)
theorem comp_comp (n : Nat) : comp (comp n) = n := by unfold comp; rw [Nat.xor_assoc, Nat.xor_self, Nat.xor_zero]
theorem comp_sub (n : Nat) (h : n < 4294967296) : 4294967295 - n = comp n := by
  have h1 : (~~~(BitVec.ofNat 32 n)).toNat = 4294967295 - n := by
    rw [BitVec.toNat_not, BitVec.toNat_ofNat, Nat.mod_eq_of_lt h]
  have h2 : ~~~(BitVec.ofNat 32 n) = BitVec.ofNat 32 n ^^^ BitVec.allOnes 32 := BitVec.xor_allOnes.symm
  rw [← h1, h2, BitVec.toNat_xor, BitVec.toNat_ofNat, BitVec.toNat_allOnes, Nat.mod_eq_of_lt h]
  rfl
/-- The sum of a text that goes on. -/
def more (s : Nat) (l : List UInt8) : Nat := comp (crcN (comp s) l)
theorem more_lt (s : Nat) (l : List UInt8) (h : s < 4294967296) : more s l < 4294967296 := comp_lt _ (crcN_lt _ _ (comp_lt _ h))
theorem more_app (s : Nat) (l k : List UInt8) : more (more s l) k = more s (l ++ k) := by
  unfold more
  rw [comp_comp, crcN_app]

end Go.Proofs.YtpalmobmabkadaaGreatDoor

namespace Go.Proofs.YtpalmobmabkadaaGreatDoor
set_option maxRecDepth 20000
open Go.RowKit

theorem and_one (m : Nat) (hm : m < 4294967296) : bits .and .u32 (m : Int) 1 = ((m % 2 : Nat) : Int) := by
  have := u32_and_nat m 1 hm (by decide)
  rw [nat_mask1] at this
  exact this
theorem xor_u32 (a b : Nat) (ha : a < 4294967296) (hb : b < 4294967296) : bits .xor .u32 (a : Int) (b : Int) = ((a ^^^ b : Nat) : Int) := u32_xor_nat a b ha hb
theorem xor_poly (m : Nat) (hm : m < 4294967296) : bits .xor .u32 ((m : Int) / 2) 2197175160 = ((m / 2 ^^^ 2197175160 : Nat) : Int) := xor_u32 (m / 2) 2197175160 (by omega) (by decide)

theorem four_any (n : Nat) (w : World) (hn : Hid (n < 4294967296)) :
    Calls Tryz.prog 151 #[.int .u32 (n : Int)] w fun e w' => e = .returned (.int .u32 ((stpn 4 n : Nat) : Int)) ∧ w = w' := by
  go_enter Tryz.func151, Tryz.ntmps151
  go_wp2
  go_loop [0, 4] (fun nr ir => ∃ i m : Nat, i ≤ 4 ∧ Hid (m = stpn i n) ∧ ir = .int .i64 i ∧ nr = .int .u32 (m : Int)) (fun _ ir => 4 - (intOf ir).toNat)
  case atStart => exact ⟨0, n, Nat.zero_le _, Lib.hid rfl, rfl, rfl⟩
  case round =>
    obtain ⟨i, m, hi, hm, rfl, rfl⟩ := hrel
    by_cases hlt : i < 4
    · have hm32 : Hid (m < 4294967296) := by rw [hm.out]; exact stpn_lt i n hn.out
      rcases Nat.mod_two_eq_zero_or_one m with hp | hp
      · have ha : bits .and .u32 (m : Int) 1 = 0 := by rw [and_one m hm32.out, hp]; rfl
        have HP := Lib.hid hp
        clear hp
        go_wp2
        go_round
        case rel => exact ⟨i + 1, m / 2, by omega, Lib.hid (by rw [stpn, ← hm.out, stp, if_neg (by rw [HP.out]; decide)]), by go_num, by go_num⟩
        case measure => simp [intOf]; omega
      · have ha : bits .and .u32 (m : Int) 1 = 1 := by rw [and_one m hm32.out, hp]; rfl
        have HP := Lib.hid hp
        clear hp
        go_wp2
        go_round
        case rel => exact ⟨i + 1, m / 2 ^^^ 2197175160, by omega, Lib.hid (by rw [stpn, ← hm.out, stp, if_pos HP.out]), by go_num, by rw [xor_poly m hm32.out]⟩
        case measure => simp [intOf]; omega
    · go_wp2
      go_ret
      obtain rfl : i = 4 := by omega
      exact ⟨by rw [← hm.out]; rfl, rfl⟩

/-- The table, of which the first i places are filled. -/
def tabv (i : Nat) : Array Value := ((List.range 16).map fun j => Value.int .u32 ((if j < i then stpn 4 j else 0 : Nat) : Int)).toArray
theorem tabv_size (i : Nat) : (tabv i).size = 16 := by simp [tabv]
theorem tabv_get (i j : Nat) (hj : j < 16) : (tabv i)[j]? = some (.int .u32 ((if j < i then stpn 4 j else 0 : Nat) : Int)) := by
  simp [tabv, hj]
theorem tabv_put (i : Nat) : (tabv i).setIfInBounds i (.int .u32 ((stpn 4 i : Nat) : Int)) = tabv (i + 1) := by
  apply Array.ext'
  apply List.ext_getElem?
  intro j
  simp only [Array.toList_setIfInBounds, List.getElem?_set, Array.length_toList, tabv_size]
  by_cases hij : i = j
  · subst hij
    by_cases h : i < 16
    · rw [if_pos rfl, if_pos h, Array.getElem?_toList, tabv_get _ _ h, if_pos (Nat.lt_succ_self _)]
    · rw [if_pos rfl, if_neg h, Array.getElem?_toList, Array.getElem?_eq_none (by rw [tabv_size]; omega)]
  · rw [if_neg hij, Array.getElem?_toList, Array.getElem?_toList]
    by_cases h : j < 16
    · rw [tabv_get _ _ h, tabv_get _ _ h]
      by_cases hj : j < i
      · rw [if_pos hj, if_pos (by omega)]
      · rw [if_neg hj, if_neg (by omega)]
    · rw [Array.getElem?_eq_none (by rw [tabv_size]; omega), Array.getElem?_eq_none (by rw [tabv_size]; omega)]

theorem two_rows (w : World) (a b : Array Value) (t : TypeId) : ((w.alloc (.cells a t)).alloc (.cells b t)).heap[w.heap.size + 1]? = some (.cells b t (0, 0)) ∧ ((w.alloc (.cells a t)).alloc (.cells b t)).heap[w.heap.size]? = some (.cells a t (0, 0)) := by
  have h := heap_alloc_new (w.alloc (.cells a t)) (.cells b t)
  rw [World.size_alloc] at h
  exact ⟨h, (heap_alloc_old (w.alloc (.cells a t)) _ (by simp)).trans (heap_alloc_new w _)⟩

theorem fours_any (w : World) :
    Calls Tryz.prog 150 #[] w fun e w' => e = .returned (.agg (tabv 16)) ∧ Below w.heap.size w w' := by
  go_enter Tryz.func150, Tryz.ntmps150
  go_wp2
  go_loopw [4] (fun ir wr => ∃ i : Nat, i ≤ 16 ∧ ir = .int .i64 i ∧ Hid (wr.heap[w.heap.size + 1]? = some (.cells (tabv i) 212 (0, 0))) ∧ Hid (wr.heap[w.heap.size]? = some (.cells (tabv 0) 212 (0, 0))) ∧ Below w.heap.size w wr) (fun ir _ => 16 - (intOf ir).toNat)
  case atStart => exact ⟨0, Nat.zero_le _, rfl, Lib.hid (two_rows w (tabv 0) (tabv 0) 212).1, Lib.hid (two_rows w (tabv 0) (tabv 0) 212).2, ((Below.refl _ _).alloc (Nat.le_refl _) _).alloc (by simp) _⟩
  case round =>
    obtain ⟨i, hi, rfl, h1, h0, hb⟩ := hrel
    by_cases hlt : i < 16
    · have hc : wr.cell? ⟨w.heap.size + 1, i, none⟩ = some (.int .u32 ((if i < i then stpn 4 i else 0 : Nat) : Int)) := by rw [cell_of_row wr _ i _ _ _ h1.out, tabv_get _ _ hlt]
      have hf : wr.frozen? ⟨w.heap.size + 1, i, none⟩ = false := frozen_of_row wr _ i _ _ h1.out
      go_wp2_with (go_at_call 151; refine (four_any i _ (Lib.hid (by omega))).mono ?_; rintro e w1 ⟨rfl, rfl⟩)
      go_roundw
      case rel =>
        refine ⟨i + 1, by omega, by go_num, Lib.hid ?_, Lib.hid ?_, hb.setCell (by simp) _⟩
        · rw [heap_setCell_same wr _ i _ _ _ h1.out, tabv_put]
        · rw [heap_setCell_other _ _ _ _ (by simp)]; exact h0.out
      case measure => simp [intOf]; omega
    · have h16 : wr.heap[w.heap.size + 1]? = some (.cells (tabv 16) 212 (0, 0)) := by
        have e : i = 16 := by omega
        rw [← e]; exact h1.out
      have H16 := Lib.hid h16
      clear h16 h1
      go_wp2_with (first
        | (refine (show wpList _ _ _ (⟨some 14, _, _, _, _, _⟩ :: _) _ _ from ?_); refine wpList_load_row rfl 212 (.tmp 2) rfl (w.heap.size + 1) rfl 212 (tabv 16) (0, 0) _ H16.out Tryz.underlying212 rfl (by rw [tabv_size]; kernel_rfl) ?_)
        | (refine (show wpList _ _ _ (⟨none, .store _ (.tmp 0) (.tmp 14), _, _, _, _⟩ :: _) _ _ from ?_); refine wpList_store_row rfl 212 (.tmp 0) (.tmp 14) rfl w.heap.size (tabv 16) rfl rfl 212 (tabv 0) h0.out (by rw [tabv_size]; kernel_rfl) (by rw [tabv_size, tabv_size]) (by kernel_rfl) ?_)
        | fail)
      refine bodyPost_ret (results_cell_row rfl _ _ w.heap.size 212 (tabv 16) (0, 0) _ (by rfl) (setRow_heap wr _ _ _ _ _ h0.out) Tryz.underlying212 rfl (by rw [tabv_size]; kernel_rfl)) rfl ⟨rfl, below_setRow hb (Nat.le_refl _) _⟩

theorem and_15 (m : Nat) (hm : m < 4294967296) : bits .and .u32 (m : Int) 15 = ((m % 16 : Nat) : Int) := by
  have := u32_and_nat m 15 hm (by decide)
  rw [nat_mask4] at this
  exact this
theorem xor_div (a t : Nat) (ha : a < 4294967296) (ht : t < 4294967296) : bits .xor .u32 ((a : Int) / 16) (t : Int) = ((a / 16 ^^^ t : Nat) : Int) := xor_u32 (a / 16) t (by omega) ht
/-- One look into the table. -/
theorem look (w : World) (B x : Nat) (hx : x < 4294967296) (h : w.heap[B]? = some (.cells (tabv 16) 212 (0, 0))) :
    ∃ r t y : Nat, bits .and .u32 (x : Int) 15 = (r : Int) ∧ (r : Int) < 16 ∧ w.cell? ⟨B, r, none⟩ = some (.int .u32 (t : Int)) ∧ bits .xor .u32 ((x : Int) / 16) (t : Int) = (y : Int) ∧ Hid (y = stpn 4 x) := by
  have ht : stpn 4 (x % 16) < 4294967296 := stpn_lt 4 _ (by omega)
  refine ⟨x % 16, stpn 4 (x % 16), x / 16 ^^^ stpn 4 (x % 16), and_15 x hx, by omega, ?_, xor_div x _ hx ht, Lib.hid (stpn_low 4 x).symm⟩
  rw [cell_of_row w B _ _ _ _ h, tabv_get _ _ (by omega), if_pos (by omega)]

theorem xor_max (m : Nat) (hm : m < 4294967296) : bits .xor .u32 IntKind.u32.max (m : Int) = ((comp m : Nat) : Int) := by
  have := u32_xor_nat 4294967295 m (by decide) hm
  rw [show IntKind.u32.max = ((4294967295 : Nat) : Int) from rfl, this, Nat.xor_comm]
  rfl
theorem more_any (A : Option Addr) (n c : Nat) (l : List UInt8) (m : Nat) (w : World) (hsl : Rd w w.heap.size 1 A n c (u8s l)) (hm : Hid (m < 4294967296)) (hn : n ≤ 1000000) :
    Calls Tryz.prog 149 #[.int .u32 (m : Int), .slice A n c] w fun e w' => e = .returned (.int .u32 ((more m l : Nat) : Int)) ∧ Below w.heap.size w w' := by
  have hln : l.length = n := by have := hsl.len; rwa [u8s_len] at this
  have HLN := Lib.hid hln
  clear hln
  go_enter Tryz.func149, Tryz.ntmps149
  go_wp2_with (first
    | (go_at_call 150; refine (fours_any _).mono ?_; rintro e w1 ⟨rfl, hb1⟩; have hz1 := hb1.size)
    | (refine (show wpList _ _ _ (⟨none, .store _ (.tmp 5) (.tmp 9), _, _, _, _⟩ :: _) _ _ from ?_); refine wpList_store_row rfl 212 (.tmp 5) (.tmp 9) rfl w1.heap.size (tabv 16) rfl rfl 212 _ (heap_alloc_new w1 _) (by rw [tabv_size]; kernel_rfl) (by rw [tabv_size]; rfl) (by kernel_rfl) ?_
       obtain ⟨w2, hw2⟩ : ∃ w2, w2 = (w1.alloc (.cells (tabv 0) 212)).setRow w1.heap.size (tabv 16) := ⟨_, rfl⟩
       refine (show wpList _ _ _ _ _ ((w1.alloc (.cells (tabv 0) 212)).setRow w1.heap.size (tabv 16)) from ?_)
       rw [← hw2]
       have hrow : w2.heap[w1.heap.size]? = some (.cells (tabv 16) 212 (0, 0)) := by rw [hw2]; exact setRow_heap _ _ _ _ _ _ (heap_alloc_new w1 _)
       have hb2 : Below w.heap.size w w2 := by rw [hw2]; exact below_setRow (hb1.alloc hz1 _) hz1 _
       have HROW := Lib.hid hrow
       clear hrow hw2)
    | fail)
  go_loop [6, 14] (fun nr ir => ∃ i q : Nat, i ≤ n ∧ Hid (q = crcN (comp m) (l.take i)) ∧ ir = .int .i64 i ∧ nr = .int .u32 (q : Int)) (fun _ ir => n - (intOf ir).toNat)
  case atStart => exact ⟨0, comp m, Nat.zero_le _, Lib.hid rfl, rfl, by rw [xor_max m hm.out]⟩
  case round =>
    obtain ⟨i, q, hi, hq, rfl, rfl⟩ := hrel
    have hq32 : Hid (q < 4294967296) := by rw [hq.out]; exact crcN_lt _ _ (comp_lt _ hm.out)
    by_cases hlt : i < n
    · obtain ⟨b, o, u, rfl, hbl, hu, hc⟩ := (hsl.below hb2).at_ hlt
      obtain ⟨x, hx, rfl⟩ := u8s_get _ _ _ hu
      have HX := Lib.hid hx
      clear hu hx
      have hx255 : (x.toNat : Int) ≤ 255 := by have := x.toNat_lt; omega
      have hx0 : 0 ≤ (x.toNat : Int) := by omega
      obtain ⟨x1, hx1⟩ : ∃ x1, x1 = q ^^^ x.toNat := ⟨_, rfl⟩
      have e1 : bits .xor .u32 (q : Int) (x.toNat : Int) = (x1 : Int) := by rw [hx1]; exact xor_u32 _ _ hq32.out (by omega)
      have hl1 : x1 < 4294967296 := by rw [hx1]; exact Nat.xor_lt_two_pow (n := 32) hq32.out (by omega)
      have HX1 := Lib.hid hx1
      clear hx1
      obtain ⟨r1, t1, y1, e2, l2, c2, e3, hy1⟩ := look w2 w1.heap.size x1 hl1 HROW.out
      have hl2 : y1 < 4294967296 := by rw [hy1.out]; exact stpn_lt 4 _ hl1
      obtain ⟨r2, t2, y2, e4, l4, c4, e5, hy2⟩ := look w2 w1.heap.size y1 hl2 HROW.out
      have HL1 := Lib.hid hl1
      have HL2 := Lib.hid hl2
      clear hl1 hl2
      have HD : Hid (crcN (comp m) (l.take (i + 1)) = y2) := Lib.hid (by rw [crcN_take _ _ _ _ HX.out, byteStep_two, ← hq.out, ← HX1.out, ← hy1.out, ← hy2.out])
      go_wp2
      go_round
      case rel => exact ⟨i + 1, y2, by omega, Lib.hid HD.out.symm, by go_num, rfl⟩
      case measure => simp [intOf]; omega
    · go_wp2
      go_ret
      have hin : i = n := by omega
      refine ⟨?_, hb2⟩
      have e : more m l = comp q := by rw [hq.out, List.take_of_length_le (by rw [HLN.out, hin]; exact Nat.le_refl _)]; rfl
      rw [e, ← xor_max q hq32.out]
      rfl

theorem sum_any (A : Option Addr) (n c : Nat) (l : List UInt8) (w : World) (h : Rd w w.heap.size 1 A n c (u8s l)) (hn : n ≤ 1000000) :
    Calls Tryz.prog 147 #[.slice A n c] w fun e w' => e = .returned (.int .u32 ((more 0 l : Nat) : Int)) ∧ Below w.heap.size w w' := by
  go_enter Tryz.func147, Tryz.ntmps147
  go_wp2_with (go_at_call 149; refine (more_any _ _ _ l 0 _ h (Lib.hid (by decide)) hn).mono ?_; rintro e w1 ⟨rfl, hb1⟩)
  go_ret
  exact ⟨rfl, hb1⟩

end Go.Proofs.YtpalmobmabkadaaGreatDoor

namespace Go.Proofs.YtpalmobmabkadaaGreatDoor
set_option maxRecDepth 20000
open Go.RowKit

def sealOf (l : List UInt8) : List UInt8 := l ++ le 4 (more 0 l)
theorem sum_lt (l : List UInt8) : more 0 l < 4294967296 := more_lt 0 l (by decide)

theorem seal_any (A : Option Addr) (n c : Nat) (l : List UInt8) (w : World) (h : Rd w w.heap.size 1 A n c (u8s l)) (hn : n ≤ 500000) :
    Calls Tryz.prog 146 #[.slice A n c] w fun e w' => ∃ v, e = .returned v ∧ w'.ownsRow w.heap.size 5 1 v (n + 4) (u8s (sealOf l)) ∧ Below w.heap.size w w' := by
  have hM := sum_lt l
  have hS := sum_any A n c l w h (by omega)
  have hfin : l ++ puts 4 [more 0 l] = sealOf l := by simp [sealOf, puts]
  generalize more 0 l = M at hM hS hfin
  have HS := Lib.hid hS
  have HF := Lib.hid hfin
  clear hS hfin
  have hM1 : (M : Int) ≤ 4294967295 := by omega
  go_enter Tryz.func146, Tryz.ntmps146
  go_wp2_with (first
    | (go_at_call 147; refine (HS.out).mono ?_; rintro e w1 ⟨rfl, hb1⟩; have hz1 := hb1.size; have hr1 := (h.below hb1).more hz1)
    | (go_at_call 101; refine (put_good _ _ _ _ 1 1 l [M] 4 _ (((hr1.below ((Below.refl _ _).alloc (Nat.le_refl _) _))).more (by simp)) (Rd.lit w1 #[.int .u64 (M : Int)] _ rfl (by unfold maxLen; omega) (by simp)) (by omega) (by omega) (by omega)).mono ?_; rintro e w2 ⟨v2, rfl, hown2, hb2⟩))
  go_ret
  refine ⟨_, rfl, ?_, ?_⟩
  · rw [HF.out] at hown2
    exact ownsRow_low hown2 (by simp; omega)
  · exact hb1.trans (((Below.refl _ _).alloc hz1 _).trans (hb2.mono (by simp; omega)))

def Tells (w : World) (t : List UInt8) (E : Int) (e : Ending) (w' : World) : Prop :=
  ∃ A n c, e = .returned (.tuple #[.slice A n c, .int .i64 E]) ∧ n = t.length ∧ Rd w' w'.heap.size 1 A n c (u8s t) ∧ Below w.heap.size w w'
def openOf (l : List UInt8) : List UInt8 × Int :=
  if l.length < 4 then ([], 10) else if unle (l.drop (l.length - 4)) = more 0 (l.take (l.length - 4)) then (l.take (l.length - 4), 0) else ([], 12)

theorem st_num4 (t : List UInt8) (ht : t.length = 4) : St.num ⟨t, false⟩ 4 = (unle t, ⟨[], false⟩) := by
  have e1 : t.take 4 = t := List.take_of_length_le (by omega)
  have e2 : t.drop 4 = [] := List.drop_of_length_le (by omega)
  unfold St.num St.next
  rw [if_pos ⟨by omega, by omega⟩]
  dsimp only
  rw [if_pos ⟨by omega, by rw [ht]; omega⟩, show (4 : Int).toNat = 4 from rfl, e1, e2]
theorem open_short (A : Option Addr) (n c : Nat) (w : World) (hn : n < 4) :
    Calls Tryz.prog 142 #[.slice A n c] w (Tells w [] 10) := by
  go_enter Tryz.func142, Tryz.ntmps142
  go_wp2
  go_ret2
  exact ⟨_, _, _, rfl, rfl, Rd.nil_, Below.refl _ _⟩

theorem open_long (A : Option Addr) (n c : Nat) (l : List UInt8) (w : World) (h : Rd w w.heap.size 1 A n c (u8s l)) (hn : n ≤ 500000) (h4 : 4 ≤ n) :
    Calls Tryz.prog 142 #[.slice A n c] w (Tells w (openOf l).1 (openOf l).2) := by
  have hln : l.length = n := by have := h.len; rwa [u8s_len] at this
  have hopen : openOf l = if unle (l.drop (n - 4)) = more 0 (l.take (n - 4)) then (l.take (n - 4), 0) else ([], 12) := by
    unfold openOf
    rw [hln, if_neg (by omega)]
  have hnext : St.next ⟨l, false⟩ ((n : Int) - 4) = (l.take (n - 4), ⟨l.drop (n - 4), false⟩) := by
    unfold St.next
    rw [if_pos ⟨by omega, by rw [hln]; omega⟩]
    rw [show ((n : Int) - 4).toNat = n - 4 from by omega]
  have hnum : St.num ⟨l.drop (n - 4), false⟩ 4 = (unle (l.drop (n - 4)), ⟨[], false⟩) := st_num4 _ (by rw [List.length_drop, hln]; omega)
  have hU : unle (l.drop (n - 4)) < 4294967296 := by
    have := unle_lt (l.drop (n - 4))
    rw [List.length_drop, hln, show n - (n - 4) = 4 from by omega] at this
    exact this
  have hM := sum_lt (l.take (n - 4))
  have htl : (l.take (n - 4)).length = n - 4 := by rw [List.length_take]; omega
  have HO := Lib.hid hopen
  have HX := Lib.hid hnext
  have HY := Lib.hid hnum
  have HT := Lib.hid htl
  clear hopen hnext hnum hln htl
  generalize unle (l.drop (n - 4)) = U at *
  generalize hMM : more 0 (l.take (n - 4)) = M at *
  have HM := Lib.hid hMM
  clear hMM
  have hM1 : (M : Int) ≤ 4294967295 := by omega
  by_cases hUM : U = M
  · subst hUM
    have q1 : ((U : Int) != (U : Int)) = false := bne_self_eq_false _
    go_enter Tryz.func142, Tryz.ntmps142
    go_wp2_with (first
      | (go_at_call 74; refine (read_any _ _ _ l _ h (by omega)).mono ?_; rintro e w1 ⟨g, rfl, hg, hR, hb1⟩; have hz1 := hb1.size)
      | (go_at_call 139; refine (take_any _ _ _ _ hR).mono ?_; rw [HX.out]; rintro e w2 ⟨v2, rfl, hown2, hR2, hg2⟩
         rw [HT.out] at hown2
         have hb2 : Below w.heap.size w w2 := hb1.grown hg2 hz1 (fun k e => by cases e; exact hg)
         obtain ⟨A2, c2, rfl⟩ := ownsRow_form hown2)
      | (go_at_call 76; refine (num_all _ _ _ _ hR2).mono ?_; rw [HY.out]; rintro e w3 ⟨rfl, hR3, hg3⟩
         have hb3 : Below w.heap.size w w3 := hb2.grown hg3 hb2.size (fun k e => by cases e; exact hg)
         have hr3 : Rd w3 w3.heap.size 1 A2 (n - 4) c2 (u8s (l.take (n - 4))) := ownsRow_far hown2 hg3 (fun k e => by have h1 := (hown2.lt k e).1; have h2 := hR.lt; omega)
         have hz3 := hb3.size)
      | (go_at_call 147; refine (sum_any _ _ _ _ _ hr3 (by omega)).mono ?_; rw [HM.out]; rintro e w4 ⟨rfl, hb4⟩)
      | fail)
    go_ret2
    rw [HO.out, if_pos (by trivial)]
    exact ⟨_, _, _, rfl, HT.out.symm, (hr3.below hb4).more hb4.size, hb3.trans (hb4.mono hz3)⟩
  · have q1 : ((U : Int) != (M : Int)) = true := by simp; omega
    go_enter Tryz.func142, Tryz.ntmps142
    go_wp2_with (first
      | (go_at_call 74; refine (read_any _ _ _ l _ h (by omega)).mono ?_; rintro e w1 ⟨g, rfl, hg, hR, hb1⟩; have hz1 := hb1.size)
      | (go_at_call 139; refine (take_any _ _ _ _ hR).mono ?_; rw [HX.out]; rintro e w2 ⟨v2, rfl, hown2, hR2, hg2⟩
         rw [HT.out] at hown2
         have hb2 : Below w.heap.size w w2 := hb1.grown hg2 hz1 (fun k e => by cases e; exact hg)
         obtain ⟨A2, c2, rfl⟩ := ownsRow_form hown2)
      | (go_at_call 76; refine (num_all _ _ _ _ hR2).mono ?_; rw [HY.out]; rintro e w3 ⟨rfl, hR3, hg3⟩
         have hb3 : Below w.heap.size w w3 := hb2.grown hg3 hb2.size (fun k e => by cases e; exact hg)
         have hr3 : Rd w3 w3.heap.size 1 A2 (n - 4) c2 (u8s (l.take (n - 4))) := ownsRow_far hown2 hg3 (fun k e => by have h1 := (hown2.lt k e).1; have h2 := hR.lt; omega)
         have hz3 := hb3.size)
      | (go_at_call 147; refine (sum_any _ _ _ _ _ hr3 (by omega)).mono ?_; rw [HM.out]; rintro e w4 ⟨rfl, hb4⟩)
      | fail)
    go_ret2
    rw [HO.out, if_neg hUM]
    exact ⟨_, _, _, rfl, rfl, Rd.nil_, hb3.trans (hb4.mono hz3)⟩

theorem open_any (A : Option Addr) (n c : Nat) (l : List UInt8) (w : World) (h : Rd w w.heap.size 1 A n c (u8s l)) (hn : n ≤ 500000) :
    Calls Tryz.prog 142 #[.slice A n c] w (Tells w (openOf l).1 (openOf l).2) := by
  by_cases h4 : n < 4
  · have hln : l.length = n := by have := h.len; rwa [u8s_len] at this
    have e : openOf l = ([], 10) := by unfold openOf; rw [if_pos (by omega)]
    rw [e]
    exact open_short A n c w h4
  · exact open_long A n c l w h hn (by omega)

end Go.Proofs.YtpalmobmabkadaaGreatDoor

namespace Go.Proofs.YtpalmobmabkadaaGreatDoor
set_option maxRecDepth 20000
open Go.RowKit

theorem bit_at (x : UInt8) (k : Nat) : ∃ bb : Nat, bits .and .u32 ((x.toNat : Int) / 2 ^ k % 4294967296) 1 = (bb : Int) ∧ bb ≤ 1 ∧ Hid (bb = x.toNat / 2 ^ k % 2) := by
  have hx := x.toNat_lt
  have h1 : x.toNat / 2 ^ k ≤ x.toNat := Nat.div_le_self _ _
  refine ⟨x.toNat / 2 ^ k % 2, ?_, by omega, Lib.hid rfl⟩
  have e : ((x.toNat : Int) / 2 ^ k % 4294967296) = ((x.toNat / 2 ^ k : Nat) : Int) := by
    have e1 : ((x.toNat : Int) / 2 ^ k) = ((x.toNat / 2 ^ k : Nat) : Int) := by simp
    rw [e1]
    have h2 : ((x.toNat / 2 ^ k : Nat) : Int) ≤ (x.toNat : Int) := by exact_mod_cast h1
    exact Int.emod_eq_of_lt (Int.natCast_nonneg _) (by omega)
  rw [e, and_one _ (by omega)]
/-- Whether a text is the seal of all but its last bytes. -/
theorem sealed_iff (l : List UInt8) (h4 : 4 ≤ l.length) : sealOf (l.take (l.length - 4)) = l ↔ unle (l.drop (l.length - 4)) = more 0 (l.take (l.length - 4)) := by
  have hd : (l.drop (l.length - 4)).length = 4 := by rw [List.length_drop]; omega
  have hl : l.take (l.length - 4) ++ l.drop (l.length - 4) = l := List.take_append_drop _ _
  constructor
  · intro h
    have h2 : le 4 (more 0 (l.take (l.length - 4))) = l.drop (l.length - 4) := by
      have h3 : l.take (l.length - 4) ++ le 4 (more 0 (l.take (l.length - 4))) = l.take (l.length - 4) ++ l.drop (l.length - 4) := by rw [hl]; exact h
      exact List.append_cancel_left h3
    rw [← h2, unle_le, Nat.mod_eq_of_lt (sum_lt _)]
  · intro h
    have h2 := le_unle (l.drop (l.length - 4))
    rw [hd, h] at h2
    unfold sealOf
    rw [h2, hl]

theorem str_inj {a b : List UInt8} (h : (str a).toList = (str b).toList) : a = b := by
  have e : ∀ l : List UInt8, (str l).toList = l := fun l => ByteArray.toList_mk l
  rwa [e, e] at h
end Go.Proofs.YtpalmobmabkadaaGreatDoor

namespace Go.Proofs.YtpalmobmabkadaaGreatDoor
set_option maxRecDepth 20000
open Go.RowKit

theorem and_split (k a b c d : Nat) (ha : a < 2 ^ k) (hc : c < 2 ^ k) : (2 ^ k * b + a) &&& (2 ^ k * d + c) = 2 ^ k * (b &&& d) + (a &&& c) := by
  apply Nat.eq_of_testBit_eq
  intro i
  rw [Nat.testBit_and, Nat.testBit_two_pow_mul_add _ ha, Nat.testBit_two_pow_mul_add _ hc, Nat.testBit_two_pow_mul_add _ (Nat.and_lt_two_pow _ hc)]
  split <;> rw [Nat.testBit_and]
theorem or_split (k a b c d : Nat) (ha : a < 2 ^ k) (hc : c < 2 ^ k) : (2 ^ k * b + a) ||| (2 ^ k * d + c) = 2 ^ k * (b ||| d) + (a ||| c) := by
  apply Nat.eq_of_testBit_eq
  intro i
  rw [Nat.testBit_or, Nat.testBit_two_pow_mul_add _ ha, Nat.testBit_two_pow_mul_add _ hc, Nat.testBit_two_pow_mul_add _ (Nat.or_lt_two_pow ha hc)]
  split <;> rw [Nat.testBit_or]
theorem and16 (y m g : Nat) (hg : g < 65536) : (65536 * y + g) &&& (65536 * m + 255) = 65536 * (y &&& m) + g % 256 := by
  have := and_split 16 g y 255 m (by omega) (by omega)
  rw [show (2 : Nat) ^ 16 = 65536 from rfl] at this
  rw [this, show (255 : Nat) = 2 ^ 8 - 1 from rfl, Nat.and_two_pow_sub_one_eq_mod]
theorem and32 (y m g : Nat) (hg : g < 4294967296) : (4294967296 * y + g) &&& (4294967296 * m + 65535) = 4294967296 * (y &&& m) + g % 65536 := by
  have := and_split 32 g y 65535 m (by omega) (by omega)
  rw [show (2 : Nat) ^ 32 = 4294967296 from rfl] at this
  rw [this, show (65535 : Nat) = 2 ^ 16 - 1 from rfl, Nat.and_two_pow_sub_one_eq_mod]
theorem or16 (y z a b : Nat) (ha : a < 256) (hb : b < 256) : (65536 * y + a) ||| (65536 * z + 256 * b) = 65536 * (y ||| z) + (a + 256 * b) := by
  have := or_split 16 a y (256 * b) z (by omega) (by omega)
  rw [show (2 : Nat) ^ 16 = 65536 from rfl] at this
  rw [this]
  have h := Nat.two_pow_add_eq_or_of_lt (i := 8) (show a < 2 ^ 8 by omega) b
  rw [show (2 : Nat) ^ 8 = 256 from rfl] at h
  rw [Nat.or_comm a, ← h]
  omega
theorem or32 (y z a b : Nat) (ha : a < 65536) (hb : b < 65536) : (4294967296 * y + a) ||| (4294967296 * z + 65536 * b) = 4294967296 * (y ||| z) + (a + 65536 * b) := by
  have := or_split 32 a y (65536 * b) z (by omega) (by omega)
  rw [show (2 : Nat) ^ 32 = 4294967296 from rfl] at this
  rw [this]
  have h := Nat.two_pow_add_eq_or_of_lt (i := 16) (show a < 2 ^ 16 by omega) b
  rw [show (2 : Nat) ^ 16 = 65536 from rfl] at h
  rw [Nat.or_comm a, ← h]
  omega
/-- Four groups of two bytes. -/
def gr (a0 b0 a1 b1 a2 b2 a3 b3 : Nat) : Nat := 65536 * (65536 * (65536 * (65536 * 0 + (a3 + 256 * b3)) + (a2 + 256 * b2)) + (a1 + 256 * b1)) + (a0 + 256 * b0)
section
variable {a0 b0 a1 b1 a2 b2 a3 b3 : Nat}
theorem gr_and (h0 : a0 < 256) (k0 : b0 < 256) (h1 : a1 < 256) (k1 : b1 < 256) (h2 : a2 < 256) (k2 : b2 < 256) (h3 : a3 < 256) (k3 : b3 < 256) : gr a0 b0 a1 b1 a2 b2 a3 b3 &&& 71777214294589695 = gr a0 0 a1 0 a2 0 a3 0 := by
  have e : (71777214294589695 : Nat) = 65536 * (65536 * (65536 * (65536 * 0 + 255) + 255) + 255) + 255 := rfl
  unfold gr
  rw [e, and16 _ _ _ (by omega), and16 _ _ _ (by omega), and16 _ _ _ (by omega), and16 _ _ _ (by omega), Nat.and_zero]
  omega
theorem gr_or (h0 : a0 < 256) (k0 : b0 < 256) (h1 : a1 < 256) (k1 : b1 < 256) (h2 : a2 < 256) (k2 : b2 < 256) (h3 : a3 < 256) (k3 : b3 < 256) : gr b0 0 b1 0 b2 0 b3 0 ||| gr 0 a0 0 a1 0 a2 0 a3 = gr b0 a0 b1 a1 b2 a2 b3 a3 := by
  have e : gr b0 0 b1 0 b2 0 b3 0 = 65536 * (65536 * (65536 * (65536 * 0 + b3) + b2) + b1) + b0 := by unfold gr; omega
  have f : gr 0 a0 0 a1 0 a2 0 a3 = 65536 * (65536 * (65536 * (65536 * 0 + 256 * a3) + 256 * a2) + 256 * a1) + 256 * a0 := by unfold gr; omega
  rw [e, f, or16 _ _ _ _ k0 h0, or16 _ _ _ _ k1 h1, or16 _ _ _ _ k2 h2, or16 _ _ _ _ k3 h3]
  unfold gr
  simp
end
/-- The bytes of a number, the other way round. -/
def rev8 (x : Nat) : Nat := unle (le 8 x).reverse
theorem rev_bytes (x : Nat) (hx : x < 18446744073709551616) : ∃ b0 b1 b2 b3 b4 b5 b6 b7 : Nat, b0 < 256 ∧ b1 < 256 ∧ b2 < 256 ∧ b3 < 256 ∧ b4 < 256 ∧ b5 < 256 ∧ b6 < 256 ∧ b7 < 256 ∧ x = gr b0 b1 b2 b3 b4 b5 b6 b7 ∧ x / 256 = gr b1 b2 b3 b4 b5 b6 b7 0 ∧ rev8 x = b7 + 256 * (b6 + 256 * (b5 + 256 * (b4 + 256 * (b3 + 256 * (b2 + 256 * (b1 + 256 * b0)))))) := by
  have step : ∀ n : Nat, ∃ b y, b = n % 256 ∧ y = n / 256 ∧ b < 256 ∧ n = b + 256 * y := fun n => ⟨n % 256, n / 256, rfl, rfl, by omega, by omega⟩
  obtain ⟨b0, y1, h0, g1, l0, s0⟩ := step x
  obtain ⟨b1, y2, h1, g2, l1, s1⟩ := step y1
  obtain ⟨b2, y3, h2, g3, l2, s2⟩ := step y2
  obtain ⟨b3, y4, h3, g4, l3, s3⟩ := step y3
  obtain ⟨b4, y5, h4, g5, l4, s4⟩ := step y4
  obtain ⟨b5, y6, h5, g6, l5, s5⟩ := step y5
  obtain ⟨b6, y7, h6, g7, l6, s6⟩ := step y6
  obtain ⟨b7, y8, h7, g8, l7, s7⟩ := step y7
  have hr : rev8 x = b7 + 256 * (b6 + 256 * (b5 + 256 * (b4 + 256 * (b3 + 256 * (b2 + 256 * (b1 + 256 * b0)))))) := by
    unfold rev8
    simp only [le, ← g1, ← g2, ← g3, ← g4, ← g5, ← g6, ← g7, ← h0, ← h1, ← h2, ← h3, ← h4, ← h5, ← h6, ← h7, List.reverse_cons, List.reverse_nil, List.nil_append, List.cons_append, unle, UInt8.toNat_ofNat', Nat.reducePow]
    rw [Nat.mod_eq_of_lt l0, Nat.mod_eq_of_lt l1, Nat.mod_eq_of_lt l2, Nat.mod_eq_of_lt l3, Nat.mod_eq_of_lt l4, Nat.mod_eq_of_lt l5, Nat.mod_eq_of_lt l6, Nat.mod_eq_of_lt l7]
    rw [Nat.mul_zero, Nat.add_zero]
  have z8 : y8 = 0 := by
    clear hr h0 h1 h2 h3 h4 h5 h6 h7 g1 g2 g3 g4 g5 g6 g7 g8 step
    omega
  refine ⟨b0, b1, b2, b3, b4, b5, b6, b7, l0, l1, l2, l3, l4, l5, l6, l7, ?_, ?_, hr⟩
  · clear hr h0 h1 h2 h3 h4 h5 h6 h7 g1 g2 g3 g4 g5 g6 g7 g8 step hx
    rw [s0, s1, s2, s3, s4, s5, s6, s7, z8]
    unfold gr
    clear s0 s1 s2 s3 s4 s5 s6 s7 z8 l0 l1 l2 l3 l4 l5 l6 l7
    omega
  · rw [← g1]
    clear hr h0 h1 h2 h3 h4 h5 h6 h7 g1 g2 g3 g4 g5 g6 g7 g8 step hx
    rw [s1, s2, s3, s4, s5, s6, s7, z8]
    unfold gr
    clear s0 s1 s2 s3 s4 s5 s6 s7 z8 l0 l1 l2 l3 l4 l5 l6 l7
    omega

/-- Two groups of four bytes. -/
def gq (p0 p1 p2 p3 : Nat) : Nat := 4294967296 * (4294967296 * 0 + (p2 + 65536 * p3)) + (p0 + 65536 * p1)
theorem gq_of (a0 b0 a1 b1 a2 b2 a3 b3 : Nat) : gr a0 b0 a1 b1 a2 b2 a3 b3 = gq (a0 + 256 * b0) (a1 + 256 * b1) (a2 + 256 * b2) (a3 + 256 * b3) := by
  unfold gr gq
  omega
section
variable {p0 p1 p2 p3 : Nat}
theorem gq_div (h0 : p0 < 65536) : gq p0 p1 p2 p3 / 65536 = gq p1 p2 p3 0 := by
  unfold gq
  omega
theorem gq_and (h0 : p0 < 65536) (h1 : p1 < 65536) (h2 : p2 < 65536) (h3 : p3 < 65536) : gq p0 p1 p2 p3 &&& 281470681808895 = gq p0 0 p2 0 := by
  have m : (281470681808895 : Nat) = 4294967296 * (4294967296 * 0 + 65535) + 65535 := rfl
  have e0 : (p0 + 65536 * p1) % 65536 = p0 := by omega
  have e1 : (p2 + 65536 * p3) % 65536 = p2 := by omega
  unfold gq
  rw [m, and32 _ _ _ (by omega), and32 _ _ _ (by omega), Nat.and_zero, e0, e1, Nat.mul_zero, Nat.add_zero, Nat.add_zero]
theorem gq_or (h0 : p0 < 65536) (h1 : p1 < 65536) (h2 : p2 < 65536) (h3 : p3 < 65536) : gq p1 0 p3 0 ||| (gq p0 0 p2 0 * 65536) = gq p1 p0 p3 p2 := by
  have e0 : gq p1 0 p3 0 = 4294967296 * (4294967296 * 0 + p3) + p1 := by unfold gq; omega
  have e1 : gq p0 0 p2 0 * 65536 = 4294967296 * (4294967296 * 0 + 65536 * p2) + 65536 * p0 := by unfold gq; omega
  rw [e0, e1, or32 _ _ _ _ h1 h0, or32 _ _ _ _ h3 h2, Nat.or_zero]
  rfl
theorem gq_fin (h0 : p0 < 65536) (h1 : p1 < 65536) (h2 : p2 < 65536) (h3 : p3 < 65536) : gq p1 p0 p3 p2 / 4294967296 ||| (gq p1 p0 p3 p2 % 4294967296 * 4294967296) = 4294967296 * (p1 + 65536 * p0) + (p3 + 65536 * p2) := by
  have d1 : gq p1 p0 p3 p2 / 4294967296 = p3 + 65536 * p2 := by unfold gq; omega
  have d2 : gq p1 p0 p3 p2 % 4294967296 = p1 + 65536 * p0 := by unfold gq; omega
  rw [d1, d2, Nat.mul_comm _ 4294967296]
  have := Nat.two_pow_add_eq_or_of_lt (i := 32) (show p3 + 65536 * p2 < 2 ^ 32 by omega) (p1 + 65536 * p0)
  rw [show (2 : Nat) ^ 32 = 4294967296 from rfl] at this
  rw [Nat.or_comm, ← this]
theorem gq_lt (h0 : p0 < 65536) (h1 : p1 < 65536) (h2 : p2 < 65536) (h3 : p3 < 65536) : gq p0 p1 p2 p3 < 18446744073709551616 := by
  unfold gq
  omega
theorem gq_lo (h0 : p0 < 65536) (h2 : p2 < 65536) : gq p0 0 p2 0 < 281474976710656 := by
  unfold gq
  omega
end
section
variable {a0 a1 a2 a3 : Nat}
theorem gr_shl : gr a0 0 a1 0 a2 0 a3 0 * 256 = gr 0 a0 0 a1 0 a2 0 a3 := by
  unfold gr
  omega
theorem gr_lo (h0 : a0 < 256) (h1 : a1 < 256) (h2 : a2 < 256) (h3 : a3 < 256) : gr a0 0 a1 0 a2 0 a3 0 < 72057594037927936 := by
  unfold gr
  omega
end
theorem rev_steps (x : Nat) (hx : x < 18446744073709551616) : ∃ t5 t7 x1 u5 u7 x2 : Nat, t5 = x / 256 &&& 71777214294589695 ∧ t7 = x &&& 71777214294589695 ∧ t5 < 18446744073709551616 ∧ t7 < 72057594037927936 ∧ x1 = t5 ||| (t7 * 256) ∧ x1 < 18446744073709551616 ∧
    u5 = x1 / 65536 &&& 281470681808895 ∧ u7 = x1 &&& 281470681808895 ∧ u5 < 18446744073709551616 ∧ u7 < 281474976710656 ∧ x2 = u5 ||| (u7 * 65536) ∧ x2 < 18446744073709551616 ∧ rev8 x = x2 / 4294967296 ||| (x2 % 4294967296 * 4294967296) := by
  obtain ⟨b0, b1, b2, b3, b4, b5, b6, b7, l0, l1, l2, l3, l4, l5, l6, l7, e0, e1, hr⟩ := rev_bytes x hx
  have z : 0 < 256 := by decide
  have n0 : b1 + 256 * b0 < 65536 := by omega
  have n1 : b3 + 256 * b2 < 65536 := by omega
  have n2 : b5 + 256 * b4 < 65536 := by omega
  have n3 : b7 + 256 * b6 < 65536 := by omega
  have a5 : gr b1 0 b3 0 b5 0 b7 0 = x / 256 &&& 71777214294589695 := by rw [e1, gr_and l1 l2 l3 l4 l5 l6 l7 z]
  have a7 : gr b0 0 b2 0 b4 0 b6 0 = x &&& 71777214294589695 := by rw [e0, gr_and l0 l1 l2 l3 l4 l5 l6 l7]
  refine ⟨gr b1 0 b3 0 b5 0 b7 0, gr b0 0 b2 0 b4 0 b6 0, gq (b1 + 256 * b0) (b3 + 256 * b2) (b5 + 256 * b4) (b7 + 256 * b6), gq (b3 + 256 * b2) 0 (b7 + 256 * b6) 0, gq (b1 + 256 * b0) 0 (b5 + 256 * b4) 0, gq (b3 + 256 * b2) (b1 + 256 * b0) (b7 + 256 * b6) (b5 + 256 * b4), a5, a7, ?_, gr_lo l0 l2 l4 l6, ?_, gq_lt n0 n1 n2 n3, ?_, ?_, ?_, gq_lo n0 n2, ?_, gq_lt n1 n0 n3 n2, ?_⟩
  · exact Nat.lt_trans (gr_lo l1 l3 l5 l7) (by decide)
  · rw [gr_shl, gr_or l0 l1 l2 l3 l4 l5 l6 l7, gq_of]
  · rw [gq_div n0, gq_and n1 n2 n3 (by decide)]
  · rw [gq_and n0 n1 n2 n3]
  · exact Nat.lt_trans (gq_lo n1 n3) (by decide)
  · rw [gq_or n0 n1 n2 n3]
  · rw [gq_fin n0 n1 n2 n3, hr]
    clear a5 a7 e0 e1 hr hx n0 n1 n2 n3 l0 l1 l2 l3 l4 l5 l6 l7
    omega
theorem rev_lt (x : Nat) : rev8 x < 18446744073709551616 := unle_le8 _ (by rw [List.length_reverse, le_len]; omega)

set_option maxRecDepth 8000 in
theorem rev_any (x : Nat) (w : World) (hx : x < 18446744073709551616) :
    Calls Tryz.prog 131 #[.int .u64 (x : Int)] w fun e w' => e = .returned (.int .u64 ((rev8 x : Nat) : Int)) ∧ w = w' := by
  obtain ⟨t5, t7, x1, u5, u7, x2, h1, h2, h3, h4, h5, h6, h7, h8, h9, h10, h11, h12, h13⟩ := rev_steps x hx
  have e1 : bits .and .u64 ((x : Int) / 256) 71777214294589695 = (t5 : Int) := by
    have := bits_and_u64_nat (x / 256) 71777214294589695 (by omega) (by decide)
    rw [← h1] at this
    exact this
  have e2 : bits .and .u64 (x : Int) 71777214294589695 = (t7 : Int) := by
    have := bits_and_u64_nat x 71777214294589695 hx (by decide)
    rw [← h2] at this
    exact this
  have w1 : IntKind.u64.wrap ((t7 : Int) * 256) = ((t7 * 256 : Nat) : Int) := by rw [IntKind.wrap_u64]; omega
  have e3 : bits .or .u64 (t5 : Int) (IntKind.u64.wrap ((t7 : Int) * 256)) = (x1 : Int) := by rw [w1, bits_or_u64_nat _ _ h3 (by omega), ← h5]
  have e4 : bits .and .u64 ((x1 : Int) / 65536) 281470681808895 = (u5 : Int) := by
    have := bits_and_u64_nat (x1 / 65536) 281470681808895 (by omega) (by decide)
    rw [← h7] at this
    exact this
  have e5 : bits .and .u64 (x1 : Int) 281470681808895 = (u7 : Int) := by
    have := bits_and_u64_nat x1 281470681808895 h6 (by decide)
    rw [← h8] at this
    exact this
  have w2 : IntKind.u64.wrap ((u7 : Int) * 65536) = ((u7 * 65536 : Nat) : Int) := by rw [IntKind.wrap_u64]; omega
  have e6 : bits .or .u64 (u5 : Int) (IntKind.u64.wrap ((u7 : Int) * 65536)) = (x2 : Int) := by rw [w2, bits_or_u64_nat _ _ h9 (by omega), ← h11]
  have w3 : IntKind.u64.wrap ((x2 : Int) * 4294967296) = ((x2 % 4294967296 * 4294967296 : Nat) : Int) := by rw [IntKind.wrap_u64]; omega
  have e7 : bits .or .u64 ((x2 : Int) / 4294967296) (IntKind.u64.wrap ((x2 : Int) * 4294967296)) = ((rev8 x : Nat) : Int) := by
    rw [w3, show (x2 : Int) / 4294967296 = ((x2 / 4294967296 : Nat) : Int) from by omega, bits_or_u64_nat _ _ (by omega) (by omega), ← h13]
  clear h1 h2 h3 h4 h5 h6 h7 h8 h9 h10 h11 h12 h13 w1 w2 w3 hx
  go_enter Tryz.func131, Tryz.ntmps131
  go_wp2
  go_ret
  exact ⟨rfl, rfl⟩

end Go.Proofs.YtpalmobmabkadaaGreatDoor

namespace Go.Proofs.YtpalmobmabkadaaGreatDoor
set_option maxRecDepth 20000
open Go.RowKit

def headOf (l : List UInt8) : Nat := unle (l.take 8).reverse
def tailOf (l : List UInt8) : Nat := unle ((l.drop 56).take 8)
def headsOf (l : List UInt8) : Nat := if l.length < 64 then 0 else headOf l
def tailsOf (l : List UInt8) : Nat := if l.length < 64 then 0 else tailOf l
theorem headsOf_lt (l : List UInt8) : headsOf l < 18446744073709551616 := by
  unfold headsOf headOf
  split
  · decide
  · exact unle_le8 _ (by rw [List.length_reverse, List.length_take]; omega)
theorem tailsOf_lt (l : List UInt8) : tailsOf l < 18446744073709551616 := by
  unfold tailsOf tailOf
  split
  · decide
  · exact unle_le8 _ (by rw [List.length_take]; omega)
theorem st_num (t : List UInt8) (k : Nat) (hk : 1 ≤ k) (hk8 : k ≤ 8) (ht : t.length = k) : St.num ⟨t, false⟩ (k : Int) = (unle t, ⟨[], false⟩) := by
  have e1 : t.take k = t := List.take_of_length_le (by omega)
  have e2 : t.drop k = [] := List.drop_of_length_le (by omega)
  unfold St.num St.next
  rw [if_pos (by omega), if_pos (by dsimp only; omega)]
  simp only [Int.toNat_natCast, e1, e2]
theorem rev_unle (t : List UInt8) (ht : t.length = 8) : rev8 (unle t) = unle t.reverse := by
  unfold rev8
  have := le_unle t
  rw [ht] at this
  rw [this]

set_option maxHeartbeats 1000000 in
set_option maxRecDepth 8000 in
theorem ends_any (A : Option Addr) (n c : Nat) (l : List UInt8) (w : World) (h : Rd w w.heap.size 1 A n c (u8s l)) (hn : n ≤ 1000000) :
    Calls Tryz.prog 108 #[.slice A n c] w fun e w' => e = .returned (.tuple #[.int .u64 ((headsOf l : Nat) : Int), .int .u64 ((tailsOf l : Nat) : Int)]) ∧ Below w.heap.size w w' := by
  have hln : l.length = n := by have := h.len; rwa [u8s_len] at this
  by_cases hs : n < 64
  · have e1 : headsOf l = 0 := by unfold headsOf; rw [if_pos (by omega)]
    have e2 : tailsOf l = 0 := by unfold tailsOf; rw [if_pos (by omega)]
    rw [e1, e2]
    have hi : (n : Int) < 64 := by omega
    clear e1 e2 hln hn
    go_enter Tryz.func108, Tryz.ntmps108
    go_wp2
    go_ret2
    exact ⟨rfl, Below.refl _ _⟩
  · have e1 : headsOf l = rev8 (unle (l.take 8)) := by
      unfold headsOf
      rw [if_neg (by omega), rev_unle _ (by rw [List.length_take]; omega)]
      rfl
    have e2 : tailsOf l = unle ((l.drop 56).take 8) := by unfold tailsOf; rw [if_neg (by omega)]; rfl
    rw [e1, e2]
    obtain ⟨b, o, rfl, hb, hc⟩ := h.2.2.2 (by omega)
    have hnc := h.1
    have hd : decide ((n : Int) < 64) = false := by simp; omega
    have h1 := h.pre (k := 8) (by omega)
    rw [← u8s_take] at h1
    have h2 := h.cut (k := 56) (m := 8) (by omega)
    rw [← u8s_drop, ← u8s_take, Option.map_some, addOff] at h2
    have hn64 : 64 ≤ n := by omega
    have n1 := fun (g : Nat) (w : World) (hR : Rdr w g ⟨l.take 8, false⟩) => num_all g ⟨l.take 8, false⟩ 8 w hR
    rw [show St.num ⟨l.take 8, false⟩ 8 = (unle (l.take 8), ⟨[], false⟩) from st_num _ 8 (by omega) (by omega) (by rw [List.length_take]; omega)] at n1
    have n2 := fun (g : Nat) (w : World) (hR : Rdr w g ⟨(l.drop 56).take 8, false⟩) => num_all g ⟨(l.drop 56).take 8, false⟩ 8 w hR
    rw [show St.num ⟨(l.drop 56).take 8, false⟩ 8 = (unle ((l.drop 56).take 8), ⟨[], false⟩) from st_num _ 8 (by omega) (by omega) (by rw [List.length_take, List.length_drop]; omega)] at n2
    have hx : unle (l.take 8) < 18446744073709551616 := unle_le8 _ (by rw [List.length_take]; omega)
    have N1 := Lib.hid n1
    have N2 := Lib.hid n2
    have HX := Lib.hid hx
    have H1 := Lib.hid h1
    have H2 := Lib.hid h2
    clear e1 e2 hln hn n1 n2 hx h1 h2 hs hc
    generalize l.take 8 = t1 at *
    generalize (l.drop 56).take 8 = t2 at *
    go_enter Tryz.func108, Tryz.ntmps108
    go_wp2_with (first
      | (go_at_call 74; first
          | (with_reducible refine (read_any _ _ _ t1 _ H1.out (by omega)).mono ?_; rintro e w1 ⟨g1, rfl, hg1, hR1, hb1⟩)
          | (refine (read_any _ _ _ t2 _ ((H2.out.below hb2).more hb2.size) (by omega)).mono ?_; rintro e w3 ⟨g3, rfl, hg3, hR3, hb3⟩))
      | (go_at_call 76; first
          | (with_reducible refine (N1.out _ _ hR1).mono ?_; rintro e w2 ⟨rfl, hR2, hgr2⟩
             have hb2 := hb1.grown hgr2 hb1.size (fun k e => by obtain rfl : g1 = k := Option.some.inj e; exact hg1))
          | (refine (N2.out _ _ hR3).mono ?_; rintro e w4 ⟨rfl, hR4, hgr4⟩))
      | (go_at_call 131; refine (rev_any _ _ HX.out).mono ?_; rintro e w5 ⟨rfl, rfl⟩)
      | fail)
    go_ret2
    refine ⟨rfl, (hb2.trans (hb3.mono hb2.size)).grown hgr4 (Nat.le_trans hb2.size hb3.size) (fun k e => by obtain rfl : g3 = k := Option.some.inj e; exact Nat.le_trans hb2.size hg3)⟩

theorem piece_any (A : Option Addr) (n c : Nat) (l : List UInt8) (B : Nat) (w : World) (h : Rd w B 1 A n c (u8s l)) (hn : 64 ≤ n) (hn2 : n ≤ 1000000) :
    Calls Tryz.prog 141 #[.slice A n c] w fun e w' => ∃ b o, e = .returned (.slice (some ⟨b, o, none⟩) 48 (c - 8)) ∧ Rd w B 1 (some ⟨b, o, none⟩) 48 (c - 8) (u8s ((l.drop 8).take 48)) ∧ w = w' := by
  obtain ⟨b, o, rfl, hb, hc⟩ := h.2.2.2 (by omega)
  have hnc := h.1
  have h2 := h.cut (k := 8) (m := 48) (by omega)
  rw [← u8s_drop, ← u8s_take, Option.map_some, addOff] at h2
  have H2 := Lib.hid h2
  clear h2 hc h
  go_enter Tryz.func141, Tryz.ntmps141
  go_wp2
  go_ret
  exact ⟨b, o + 8, rfl, H2.out, rfl⟩

def wrongOf (l : List UInt8) (m : Nat) : Int := if headsOf l ≠ tailsOf l ∨ headsOf l ≠ m then 13 else if m = 0 then 40 else 0
set_option maxRecDepth 8000 in
theorem wrong_any (A : Option Addr) (n c : Nat) (l : List UInt8) (m : Nat) (w : World) (h : Rd w w.heap.size 1 A n c (u8s l)) (hn : n ≤ 1000000) :
    Calls Tryz.prog 140 #[.slice A n c, .int .u64 (m : Int)] w fun e w' => e = .returned (.int .i64 (wrongOf l m)) ∧ Below w.heap.size w w' := by
  have hE := ends_any A n c l w h hn
  unfold wrongOf
  generalize headsOf l = hd at *
  generalize tailsOf l = tl at *
  have HE := Lib.hid hE
  clear hE h hn
  by_cases h1 : hd = tl
  · subst h1
    have q1 : (((hd : Int)) != ((hd : Int))) = false := bne_self_eq_false _
    by_cases h2 : hd = m
    · subst h2
      by_cases h3 : hd = 0
      · subst h3
        rw [if_neg (by simp), if_pos rfl]
        go_enter Tryz.func140, Tryz.ntmps140
        go_wp2_with (go_at_call 108; refine HE.out.mono ?_; rintro e w1 ⟨rfl, hb⟩)
        go_ret
        exact ⟨rfl, hb⟩
      · rw [if_neg (by simp), if_neg h3]
        have q3 : (((hd : Int)) == 0) = false := by simp; omega
        clear h3
        go_enter Tryz.func140, Tryz.ntmps140
        go_wp2_with (go_at_call 108; refine HE.out.mono ?_; rintro e w1 ⟨rfl, hb⟩)
        go_ret
        exact ⟨rfl, hb⟩
    · rw [if_pos (.inr h2)]
      have q2 : (((hd : Int)) != ((m : Int))) = true := by simp; omega
      clear h2
      go_enter Tryz.func140, Tryz.ntmps140
      go_wp2_with (go_at_call 108; refine HE.out.mono ?_; rintro e w1 ⟨rfl, hb⟩)
      go_ret
      exact ⟨rfl, hb⟩
  · rw [if_pos (.inl h1)]
    have q2 : (((hd : Int)) != ((tl : Int))) = true := by simp; omega
    clear h1
    go_enter Tryz.func140, Tryz.ntmps140
    go_wp2_with (go_at_call 108; refine HE.out.mono ?_; rintro e w1 ⟨rfl, hb⟩)
    go_ret
    exact ⟨rfl, hb⟩

def sectorsOf (n : Int) : Nat := if n < 0 ∨ 65536 < n then 0 else (n.toNat + 55) / 48
theorem sealedLen_any (n : Int) (w : World) (h0 : 0 ≤ n) (hn : n ≤ 1000000) : Calls Tryz.prog 109 #[.int .i64 n] w fun e w' => e = .returned (.int .i64 (4 + n + 4)) ∧ w = w' := by
  go_enter Tryz.func109, Tryz.ntmps109
  go_wp2
  go_ret
  exact ⟨rfl, rfl⟩
end Go.Proofs.YtpalmobmabkadaaGreatDoor

namespace Go.Proofs.YtpalmobmabkadaaGreatDoor
set_option maxRecDepth 20000
open Go.RowKit

theorem run_app0 {P : Program} {w : World} {base n k sz bt : Nat} {t tn ty e : TypeId} {z : Value} {kn kq : IntKind} {A : Option Addr} {c : Nat} {xs : List Value} (hT : Elem P t e z sz bt) (htn : P.underlying tn = some (.int kn)) (hown : w.ownsRow base e sz (.slice A n c) n xs) (hn : 0 < n)
    (hone : ∀ u ∈ (Builtin.zeroCells z.cells k).toList, u.oneCell' = true) (h63 : n + k ≤ maxLen) (hbytes : (n + k) * bt ≤ 140737488355328) (hbase : base ≤ w.heap.size) :
    ∃ v' w', (Builtin.append_ #[t, tn] ty #[.slice A n c, .int kq (k : Int)]).run P w = .ok v' w' ∧ w'.ownsRow base e sz v' (n + k) (xs ++ (Builtin.zeroCells z.cells k).toList) ∧ w.grownBy w' (Value.ownBlock (.slice A n c)) ∧
      (v'.ownBlock = Value.ownBlock (.slice A n c) ∨ v'.ownBlock = some w.heap.size) := by
  obtain ⟨ht, ⟨i, hi, hz, rfl, rfl⟩, hzs, hsz⟩ := hT
  have hzl : (Builtin.zeroCells z.cells k).toList.length = k * i.size := by rw [Array.length_toList, size_zeroCells, hzs]
  have hlen : (xs ++ (Builtin.zeroCells z.cells k).toList).length = (n + k) * i.size := by rw [List.length_append, hown.1, hzl, Nat.add_mul]
  have hm63 : n + k ≤ 9223372036854775807 := by unfold maxLen at h63; omega
  have hkb : k * i.bytes ≤ 140737488355328 := Nat.le_trans (Nat.mul_le_mul_right _ (Nat.le_add_left k n)) hbytes
  have hw : IntKind.i64.wrap (k : Int) = k := by rw [IntKind.wrap_i64]; omega
  have hneg : ¬ ((k : Int) < 0) := by omega
  have h48i : ¬ (281474976710656 < (k : Int) * (i.bytes : Int)) := by
    rw [← Int.natCast_mul]
    omega
  rcases hown.2 with ⟨hv, rfl⟩ | ⟨g, cap, cur, hv, hbg, hg, hnc, hcm, hcs, htake⟩
  · cases hv; omega
  · cases hv
    by_cases hroom : n + k ≤ c
    · have hfit : n * i.size + (Builtin.zeroCells z.cells k).toList.length ≤ cur.size := by rw [hzl, hcs, ← Nat.add_mul]; exact Nat.mul_le_mul_right _ hroom
      have hst := run_storeCells_at P g (n * i.size) e (Builtin.zeroCells z.cells k).toList 0 cur w hg (by simpa using hfit) hone
      simp only [Nat.add_zero] at hst
      have hr : (Builtin.append_ #[t, tn] ty #[.slice (some ⟨g, 0, none⟩) n c, .int kq (k : Int)]).run P w =
          .ok (.slice (some ⟨g, 0, none⟩) (n + k) c) (w.setRow g (cur.toList.take (n * i.size) ++ (Builtin.zeroCells z.cells k).toList ++ cur.toList.drop (n * i.size + (Builtin.zeroCells z.cells k).toList.length)).toArray) := by
        by_cases hk : k * i.size = 0
        · have hk0 : k = 0 := by
            rcases Nat.mul_eq_zero.1 hk with h | h
            · exact h
            · omega
          subst hk0
          have hz0 : Builtin.zeroCells z.cells 0 = #[] := by
            apply Array.eq_empty_of_size_eq_zero
            rw [size_zeroCells, Nat.zero_mul]
          rw [hz0] at hst ⊢
          have hst' := hst
          simp only [List.append_nil, List.length_nil, Nat.add_zero] at hst' ⊢
          have hw0 : IntKind.i64.wrap 0 = 0 := rfl
          simp [Builtin.append_, run_underlying ht, run_underlying htn, sizeOf, typeInfo, zeroValue, hi, hz, asInt, asIntOf, hw0, hnc, Addr.add_lit, hst']
        · simp [Builtin.append_, run_underlying ht, run_underlying htn, sizeOf, typeInfo, zeroValue, hi, hz, asInt, asIntOf, hw, hneg, h48i, hroom, hk, Addr.add_lit, hst]
      refine ⟨_, _, hr, ⟨hlen, .inr ⟨g, c, _, rfl, hbg, setRow_heap w g cur _ e _ hg, hroom, hcm, ?_, ?_⟩⟩, ⟨rfl, rfl, rfl, by simp, fun k _ hk => setRow_other w g k _ (fun e => hk (by simp [Value.ownBlock, e]))⟩, Or.inl rfl⟩
      · simp only [List.size_toArray, List.length_append, List.length_take, List.length_drop, Array.length_toList]
        simp only [Array.length_toList] at hzl hfit
        omega
      · rw [htake, ← hlen]
        exact List.take_left
    · have holds : ∀ j u, xs[j]? = some u → w.drew.cell? ((⟨g, 0, none⟩ : Addr).add j) = some u := fun j u hu => hown.cells (g := g) rfl j u hu
      have hr := Lib.run_append_grow_zeros (P := P) w t tn ty e i z kq kn ht htn hi hz (some ⟨g, 0, none⟩) n c xs (run_firstCells_some w.drew i.size n _ n c xs hown.1 holds) k (by omega) hsz (by omega) (by omega) (by omega) (growslice_fits (by omega) hbytes)
      have hge := grownCap_ge w (n + k) c e
      have hcm : grownCap w (n + k) c e ≤ maxLen := grownCap_le_maxLen w (n + k) c e h63
      refine ⟨_, _, hr, ⟨hlen, .inr ⟨w.heap.size, _, _, rfl, hbase, heap_alloc_new w.drew _, hge, hcm, ?_, ?_⟩⟩, ⟨rfl, rfl, rfl, by rw [World.size_alloc]; exact Nat.le_succ _, fun k hk _ => heap_alloc_old w.drew _ hk⟩, Or.inr rfl⟩
      · simp only [Array.size_append, List.size_toArray, size_zeroCells, hzs, hown.1, ← Nat.add_mul]
        congr 1
        omega
      · simp only [Array.toList_append]
        rw [← hlen]
        exact List.take_left

theorem wpL_app0 {P : Program} {w : World} {ops : Array Oper} {rest : List Oper} {o : Oper} {a : Act} {Q : Exit → Act → World → Prop} (hgd : o.guard = none) (s x : Operand) (t tn : TypeId)
    (ho : o.op = .call { callee := .builtin .append, args := #[s, x], argTypes := #[t, tn] })
    {base n k sz bt : Nat} {e : TypeId} {z : Value} {kn kq : IntKind} {A : Option Addr} {c : Nat} {xs : List Value} {X : Int} (hT : Elem P t e z sz bt) (htn : P.underlying tn = some (.int kn)) (hs : a.eval s = .slice A n c) (hx : a.eval x = .int kq X) (hX : X = (k : Int)) (hown : w.ownsRow base e sz (.slice A n c) n xs) (hn : 0 < n)
    (hone : ∀ u ∈ (Builtin.zeroCells z.cells k).toList, u.oneCell' = true) (h63 : n + k ≤ maxLen) (hbytes : (n + k) * bt ≤ 140737488355328) (hbase : base ≤ w.heap.size)
    (h : ∀ v' w', w'.ownsRow base e sz v' (n + k) (xs ++ (Builtin.zeroCells z.cells k).toList) → w.grownBy w' (Value.ownBlock (.slice A n c)) → wpList P ops Q rest (a.put o.dst v') w') : wpList P ops Q (o :: rest) a w := by
  subst hX
  obtain ⟨v', w', hr, h1, h2, _⟩ := run_app0 (ty := o.type) (kq := kq) hT htn hown hn hone h63 hbytes hbase
  exact Lib.wpList_append_run w hgd s x t tn ho _ _ hs hx v' w' hr (h v' w' h1 h2)

theorem zeros_u8 (k : Nat) : (Builtin.zeroCells (Value.cells (.int .u8 0)) k).toList = u8s (List.replicate k 0) := by
  have h : ∀ i : Nat, (Value.cells (.int .u8 0))[i % 1]! = Value.int .u8 0 := fun i => by
    rw [Nat.mod_one]
    rfl
  have h1 : (Value.cells (.int .u8 0)).size = 1 := rfl
  unfold Builtin.zeroCells
  simp only [h1, Nat.mul_one, h, u8s, List.map_replicate, u8]
  apply List.ext_getElem?
  intro i
  simp only [Array.toList_map, Array.toList_range, List.getElem?_map, List.getElem?_replicate]
  by_cases hi : i < k
  · rw [List.getElem?_eq_getElem (by simpa using hi), if_pos hi]; rfl
  · rw [List.getElem?_eq_none (by simpa using hi), if_neg hi]; rfl

end Go.Proofs.YtpalmobmabkadaaGreatDoor
