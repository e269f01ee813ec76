/- Contracts of package crc. -/
import Derived.Test.YtacaonlahggdeaaDoorCrcm
import Derived.Test.YtacaonlahggdeaaDoorText
import Derived.Deep.WholeRow
namespace Go.Proofs.YtacaonlahggdeaaDoor
open Go.RowKit

theorem and_one (m : Nat) (hm : m < 4294967296) : bits .and .u32 (m : Int) 1 = ((m % 2 : Nat) : Int) := by
  have := u32_and_nat m 1 hm (by decide)
  rw [nat_mask1] at this
  exact this
theorem xor_u32 (a b : Nat) (ha : a < 4294967296) (hb : b < 4294967296) : bits .xor .u32 (a : Int) (b : Int) = ((a ^^^ b : Nat) : Int) := u32_xor_nat a b ha hb
theorem xor_poly (m : Nat) (hm : m < 4294967296) : bits .xor .u32 ((m : Int) / 2) 2197175160 = ((m / 2 ^^^ 2197175160 : Nat) : Int) := xor_u32 (m / 2) 2197175160 (by omega) (by decide)

theorem four_any (n : Nat) (w : World) (hn : Hid (n < 4294967296)) :
    Calls Tryd.prog 69 #[.int .u32 (n : Int)] w fun e w' => e = .returned (.int .u32 ((stpn 4 n : Nat) : Int)) ∧ w = w' := by
  go_enter Tryd.func69, Tryd.ntmps69
  go_wp2
  go_loop [0, 4] (fun nr ir => ∃ i m : Nat, i ≤ 4 ∧ Hid (m = stpn i n) ∧ ir = .int .i64 i ∧ nr = .int .u32 (m : Int)) (fun _ ir => 4 - (intOf ir).toNat)
  case atStart => exact ⟨0, n, Nat.zero_le _, Lib.hid rfl, rfl, rfl⟩
  case round =>
    obtain ⟨i, m, hi, hm, rfl, rfl⟩ := hrel
    by_cases hlt : i < 4
    · have hm32 : Hid (m < 4294967296) := by rw [hm.out]; exact stpn_lt i n hn.out
      rcases Nat.mod_two_eq_zero_or_one m with hp | hp
      · have ha : bits .and .u32 (m : Int) 1 = 0 := by rw [and_one m hm32.out, hp]; rfl
        have HP := Lib.hid hp
        clear hp
        go_wp2
        go_round
        case rel => exact ⟨i + 1, m / 2, by omega, Lib.hid (by rw [stpn, ← hm.out, stp, if_neg (by rw [HP.out]; decide)]), by go_num, by go_num⟩
        case measure => simp [intOf]; omega
      · have ha : bits .and .u32 (m : Int) 1 = 1 := by rw [and_one m hm32.out, hp]; rfl
        have HP := Lib.hid hp
        clear hp
        go_wp2
        go_round
        case rel => exact ⟨i + 1, m / 2 ^^^ 2197175160, by omega, Lib.hid (by rw [stpn, ← hm.out, stp, if_pos HP.out]), by go_num, by rw [xor_poly m hm32.out]⟩
        case measure => simp [intOf]; omega
    · go_wp2
      go_ret
      obtain rfl : i = 4 := by omega
      exact ⟨by rw [← hm.out]; rfl, rfl⟩

/-- The table, of which the first i places are filled. -/
def tabv (i : Nat) : Array Value := ((List.range 16).map fun j => Value.int .u32 ((if j < i then stpn 4 j else 0 : Nat) : Int)).toArray
theorem tabv_size (i : Nat) : (tabv i).size = 16 := by simp [tabv]
theorem tabv_get (i j : Nat) (hj : j < 16) : (tabv i)[j]? = some (.int .u32 ((if j < i then stpn 4 j else 0 : Nat) : Int)) := by
  simp [tabv, hj]
theorem tabv_put (i : Nat) : (tabv i).setIfInBounds i (.int .u32 ((stpn 4 i : Nat) : Int)) = tabv (i + 1) := by
  apply Array.ext'
  apply List.ext_getElem?
  intro j
  simp only [Array.toList_setIfInBounds, List.getElem?_set, Array.length_toList, tabv_size]
  by_cases hij : i = j
  · subst hij
    by_cases h : i < 16
    · rw [if_pos rfl, if_pos h, Array.getElem?_toList, tabv_get _ _ h, if_pos (Nat.lt_succ_self _)]
    · rw [if_pos rfl, if_neg h, Array.getElem?_toList, Array.getElem?_eq_none (by rw [tabv_size]; omega)]
  · rw [if_neg hij, Array.getElem?_toList, Array.getElem?_toList]
    by_cases h : j < 16
    · rw [tabv_get _ _ h, tabv_get _ _ h]
      by_cases hj : j < i
      · rw [if_pos hj, if_pos (by omega)]
      · rw [if_neg hj, if_neg (by omega)]
    · rw [Array.getElem?_eq_none (by rw [tabv_size]; omega), Array.getElem?_eq_none (by rw [tabv_size]; omega)]

theorem two_rows (w : World) (a b : Array Value) (t : TypeId) : ((w.alloc (.cells a t)).alloc (.cells b t)).heap[w.heap.size + 1]? = some (.cells b t (0, 0)) ∧ ((w.alloc (.cells a t)).alloc (.cells b t)).heap[w.heap.size]? = some (.cells a t (0, 0)) := by
  have h := heap_alloc_new (w.alloc (.cells a t)) (.cells b t)
  rw [World.size_alloc] at h
  exact ⟨h, (heap_alloc_old (w.alloc (.cells a t)) _ (by simp)).trans (heap_alloc_new w _)⟩

theorem fours_any (w : World) :
    Calls Tryd.prog 67 #[] w fun e w' => e = .returned (.agg (tabv 16)) ∧ Below w.heap.size w w' := by
  go_enter Tryd.func67, Tryd.ntmps67
  go_wp2
  go_loopw [4] (fun ir wr => ∃ i : Nat, i ≤ 16 ∧ ir = .int .i64 i ∧ Hid (wr.heap[w.heap.size + 1]? = some (.cells (tabv i) 112 (0, 0))) ∧ Hid (wr.heap[w.heap.size]? = some (.cells (tabv 0) 112 (0, 0))) ∧ Below w.heap.size w wr) (fun ir _ => 16 - (intOf ir).toNat)
  case atStart => exact ⟨0, Nat.zero_le _, rfl, Lib.hid (two_rows w (tabv 0) (tabv 0) 112).1, Lib.hid (two_rows w (tabv 0) (tabv 0) 112).2, ((Below.refl _ _).alloc (Nat.le_refl _) _).alloc (by simp) _⟩
  case round =>
    obtain ⟨i, hi, rfl, h1, h0, hb⟩ := hrel
    by_cases hlt : i < 16
    · have hc : wr.cell? ⟨w.heap.size + 1, i, none⟩ = some (.int .u32 ((if i < i then stpn 4 i else 0 : Nat) : Int)) := by rw [cell_of_row wr _ i _ _ _ h1.out, tabv_get _ _ hlt]
      have hf : wr.frozen? ⟨w.heap.size + 1, i, none⟩ = false := frozen_of_row wr _ i _ _ h1.out
      go_wp2_with (go_at_call 69; refine (four_any i _ (Lib.hid (by omega))).mono ?_; rintro e w1 ⟨rfl, rfl⟩)
      go_roundw
      case rel =>
        refine ⟨i + 1, by omega, by go_num, Lib.hid ?_, Lib.hid ?_, hb.setCell (by simp) _⟩
        · rw [heap_setCell_same wr _ i _ _ _ h1.out, tabv_put]
        · rw [heap_setCell_other _ _ _ _ (by simp)]; exact h0.out
      case measure => simp [intOf]; omega
    · have h16 : wr.heap[w.heap.size + 1]? = some (.cells (tabv 16) 112 (0, 0)) := by
        have e : i = 16 := by omega
        rw [← e]; exact h1.out
      have H16 := Lib.hid h16
      clear h16 h1
      go_wp2_with (first
        | (refine (show wpList _ _ _ (⟨some 14, _, _, _, _, _⟩ :: _) _ _ from ?_); refine wpList_load_row rfl 112 (.tmp 2) rfl (w.heap.size + 1) rfl 112 (tabv 16) (0, 0) _ H16.out Tryd.underlying112 rfl (by rw [tabv_size]; kernel_rfl) ?_)
        | (refine (show wpList _ _ _ (⟨none, .store _ (.tmp 0) (.tmp 14), _, _, _, _⟩ :: _) _ _ from ?_); refine wpList_store_row rfl 112 (.tmp 0) (.tmp 14) rfl w.heap.size (tabv 16) rfl rfl 112 (tabv 0) h0.out (by rw [tabv_size]; kernel_rfl) (by rw [tabv_size, tabv_size]) (by kernel_rfl) ?_)
        | fail)
      refine bodyPost_ret (results_cell_row rfl _ _ w.heap.size 112 (tabv 16) (0, 0) _ (by rfl) (setRow_heap wr _ _ _ _ _ h0.out) Tryd.underlying112 rfl (by rw [tabv_size]; kernel_rfl)) rfl ⟨rfl, below_setRow hb (Nat.le_refl _) _⟩

theorem and_15 (m : Nat) (hm : m < 4294967296) : bits .and .u32 (m : Int) 15 = ((m % 16 : Nat) : Int) := by
  have := u32_and_nat m 15 hm (by decide)
  rw [nat_mask4] at this
  exact this
theorem xor_div (a t : Nat) (ha : a < 4294967296) (ht : t < 4294967296) : bits .xor .u32 ((a : Int) / 16) (t : Int) = ((a / 16 ^^^ t : Nat) : Int) := xor_u32 (a / 16) t (by omega) ht
/-- One look into the table. -/
theorem look (w : World) (B x : Nat) (hx : x < 4294967296) (h : w.heap[B]? = some (.cells (tabv 16) 112 (0, 0))) :
    ∃ r t y : Nat, bits .and .u32 (x : Int) 15 = (r : Int) ∧ (r : Int) < 16 ∧ w.cell? ⟨B, r, none⟩ = some (.int .u32 (t : Int)) ∧ bits .xor .u32 ((x : Int) / 16) (t : Int) = (y : Int) ∧ Hid (y = stpn 4 x) := by
  have ht : stpn 4 (x % 16) < 4294967296 := stpn_lt 4 _ (by omega)
  refine ⟨x % 16, stpn 4 (x % 16), x / 16 ^^^ stpn 4 (x % 16), and_15 x hx, by omega, ?_, xor_div x _ hx ht, Lib.hid (stpn_low 4 x).symm⟩
  rw [cell_of_row w B _ _ _ _ h, tabv_get _ _ (by omega), if_pos (by omega)]

theorem xor_max (m : Nat) (hm : m < 4294967296) : bits .xor .u32 IntKind.u32.max (m : Int) = ((comp m : Nat) : Int) := by
  have := u32_xor_nat 4294967295 m (by decide) hm
  rw [show IntKind.u32.max = ((4294967295 : Nat) : Int) from rfl, this, Nat.xor_comm]
  rfl
theorem more_any (A : Option Addr) (n c : Nat) (l : List UInt8) (m : Nat) (w : World) (hsl : Rd w w.heap.size 1 A n c (u8s l)) (hm : Hid (m < 4294967296)) (hn : n ≤ 1000000) :
    Calls Tryd.prog 61 #[.int .u32 (m : Int), .slice A n c] w fun e w' => e = .returned (.int .u32 ((more m l : Nat) : Int)) ∧ Below w.heap.size w w' := by
  have hln : l.length = n := by have := hsl.len; rwa [u8s_len] at this
  have HLN := Lib.hid hln
  clear hln
  go_enter Tryd.func61, Tryd.ntmps61
  go_wp2_with (first
    | (go_at_call 67; refine (fours_any _).mono ?_; rintro e w1 ⟨rfl, hb1⟩; have hz1 := hb1.size)
    | (refine (show wpList _ _ _ (⟨none, .store _ (.tmp 5) (.tmp 9), _, _, _, _⟩ :: _) _ _ from ?_); refine wpList_store_row rfl 112 (.tmp 5) (.tmp 9) rfl w1.heap.size (tabv 16) rfl rfl 112 _ (heap_alloc_new w1 _) (by rw [tabv_size]; kernel_rfl) (by rw [tabv_size]; rfl) (by kernel_rfl) ?_
       obtain ⟨w2, hw2⟩ : ∃ w2, w2 = (w1.alloc (.cells (tabv 0) 112)).setRow w1.heap.size (tabv 16) := ⟨_, rfl⟩
       refine (show wpList _ _ _ _ _ ((w1.alloc (.cells (tabv 0) 112)).setRow w1.heap.size (tabv 16)) from ?_)
       rw [← hw2]
       have hrow : w2.heap[w1.heap.size]? = some (.cells (tabv 16) 112 (0, 0)) := by rw [hw2]; exact setRow_heap _ _ _ _ _ _ (heap_alloc_new w1 _)
       have hb2 : Below w.heap.size w w2 := by rw [hw2]; exact below_setRow (hb1.alloc hz1 _) hz1 _
       have HROW := Lib.hid hrow
       clear hrow hw2)
    | fail)
  go_loop [6, 14] (fun nr ir => ∃ i q : Nat, i ≤ n ∧ Hid (q = crcN (comp m) (l.take i)) ∧ ir = .int .i64 i ∧ nr = .int .u32 (q : Int)) (fun _ ir => n - (intOf ir).toNat)
  case atStart => exact ⟨0, comp m, Nat.zero_le _, Lib.hid rfl, rfl, by rw [xor_max m hm.out]⟩
  case round =>
    obtain ⟨i, q, hi, hq, rfl, rfl⟩ := hrel
    have hq32 : Hid (q < 4294967296) := by rw [hq.out]; exact crcN_lt _ _ (comp_lt _ hm.out)
    by_cases hlt : i < n
    · obtain ⟨b, o, u, rfl, hbl, hu, hc⟩ := (hsl.below hb2).at_ hlt
      obtain ⟨x, hx, rfl⟩ := u8s_get _ _ _ hu
      have HX := Lib.hid hx
      clear hu hx
      have hx255 : (x.toNat : Int) ≤ 255 := by have := x.toNat_lt; omega
      have hx0 : 0 ≤ (x.toNat : Int) := by omega
      obtain ⟨x1, hx1⟩ : ∃ x1, x1 = q ^^^ x.toNat := ⟨_, rfl⟩
      have e1 : bits .xor .u32 (q : Int) (x.toNat : Int) = (x1 : Int) := by rw [hx1]; exact xor_u32 _ _ hq32.out (by omega)
      have hl1 : x1 < 4294967296 := by rw [hx1]; exact Nat.xor_lt_two_pow (n := 32) hq32.out (by omega)
      have HX1 := Lib.hid hx1
      clear hx1
      obtain ⟨r1, t1, y1, e2, l2, c2, e3, hy1⟩ := look w2 w1.heap.size x1 hl1 HROW.out
      have hl2 : y1 < 4294967296 := by rw [hy1.out]; exact stpn_lt 4 _ hl1
      obtain ⟨r2, t2, y2, e4, l4, c4, e5, hy2⟩ := look w2 w1.heap.size y1 hl2 HROW.out
      have HL1 := Lib.hid hl1
      have HL2 := Lib.hid hl2
      clear hl1 hl2
      have HD : Hid (crcN (comp m) (l.take (i + 1)) = y2) := Lib.hid (by rw [crcN_take _ _ _ _ HX.out, byteStep_two, ← hq.out, ← HX1.out, ← hy1.out, ← hy2.out])
      go_wp2
      go_round
      case rel => exact ⟨i + 1, y2, by omega, Lib.hid HD.out.symm, by go_num, rfl⟩
      case measure => simp [intOf]; omega
    · go_wp2
      go_ret
      have hin : i = n := by omega
      refine ⟨?_, hb2⟩
      have e : more m l = comp q := by rw [hq.out, List.take_of_length_le (by rw [HLN.out, hin]; exact Nat.le_refl _)]; rfl
      rw [e, ← xor_max q hq32.out]
      rfl

theorem sum_any (A : Option Addr) (n c : Nat) (l : List UInt8) (w : World) (h : Rd w w.heap.size 1 A n c (u8s l)) (hn : n ≤ 1000000) :
    Calls Tryd.prog 47 #[.slice A n c] w fun e w' => e = .returned (.int .u32 ((more 0 l : Nat) : Int)) ∧ Below w.heap.size w w' := by
  go_enter Tryd.func47, Tryd.ntmps47
  go_wp2_with (go_at_call 61; refine (more_any _ _ _ l 0 _ h (Lib.hid (by decide)) hn).mono ?_; rintro e w1 ⟨rfl, hb1⟩)
  go_ret
  exact ⟨rfl, hb1⟩

end Go.Proofs.YtacaonlahggdeaaDoor
