/- Contracts of package alloc: New, Clone. -/
import Derived.Test.YtljmigfjlndpbaaDoorAsome
namespace Go.Proofs.YtljmigfjlndpbaaDoor
open Go.RowKit

theorem row_elem : Elem Tryd.prog 50 62 (.agg (u64s Z8).toArray) 8 64 := Elem.mk_ Tryd.underlying50 (by kernel_rfl) rfl (by decide)
theorem madeCells_row (k : Nat) : (madeCells (Value.cells (.agg (u64s Z8).toArray)) (k * 8)).toList = u64s (List.replicate (8 * k) 0) := by
  have e : ∀ i, (u64s Z8).toArray[i % (u64s Z8).toArray.size]! = .int .u64 ((0 : Nat) : Int) := by
    intro i
    have h8 : i % 8 < 8 := Nat.mod_lt _ (by decide)
    have hs : (u64s Z8).toArray.size = 8 := rfl
    rw [hs]
    generalize i % 8 = j at h8
    match j, h8 with
    | 0, _ => rfl
    | 1, _ => rfl
    | 2, _ => rfl
    | 3, _ => rfl
    | 4, _ => rfl
    | 5, _ => rfl
    | 6, _ => rfl
    | 7, _ => rfl
  unfold madeCells
  rw [Array.toList_map]
  show List.map (fun x => (u64s Z8).toArray[x % (u64s Z8).toArray.size]!) _ = _
  rw [funext e, List.map_const', u64s, List.map_replicate, Array.length_toList, Array.size_range, Nat.mul_comm]
/-- The first i of n places are free. -/
def filled (n k : Nat) : Nat → Av
  | 0 => ⟨n, List.replicate (8 * k) 0, k, []⟩
  | i + 1 => (filled n k i).flip i
theorem filled_n (n k i : Nat) : (filled n k i).n = n := by
  induction i with
  | zero => rfl
  | succ i ih => exact ih
theorem filled_len (n k i : Nat) : (filled n k i).ws.length = 8 * k := by
  induction i with
  | zero => exact List.length_replicate ..
  | succ i ih => exact (flip_len _ _).trans ih
theorem filled_bit {n k : Nat} (hk : n ≤ 512 * k) (i j : Nat) (hi : i ≤ n) : bitAt (filled n k i).ws j = decide (j < i) := by
  induction i with
  | zero =>
    show bitAt (List.replicate (8 * k) 0) j = _
    unfold bitAt
    have : (List.replicate (8 * k) 0).getD (j / 64) 0 = 0 := by
      rw [List.getD, List.getElem?_replicate]
      split <;> rfl
    rw [this, Nat.zero_testBit]
    simp
  | succ i ih =>
    show bitAt (flipAt (filled n k i).ws i) j = _
    rw [flip_bit _ _ _ (by rw [filled_len]; omega), ih (by omega)]
    by_cases h1 : i = j
    · rw [if_pos h1]; subst h1; simp
    · rw [if_neg h1]
      by_cases h2 : j < i
      · simp [h2]; omega
      · simp [h2]; omega
theorem filled_ok {n k : Nat} (hk : n ≤ 512 * k) (hs : k ≤ 200) (i : Nat) (hi : i ≤ n) : (filled n k i).Ok k := by
  induction i with
  | zero => exact ⟨List.length_replicate .., hk, hs, ⟨Nat.le_refl _, by show k ≤ maxLen; unfold maxLen; omega⟩, fun x hx => by rw [List.eq_of_mem_replicate hx]; decide, fun j _ => by rw [filled_bit hk 0 j (Nat.zero_le _)]; simp⟩
  | succ i ih => exact (ih (by omega)).flip (by rw [filled_n]; omega)
/-- All places are free. -/
def Fresh (a : Av) (n : Nat) : Prop := a.n = n ∧ ∀ j, bitAt a.ws j = decide (j < n)

section
variable {w w' : World} {g R k : Nat} {a : Av}
theorem anew_none (n : Int) (w : World) (hn : n < 1 ∨ 65536 < n) : Calls Tryd.prog 7 #[.int .i64 n] w fun e w' => e = .returned (.pointer none) ∧ w = w' := by
  by_cases h1 : n < 1
  · have q1 : decide (n < 1) = true := by simpa using h1
    go_enter Tryd.func7, Tryd.ntmps7
    go_wp2
    go_ret
    exact ⟨rfl, rfl⟩
  · have h2 : 65536 < n := by omega
    have q1 : decide (n < 1) = false := by simpa using h1
    have q2 : decide (65536 < n) = true := by simpa using h2
    go_enter Tryd.func7, Tryd.ntmps7
    go_wp2
    go_ret
    exact ⟨rfl, rfl⟩
/-- What New makes. -/
def Newly (w : World) (n : Nat) (e : Ending) (w' : World) : Prop := ∃ g R k a, e = .returned (.pointer (some ⟨g, 0, none⟩)) ∧ Alw w' g R k a ∧ Fresh a n ∧ Below w.heap.size w w' ∧ w.heap.size ≤ g ∧ w.heap.size ≤ R
set_option maxHeartbeats 1000000 in
theorem anew_any (n : Nat) (w : World) (h1 : 1 ≤ n) (h2 : n ≤ 65536) (h0 : 0 < w.heap.size) :
    Calls Tryd.prog 7 #[.int .i64 (n : Int)] w (Newly w n) := by
  obtain ⟨k, hk⟩ : ∃ k, k = (n - 1) / 512 + 1 := ⟨_, rfl⟩
  have q1 : decide ((n : Int) < 1) = false := by simp; omega
  have q2 : decide (65536 < (n : Int)) = false := by simp; omega
  have q3 : decide (n < 1) = false := by simp; omega
  have q4 : decide (65536 < n) = false := by simp; omega
  have q5 : ¬ n < 1 := by omega
  have q6 : ¬ 65536 < n := by omega
  have HK := Lib.hid (show ((n : Int) - 1) / 512 + 1 = (k : Int) by omega)
  have hk1 : n ≤ 512 * k := by omega
  have hk2 : k ≤ 128 := by omega
  have HK1 := Lib.hid hk1
  have HK2 := Lib.hid hk2
  have HN := Lib.hid h2
  have H0 := Lib.hid h0
  clear hk hk1 hk2 h0
  unfold Newly
  go_enter Tryd.func7, Tryd.ntmps7
  go_wp2_with (first
    | (at_make; go_loud (refine wpL_make rfl (.tmp 15) (.tmp 15) _ rfl row_elem (base := w.heap.size) k rfl rfl HK.out HK.out (by have := HK2.out; omega) (by unfold maxLen; have := HK2.out; omega) (Nat.le_refl _) ?_); intro w1 hown1 hg1)
    | fail)
  rw [madeCells_row] at hown1
  obtain ⟨hrow1, _⟩ := ownsRow_row hown1
  have hb1 : Below w.heap.size w w1 := below_of_grown hg1 (fun q e => by cases e)
  have hlt1 := (Array.getElem?_eq_some_iff.1 hrow1).1
  obtain ⟨W, hW, _, hr0, hbW⟩ := boxes1 w1 #[.int .i64 (n : Int), .slice (some ⟨w.heap.size, 0, none⟩) k k] 52
  rw [← hW]
  obtain ⟨R, hR⟩ : ∃ R, R = w.heap.size := ⟨_, rfl⟩
  obtain ⟨g, hg⟩ : ∃ g, g = w1.heap.size := ⟨_, rfl⟩
  have HW := Lib.hid (hb1.trans (hbW.mono hb1.size))
  have HR := Lib.hid (show w.heap.size ≤ R ∧ w.heap.size ≤ g by have := hb1.size; omega)
  have HA : Hid (Alw W g R k (filled n k 0)) := by
    refine Lib.hid ⟨?_, ?_, by omega, filled_ok HK1.out (by have := HK2.out; omega) 0 (Nat.zero_le _), by have := H0.out; have := HR.out; omega⟩
    · rw [hg, hR]; exact hr0
    · rw [hR]
      have := (hbW.block _ hlt1).trans hrow1
      show W.heap[w.heap.size]? = some (.cells (u64s (List.replicate (8 * k) 0) ++ []).toArray 62 (0, 0))
      rw [List.append_nil]
      exact this
  rw [← hg]
  clear hown1 hg1 hrow1 hb1 hlt1 hr0 hbW hW hR hg h1
  go_loopw [20] (fun ir wr => ∃ i : Nat, i ≤ n ∧ ir = .int .i64 (i : Int) ∧ Hid (Alw wr g R k (filled n k i)) ∧ Hid (Below w.heap.size w wr)) (fun ir _ => n - (intOf ir).toNat)
  case atStart => exact ⟨0, Nat.zero_le _, rfl, HA, HW⟩
  case round =>
    obtain ⟨i, hi, rfl, RA, RB⟩ := hrel
    by_cases hlt : i < n
    · have HT := Lib.hid (turn_any RA.out i (by rw [filled_n]; exact hlt))
      have hn3 : (i : Int) ≤ 70000 := by have := HN.out; omega
      go_wp2_with (first
        | (go_at_call 24; refine HT.out.mono ?_; rintro e w3 ⟨rfl, hA3, hg3⟩; have HA3 := Lib.hid hA3; have HG3 := Lib.hid hg3; clear hA3 hg3)
        | fail)
      go_roundw
      case rel => exact ⟨i + 1, by omega, by go_num, HA3, Lib.hid (RB.out.grown HG3.out RB.out.size (fun j e => by injection e with e; rw [← e]; exact HR.out.1))⟩
      case measure => simp [intOf]; omega
    · obtain rfl : i = n := by omega
      go_wp2
      go_ret
      exact ⟨g, R, k, _, rfl, RA.out, ⟨filled_n _ _ _, fun j => filled_bit HK1.out _ _ (Nat.le_refl _)⟩, RB.out, HR.out.2, HR.out.1⟩
def RCl (w : World) (k : Nat) (ws : List Nat) (e : Ending) (w' : World) : Prop := ∃ R' c tl, e = .returned (.slice (some ⟨R', 0, none⟩) k c) ∧ w'.heap[R']? = some (.cells (u64s ws ++ tl).toArray 62 (0, 0)) ∧ Hid (w.heap.size ≤ R') ∧ Hid (k ≤ c ∧ c ≤ maxLen) ∧ Below w.heap.size w w'
/-- The rows of a clone. -/
theorem rowsClone_any (h : Alw w g R k a) (hk : 0 < k) :
    Calls Tryd.prog 28 #[.slice (some ⟨R, 0, none⟩) k a.cap] w (RCl w k a.ws) := by
  have hlen := h.ok.len
  have hsm := h.ok.small
  have hrd : Rd w w.heap.size 8 (some ⟨R, 0, none⟩) k a.cap (u64s a.ws) := by
    refine ⟨h.ok.caps.1, h.ok.caps.2, by rw [u64s_len, hlen, Nat.mul_comm], fun _ => ⟨R, 0, rfl, h.lt.2, fun j u hu => ?_⟩⟩
    rw [cell_of_row w R (0 + j) _ _ _ h.rows, Nat.zero_add, List.getElem?_toArray, List.getElem?_append_left (List.getElem?_eq_some_iff.1 hu).1]
    exact hu
  have q := Lib.run_eql_slice_nil (P := Tryd.prog) w 50 _ (some ⟨R, 0, none⟩) k a.cap 0 0 Tryd.underlying50
  have hone := u64s_one a.ws
  have HL := Lib.hid hlen
  generalize a.cap = cap at *
  clear h hlen
  go_enter Tryd.func28, Tryd.ntmps28
  go_wp2_with (first
    | (at_builtin; refine wpL_app (o := ⟨some 7, _, _, _, _, _⟩) (v := .slice (some ⟨w.heap.size, 0, none⟩) 0 0) (y := .slice (some ⟨R, 0, none⟩) k cap) rfl (.tmp 5) (.tmp 6) _ _ rfl row_elem rfl rfl (World.ownsRow_lit (base := w.heap.size) w #[] 0 (Nat.le_refl _) (Nat.zero_le _) rfl)
         ((hrd.below ((Below.refl _ _).alloc (Nat.le_refl _) _)).src Tryd.underlying50 hone) (by unfold maxLen; omega) (by omega) (by simp) ?_; intro v3 w3 hown3 hg3 hat3)
    | fail)
  go_ret
  have hb3 : Below w.heap.size w w3 := ((Below.refl _ _).alloc (Nat.le_refl _) _).grown hg3 (by simp) (fun j e => by cases e; exact Nat.le_refl _)
  obtain ⟨hx, ⟨_, hv⟩ | ⟨q, c2, cur, rfl, hbg, hq, hnc, hcm, hcs, htake⟩⟩ := hown3
  · omega
  · rw [Nat.zero_add] at hnc htake
    refine ⟨q, c2, cur.toList.drop (k * 8), (by rw [Nat.zero_add]; rfl), ?_, Lib.hid hbg, Lib.hid ⟨hnc, hcm⟩, hb3⟩
    rw [hq]
    have : u64s a.ws = cur.toList.take (k * 8) := by rw [htake]; simp
    rw [this, List.take_append_drop]
end
end Go.Proofs.YtljmigfjlndpbaaDoor
