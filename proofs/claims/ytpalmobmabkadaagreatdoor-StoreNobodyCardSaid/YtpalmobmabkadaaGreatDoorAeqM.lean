/- Contracts of package alloc: word, bit, free, turn, within. Contracts of package alloc: Len, Has, Hold, Give; and of nil. The first place that is free, as a number. Rows of words: which are the same, and which is the zero row. -/
import Derived.Test.YtpalmobmabkadaaGreatDoorAmathM
import Derived.Test.YtpalmobmabkadaaGreatDoorSecZM
import Derived.Deep.MidRow
namespace Go.Proofs.YtpalmobmabkadaaGreatDoor
open Go.RowKit
set_option maxRecDepth 20000

/-- Places in memory. -/
structure Alw (w : World) (g R k : Nat) (a : Av) : Prop where
  row : w.heap[g]? = some (.cells #[.int .i64 (a.n : Int), .slice (some ⟨R, 0, none⟩) k a.cap] 182 (0, 0))
  rows : w.heap[R]? = some (.cells (u64s a.ws ++ a.tl).toArray 201 (0, 0))
  ne : g ≠ R
  ok : a.Ok k
  pos : 0 < g ∧ 0 < R
section
variable {w w' : World} {g R k : Nat} {a : Av}
theorem Alw.c0 (h : Alw w g R k a) : w.cell? ⟨g, 0, none⟩ = some (.int .i64 (a.n : Int)) := cell_of_row w g 0 _ _ _ h.row
theorem Alw.c1 (h : Alw w g R k a) : w.cell? ⟨g, 1, none⟩ = some (.slice (some ⟨R, 0, none⟩) k a.cap) := cell_of_row w g 1 _ _ _ h.row
theorem u64s_at (ws : List Nat) (i : Nat) (h : i < ws.length) : (u64s ws)[i]? = some (.int .u64 ((ws.getD i 0 : Nat) : Int)) := by
  rw [List.getD]
  simp [u64s, h]
theorem Alw.word (h : Alw w g R k a) (i : Nat) (hi : i < a.ws.length) : w.cell? ⟨R, i, none⟩ = some (.int .u64 ((a.ws.getD i 0 : Nat) : Int)) := by
  rw [cell_of_row w R i _ _ _ h.rows, List.getElem?_toArray, List.getElem?_append_left (by rw [u64s, List.length_map]; exact hi)]
  exact u64s_at a.ws i hi
theorem Alw.below (h : Alw w g R k a) (hb : Below w.heap.size w w') : Alw w' g R k a :=
  ⟨(hb.block g (Array.getElem?_eq_some_iff.1 h.row).1).trans h.row, (hb.block R (Array.getElem?_eq_some_iff.1 h.rows).1).trans h.rows, h.ne, h.ok, h.pos⟩
theorem Alw.drew (h : Alw w g R k a) : Alw w.drew g R k a := ⟨h.row, h.rows, h.ne, h.ok, h.pos⟩
theorem Alw.lt (h : Alw w g R k a) : g < w.heap.size ∧ R < w.heap.size := ⟨(Array.getElem?_eq_some_iff.1 h.row).1, (Array.getElem?_eq_some_iff.1 h.rows).1⟩

theorem within_any (h : Alw w g R k a) (i : Int) (_ : -9223372036854775808 ≤ i) (_ : i ≤ 9223372036854775807) :
    Calls Tryz.prog 115 #[.pointer (some ⟨g, 0, none⟩), .int .i64 i] w fun e w' => e = .returned (.bool (decide (0 ≤ i ∧ i < a.n))) ∧ w = w' := by
  have c0 := h.c0
  clear h
  by_cases h0 : 0 ≤ i
  · by_cases h1 : i < a.n
    · have hf : decide (0 ≤ i ∧ i < a.n) = true := by simp [h0, h1]
      rw [hf]
      clear hf
      go_enter Tryz.func115, Tryz.ntmps115
      go_wp2
      go_ret
      exact ⟨rfl, rfl⟩
    · have hf : decide (0 ≤ i ∧ i < a.n) = false := by simp [h1]
      have h1' : decide (i < (a.n : Int)) = false := by simpa using h1
      rw [hf]
      clear hf
      go_enter Tryz.func115, Tryz.ntmps115
      go_wp2
      go_ret
      exact ⟨rfl, rfl⟩
  · have hf : decide (0 ≤ i ∧ i < a.n) = false := by simp [h0]
    have h0' : decide (0 ≤ i) = false := by simpa using h0
    rw [hf]
    clear hf
    go_enter Tryz.func115, Tryz.ntmps115
    go_wp2
    go_ret
    exact ⟨rfl, rfl⟩
theorem word_any (h : Alw w g R k a) (i : Nat) (hi : i < a.n) :
    Calls Tryz.prog 133 #[.pointer (some ⟨g, 0, none⟩), .int .i64 (i : Int)] w fun e w' => e = .returned (.pointer (some ⟨R, i / 64, none⟩)) ∧ w = w' := by
  have c1 := h.c1
  have hk : i / 512 < k := by have := h.ok.room; omega
  have hk2 := h.ok.small
  have e : i / 512 * 8 + i % 512 / 64 = i / 64 := by omega
  have E := Lib.hid e
  have hki : (i : Int) / 512 < (k : Int) := by omega
  have hm : (i : Int) % 512 / 64 < 8 := by omega
  have hm0 : (0 : Int) ≤ (i : Int) % 512 / 64 := by omega
  have hi3 : (i : Int) ≤ 200000 := by have := h.ok.room; omega
  clear h e hi
  go_enter Tryz.func133, Tryz.ntmps133
  go_wp2
  go_ret
  refine ⟨?_, rfl⟩
  rw [← E.out]
  rfl
theorem bit_any (i : Nat) (w : World) (hi : (i : Int) ≤ 200000) : Calls Tryz.prog 134 #[.int .i64 (i : Int)] w fun e w' => e = .returned (.int .u64 ((2 ^ (i % 64) : Nat) : Int)) ∧ w = w' := by
  have hm : i % 64 < 64 := Nat.mod_lt _ (by decide)
  have hf : IntKind.u64.wrap (2 ^ (i % 64)) = ((2 ^ (i % 64) : Nat) : Int) := by
    have hp := pow64 hm
    rw [show (2 : Int) ^ (i % 64) = ((2 ^ (i % 64) : Nat) : Int) by simp]
    generalize 2 ^ (i % 64) = p at *
    rw [u64w _ (by omega) (by omega)]
  have HF := Lib.hid hf
  clear hf hm
  go_enter Tryz.func134, Tryz.ntmps134
  go_wp2
  go_ret
  exact ⟨ret_u64 HF.out, rfl⟩

theorem free_any (h : Alw w g R k a) (i : Nat) (hi : i < a.n) :
    Calls Tryz.prog 116 #[.pointer (some ⟨g, 0, none⟩), .int .i64 (i : Int)] w fun e w' => e = .returned (.bool (bitAt a.ws i)) ∧ Below w.heap.size w w' := by
  have hlen := h.ok.len
  have hroom := h.ok.room
  have hsm := h.ok.small
  have hi3 : (i : Int) ≤ 200000 := by omega
  have hw := h.word (i / 64) (by omega)
  have hlt := getD_lt h.ok.lt (i / 64)
  have hR := h.lt.2
  have hword := fun (W : World) (hb : Below w.heap.size w W) => word_any (h.below hb) i hi
  have hbit := fun (W : World) => bit_any i W hi3
  have hp := pow64 (Nat.mod_lt i (show 0 < 64 by decide))
  have hand := bits_and_u64_nat (a.ws.getD (i / 64) 0) (2 ^ (i % 64)) hlt hp
  have hiff := and_bit (a.ws.getD (i / 64) 0) (i % 64)
  have hfin : (((a.ws.getD (i / 64) 0 &&& 2 ^ (i % 64) : Nat) : Int) != 0) = bitAt a.ws i := by
    unfold bitAt
    cases hb : (a.ws.getD (i / 64) 0).testBit (i % 64)
    · have h0 : a.ws.getD (i / 64) 0 &&& 2 ^ (i % 64) = 0 := by
        by_cases h0 : a.ws.getD (i / 64) 0 &&& 2 ^ (i % 64) = 0
        · exact h0
        · rw [hiff.1 h0] at hb; cases hb
      rw [h0]; rfl
    · have h0 := hiff.2 hb
      simp only [bne_iff_ne, ne_eq, Int.natCast_eq_zero]
      exact h0
  generalize a.ws.getD (i / 64) 0 = x at *
  generalize 2 ^ (i % 64) = p at *
  generalize x &&& p = y at *
  have HW := Lib.hid hword
  have HB := Lib.hid hbit
  have HF := Lib.hid hfin
  have HC := Lib.hid hw
  clear h hword hbit hfin hiff hlen hroom hsm hi hlt hp hw
  go_enter Tryz.func116, Tryz.ntmps116
  go_wp2_with (fail)
  refine wp_low w.heap.size [([0, 1, 5], 2), ([3, 4], 6)] [7, 8, 9] (by kernel_rfl) (by kernel_rfl) (fun d _ _ _ _ h => by cases d <;> exact h) (Nat.le_refl _) fun wd hbd => ?_
  intro f hf
  simp only [pickI, Option.toList_some, List.cons_append, List.nil_append, List.getElem?_toArray, List.getElem?_cons_succ, List.getElem?_cons_zero]
  repeat (go_big_quiet_step (fail))
  refine wpQuiet_nil ?_
  clear hf f
  refine seg_op (by simp only [List.getElem?_toArray, List.getElem?_cons_succ, List.getElem?_cons_zero]; rfl) fun K hK => ?_
  go_simp
  refine (HW.out _ hbd).mono ?_
  rintro e w1 ⟨rfl, rfl⟩
  refine hK.out _ _ (seg_keep hbd ?_)
  clear hK K
  intro f hf
  have d0 : ∀ z, (f z).cell? ⟨R, i / 64, none⟩ = some (.int .u64 (x : Int)) := fun z => kept (hf z) HC.out hR
  simp only [pickI, Option.toList_some, List.cons_append, List.nil_append, List.getElem?_toArray, List.getElem?_cons_succ, List.getElem?_cons_zero]
  repeat (go_big_quiet_step (fail))
  refine wpQuiet_nil ?_
  clear d0 hf f
  refine seg_op (by simp only [List.getElem?_toArray, List.getElem?_cons_succ, List.getElem?_cons_zero]; rfl) fun K hK => ?_
  go_simp
  refine (HB.out _).mono ?_
  rintro e w1 ⟨rfl, rfl⟩
  refine hK.out _ _ (seg_keep hbd ?_)
  clear hK K
  intro f hf
  simp only [pickI, Option.toList_some, List.cons_append, List.nil_append, List.getElem?_toArray, List.getElem?_cons_succ, List.getElem?_cons_zero]
  repeat (go_big_quiet_step (fail))
  refine wpQuiet_nil ?_
  clear hf f
  go_wp2
  go_ret
  exact ⟨ret_bool HF.out, hbd⟩

/-- A place is turned over. -/
def Turned (w : World) (g R k : Nat) (a : Av) (i : Nat) (e : Ending) (w' : World) : Prop := e = .returned (.tuple #[]) ∧ Alw w' g R k (a.flip i) ∧ w.grownBy w' (some R)
theorem turn_any (h : Alw w g R k a) (i : Nat) (hi : i < a.n) :
    Calls Tryz.prog 114 #[.pointer (some ⟨g, 0, none⟩), .int .i64 (i : Int)] w (Turned w g R k a i) := by
  have hlen := h.ok.len
  have hroom := h.ok.room
  have hsm := h.ok.small
  have hi3 : (i : Int) ≤ 200000 := by omega
  have hw := h.word (i / 64) (by omega)
  have hlt := getD_lt h.ok.lt (i / 64)
  have hR := h.lt.2
  have hword := fun (W : World) (hb : Below w.heap.size w W) => word_any (h.below hb) i hi
  have hbit := fun (W : World) => bit_any i W hi3
  have hp := pow64 (Nat.mod_lt i (show 0 < 64 by decide))
  have hxor : bits .xor .u64 ((a.ws.getD (i / 64) 0 : Nat) : Int) ((2 ^ (i % 64) : Nat) : Int) = ((a.ws.getD (i / 64) 0 ^^^ 2 ^ (i % 64) : Nat) : Int) := u64_xor_nat _ _ (by omega) (by omega)
  have hfin : ∀ W, Below w.heap.size w W → Turned w g R k a i (.returned (.tuple #[])) (W.setCell ⟨R, i / 64, none⟩ (.int .u64 ((a.ws.getD (i / 64) 0 ^^^ 2 ^ (i % 64) : Nat) : Int))) := by
    intro W hb
    have h' := h.below hb
    refine ⟨rfl, ⟨?_, ?_, h.ne, h.ok.flip hi, h.pos⟩, ?_⟩
    · exact (heap_setCell_other W _ g _ (by have := h.ne; simp; omega)).trans h'.row
    · rw [heap_setCell_same W R (i / 64) _ _ _ h'.rows]
      congr 2
      unfold Av.flip flipAt u64s
      dsimp only
      rw [List.map_set, ← List.set_append_left _ _ (by rw [List.length_map]; omega)]
      simp
    · exact setCell_by (w' := W) (p := ⟨R, i / 64, none⟩) ⟨hb.os, hb.tape, hb.output, hb.size, fun j hj _ => hb.block j hj⟩ rfl _
  generalize a.ws.getD (i / 64) 0 = x at *
  generalize 2 ^ (i % 64) = p at *
  generalize x ^^^ p = y at *
  have HW := Lib.hid hword
  have HB := Lib.hid hbit
  have HF := Lib.hid hfin
  have HC := Lib.hid hw
  have HFZ := Lib.hid (fun (W : World) (hb : Below w.heap.size w W) => frozen_of_row W R (i / 64) _ _ (h.below hb).rows)
  clear h hword hbit hfin hlen hroom hsm hi hlt hp hw
  go_enter Tryz.func114, Tryz.ntmps114
  go_wp2_with (fail)
  refine wp_tree R (.one [0, 1, 5] 2 (.two [3] 4 6 (.one [] 6 (.one [7, 8] 9 (.fin []))) (.one [] 4 (.one [7, 8] 9 (.fin []))))) (by kernel_rfl) (by kernel_rfl) (fun d _ _ _ _ h => by cases d <;> exact h) fun wd hbd => ?_
  have hbR := hbd.mono (Nat.le_of_lt hR)
  have cR : wd.cell? ⟨R, i / 64, none⟩ = some (.int .u64 (x : Int)) := kept hbd HC.out hR
  have fR := HFZ.out wd hbd
  intro f hf
  simp only [pickI, Option.toList_some, List.cons_append, List.nil_append, List.getElem?_toArray, List.getElem?_cons_succ, List.getElem?_cons_zero]
  repeat (go_big_quiet_step (fail))
  refine wpQuiet_nil ?_
  clear hf f
  refine seg_op (by simp only [List.getElem?_toArray, List.getElem?_cons_succ, List.getElem?_cons_zero]; rfl) fun K hK => ?_
  go_simp
  refine (HW.out _ hbd).mono ?_
  rintro e w1 ⟨rfl, rfl⟩
  refine hK.out _ _ ⟨hbR, ?_⟩
  clear hK K
  intro f hf
  simp only [pickI, Option.toList_some, List.cons_append, List.nil_append, List.getElem?_toArray, List.getElem?_cons_succ, List.getElem?_cons_zero]
  repeat (go_big_quiet_step (fail))
  refine wpQuiet_nil ?_
  clear hf f
  refine ⟨?_, ?_⟩
  · refine seg_op (by simp only [List.getElem?_toArray, List.getElem?_cons_succ, List.getElem?_cons_zero]; rfl) fun K hK => ?_
    go_simp
    refine hK.out _ _ ⟨hbR, ?_⟩
    clear hK K
    intro f hf
    refine wpQuiet_nil ?_
    clear hf f
    refine seg_op (by simp only [List.getElem?_toArray, List.getElem?_cons_succ, List.getElem?_cons_zero]; rfl) fun K hK => ?_
    go_simp
    refine (HB.out _).mono ?_
    rintro e w1 ⟨rfl, rfl⟩
    refine hK.out _ _ ⟨hbR, ?_⟩
    clear hK K
    intro f hf
    simp only [pickI, Option.toList_some, List.cons_append, List.nil_append, List.getElem?_toArray, List.getElem?_cons_succ, List.getElem?_cons_zero]
    repeat (go_big_quiet_step (fail))
    refine wpQuiet_nil ?_
    clear hf f
    refine seg_op (by simp only [List.getElem?_toArray, List.getElem?_cons_succ, List.getElem?_cons_zero]; rfl) fun K hK => ?_
    go_simp
    refine hK.out _ _ ⟨hbR.setCell (Nat.le_refl _) _, ?_⟩
    clear hK K
    intro f hf
    refine wpQuiet_nil ?_
    clear hf f
    go_wp2_with (fail)
    go_returns
    exact HF.out _ hbd
  · refine seg_op (by simp only [List.getElem?_toArray, List.getElem?_cons_succ, List.getElem?_cons_zero]; rfl) fun K hK => ?_
    go_simp
    refine (HB.out _).mono ?_
    rintro e w1 ⟨rfl, rfl⟩
    refine hK.out _ _ ⟨hbR, ?_⟩
    clear hK K
    intro f hf
    refine wpQuiet_nil ?_
    clear hf f
    refine seg_op (by simp only [List.getElem?_toArray, List.getElem?_cons_succ, List.getElem?_cons_zero]; rfl) fun K hK => ?_
    go_simp
    refine hK.out _ _ ⟨hbR, ?_⟩
    clear hK K
    intro f hf
    simp only [pickI, Option.toList_some, List.cons_append, List.nil_append, List.getElem?_toArray, List.getElem?_cons_succ, List.getElem?_cons_zero]
    repeat (go_big_quiet_step (fail))
    refine wpQuiet_nil ?_
    clear hf f
    refine seg_op (by simp only [List.getElem?_toArray, List.getElem?_cons_succ, List.getElem?_cons_zero]; rfl) fun K hK => ?_
    go_simp
    refine hK.out _ _ ⟨hbR.setCell (Nat.le_refl _) _, ?_⟩
    clear hK K
    intro f hf
    refine wpQuiet_nil ?_
    clear hf f
    go_wp2_with (fail)
    go_returns
    exact HF.out _ hbd
end

end Go.Proofs.YtpalmobmabkadaaGreatDoor

namespace Go.Proofs.YtpalmobmabkadaaGreatDoor
open Go.RowKit
set_option maxRecDepth 20000

def inA (a : Av) (i : Int) : Bool := decide (0 ≤ i ∧ i < a.n)
def Av.has (a : Av) (i : Int) : Bool := inA a i && !bitAt a.ws i.toNat
def Av.hold (a : Av) (i : Int) : Int × Av := if inA a i = false then (30, a) else if bitAt a.ws i.toNat = false then (41, a) else (0, a.flip i.toNat)
def Av.give (a : Av) (i : Int) : Int × Av := if inA a i = false then (30, a) else if bitAt a.ws i.toNat = true then (40, a) else (0, a.flip i.toNat)
theorem inA_nat {a : Av} {i : Int} (h : inA a i = true) : ∃ j : Nat, i = (j : Int) ∧ j < a.n := by
  simp only [inA, decide_eq_true_eq] at h
  exact ⟨i.toNat, by omega, by omega⟩
theorem grown_refl (w : World) (r : Option Nat) : w.grownBy w r := World.grownBy.refl w r
theorem grown_below {a w w' : World} {r : Option Nat} (h : Below a.heap.size a w) (k : w.grownBy w' r) (_ : ∀ q, r = some q → q < a.heap.size ∨ True) : a.grownBy w' r :=
  ⟨k.os.trans h.os, k.tape.trans h.tape, k.output.trans h.output, Nat.le_trans h.size k.size, fun i hi hne => (k.block i (Nat.lt_of_lt_of_le hi h.size) hne).trans (h.block i hi)⟩
theorem atake_nil (w : World) : Calls Tryz.prog 121 #[.pointer none] w fun e w' => e = .returned (.tuple #[.int .i64 0, .int .i64 1]) ∧ w = w' := by
  go_enter Tryz.func121, Tryz.ntmps121
  go_wp2
  go_ret2
  exact ⟨rfl, rfl⟩
theorem asome_nil (i : Int) (w : World) : Calls Tryz.prog 91 #[.pointer none, .int .i64 i] w fun e w' => e = .returned (.tuple #[.slice none 0 0, .int .i64 1]) ∧ w = w' := by
  go_enter Tryz.func91, Tryz.ntmps91
  go_wp2
  go_ret2
  exact ⟨rfl, rfl⟩
theorem ahold_nil (i : Int) (w : World) : Calls Tryz.prog 78 #[.pointer none, .int .i64 i] w fun e w' => e = .returned (.int .i64 1) ∧ w = w' := by
  go_enter Tryz.func78, Tryz.ntmps78
  go_wp2
  go_ret
  exact ⟨rfl, rfl⟩
theorem afree_nil (w : World) : Calls Tryz.prog 120 #[.pointer none] w fun e w' => e = .returned (.int .i64 0) ∧ w = w' := by
  go_enter Tryz.func120, Tryz.ntmps120
  go_wp2
  go_ret
  exact ⟨rfl, rfl⟩
section
variable {w w' : World} {g R k : Nat} {a : Av}
theorem ahold_any (h : Alw w g R k a) (i : Int) (hi1 : -9223372036854775808 ≤ i) (hi2 : i ≤ 9223372036854775807) :
    Calls Tryz.prog 78 #[.pointer (some ⟨g, 0, none⟩), .int .i64 i] w fun e w' => e = .returned (.int .i64 (a.hold i).1) ∧ Alw w' g R k (a.hold i).2 ∧ w.grownBy w' (some R) := by
  have hw := within_any h i hi1 hi2
  unfold Av.hold
  cases hin : inA a i
  · rw [show decide (0 ≤ i ∧ i < a.n) = false from hin] at hw
    simp only [if_true]
    have HW := Lib.hid hw
    have HH := Lib.hid h
    clear h hw hin hi1 hi2
    go_enter Tryz.func78, Tryz.ntmps78
    go_wp2_with (first
      | (go_at_call 115; refine HW.out.mono ?_; rintro e w1 ⟨rfl, rfl⟩)
      | fail)
    go_ret
    exact ⟨rfl, HH.out, grown_refl _ _⟩
  · rw [show decide (0 ≤ i ∧ i < a.n) = true from hin] at hw
    obtain ⟨j, rfl, hj⟩ := inA_nat hin
    have hf := free_any h j hj
    have ht := fun (W : World) (hb : Below w.heap.size w W) => turn_any (h.below hb) j hj
    have hh := fun (W : World) (hb : Below w.heap.size w W) => h.below hb
    simp only [Bool.true_eq_false, if_false, Int.toNat_natCast]
    cases hbit : bitAt a.ws j
    · rw [hbit] at hf
      simp only [if_true]
      have HW := Lib.hid hw
      have HF := Lib.hid hf
      have HT := Lib.hid ht
      have HH := Lib.hid hh
      clear h hw hin hi1 hi2 hf hj ht hbit hh
      go_enter Tryz.func78, Tryz.ntmps78
      go_wp2_with (first
        | (go_at_call 115; refine HW.out.mono ?_; rintro e w1 ⟨rfl, rfl⟩)
        | (go_at_call 116; refine HF.out.mono ?_; rintro e w2 ⟨rfl, hb2⟩)
        | (go_at_call 114; refine (HT.out _ hb2).mono ?_; rintro e w3 ⟨rfl, hA3, hg3⟩)
        | fail)
      go_ret
      exact ⟨rfl, HH.out _ hb2, grown_below hb2 (grown_refl _ _) (fun _ _ => .inr trivial)⟩
    · rw [hbit] at hf
      simp only [Bool.true_eq_false, if_false]
      have HW := Lib.hid hw
      have HF := Lib.hid hf
      have HT := Lib.hid ht
      have HH := Lib.hid hh
      clear h hw hin hi1 hi2 hf hj ht hbit hh
      go_enter Tryz.func78, Tryz.ntmps78
      go_wp2_with (first
        | (go_at_call 115; refine HW.out.mono ?_; rintro e w1 ⟨rfl, rfl⟩)
        | (go_at_call 116; refine HF.out.mono ?_; rintro e w2 ⟨rfl, hb2⟩)
        | (go_at_call 114; refine (HT.out _ hb2).mono ?_; rintro e w3 ⟨rfl, hA3, hg3⟩)
        | fail)
      go_ret
      exact ⟨rfl, hA3, grown_below hb2 hg3 (fun _ _ => .inr trivial)⟩

end

end Go.Proofs.YtpalmobmabkadaaGreatDoor

namespace Go.Proofs.YtpalmobmabkadaaGreatDoor
open Go.RowKit
set_option maxRecDepth 20000

theorem pow_odd_bit (c t i : Nat) : (2 ^ c * (2 * t + 1)).testBit i = (decide (c ≤ i) && (2 * t + 1).testBit (i - c)) := by
  rw [Nat.mul_comm, Nat.testBit_mul_two_pow]
theorem odd_bit (t : Nat) : (2 * t + 1).testBit 0 = true := by rw [Nat.testBit_zero]; simp
theorem ctz_is {x m : Nat} (hx : x < 18446744073709551616) (hm : x.testBit m = true) (hl : ∀ i, i < m → x.testBit i = false) : Lib.ctz 64 x = m := by
  have h0 : x ≠ 0 := by rintro rfl; rw [Nat.zero_testBit] at hm; cases hm
  obtain ⟨t, ht, hc⟩ := Lib.ctzFrom_spec 64 x (by omega) hx
  have e : Lib.ctz 64 x = Lib.ctzFrom 64 x := by simp [Lib.ctz, h0]
  rw [e]
  generalize Lib.ctzFrom 64 x = c at *
  rcases Nat.lt_trichotomy c m with h | h | h
  · have := hl c h
    rw [ht, pow_odd_bit, Nat.sub_self, odd_bit] at this
    simp at this
  · exact h
  · rw [ht, pow_odd_bit] at hm
    simp at hm
    omega
theorem word_zero {x : Nat} (hx : x < 18446744073709551616) (h : ∀ i, i < 64 → x.testBit i = false) : x = 0 := by
  apply Nat.eq_of_testBit_eq
  intro i
  rw [Nat.zero_testBit]
  by_cases hi : i < 64
  · exact h i hi
  · exact Nat.testBit_lt_two_pow (Nat.lt_of_lt_of_le hx (Nat.pow_le_pow_right (n := 2) (by decide) (show 64 ≤ i by omega)))
def rowOf (ws : List Nat) (q : Nat) : List Nat := (ws.drop (8 * q)).take 8
theorem rowOf_get (ws : List Nat) (q t : Nat) (ht : t < 8) : (rowOf ws q).getD t 0 = ws.getD (8 * q + t) 0 := by
  unfold rowOf
  rw [List.getD, List.getD, List.getElem?_take_of_lt ht, List.getElem?_drop]
theorem rowOf_bit (ws : List Nat) (q j : Nat) (hj : j < 512) : bitAt (rowOf ws q) j = bitAt ws (512 * q + j) := by
  unfold bitAt
  rw [rowOf_get _ _ _ (by omega), show (512 * q + j) / 64 = 8 * q + j / 64 by omega, show (512 * q + j) % 64 = j % 64 by omega]
theorem rowOf_len {ws : List Nat} {k q : Nat} (h : ws.length = 8 * k) (hq : q < k) : (rowOf ws q).length = 8 := by
  unfold rowOf
  rw [List.length_take, List.length_drop]
  omega
theorem rowOf_lt {ws : List Nat} (h : ∀ x ∈ ws, x < 18446744073709551616) (q : Nat) : ∀ x ∈ rowOf ws q, x < 18446744073709551616 := fun x hx => h x (List.mem_of_mem_drop (List.mem_of_mem_take hx))
def Z8 : List Nat := List.replicate 8 0
theorem row_zero {xs : List Nat} (hl : xs.length = 8) (hx : ∀ x ∈ xs, x < 18446744073709551616) (h : ∀ j, j < 512 → bitAt xs j = false) : xs = Z8 := by
  apply List.ext_getElem?
  intro i
  by_cases hi : i < 8
  · have hz : xs.getD i 0 = 0 := word_zero (getD_lt hx i) (fun b hb => by
      have := h (i * 64 + b) (by omega)
      unfold bitAt at this
      rwa [show (i * 64 + b) / 64 = i by omega, show (i * 64 + b) % 64 = b by omega] at this)
    rw [List.getD, List.getElem?_eq_getElem (by omega)] at hz
    rw [List.getElem?_eq_getElem (by omega)]
    unfold Z8
    rw [List.getElem?_replicate, if_pos hi]
    simpa using hz
  · rw [List.getElem?_eq_none (by omega), List.getElem?_eq_none (by unfold Z8; rw [List.length_replicate]; omega)]
theorem row_not_zero {xs : List Nat} {j : Nat} (h : bitAt xs j = true) : xs ≠ Z8 := by
  rintro rfl
  unfold bitAt Z8 at h
  have : (List.replicate 8 0).getD (j / 64) 0 = 0 := by
    rw [List.getD, List.getElem?_replicate]
    split <;> rfl
  rw [this, Nat.zero_testBit] at h
  cases h
/-- The first place that is free. -/
def FirstIs (ws : List Nat) : Option Nat → Prop
  | none => ∀ j, bitAt ws j = false
  | some j => bitAt ws j = true ∧ ∀ i, i < j → bitAt ws i = false
theorem bitAt_far {ws : List Nat} {j : Nat} (h : 64 * ws.length ≤ j) : bitAt ws j = false := by
  unfold bitAt
  rw [List.getD, List.getElem?_eq_none (by omega)]
  exact Nat.zero_testBit _
theorem first_ex (ws : List Nat) : ∃ r, FirstIs ws r := by
  by_cases h : ∃ j, bitAt ws j = true
  · obtain ⟨j, hj⟩ := h
    induction j using Nat.strongRecOn with
    | _ j ih =>
      by_cases h2 : ∃ i, i < j ∧ bitAt ws i = true
      · obtain ⟨i, hi, hb⟩ := h2
        exact ih i hi hb
      · refine ⟨some j, hj, fun i hi => ?_⟩
        cases hb : bitAt ws i
        · rfl
        · exact absurd ⟨i, hi, hb⟩ h2
  · refine ⟨none, fun j => ?_⟩
    cases hb : bitAt ws j
    · rfl
    · exact absurd ⟨j, hb⟩ h
theorem first_lt {a : Av} {k j : Nat} (h : a.Ok k) (hf : FirstIs a.ws (some j)) : j < a.n := by
  by_cases hj : j < a.n
  · exact hj
  · have := h.out j (by omega)
    rw [hf.1] at this
    cases this

set_option maxHeartbeats 1000000 in
theorem rowfirst_any (xs : List Nat) (j : Nat) (w : World) (hl : xs.length = 8) (hx : ∀ x ∈ xs, x < 18446744073709551616) (hj : j < 512) (hf : FirstIs xs (some j)) (hT : Tab w) :
    Calls Tryz.prog 145 #[.agg (u64s xs).toArray] w fun e w' => e = .returned (.int .i64 (j : Int)) ∧ Below w.heap.size w w' := by
  obtain ⟨hb, hz⟩ := hf
  have hq : j / 64 < 8 := by omega
  have hzero : ∀ i, i < j / 64 → xs.getD i 0 = 0 := fun i hi => word_zero (getD_lt hx i) (fun b hb => by
    have := hz (i * 64 + b) (by omega)
    unfold bitAt at this
    rwa [show (i * 64 + b) / 64 = i by omega, show (i * 64 + b) % 64 = b by omega] at this)
  have hne : xs.getD (j / 64) 0 ≠ 0 := by
    intro e
    unfold bitAt at hb
    rw [e, Nat.zero_testBit] at hb
    cases hb
  have hctz : Lib.ctz 64 (xs.getD (j / 64) 0) = j % 64 := ctz_is (getD_lt hx _) hb (fun i hi => by
    have := hz (j / 64 * 64 + i) (by omega)
    unfold bitAt at this
    rwa [show (j / 64 * 64 + i) / 64 = j / 64 by omega, show (j / 64 * 64 + i) % 64 = i by omega] at this)
  obtain ⟨W, hW⟩ : ∃ W, W = w.alloc (.cells (u64s xs).toArray 201) := ⟨_, rfl⟩
  have hr : W.heap[w.heap.size]? = some (.cells (u64s xs).toArray 201 (0, 0)) := by rw [hW]; exact heap_alloc_new w _
  have hbl : Below w.heap.size w W := by rw [hW]; exact (Below.refl _ _).alloc (Nat.le_refl _) _
  have htz := tz_any (xs.getD (j / 64) 0) W (getD_lt hx _) (hT.below hbl)
  rw [hctz] at htz
  have hcell : ∀ i, i < 8 → W.cell? ⟨w.heap.size, i, none⟩ = some (.int .u64 ((xs.getD i 0 : Nat) : Int)) := fun i hi => by
    rw [cell_of_row W _ i _ _ _ hr]
    simpa using u64s_at xs i (by omega)
  have hfin : ((j / 64 : Nat) : Int) * 64 + ((j % 64 : Nat) : Int) = (j : Int) := by omega
  have HW := Lib.hid hW
  have HBL := Lib.hid hbl
  have HTZ := Lib.hid htz
  have HC := Lib.hid hcell
  have HZ := Lib.hid hzero
  have HNE := Lib.hid hne
  have HF := Lib.hid hfin
  have hm64 : ((j % 64 : Nat) : Int) < 64 := by omega
  generalize j / 64 = q at *
  generalize j % 64 = m at *
  clear hb hz hW hr hbl htz hcell hzero hne hctz hfin hx hl hj hT
  go_enter Tryz.func145, Tryz.ntmps145
  go_wp2_with (fail)
  rw [← HW.out]
  go_loop [3] (fun ir => ∃ i : Nat, i ≤ q ∧ ir = .int .i64 (i : Int)) (fun ir => q - (intOf ir).toNat)
  case atStart => exact ⟨0, Nat.zero_le _, rfl⟩
  case round =>
    obtain ⟨i, hi, rfl⟩ := hrel
    have hc := HC.out i (by omega)
    by_cases hlt : i < q
    · rw [HZ.out i hlt] at hc
      go_wp2
      go_round
      case rel => exact ⟨i + 1, by omega, by go_num⟩
      case measure => simp [intOf]; omega
    · obtain rfl : i = q := by omega
      have hne := HNE.out
      generalize xs.getD i 0 = x at *
      have hx0 : ((x : Int) == 0) = false := by simpa using hne
      have hxn : ¬ ((x : Int) = 0) := by omega
      go_wp2_with (first
        | (go_at_call 119; refine HTZ.out.mono ?_; rintro e w1 ⟨rfl, rfl⟩)
        | fail)
      go_ret
      refine ⟨?_, HBL.out⟩
      simp only [Array.getD]
      simp
      exact HF.out

end Go.Proofs.YtpalmobmabkadaaGreatDoor

namespace Go.Proofs.YtpalmobmabkadaaGreatDoor
open Go.RowKit
set_option maxRecDepth 20000

section
variable {P : Program}
theorem run_eqAll_aeq (d : Nat) (e : TypeId) (he : P.underlying e = some (.int .u64)) (s u : List Nat) (hsu : s.length = u.length) (w : World) : ∀ (m k : Nat), k + m = s.length → s.take k = u.take k →
    (eqAll (d + 1) e 1 (u64s s).toArray (u64s u).toArray (List.range' k m)).run P w = .ok (decide (s = u)) w := by
  have hpart : ∀ (l : List Nat) (k : Nat) (x : Nat), l[k]? = some x → (part e (u64s l).toArray (k * 1)).run P w = .ok (.int .u64 (x : Int)) w := by
    intro l k x hk
    have ha : (isAgg e).run P w = .ok false w := by unfold isAgg; rw [Sem.run_bind, run_underlying he w]; rfl
    have hg : (u64s l)[k]? = some (.int .u64 (x : Int)) := by simp [u64s, hk]
    simp [part, Sem.run_bind, ha, hg, Result.andThen]
  intro m
  induction m with
  | zero =>
    intro k hk ht
    have : s = u := by rwa [List.take_of_length_le (by omega), List.take_of_length_le (by omega)] at ht
    simp [eqAll, this]
  | succ m ih =>
    intro k hk ht
    have h1 : k < s.length := by omega
    have h2 : k < u.length := by omega
    rw [List.range'_succ]
    simp only [eqAll, Sem.run_bind, hpart s k s[k] (List.getElem?_eq_getElem h1), hpart u k u[k] (List.getElem?_eq_getElem h2), Result.andThen_ok]
    rw [run_equalIn_int w d e .u64 .u64 _ _ he]
    by_cases hx : s[k] = u[k]
    · simp only [hx, beq_self_eq_true, Result.andThen_ok, Bool.not_true, Bool.false_eq_true, if_false]
      exact ih (k + 1) (by omega) (by rw [List.take_succ_eq_append_getElem h1, List.take_succ_eq_append_getElem h2, ht, hx])
    · have hne : ((s[k] : Int) == (u[k] : Int)) = false := by
        simp only [beq_eq_false_iff_ne, ne_eq]
        intro e
        exact hx (by exact_mod_cast e)
      have hsn : s ≠ u := fun e => hx (by subst e; rfl)
      simp [hne, hsn, Result.andThen]
end
theorem neq_row (s u : List Nat) (hs : s.length = 8) (hu : u.length = 8) (w : World) : (binOp .neq 201 (.agg (u64s s).toArray) (.agg (u64s u).toArray)).run Tryz.prog w = .ok (.bool (!decide (s = u))) w := by
  rw [run_neq_struct, run_equalIn_arr 9999 w 201 34 8 _ _ Tryz.underlying201 (by kernel_rfl), run_eqAll_aeq 9998 34 Tryz.underlying34 s u (by omega) w 8 0 (by omega) rfl]
  rfl
theorem guard_row (s u : List Nat) (x y : Operand) (w : World) : (eqGuard .neq 201 x y (.agg (u64s s).toArray) (.agg (u64s u).toArray)).run Tryz.prog w = .ok () w := run_eqGuard_agg w _ _ _ _ _ _ (by kernel_rfl)
theorem build_row (w : World) : (Instr.build 201 #[]).run Tryz.prog w = .ok (.agg (u64s Z8).toArray) w := by kernel_rfl
theorem size_row : (Tryz.prog.info? 201).map (·.size) = some 8 := by kernel_rfl

section
variable {w : World} {ops : Array Oper} {rest : List Oper} {o : Oper} {a : Act} {Q : Exit → Act → World → Prop}
theorem wpL_zero_aeq (hgd : o.guard = none) (ho : o.op = .build 201 #[]) (h : wpList Tryz.prog ops Q rest (a.put o.dst (.agg (u64s Z8).toArray)) w) : wpList Tryz.prog ops Q (o :: rest) a w := by
  refine wpList_plain hgd fun K hK => ?_
  have hrun := build_row w
  unfold Oper.wp
  simp only [execOp, ho, List.map_toArray, List.map_nil, Sem.run_bind, hrun, Result.andThen_ok, Sem.run_pure]
  exact hK _ _ h
theorem wpL_neq (hgd : o.guard = none) (x y : Operand) (t : TypeId) (ho : o.op = .binOp .neq 201 x y t) {s u : List Nat} (hx : a.eval x = .agg (u64s s).toArray) (hy : a.eval y = .agg (u64s u).toArray) (hs : s.length = 8) (hu : u.length = 8) (b : Bool) (hb : b = !decide (s = u))
    (h : wpList Tryz.prog ops Q rest (a.put o.dst (.bool b)) w) : wpList Tryz.prog ops Q (o :: rest) a w := by
  refine wpList_plain hgd fun K hK => ?_
  have h1 := neq_row s u hs hu w
  have h2 := guard_row s u x y w
  rw [← hb] at h1
  unfold Oper.wp
  simp only [execOp, ho, hx, hy, Sem.run_bind, h1, h2, Result.andThen_ok, Sem.run_pure]
  exact hK _ _ h
/-- A row is read where it lies among others. -/
theorem wpL_row (hgd : o.guard = none) (x : Operand) (ho : o.op = .load 201 x) {R q k : Nat} {ws : List Nat} {tl : List Value} (hx : a.eval x = .pointer (some ⟨R, q * 8, none⟩)) (hr : w.heap[R]? = some (.cells (u64s ws ++ tl).toArray 201 (0, 0))) (hl : ws.length = 8 * k) (hq : q < k)
    (h : wpList Tryz.prog ops Q rest (a.put o.dst (.agg (u64s (rowOf ws q)).toArray)) w) : wpList Tryz.prog ops Q (o :: rest) a w := by
  refine wpList_load_mid hgd _ x ho R (q * 8) hx (u64s (rowOf ws q)) _ ?_ Tryz.underlying201 rfl ?_ h
  · have := World.rangeAt_of_block hr (q * 8) 8
    rw [List.extract_toArray, List.toList_toArray] at this
    rw [show u64s (rowOf ws q) = (u64s ws ++ tl).extract (q * 8) (q * 8 + 8) by
      have hlw : (u64s ws).length = 8 * k := by rw [u64s, List.length_map]; exact hl
      rw [List.extract_eq_take_drop, show q * 8 + 8 - q * 8 = 8 by omega, List.drop_append_of_le_length (by omega), List.take_append_of_le_length (by rw [List.length_drop]; omega)]
      simp [rowOf, u64s, Nat.mul_comm]]
    exact this
  · rw [size_row, show (u64s (rowOf ws q)).length = 8 by rw [u64s, List.length_map]; exact rowOf_len hl hq]
end

end Go.Proofs.YtpalmobmabkadaaGreatDoor
