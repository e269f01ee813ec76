/- Contracts of package alloc: word, bit, free, turn, within. -/
import Derived.Test.YtljmigfjlndpbaaDoorAmath
namespace Go.Proofs.YtljmigfjlndpbaaDoor
open Go.RowKit

/-- Places in memory. -/
structure Alw (w : World) (g R k : Nat) (a : Av) : Prop where
  row : w.heap[g]? = some (.cells #[.int .i64 (a.n : Int), .slice (some ⟨R, 0, none⟩) k a.cap] 52 (0, 0))
  rows : w.heap[R]? = some (.cells (u64s a.ws ++ a.tl).toArray 62 (0, 0))
  ne : g ≠ R
  ok : a.Ok k
  pos : 0 < g ∧ 0 < R
section
variable {w w' : World} {g R k : Nat} {a : Av}
theorem Alw.c0 (h : Alw w g R k a) : w.cell? ⟨g, 0, none⟩ = some (.int .i64 (a.n : Int)) := cell_of_row w g 0 _ _ _ h.row
theorem Alw.c1 (h : Alw w g R k a) : w.cell? ⟨g, 1, none⟩ = some (.slice (some ⟨R, 0, none⟩) k a.cap) := cell_of_row w g 1 _ _ _ h.row
theorem u64s_at (ws : List Nat) (i : Nat) (h : i < ws.length) : (u64s ws)[i]? = some (.int .u64 ((ws.getD i 0 : Nat) : Int)) := by
  rw [List.getD]
  simp [u64s, h]
theorem Alw.word (h : Alw w g R k a) (i : Nat) (hi : i < a.ws.length) : w.cell? ⟨R, i, none⟩ = some (.int .u64 ((a.ws.getD i 0 : Nat) : Int)) := by
  rw [cell_of_row w R i _ _ _ h.rows, List.getElem?_toArray, List.getElem?_append_left (by rw [u64s, List.length_map]; exact hi)]
  exact u64s_at a.ws i hi
theorem Alw.below (h : Alw w g R k a) (hb : Below w.heap.size w w') : Alw w' g R k a :=
  ⟨(hb.block g (Array.getElem?_eq_some_iff.1 h.row).1).trans h.row, (hb.block R (Array.getElem?_eq_some_iff.1 h.rows).1).trans h.rows, h.ne, h.ok, h.pos⟩
theorem Alw.drew (h : Alw w g R k a) : Alw w.drew g R k a := ⟨h.row, h.rows, h.ne, h.ok, h.pos⟩
theorem Alw.lt (h : Alw w g R k a) : g < w.heap.size ∧ R < w.heap.size := ⟨(Array.getElem?_eq_some_iff.1 h.row).1, (Array.getElem?_eq_some_iff.1 h.rows).1⟩

theorem within_any (h : Alw w g R k a) (i : Int) (_ : -9223372036854775808 ≤ i) (_ : i ≤ 9223372036854775807) :
    Calls Tryd.prog 26 #[.pointer (some ⟨g, 0, none⟩), .int .i64 i] w fun e w' => e = .returned (.bool (decide (0 ≤ i ∧ i < a.n))) ∧ w = w' := by
  have c0 := h.c0
  clear h
  by_cases h0 : 0 ≤ i
  · by_cases h1 : i < a.n
    · have hf : decide (0 ≤ i ∧ i < a.n) = true := by simp [h0, h1]
      rw [hf]
      clear hf
      go_enter Tryd.func26, Tryd.ntmps26
      go_wp2
      go_ret
      exact ⟨rfl, rfl⟩
    · have hf : decide (0 ≤ i ∧ i < a.n) = false := by simp [h1]
      have h1' : decide (i < (a.n : Int)) = false := by simpa using h1
      rw [hf]
      clear hf
      go_enter Tryd.func26, Tryd.ntmps26
      go_wp2
      go_ret
      exact ⟨rfl, rfl⟩
  · have hf : decide (0 ≤ i ∧ i < a.n) = false := by simp [h0]
    have h0' : decide (0 ≤ i) = false := by simpa using h0
    rw [hf]
    clear hf
    go_enter Tryd.func26, Tryd.ntmps26
    go_wp2
    go_ret
    exact ⟨rfl, rfl⟩
theorem word_any (h : Alw w g R k a) (i : Nat) (hi : i < a.n) :
    Calls Tryd.prog 30 #[.pointer (some ⟨g, 0, none⟩), .int .i64 (i : Int)] w fun e w' => e = .returned (.pointer (some ⟨R, i / 64, none⟩)) ∧ w = w' := by
  have c1 := h.c1
  have hk : i / 512 < k := by have := h.ok.room; omega
  have hk2 := h.ok.small
  have e : i / 512 * 8 + i % 512 / 64 = i / 64 := by omega
  have E := Lib.hid e
  have hki : (i : Int) / 512 < (k : Int) := by omega
  have hm : (i : Int) % 512 / 64 < 8 := by omega
  have hm0 : (0 : Int) ≤ (i : Int) % 512 / 64 := by omega
  have hi3 : (i : Int) ≤ 200000 := by have := h.ok.room; omega
  clear h e hi
  go_enter Tryd.func30, Tryd.ntmps30
  go_wp2
  go_ret
  refine ⟨?_, rfl⟩
  rw [← E.out]
  rfl
theorem bit_any (i : Nat) (w : World) (hi : (i : Int) ≤ 200000) : Calls Tryd.prog 31 #[.int .i64 (i : Int)] w fun e w' => e = .returned (.int .u64 ((2 ^ (i % 64) : Nat) : Int)) ∧ w = w' := by
  have hm : i % 64 < 64 := Nat.mod_lt _ (by decide)
  have hf : IntKind.u64.wrap (2 ^ (i % 64)) = ((2 ^ (i % 64) : Nat) : Int) := by
    have hp := pow64 hm
    rw [show (2 : Int) ^ (i % 64) = ((2 ^ (i % 64) : Nat) : Int) by simp]
    generalize 2 ^ (i % 64) = p at *
    rw [u64w _ (by omega) (by omega)]
  have HF := Lib.hid hf
  clear hf hm
  go_enter Tryd.func31, Tryd.ntmps31
  go_wp2
  go_ret
  exact ⟨ret_u64 HF.out, rfl⟩

theorem free_any (h : Alw w g R k a) (i : Nat) (hi : i < a.n) :
    Calls Tryd.prog 27 #[.pointer (some ⟨g, 0, none⟩), .int .i64 (i : Int)] w fun e w' => e = .returned (.bool (bitAt a.ws i)) ∧ Below w.heap.size w w' := by
  have hlen := h.ok.len
  have hroom := h.ok.room
  have hsm := h.ok.small
  have hi3 : (i : Int) ≤ 200000 := by omega
  have hw := h.word (i / 64) (by omega)
  have hlt := getD_lt h.ok.lt (i / 64)
  have hR := h.lt.2
  have hword := fun (W : World) (hb : Below w.heap.size w W) => word_any (h.below hb) i hi
  have hbit := fun (W : World) => bit_any i W hi3
  have hp := pow64 (Nat.mod_lt i (show 0 < 64 by decide))
  have hand := bits_and_u64_nat (a.ws.getD (i / 64) 0) (2 ^ (i % 64)) hlt hp
  have hiff := and_bit (a.ws.getD (i / 64) 0) (i % 64)
  have hfin : (((a.ws.getD (i / 64) 0 &&& 2 ^ (i % 64) : Nat) : Int) != 0) = bitAt a.ws i := by
    unfold bitAt
    cases hb : (a.ws.getD (i / 64) 0).testBit (i % 64)
    · have h0 : a.ws.getD (i / 64) 0 &&& 2 ^ (i % 64) = 0 := by
        by_cases h0 : a.ws.getD (i / 64) 0 &&& 2 ^ (i % 64) = 0
        · exact h0
        · rw [hiff.1 h0] at hb; cases hb
      rw [h0]; rfl
    · have h0 := hiff.2 hb
      simp only [bne_iff_ne, ne_eq, Int.natCast_eq_zero]
      exact h0
  generalize a.ws.getD (i / 64) 0 = x at *
  generalize 2 ^ (i % 64) = p at *
  generalize x &&& p = y at *
  have HW := Lib.hid hword
  have HB := Lib.hid hbit
  have HF := Lib.hid hfin
  have HC := Lib.hid hw
  clear h hword hbit hfin hiff hlen hroom hsm hi hlt hp hw
  go_enter Tryd.func27, Tryd.ntmps27
  go_wp2_with (fail)
  refine wp_low w.heap.size [([0, 1, 5], 2), ([3, 4], 6)] [7, 8, 9] (by kernel_rfl) (by kernel_rfl) (fun d _ _ _ _ h => by cases d <;> exact h) (Nat.le_refl _) fun wd hbd => ?_
  intro f hf
  simp only [pickI, Option.toList_some, List.cons_append, List.nil_append, List.getElem?_toArray, List.getElem?_cons_succ, List.getElem?_cons_zero]
  repeat (go_big_quiet_step (fail))
  refine wpQuiet_nil ?_
  clear hf f
  refine seg_op (by simp only [List.getElem?_toArray, List.getElem?_cons_succ, List.getElem?_cons_zero]; rfl) fun K hK => ?_
  go_simp
  refine (HW.out _ hbd).mono ?_
  rintro e w1 ⟨rfl, rfl⟩
  refine hK.out _ _ (seg_keep hbd ?_)
  clear hK K
  intro f hf
  have d0 : ∀ z, (f z).cell? ⟨R, i / 64, none⟩ = some (.int .u64 (x : Int)) := fun z => kept (hf z) HC.out hR
  simp only [pickI, Option.toList_some, List.cons_append, List.nil_append, List.getElem?_toArray, List.getElem?_cons_succ, List.getElem?_cons_zero]
  repeat (go_big_quiet_step (fail))
  refine wpQuiet_nil ?_
  clear d0 hf f
  refine seg_op (by simp only [List.getElem?_toArray, List.getElem?_cons_succ, List.getElem?_cons_zero]; rfl) fun K hK => ?_
  go_simp
  refine (HB.out _).mono ?_
  rintro e w1 ⟨rfl, rfl⟩
  refine hK.out _ _ (seg_keep hbd ?_)
  clear hK K
  intro f hf
  simp only [pickI, Option.toList_some, List.cons_append, List.nil_append, List.getElem?_toArray, List.getElem?_cons_succ, List.getElem?_cons_zero]
  repeat (go_big_quiet_step (fail))
  refine wpQuiet_nil ?_
  clear hf f
  go_wp2
  go_ret
  exact ⟨ret_bool HF.out, hbd⟩

/-- A place is turned over. -/
def Turned (w : World) (g R k : Nat) (a : Av) (i : Nat) (e : Ending) (w' : World) : Prop := e = .returned (.tuple #[]) ∧ Alw w' g R k (a.flip i) ∧ w.grownBy w' (some R)
theorem turn_any (h : Alw w g R k a) (i : Nat) (hi : i < a.n) :
    Calls Tryd.prog 24 #[.pointer (some ⟨g, 0, none⟩), .int .i64 (i : Int)] w (Turned w g R k a i) := by
  have hlen := h.ok.len
  have hroom := h.ok.room
  have hsm := h.ok.small
  have hi3 : (i : Int) ≤ 200000 := by omega
  have hw := h.word (i / 64) (by omega)
  have hlt := getD_lt h.ok.lt (i / 64)
  have hR := h.lt.2
  have hword := fun (W : World) (hb : Below w.heap.size w W) => word_any (h.below hb) i hi
  have hbit := fun (W : World) => bit_any i W hi3
  have hp := pow64 (Nat.mod_lt i (show 0 < 64 by decide))
  have hxor : bits .xor .u64 ((a.ws.getD (i / 64) 0 : Nat) : Int) ((2 ^ (i % 64) : Nat) : Int) = ((a.ws.getD (i / 64) 0 ^^^ 2 ^ (i % 64) : Nat) : Int) := u64_xor_nat _ _ (by omega) (by omega)
  have hfin : ∀ W, Below w.heap.size w W → Turned w g R k a i (.returned (.tuple #[])) (W.setCell ⟨R, i / 64, none⟩ (.int .u64 ((a.ws.getD (i / 64) 0 ^^^ 2 ^ (i % 64) : Nat) : Int))) := by
    intro W hb
    have h' := h.below hb
    refine ⟨rfl, ⟨?_, ?_, h.ne, h.ok.flip hi, h.pos⟩, ?_⟩
    · exact (heap_setCell_other W _ g _ (by have := h.ne; simp; omega)).trans h'.row
    · rw [heap_setCell_same W R (i / 64) _ _ _ h'.rows]
      congr 2
      unfold Av.flip flipAt u64s
      dsimp only
      rw [List.map_set, ← List.set_append_left _ _ (by rw [List.length_map]; omega)]
      simp
    · exact setCell_by (w' := W) (p := ⟨R, i / 64, none⟩) ⟨hb.os, hb.tape, hb.output, hb.size, fun j hj _ => hb.block j hj⟩ rfl _
  generalize a.ws.getD (i / 64) 0 = x at *
  generalize 2 ^ (i % 64) = p at *
  generalize x ^^^ p = y at *
  have HW := Lib.hid hword
  have HB := Lib.hid hbit
  have HF := Lib.hid hfin
  have HC := Lib.hid hw
  have HFZ := Lib.hid (fun (W : World) (hb : Below w.heap.size w W) => frozen_of_row W R (i / 64) _ _ (h.below hb).rows)
  clear h hword hbit hfin hlen hroom hsm hi hlt hp hw
  go_enter Tryd.func24, Tryd.ntmps24
  go_wp2_with (fail)
  refine wp_tree R (.one [0, 1, 5] 2 (.two [3] 4 6 (.one [] 6 (.one [7, 8] 9 (.fin []))) (.one [] 4 (.one [7, 8] 9 (.fin []))))) (by kernel_rfl) (by kernel_rfl) (fun d _ _ _ _ h => by cases d <;> exact h) fun wd hbd => ?_
  have hbR := hbd.mono (Nat.le_of_lt hR)
  have cR : wd.cell? ⟨R, i / 64, none⟩ = some (.int .u64 (x : Int)) := kept hbd HC.out hR
  have fR := HFZ.out wd hbd
  intro f hf
  simp only [pickI, Option.toList_some, List.cons_append, List.nil_append, List.getElem?_toArray, List.getElem?_cons_succ, List.getElem?_cons_zero]
  repeat (go_big_quiet_step (fail))
  refine wpQuiet_nil ?_
  clear hf f
  refine seg_op (by simp only [List.getElem?_toArray, List.getElem?_cons_succ, List.getElem?_cons_zero]; rfl) fun K hK => ?_
  go_simp
  refine (HW.out _ hbd).mono ?_
  rintro e w1 ⟨rfl, rfl⟩
  refine hK.out _ _ ⟨hbR, ?_⟩
  clear hK K
  intro f hf
  simp only [pickI, Option.toList_some, List.cons_append, List.nil_append, List.getElem?_toArray, List.getElem?_cons_succ, List.getElem?_cons_zero]
  repeat (go_big_quiet_step (fail))
  refine wpQuiet_nil ?_
  clear hf f
  refine ⟨?_, ?_⟩
  · refine seg_op (by simp only [List.getElem?_toArray, List.getElem?_cons_succ, List.getElem?_cons_zero]; rfl) fun K hK => ?_
    go_simp
    refine hK.out _ _ ⟨hbR, ?_⟩
    clear hK K
    intro f hf
    refine wpQuiet_nil ?_
    clear hf f
    refine seg_op (by simp only [List.getElem?_toArray, List.getElem?_cons_succ, List.getElem?_cons_zero]; rfl) fun K hK => ?_
    go_simp
    refine (HB.out _).mono ?_
    rintro e w1 ⟨rfl, rfl⟩
    refine hK.out _ _ ⟨hbR, ?_⟩
    clear hK K
    intro f hf
    simp only [pickI, Option.toList_some, List.cons_append, List.nil_append, List.getElem?_toArray, List.getElem?_cons_succ, List.getElem?_cons_zero]
    repeat (go_big_quiet_step (fail))
    refine wpQuiet_nil ?_
    clear hf f
    refine seg_op (by simp only [List.getElem?_toArray, List.getElem?_cons_succ, List.getElem?_cons_zero]; rfl) fun K hK => ?_
    go_simp
    refine hK.out _ _ ⟨hbR.setCell (Nat.le_refl _) _, ?_⟩
    clear hK K
    intro f hf
    refine wpQuiet_nil ?_
    clear hf f
    go_wp2_with (fail)
    go_returns
    exact HF.out _ hbd
  · refine seg_op (by simp only [List.getElem?_toArray, List.getElem?_cons_succ, List.getElem?_cons_zero]; rfl) fun K hK => ?_
    go_simp
    refine (HB.out _).mono ?_
    rintro e w1 ⟨rfl, rfl⟩
    refine hK.out _ _ ⟨hbR, ?_⟩
    clear hK K
    intro f hf
    refine wpQuiet_nil ?_
    clear hf f
    refine seg_op (by simp only [List.getElem?_toArray, List.getElem?_cons_succ, List.getElem?_cons_zero]; rfl) fun K hK => ?_
    go_simp
    refine hK.out _ _ ⟨hbR, ?_⟩
    clear hK K
    intro f hf
    simp only [pickI, Option.toList_some, List.cons_append, List.nil_append, List.getElem?_toArray, List.getElem?_cons_succ, List.getElem?_cons_zero]
    repeat (go_big_quiet_step (fail))
    refine wpQuiet_nil ?_
    clear hf f
    refine seg_op (by simp only [List.getElem?_toArray, List.getElem?_cons_succ, List.getElem?_cons_zero]; rfl) fun K hK => ?_
    go_simp
    refine hK.out _ _ ⟨hbR.setCell (Nat.le_refl _) _, ?_⟩
    clear hK K
    intro f hf
    refine wpQuiet_nil ?_
    clear hf f
    go_wp2_with (fail)
    go_returns
    exact HF.out _ hbd
end

end Go.Proofs.YtljmigfjlndpbaaDoor
