/- Contracts of package alloc: Free. -/
import Derived.Test.YtljmigfjlndpbaaDoorAfirst2
import Derived.Test.YtljmigfjlndpbaaDoorPop
import Derived.Test.YtljmigfjlndpbaaDoorFar
namespace Go.Proofs.YtljmigfjlndpbaaDoor
open Go.RowKit

def popAll (ws : List Nat) : Nat := (ws.map (pop 64)).sum
theorem popAll_take {ws : List Nat} {i : Nat} (h : i < ws.length) : popAll (ws.take (i + 1)) = popAll (ws.take i) + pop 64 (ws.getD i 0) := by
  unfold popAll
  rw [List.take_succ_eq_append_getElem h, List.map_append, List.sum_append, List.getD, List.getElem?_eq_getElem h]
  simp
theorem popAll_le (ws : List Nat) : popAll ws ≤ 64 * ws.length := by
  induction ws with
  | nil => exact Nat.le_refl _
  | cons x ws ih =>
    have e : popAll (x :: ws) = pop 64 x + popAll ws := rfl
    have := pop_le 64 x
    rw [e, List.length_cons]
    omega
theorem popAll_count (ws : List Nat) : popAll ws = (List.range (64 * ws.length)).countP (bitAt ws) := by
  induction ws with
  | nil => rfl
  | cons x ws ih =>
    have e : popAll (x :: ws) = pop 64 x + popAll ws := rfl
    rw [e, ih, pop_count, List.length_cons, show 64 * (ws.length + 1) = 64 + 64 * ws.length by omega, List.range_add, List.countP_append, List.countP_map]
    have e1 : (List.range 64).countP x.testBit = (List.range 64).countP (bitAt (x :: ws)) := List.countP_congr (by
      intro i hi
      rw [List.mem_range] at hi
      unfold bitAt
      rw [show i / 64 = 0 by omega, show i % 64 = i by omega]
      rfl)
    have e2 : (List.range (64 * ws.length)).countP (bitAt ws) = (List.range (64 * ws.length)).countP (bitAt (x :: ws) ∘ fun x => 64 + x) := List.countP_congr (by
      intro i _
      show bitAt ws i = true ↔ bitAt (x :: ws) (64 + i) = true
      unfold bitAt
      rw [show (64 + i) / 64 = i / 64 + 1 by omega, show (64 + i) % 64 = i % 64 by omega, List.getD_cons_succ])
    rw [e1, e2]
def Av.free (a : Av) : Nat := popAll a.ws

section
variable {w : World}
theorem row_und : Tryd.prog.underlying 62 = some (.array 8 60) := Tryd.underlying62
theorem u64s_one (xs : List Nat) : ∀ u ∈ u64s xs, u.oneCell' = true := by
  intro u hu
  unfold u64s at hu
  obtain ⟨x, _, rfl⟩ := List.mem_map.1 hu
  rfl
theorem u64s_len (xs : List Nat) : (u64s xs).length = xs.length := by unfold u64s; rw [List.length_map]
theorem row_zeroes (w : World) : (zeroValue 62).run Tryd.prog w = .ok (.agg (u64s Z8).toArray) w := by kernel_rfl
theorem row_stores {g : Nat} {e : TypeId} {S T : List Nat} (hr : w.heap[g]? = some (.cells (u64s S).toArray e (0, 0))) (hS : S.length = 8) (hT : T.length = 8) : (Instr.storeAt 62 (.pointer (some ⟨g, 0, none⟩)) (.agg (u64s T).toArray)).run Tryd.prog w = .ok () (w.setRow g (u64s T).toArray) := by
  simp only [Instr.storeAt, Instr.sureAddr, Sem.run_bind, Sem.run_pure, Result.andThen_ok]
  exact run_storeVar_row w g e 62 _ _ hr (by rw [size_row]; simp [u64s_len, hT]) (by simp [u64s_len, hS, hT]) (by
    rw [Array.all_eq_true_iff_forall_mem]
    intro x hx
    exact u64s_one T x (by simpa using hx))
theorem row_newVar (v : Value) : (newVar 62 v).run Tryd.prog w = .ok ⟨w.heap.size, 0, none⟩ (w.alloc (.cells v.cells 62)) := by rfl
variable {ops : Array Oper} {rest : List Oper} {o : Oper} {a : Act} {Q : Exit → Act → World → Prop}
/-- A new row of words. -/
def NewR (w : World) (T : List Nat) (W : World) (b : Nat) : Prop := Hid (b = w.heap.size) ∧ Hid (W.heap[b]? = some (.cells (u64s T).toArray 62 (0, 0))) ∧ Hid (Below w.heap.size w W) ∧ Hid (W.heap.size = b + 1)
theorem wpL_rnew (hgd : o.guard = none) (ho : o.op = .alloc 62)
    (hk : ∀ (W : World) (b : Nat), NewR w Z8 W b → wpList Tryd.prog ops Q rest (a.put o.dst (.pointer (some ⟨b, 0, none⟩))) W) : wpList Tryd.prog ops Q (o :: rest) a w := by
  refine wpList_plain hgd fun K hK => ?_
  have hr : (Instr.alloc 62 true (.tuple #[])).run Tryd.prog w = .ok (.pointer (some ⟨w.heap.size, 0, none⟩)) (w.alloc (.cells (u64s Z8).toArray 62)) := by
    have h0 : (newVar 62 (.agg (u64s Z8).toArray)).run Tryd.prog w = .ok ⟨w.heap.size, 0, none⟩ (w.alloc (.cells (u64s Z8).toArray 62)) := row_newVar _
    simp only [Instr.alloc, Sem.run_bind, row_zeroes, Result.andThen_ok, h0, Sem.run_pure]
  unfold Oper.wp
  simp only [execOp, ho, Sem.run_bind, hr, Result.andThen_ok, Sem.run_pure]
  exact hK _ _ (hk _ _ ⟨Lib.hid rfl, Lib.hid (heap_alloc_new w _), Lib.hid ((Below.refl _ _).alloc (Nat.le_refl _) _), Lib.hid (by simp)⟩)
theorem wpL_rstore (hgd : o.guard = none) (x y : Operand) (ho : o.op = .store 62 x y) {g : Nat} {e : TypeId} {S T : List Nat} (hx : a.eval x = .pointer (some ⟨g, 0, none⟩)) (hy : a.eval y = .agg (u64s T).toArray) (hr : w.heap[g]? = some (.cells (u64s S).toArray e (0, 0))) (hS : S.length = 8) (hT : T.length = 8)
    {N : Nat} {w0 : World} (hb : Below N w0 w) (hg : N ≤ g)
    (hk : ∀ W : World, Hid (W.heap[g]? = some (.cells (u64s T).toArray e (0, 0))) → Hid (Below N w0 W) → Hid (W.heap.size = w.heap.size) → wpList Tryd.prog ops Q rest (a.put o.dst undef) W) : wpList Tryd.prog ops Q (o :: rest) a w := by
  refine wpList_plain hgd fun K hK => ?_
  have hrun := row_stores hr hS hT
  unfold Oper.wp
  simp only [execOp, ho, hx, hy, Sem.run_bind, hrun, Result.andThen_ok, Sem.run_pure]
  exact hK _ _ (hk _ (Lib.hid (setRow_heap w g _ _ e _ hr)) (Lib.hid ⟨hb.os, hb.tape, hb.output, by have := hb.size; simpa using this, fun k hk => (setRow_other w g k _ (by omega)).trans (hb.block k hk)⟩) (Lib.hid (by simp)))
theorem wpL_rload (hgd : o.guard = none) (x : Operand) (ho : o.op = .load 62 x) {g : Nat} {e : TypeId} {fr : Nat × Nat} {T : List Nat} (hx : a.eval x = .pointer (some ⟨g, 0, none⟩)) (hr : w.heap[g]? = some (.cells (u64s T).toArray e fr)) (hT : T.length = 8)
    (hk : wpList Tryd.prog ops Q rest (a.put o.dst (.agg (u64s T).toArray)) w) : wpList Tryd.prog ops Q (o :: rest) a w := by
  refine wpList_plain hgd fun K hK => ?_
  have hrun : (Instr.loadAt 62 (.pointer (some ⟨g, 0, none⟩))).run Tryd.prog w = .ok (.agg (u64s T).toArray) w := by
    simp only [Instr.loadAt, Instr.sureAddr, Sem.run_bind, Sem.run_pure, Result.andThen_ok]
    exact run_loadVar_row w g e _ _ fr _ hr row_und rfl (by rw [size_row]; simp [u64s_len, hT])
  unfold Oper.wp
  simp only [execOp, ho, hx, Sem.run_bind, hrun, Result.andThen_ok, Sem.run_pure]
  exact hK _ _ hk
theorem row_index {T : List Nat} (hT : T.length = 8) {i : Nat} (hi : i < 8) (w : World) : (Instr.index 62 (.agg (u64s T).toArray) (.int .i64 (i : Int))).run Tryd.prog w = .ok (.int .u64 ((T.getD i 0 : Nat) : Int)) w := by
  have hs : (Go.sizeOf 60).run Tryd.prog w = .ok 1 w := by kernel_rfl
  have ha : (isAgg 60).run Tryd.prog w = .ok false w := by unfold isAgg; rw [Sem.run_bind, run_underlying Tryd.underlying60 w]; rfl
  have hg : (u64s T)[i]? = some (.int .u64 ((T.getD i 0 : Nat) : Int)) := by simp [u64s, List.getD, List.getElem?_eq_getElem (show i < T.length by omega)]
  have hpart : (part 60 (u64s T).toArray (i * 1)).run Tryd.prog w = .ok (.int .u64 ((T.getD i 0 : Nat) : Int)) w := by
    simp only [part, Sem.run_bind, ha, Result.andThen_ok, Nat.mul_one, List.getElem?_toArray, hg]
    rfl
  have hlt : (0 : Int) ≤ (i : Int) ∧ (i : Int) < ((8 : Nat) : Int) := by omega
  simp only [Instr.index, asIntOf, Sem.run_bind, Sem.run_pure, Result.andThen_ok, run_underlying row_und, if_pos hlt, hs, Int.toNat_natCast, hpart]
end

section
variable {w w' : World} {g R k : Nat} {a : Av}
set_option maxHeartbeats 1000000 in
theorem afree_any (h : Alw w g R k a) :
    Calls Tryd.prog 19 #[.pointer (some ⟨g, 0, none⟩)] w fun e w' => e = .returned (.int .i64 ((a.free : Nat) : Int)) ∧ Below w.heap.size w w' := by
  have c1 := h.c1
  have hsm := h.ok.small
  have HR := Lib.hid (fun (W : World) (hb : Below w.heap.size w W) => (h.below hb).rows)
  have HL := Lib.hid h.ok.len
  have HX := Lib.hid h.ok.lt
  clear h
  go_enter Tryd.func19, Tryd.ntmps19
  go_wp2_with (fail)
  go_loopw [3, 15] (fun nr ir wr => ∃ i : Nat, i ≤ k ∧ ir = .int .i64 (i : Int) ∧ nr = .int .i64 ((popAll (a.ws.take (8 * i)) : Nat) : Int) ∧ Hid (Below w.heap.size w wr)) (fun _ ir _ => k - (intOf ir).toNat)
  case atStart => exact ⟨0, Nat.zero_le _, rfl, rfl, Lib.hid (Below.refl _ _)⟩
  case round =>
    obtain ⟨i, hi, rfl, rfl, RB⟩ := hrel
    by_cases hlt : i < k
    · have hT := rowOf_len HL.out hlt
      have HT := Lib.hid hT
      have HI := Lib.hid (fun j (hj : j < 8) => row_index hT hj)
      have hpl := popAll_le (a.ws.take (8 * i))
      rw [List.length_take] at hpl
      have HPL := Lib.hid hpl
      clear hT hpl
      go_wp2_with (first
        | (refine wpL_row rfl (.tmp 17) rfl rfl (HR.out _ RB.out) HL.out hlt ?_)
        | (refine wpL_rnew rfl rfl ?_; intro W1 b ⟨hb1, hr1, hl1, hs1⟩)
        | (refine wpL_rstore rfl (.tmp 5) (.tmp 18) rfl rfl rfl hr1.out (by rfl) HT.out hl1.out (Nat.le_of_eq hb1.out.symm) ?_; intro W2 hr2 hl2 hs2)
        | (refine wpL_rload rfl (.tmp 5) rfl rfl hr2.out HT.out ?_)
        | fail)
      clear hb1 hr1 hl1 hs1 hr2 hs2
      go_loop [3, 20] (fun nr jr => ∃ j : Nat, j ≤ 8 ∧ jr = .int .i64 (j : Int) ∧ nr = .int .i64 ((popAll (a.ws.take (8 * i + j)) : Nat) : Int)) (fun _ jr => 8 - (intOf jr).toNat)
      case atStart => exact ⟨0, Nat.zero_le _, rfl, rfl⟩
      case round =>
        obtain ⟨j, hj, rfl, rfl⟩ := hrel
        by_cases hjl : j < 8
        · have hix := HI.out j hjl W2
          have hin : 8 * i + j < a.ws.length := by have := HL.out; omega
          have htk := popAll_take hin
          have hge : (rowOf a.ws i).getD j 0 = a.ws.getD (8 * i + j) 0 := rowOf_get _ _ _ hjl
          have hlt2 := getD_lt HX.out (8 * i + j)
          rw [hge] at hix
          have hle := popAll_le (a.ws.take (8 * i + j))
          rw [List.length_take] at hle
          have hp64 := pop_le 64 (a.ws.getD (8 * i + j) 0)
          have HN := Lib.hid (show ((popAll (a.ws.take (8 * i + j)) : Nat) : Int) + ((pop 64 (a.ws.getD (8 * i + j) 0) : Nat) : Int) = ((popAll (a.ws.take (8 * i + (j + 1))) : Nat) : Int) by rw [← Nat.add_assoc, htk]; omega)
          have hones := ones_any _ W2 hlt2
          have hb1 : ((popAll (a.ws.take (8 * i + j)) : Nat) : Int) ≤ 102400 := by have := HL.out; have := hle; omega
          generalize a.ws.getD (8 * i + j) 0 = x at *
          generalize popAll (a.ws.take (8 * i + j)) = n0 at *
          generalize pop 64 x = p0 at *
          have HO := Lib.hid hones
          clear hin htk hge hlt2 hle hones
          go_wp2_with (first
            | (go_at_call 29; refine HO.out.mono ?_; rintro e w1 ⟨rfl, rfl⟩)
            | fail)
          go_round
          case rel => exact ⟨j + 1, by omega, by go_num, by simp [HN.out]⟩
          case measure => simp [intOf]; omega
        · obtain rfl : j = 8 := by omega
          go_wp2
          go_roundw
          case rel => exact ⟨i + 1, by omega, by go_num, by rw [show 8 * (i + 1) = 8 * i + 8 by omega], Lib.hid (RB.out.trans (hl2.out.mono RB.out.size))⟩
          case measure => simp [intOf]; omega
    · obtain rfl : i = k := by omega
      rw [List.take_of_length_le (by rw [HL.out]; exact Nat.le_refl _)]
      go_wp2
      go_ret
      exact ⟨rfl, RB.out⟩
end
end Go.Proofs.YtljmigfjlndpbaaDoor
