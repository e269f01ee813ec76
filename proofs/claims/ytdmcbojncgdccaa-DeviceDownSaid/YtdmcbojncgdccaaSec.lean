/- Sectors as values: what is made, laid, taken and compared. -/
import Derived.Test.YtdmcbojncgdccaaDev
import Derived.Laws.StructEq
import Derived.Deep.WholeRow
namespace Go.Proofs.Ytdmcbojncgdccaa
open Go.RowKit

section
variable (w : World)
theorem alloc_sec : (Instr.alloc 63 true (.tuple #[])).run Try.prog w = .ok (.pointer (some ⟨w.heap.size, 0, none⟩)) (w.alloc (.cells (u8s Z).toArray 63)) := by kernel_rfl
theorem box_sec (s : List UInt8) : (Instr.box 63 (secv s)).run Try.prog w = .ok (.pointer (some ⟨w.heap.size, 0, none⟩)) (w.alloc (.cells (u8s s).toArray 63)) := by rfl
theorem build_sec : (Instr.build 63 #[]).run Try.prog w = .ok (secv Z) w := by kernel_rfl
theorem zero_sec : (zeroValue 63).run Try.prog w = .ok (secv Z) w := by kernel_rfl
theorem size_sec : (Try.prog.info? 63).map (·.size) = some 64 := by kernel_rfl
theorem secv_cells (s : List UInt8) : (secv s).cells = (u8s s).toArray := rfl
variable {w}
theorem load_sec {g : Nat} {e : TypeId} {fr : Nat × Nat} {s : List UInt8} (h : w.heap[g]? = some (.cells (u8s s).toArray e fr)) (hs : s.length = 64) : (Instr.loadAt 63 (.pointer (some ⟨g, 0, none⟩))).run Try.prog w = .ok (secv s) w := by
  simp only [Instr.loadAt, Instr.sureAddr, Sem.run_bind, Sem.run_pure, Result.andThen_ok]
  exact run_loadVar_row w g e _ _ fr _ h Try.underlying63 rfl (by rw [size_sec]; simp [u8s_len, hs])
theorem store_sec {g : Nat} {e : TypeId} {s : List UInt8} {cur : Array Value} (h : w.heap[g]? = some (.cells cur e (0, 0))) (hc : cur.size = 64) (hs : s.length = 64) : (Instr.storeAt 63 (.pointer (some ⟨g, 0, none⟩)) (secv s)).run Try.prog w = .ok () (w.setRow g (u8s s).toArray) := by
  have hst := run_storeCells_at Try.prog g 0 e (u8s s) 0 cur w h (by rw [u8s_len]; omega) (u8s_one s)
  simp only [Nat.add_zero, Nat.zero_add, List.take_zero, List.nil_append] at hst
  rw [List.drop_of_length_le (by rw [u8s_len, Array.length_toList]; omega), List.append_nil] at hst
  have hz : ∃ i, Try.prog.info? 63 = some i ∧ i.size = 64 := by
    have := size_sec
    cases hi : Try.prog.info? 63 with
    | none => rw [hi] at this; cases this
    | some i => rw [hi] at this; exact ⟨i, rfl, by simpa using this⟩
  obtain ⟨i, hi, hi64⟩ := hz
  have e1 : (secv s).cells.size = 64 := by rw [secv_cells]; simp [u8s_len, hs]
  have e2 : (secv s).cells.toList = u8s s := by rw [secv_cells]
  simp [Instr.storeAt, Instr.sureAddr, storeVar, sizeOf, typeInfo, hi, hi64, e1, e2, hst, Result.andThen]
theorem store_new (w : World) (s : List UInt8) (hs : s.length = 64) : (Instr.storeAt 63 (.pointer (some ⟨w.heap.size, 0, none⟩)) (secv s)).run Try.prog (w.alloc (.cells (u8s Z).toArray 63)) = .ok () (w.alloc (.cells (u8s s).toArray 63)) := by
  rw [store_sec (heap_alloc_new w _) rfl hs, World.setRow_alloc_new]
end

/-- One cell after the other. -/
def eqAll (d : Nat) (e : TypeId) (n : Nat) (xs ys : Array Value) : List Nat → Sem Bool
  | [] => pure true
  | i :: is => do
    let a ← part e xs (i * n)
    let b ← part e ys (i * n)
    let r ← Op.equalIn d e a b
    if (!r) = true then pure false else eqAll d e n xs ys is
section
variable {P : Program}
theorem run_equalIn_arr (d : Nat) (w : World) (t e : TypeId) (n : Nat) (xs ys : Array Value) (ht : P.underlying t = some (.array n e)) (hz : (P.info? e).map (·.size) = some 1) :
    (Op.equalIn (d + 1) t (.agg xs) (.agg ys)).run P w = (eqAll d e 1 xs ys (List.range' 0 n)).run P w := by
  obtain ⟨i, hi, hi1⟩ : ∃ i, P.info? e = some i ∧ i.size = 1 := by
    cases hi : P.info? e with
    | none => rw [hi] at hz; cases hz
    | some i => rw [hi] at hz; exact ⟨i, rfl, by simpa using hz⟩
  have hsz : (sizeOf e).run P w = .ok 1 w := by simp [sizeOf, typeInfo, hi, hi1, Result.andThen]
  simp only [Op.equalIn, Sem.run_bind, run_underlying ht, Result.andThen_ok, hsz]
  simp only [Std.Legacy.Range.forIn_eq_forIn_range', Std.Legacy.Range.size, Nat.sub_zero, Nat.add_sub_cancel, Nat.div_one]
  generalize List.range' 0 n 1 = is
  clear hsz
  induction is generalizing w with
  | nil => simp [eqAll]
  | cons i is ih =>
    simp only [List.forIn_cons, eqAll, Sem.run_bind, Sem.run_ite]
    generalize (part e xs (i * 1)).run P w = r1
    cases r1 with
    | ok a w1 =>
      simp only [Result.andThen_ok]
      generalize (part e ys (i * 1)).run P w1 = r2
      cases r2 with
      | ok b w2 =>
        simp only [Result.andThen_ok]
        generalize (Op.equalIn d e a b).run P w2 = r3
        cases r3 with
        | ok r w3 =>
          cases r
          · simp only [Result.andThen_ok, Bool.not_false, if_true, Sem.run_pure]
          · simp only [Result.andThen_ok, Bool.not_true, Bool.false_eq_true, if_false, Sem.run_pure]
            exact ih w3
        | halt x w3 => simp [Result.andThen]
      | halt x w2 => simp [Result.andThen]
    | halt x w1 => simp [Result.andThen]
theorem run_eqAll (d : Nat) (e : TypeId) (he : P.underlying e = some (.int .u8)) (s u : List UInt8) (hsu : s.length = u.length) (w : World) : ∀ (m k : Nat), k + m = s.length → s.take k = u.take k →
    (eqAll (d + 1) e 1 (u8s s).toArray (u8s u).toArray (List.range' k m)).run P w = .ok (decide (s = u)) w := by
  have hpart : ∀ (l : List UInt8) (k : Nat) (x : UInt8), l[k]? = some x → (part e (u8s l).toArray (k * 1)).run P w = .ok (u8 x) w := by
    intro l k x hk
    have ha : (isAgg e).run P w = .ok false w := by unfold isAgg; rw [Sem.run_bind, run_underlying he w]; rfl
    have hg : (u8s l)[k]? = some (u8 x) := by simp [u8s, hk]
    simp [part, Sem.run_bind, ha, hg, Result.andThen]
  intro m
  induction m with
  | zero =>
    intro k hk ht
    have : s = u := by rwa [List.take_of_length_le (by omega), List.take_of_length_le (by omega)] at ht
    simp [eqAll, this]
  | succ m ih =>
    intro k hk ht
    have h1 : k < s.length := by omega
    have h2 : k < u.length := by omega
    rw [List.range'_succ]
    simp only [eqAll, Sem.run_bind, hpart s k s[k] (List.getElem?_eq_getElem h1), hpart u k u[k] (List.getElem?_eq_getElem h2), Result.andThen_ok, u8]
    rw [run_equalIn_int w d e .u8 .u8 _ _ he]
    by_cases hx : s[k] = u[k]
    · simp only [hx, beq_self_eq_true, Result.andThen_ok, Bool.not_true, Bool.false_eq_true, if_false]
      exact ih (k + 1) (by omega) (by rw [List.take_succ_eq_append_getElem h1, List.take_succ_eq_append_getElem h2, ht, hx])
    · have hne : ((s[k].toNat : Int) == (u[k].toNat : Int)) = false := by
        simp only [beq_eq_false_iff_ne, ne_eq]
        intro e
        exact hx (UInt8.toNat_inj.1 (by exact_mod_cast e))
      have hsn : s ≠ u := fun e => hx (by subst e; rfl)
      simp [hne, hsn, Result.andThen]
end
theorem eql_sec (s u : List UInt8) (hs : s.length = 64) (hu : u.length = 64) (w : World) : (binOp .eql 63 (secv s) (secv u)).run Try.prog w = .ok (.bool (decide (s = u))) w := by
  unfold secv
  rw [run_eql_struct, run_equalIn_arr 9999 w 63 5 64 _ _ Try.underlying63 (by kernel_rfl), run_eqAll 9998 5 Try.underlying5 s u (by omega) w 64 0 (by omega) rfl]
  rfl
theorem guard_sec (s u : List UInt8) (x y : Operand) (w : World) : (eqGuard .eql 63 x y (secv s) (secv u)).run Try.prog w = .ok () w := run_eqGuard_agg w _ _ _ _ _ _ (by kernel_rfl)

section
variable {w : World} {ops : Array Oper} {rest : List Oper} {o : Oper} {a : Act} {Q : Exit → Act → World → Prop}
/-- A sector is laid into a box. -/
theorem wpL_box (hgd : o.guard = none) (x : Operand) (ho : o.op = .box 63 x) {s : List UInt8} (hx : a.eval x = secv s)
    (h : ∀ (W : World) (b : Nat), Hid (b = w.heap.size) → W.heap[b]? = some (.cells (u8s s).toArray 63 (0, 0)) → w.grownBy W none → Hid (W.heap.size = b + 1) → wpList Try.prog ops Q rest (a.put o.dst (.pointer (some ⟨b, 0, none⟩))) W) : wpList Try.prog ops Q (o :: rest) a w := by
  refine wpList_plain hgd fun K hK => ?_
  have hr := box_sec w s
  unfold Oper.wp
  simp [execOp, ho, hx, hr, Result.andThen]
  exact hK _ _ (h _ _ (Lib.hid rfl) (heap_alloc_new w _) (World.grownBy_alloc _ _ _) (Lib.hid (by simp)))
/-- A new sector of noughts. -/
theorem wpL_new (hgd : o.guard = none) (ho : o.op = .alloc 63)
    (h : ∀ (W : World) (b : Nat), Hid (b = w.heap.size) → W.heap[b]? = some (.cells (u8s Z).toArray 63 (0, 0)) → w.grownBy W none → Hid (W.heap.size = b + 1) → wpList Try.prog ops Q rest (a.put o.dst (.pointer (some ⟨b, 0, none⟩))) W) : wpList Try.prog ops Q (o :: rest) a w := by
  refine wpList_plain hgd fun K hK => ?_
  have hr := alloc_sec w
  unfold Oper.wp
  simp [execOp, ho, hr, Result.andThen]
  exact hK _ _ (h _ _ (Lib.hid rfl) (heap_alloc_new w _) (World.grownBy_alloc _ _ _) (Lib.hid (by simp)))
/-- A sector is taken out of its block. -/
theorem wpL_load (hgd : o.guard = none) (x : Operand) (ho : o.op = .load 63 x) {g : Nat} {e : TypeId} {fr : Nat × Nat} {s : List UInt8} (hx : a.eval x = .pointer (some ⟨g, 0, none⟩)) (hr : w.heap[g]? = some (.cells (u8s s).toArray e fr)) (hs : s.length = 64)
    (h : wpList Try.prog ops Q rest (a.put o.dst (secv s)) w) : wpList Try.prog ops Q (o :: rest) a w := by
  refine wpList_plain hgd fun K hK => ?_
  have hrun := load_sec hr hs
  unfold Oper.wp
  simp [execOp, ho, hx, hrun, Result.andThen]
  exact hK _ _ h
/-- A sector is laid into its block. -/
theorem wpL_store (hgd : o.guard = none) (x y : Operand) (ho : o.op = .store 63 x y) {g : Nat} {e : TypeId} {s : List UInt8} {cur : Array Value} (hx : a.eval x = .pointer (some ⟨g, 0, none⟩)) (hy : a.eval y = secv s) (hr : w.heap[g]? = some (.cells cur e (0, 0))) (hc : cur.size = 64) (hs : s.length = 64)
    (h : ∀ W : World, W.heap[g]? = some (.cells (u8s s).toArray e (0, 0)) → w.grownBy W (some g) → Hid (W.heap.size = w.heap.size) → wpList Try.prog ops Q rest (a.put o.dst undef) W) : wpList Try.prog ops Q (o :: rest) a w := by
  refine wpList_plain hgd fun K hK => ?_
  have hrun := store_sec hr hc hs
  unfold Oper.wp
  simp [execOp, ho, hx, hy, hrun, Result.andThen]
  exact hK _ _ (h _ (setRow_heap w g cur _ e _ hr) ⟨rfl, rfl, rfl, by simp, fun k _ hk => setRow_other w g k _ (fun e => hk (by rw [e]))⟩ (Lib.hid (by simp)))
/-- The sector of noughts. -/
theorem wpL_zero (hgd : o.guard = none) (ho : o.op = .build 63 #[]) (h : wpList Try.prog ops Q rest (a.put o.dst (secv Z)) w) : wpList Try.prog ops Q (o :: rest) a w := by
  refine wpList_plain hgd fun K hK => ?_
  have hrun := build_sec w
  unfold Oper.wp
  simp only [execOp, ho, List.map_toArray, List.map_nil, Sem.run_bind, hrun, Result.andThen_ok, Sem.run_pure]
  exact hK _ _ h
/-- Whether two sectors are the same. -/
theorem wpL_eql (hgd : o.guard = none) (x y : Operand) (t : TypeId) (ho : o.op = .binOp .eql 63 x y t) {s u : List UInt8} (hx : a.eval x = secv s) (hy : a.eval y = secv u) (hs : s.length = 64) (hu : u.length = 64) (b : Bool) (hb : b = decide (s = u))
    (h : wpList Try.prog ops Q rest (a.put o.dst (.bool b)) w) : wpList Try.prog ops Q (o :: rest) a w := by
  refine wpList_plain hgd fun K hK => ?_
  have h1 := eql_sec s u hs hu w
  have h2 := guard_sec s u x y w
  rw [← hb] at h1
  unfold Oper.wp
  simp only [execOp, ho, hx, hy, Sem.run_bind, h1, h2, Result.andThen_ok, Sem.run_pure]
  exact hK _ _ h
end

end Go.Proofs.Ytdmcbojncgdccaa
