/- Images as values: what is made, laid, taken and compared. An image that comes in, read as data. What an image is asked: how many blocks, whether it may be. Contracts of store, its sizes. -/
import Derived.Test.YtpalmobmabkadaaGreatDoorImM
import Derived.Test.YtpalmobmabkadaaGreatDoorTqM
import Derived.Deep.MidRow
import Derived.Test.YtpalmobmabkadaaGreatDoorDmathM
import Derived.Test.YtpalmobmabkadaaGreatDoorSpanM
import Derived.Test.YtpalmobmabkadaaGreatDoorMarks2M
import Derived.Test.YtpalmobmabkadaaGreatDoorFjoinbZM
namespace Go.Proofs.YtpalmobmabkadaaGreatDoor
open Go.RowKit
set_option maxRecDepth 20000

structure ImT (P : Program) (ty mt tt ct : TypeId) : Prop where
  tab : TabT P tt ct
  size : (P.info? ty).map (·.size) = some 19
  msize : (P.info? mt).map (·.size) = some 2
  und : P.underlying ty = some (.struct (P.fieldsOf ty))
  mund : P.underlying mt = some (.struct (P.fieldsOf mt))
  flds : ∃ f0 f1 f2, (P.fieldsOf ty).toList = [f0, f1, f2] ∧ f0.name ≠ "_" ∧ f1.name ≠ "_" ∧ f2.name ≠ "_" ∧ f0.type = mt ∧ f0.offset = 0 ∧ P.underlying f1.type = some .string ∧ f1.offset = 2 ∧ f2.type = tt ∧ f2.offset = 3
  mflds : ∃ g0 g1, (P.fieldsOf mt).toList = [g0, g1] ∧ g0.name ≠ "_" ∧ g1.name ≠ "_" ∧ P.underlying g0.type = some (.int .u64) ∧ g0.offset = 0 ∧ P.underlying g1.type = some (.int .u64) ∧ g1.offset = 1
  stood : P.stoodInHeld ty = false
  mstood : P.stoodInHeld mt = false
  zero : ∀ w, (zeroValue ty).run P w = .ok (imv I0) w
  build : ∀ w, (Instr.build ty #[]).run P w = .ok (imv I0) w
  guard : P.eqGuardType P.depth ty = false

theorem imA : ImT Tryz.prog 43 36 41 39 where
  tab := tabA
  size := by kernel_rfl
  msize := by kernel_rfl
  und := by unfold Program.fieldsOf; rw [Tryz.underlying43]
  mund := by unfold Program.fieldsOf; rw [Tryz.underlying36]
  flds := by
    unfold Program.fieldsOf
    rw [Tryz.underlying43]
    exact ⟨_, _, _, rfl, by simp, by simp, by simp, rfl, rfl, Tryz.underlying9, rfl, rfl, rfl⟩
  mflds := by
    unfold Program.fieldsOf
    rw [Tryz.underlying36]
    exact ⟨_, _, rfl, by simp, by simp, Tryz.underlying34, rfl, Tryz.underlying34, rfl⟩
  stood := by kernel_rfl
  mstood := by kernel_rfl
  zero := fun w => by kernel_rfl
  build := fun w => by kernel_rfl
  guard := by kernel_rfl

section
variable {P : Program} {w : World}
theorem eqFieldsC (d : Nat) (xs ys : Array Value) (f : Field) (fs : List Field) (n : f.name ≠ "_") (a b : Value) (r : Bool) (h : (Go.part f.type xs f.offset).run P w = .ok a w) (k : (Go.part f.type ys f.offset).run P w = .ok b w)
    (e : (Op.equalIn d f.type a b).run P w = .ok r w) : (Op.eqFields d xs ys (f :: fs)).run P w = if r = true then (Op.eqFields d xs ys fs).run P w else .ok false w := by
  rw [Op.eqFields, if_pos n]
  cases r
  · simp only [Sem.run_bind, h, k, e, Result.andThen_ok, Bool.not_false, if_true, Sem.run_pure, Bool.false_eq_true, if_false]
  · simp only [Sem.run_bind, h, k, e, Result.andThen_ok, Bool.not_true, Bool.false_eq_true, if_false, if_true]
theorem eqFields0 (d : Nat) (xs ys : Array Value) : (Op.eqFields d xs ys []).run P w = .ok true w := by
  rw [Op.eqFields]
  rfl
/-- A part of a row that is one cell, or a row itself. -/
theorem part_one {t : TypeId} {D : TypeDesc} (ht : P.underlying t = some D) (hD : D.isRow = false) {cs : Array Value} {j : Nat} {x : Value} (hx : cs[j]? = some x) : (Go.part t cs j).run P w = .ok x w := by
  have ha : (isAgg t).run P w = .ok false w := by
    unfold isAgg
    rw [Sem.run_bind, run_underlying ht w]
    cases D <;> first | rfl | simp [TypeDesc.isRow] at hD
  simp [Go.part, Sem.run_bind, ha, hx, Result.andThen]
theorem part_row {t : TypeId} {D : TypeDesc} {n : Nat} (ht : P.underlying t = some D) (hD : D.isRow = true) (hn : (P.info? t).map (·.size) = some n) (cs : Array Value) (j : Nat) : (Go.part t cs j).run P w = .ok (.agg (cs.extract j (j + n))) w := by
  have ha : (isAgg t).run P w = .ok true w := by
    unfold isAgg
    rw [Sem.run_bind, run_underlying ht w]
    cases D <;> first | rfl | simp [TypeDesc.isRow] at hD
  have hs : (Go.sizeOf t).run P w = .ok n w := run_size hn
  simp only [Go.part, Sem.run_bind, ha, hs, Result.andThen_ok, if_true, Sem.run_pure]

theorem ic_marks (i : Im) : (icells i).toArray.extract 0 (0 + 2) = #[.int .u64 (i.L : Int), .int .u64 (i.B : Int)] := by
  apply Array.ext'
  simp [icells]
theorem ic_table (i : Im) (h : i.T.length = 8) : (icells i).toArray.extract 3 (3 + 16) = (tcells i.T).toArray := by
  apply Array.ext'
  have hl := tcells_len i.T
  simp [icells, List.extract_eq_take_drop]
  rw [List.take_of_length_le (by omega)]
variable {ty mt tt ct : TypeId}
theorem str_beq (a b : List UInt8) : ((str a).toList == (str b).toList) = decide (a = b) := by
  rw [Bool.eq_iff_iff]
  simp only [beq_iff_eq, decide_eq_true_eq]
  exact ⟨str_inj, fun e => by rw [e]⟩
theorem ImT.eqM (h : ImT P ty mt tt ct) (d : Nat) (i j : Im) : (Op.equalIn (d + 2) mt (.agg #[.int .u64 (i.L : Int), .int .u64 (i.B : Int)]) (.agg #[.int .u64 (j.L : Int), .int .u64 (j.B : Int)])).run P w = .ok (decide (i.L = j.L ∧ i.B = j.B)) w := by
  obtain ⟨f0, f1, hf, n0, n1, u0, o0, u1, o1⟩ := h.mflds
  rw [run_equalIn_struct w (d + 1) mt _ _ h.mund h.mstood, hf]
  rw [eqFieldsC (d + 1) _ _ f0 [f1] n0 _ _ _ (part_one u0 rfl (by rw [o0]; rfl)) (part_one u0 rfl (by rw [o0]; rfl)) (run_equalIn_int w d _ .u64 .u64 _ _ u0),
    eqFieldsC (d + 1) _ _ f1 [] n1 _ _ _ (part_one u1 rfl (by rw [o1]; rfl)) (part_one u1 rfl (by rw [o1]; rfl)) (run_equalIn_int w d _ .u64 .u64 _ _ u1), eqFields0]
  by_cases a : i.L = j.L
  · rw [if_pos (by simp [a])]
    by_cases b : i.B = j.B
    · rw [if_pos (by simp [b])]; simp [a, b]
    · rw [if_neg (by simp; omega)]; simp [b]
  · rw [if_neg (by simp; omega)]; simp [a]
theorem im_ext {i j : Im} : (i = j) ↔ (i.L = j.L ∧ i.B = j.B) ∧ i.l = j.l ∧ i.T = j.T := by
  cases i; cases j
  simp only [Im.mk.injEq]
  exact ⟨fun ⟨a, b, c, d⟩ => ⟨⟨a, b⟩, c, d⟩, fun ⟨⟨a, b⟩, c, d⟩ => ⟨a, b, c, d⟩⟩
theorem ImT.eqIn (h : ImT P ty mt tt ct) (d : Nat) (i j : Im) (hi : i.T.length = 8) (hj : j.T.length = 8) : (Op.equalIn (d + 4) ty (imv i) (imv j)).run P w = .ok (decide (i = j)) w := by
  obtain ⟨f0, f1, f2, hf, n0, n1, n2, t0, o0, u1, o1, t2, o2⟩ := h.flds
  unfold imv
  rw [run_equalIn_struct w (d + 3) ty _ _ h.und h.stood, hf]
  have p0 : ∀ k : Im, (Go.part f0.type (icells k).toArray f0.offset).run P w = .ok (.agg #[.int .u64 (k.L : Int), .int .u64 (k.B : Int)]) w := fun k => by
    rw [t0, o0, part_row h.mund rfl h.msize, ic_marks]
  have p1 : ∀ k : Im, (Go.part f1.type (icells k).toArray f1.offset).run P w = .ok (.string (str k.l)) w := fun k => part_one u1 rfl (by rw [o1]; rfl)
  have p2 : ∀ k : Im, k.T.length = 8 → (Go.part f2.type (icells k).toArray f2.offset).run P w = .ok (tbv k.T) w := fun k hk => by
    rw [t2, o2, part_row h.tab.und rfl h.tab.size, ic_table k hk]; rfl
  rw [eqFieldsC (d + 3) _ _ f0 [f1, f2] n0 _ _ _ (p0 i) (p0 j) (by rw [t0]; exact h.eqM (d + 1) i j),
    eqFieldsC (d + 3) _ _ f1 [f2] n1 _ _ _ (p1 i) (p1 j) (run_equalIn_string w (d + 2) _ _ _ u1),
    eqFieldsC (d + 3) _ _ f2 [] n2 _ _ _ (p2 i hi) (p2 j hj) (by rw [t2]; exact h.tab.eqIn d i.T j.T hi hj), eqFields0, str_beq]
  have hx := im_ext (i := i) (j := j)
  by_cases a : i.L = j.L ∧ i.B = j.B
  · rw [if_pos (by simp [a])]
    by_cases b : i.l = j.l
    · rw [if_pos (by simp [b])]
      by_cases c : i.T = j.T
      · rw [if_pos (by simp [c]), decide_eq_true (hx.2 ⟨a, b, c⟩)]
      · rw [if_neg (by simp [c]), decide_eq_false (fun e => c (hx.1 e).2.2)]
    · rw [if_neg (by simp [b]), decide_eq_false (fun e => b (hx.1 e).2.1)]
  · rw [if_neg (by simpa using a), decide_eq_false (fun e => a (hx.1 e).1)]
theorem ImT.eql (h : ImT P ty mt tt ct) (i j : Im) (hi : i.T.length = 8) (hj : j.T.length = 8) : (binOp .eql ty (imv i) (imv j)).run P w = .ok (.bool (decide (i = j))) w := by
  have := h.eqIn (w := w) 9996 i j hi hj
  unfold imv at this ⊢
  rw [run_eql_struct, this]
  rfl
theorem ImT.neq (h : ImT P ty mt tt ct) (i j : Im) (hi : i.T.length = 8) (hj : j.T.length = 8) : (binOp .neq ty (imv i) (imv j)).run P w = .ok (.bool (!decide (i = j))) w := by
  have := h.eqIn (w := w) 9996 i j hi hj
  unfold imv at this ⊢
  rw [run_neq_struct, this]
  rfl
theorem ImT.guarded (h : ImT P ty mt tt ct) (op : BinOp) (x y : Operand) (i j : Im) : (eqGuard op ty x y (imv i) (imv j)).run P w = .ok () w := run_eqGuard_agg w _ _ _ _ _ _ h.guard
theorem ImT.loads (h : ImT P ty mt tt ct) {g : Nat} {e : TypeId} {fr : Nat × Nat} {i : Im} (hr : w.heap[g]? = some (.cells (icells i).toArray e fr)) (hi : i.T.length = 8) : (Instr.loadAt ty (.pointer (some ⟨g, 0, none⟩))).run P w = .ok (imv i) w := by
  simp only [Instr.loadAt, Instr.sureAddr, Sem.run_bind, Sem.run_pure, Result.andThen_ok]
  exact run_loadVar_row w g e _ _ fr _ hr h.und rfl (by rw [h.size]; simp [icells_19 hi])
theorem ImT.loadsT (h : ImT P ty mt tt ct) {g : Nat} {e : TypeId} {fr : Nat × Nat} {i : Im} (hr : w.heap[g]? = some (.cells (icells i).toArray e fr)) (hi : i.T.length = 8) : (Instr.loadAt tt (.pointer (some ⟨g, 3, none⟩))).run P w = .ok (tbv i.T) w := by
  have h1 := World.rangeAt_of_block hr 3 16
  rw [ic_table i hi, List.toList_toArray] at h1
  exact run_loadAt_mid w g 3 tt (tcells i.T) _ h1 h.tab.und rfl (by rw [h.tab.size, tcells_len, hi])
theorem ImT.loadsM (h : ImT P ty mt tt ct) {g : Nat} {e : TypeId} {fr : Nat × Nat} {i : Im} (hr : w.heap[g]? = some (.cells (icells i).toArray e fr)) : (Instr.loadAt mt (.pointer (some ⟨g, 0, none⟩))).run P w = .ok (.agg #[.int .u64 (i.L : Int), .int .u64 (i.B : Int)]) w := by
  have h1 := World.rangeAt_of_block hr 0 2
  rw [ic_marks i] at h1
  exact run_loadAt_mid w g 0 mt _ _ h1 h.mund rfl (by rw [h.msize]; rfl)
theorem ImT.stores (h : ImT P ty mt tt ct) {g : Nat} {e : TypeId} {i j : Im} (hr : w.heap[g]? = some (.cells (icells i).toArray e (0, 0))) (hi : i.T.length = 8) (hj : j.T.length = 8) : (Instr.storeAt ty (.pointer (some ⟨g, 0, none⟩)) (imv j)).run P w = .ok () (w.setRow g (icells j).toArray) := by
  simp only [Instr.storeAt, Instr.sureAddr, Sem.run_bind, Sem.run_pure, Result.andThen_ok]
  exact run_storeVar_row w g e ty _ _ hr (by rw [h.size]; simp [icells_19 hj]) (by simp [icells_19 hi, icells_19 hj]) (by
    rw [Array.all_eq_true_iff_forall_mem]
    intro x hx
    exact icells_one j x (by simpa using hx))
end

section
variable {P : Program} {w : World} {ty mt tt ct : TypeId} {ops : Array Oper} {rest : List Oper} {o : Oper} {a : Act} {Q : Exit → Act → World → Prop}
/-- A new row, or a box of one. -/
def NewR (w : World) (ty : TypeId) (cs : List Value) (W : World) (b : Nat) : Prop := Hid (b = w.heap.size) ∧ Hid (W.heap[b]? = some (.cells cs.toArray ty (0, 0))) ∧ Below w.heap.size w W ∧ Hid (W.heap.size = b + 1)
theorem newR (w : World) (ty : TypeId) (cs : List Value) : NewR w ty cs (w.alloc (.cells cs.toArray ty)) w.heap.size :=
  ⟨Lib.hid rfl, Lib.hid (heap_alloc_new w _), (Below.refl _ _).alloc (Nat.le_refl _) _, Lib.hid (by simp)⟩
theorem wpL_rbox (hgd : o.guard = none) (x : Operand) (ho : o.op = .box ty x) {cs : List Value} (hx : a.eval x = .agg cs.toArray)
    (h : ∀ (W : World) (b : Nat), NewR w ty cs W b → wpList P ops Q rest (a.put o.dst (.pointer (some ⟨b, 0, none⟩))) W) : wpList P ops Q (o :: rest) a w := by
  refine wpList_plain hgd fun K hK => ?_
  have hr : (Instr.box ty (.agg cs.toArray)).run P w = .ok (.pointer (some ⟨w.heap.size, 0, none⟩)) (w.alloc (.cells cs.toArray ty)) := rfl
  unfold Oper.wp
  simp only [execOp, ho, hx, Sem.run_bind, hr, Result.andThen_ok, Sem.run_pure]
  exact hK _ _ (h _ _ (newR w ty cs))
theorem wpL_val (hw : Region.wanted o (yielded ops a.tmps) = true) (v : Value) (hrun : (execOp a.eval o).run P w = .ok (.value v) w) (h : wpList P ops Q rest (a.put o.dst v) w) : wpList P ops Q (o :: rest) a w := by
  refine wpList_step fun K hK => ?_
  rw [if_pos hw]
  unfold Oper.wp
  rw [hrun]
  exact hK _ _ h
theorem ImT.wpNew (h : ImT P ty mt tt ct) (hgd : o.guard = none) (ho : o.op = .alloc ty)
    (hk : ∀ (W : World) (b : Nat), NewR w ty (icells I0) W b → wpList P ops Q rest (a.put o.dst (.pointer (some ⟨b, 0, none⟩))) W) : wpList P ops Q (o :: rest) a w := by
  refine wpList_plain hgd fun K hK => ?_
  have hr : (Instr.alloc ty true (.tuple #[])).run P w = .ok (.pointer (some ⟨w.heap.size, 0, none⟩)) (w.alloc (.cells (icells I0).toArray ty)) := by
    have h0 : (newVar ty (imv I0)).run P w = .ok ⟨w.heap.size, 0, none⟩ (w.alloc (.cells (icells I0).toArray ty)) := run_newVar ty (imv I0)
    simp only [Instr.alloc, Sem.run_bind, h.zero, Result.andThen_ok, h0, Sem.run_pure]
  unfold Oper.wp
  simp only [execOp, ho, Sem.run_bind, hr, Result.andThen_ok, Sem.run_pure]
  exact hK _ _ (hk _ _ (newR w ty _))
theorem ImT.wpLoad (h : ImT P ty mt tt ct) (hw : Region.wanted o (yielded ops a.tmps) = true) (x : Operand) (ho : o.op = .load ty x) {g : Nat} {e : TypeId} {fr : Nat × Nat} {i : Im} (hx : a.eval x = .pointer (some ⟨g, 0, none⟩)) (hr : w.heap[g]? = some (.cells (icells i).toArray e fr)) (hi : i.T.length = 8)
    (hk : wpList P ops Q rest (a.put o.dst (imv i)) w) : wpList P ops Q (o :: rest) a w :=
  wpL_val hw _ (by have hrun := h.loads hr hi; simp only [execOp, ho, hx, Sem.run_bind, hrun, Result.andThen_ok, Sem.run_pure]) hk
theorem ImT.wpLoadT (h : ImT P ty mt tt ct) (hw : Region.wanted o (yielded ops a.tmps) = true) (x : Operand) (ho : o.op = .load tt x) {g : Nat} {e : TypeId} {fr : Nat × Nat} {i : Im} (hx : a.eval x = .pointer (some ⟨g, 3, none⟩)) (hr : w.heap[g]? = some (.cells (icells i).toArray e fr)) (hi : i.T.length = 8)
    (hk : wpList P ops Q rest (a.put o.dst (tbv i.T)) w) : wpList P ops Q (o :: rest) a w :=
  wpL_val hw _ (by have hrun := h.loadsT hr hi; simp only [execOp, ho, hx, Sem.run_bind, hrun, Result.andThen_ok, Sem.run_pure]) hk
theorem ImT.wpLoadM (h : ImT P ty mt tt ct) (hw : Region.wanted o (yielded ops a.tmps) = true) (x : Operand) (ho : o.op = .load mt x) {g : Nat} {e : TypeId} {fr : Nat × Nat} {i : Im} (hx : a.eval x = .pointer (some ⟨g, 0, none⟩)) (hr : w.heap[g]? = some (.cells (icells i).toArray e fr))
    (hk : wpList P ops Q rest (a.put o.dst (.agg #[.int .u64 (i.L : Int), .int .u64 (i.B : Int)])) w) : wpList P ops Q (o :: rest) a w :=
  wpL_val hw _ (by have hrun := h.loadsM hr; simp only [execOp, ho, hx, Sem.run_bind, hrun, Result.andThen_ok, Sem.run_pure]) hk
theorem ImT.wpBuild (h : ImT P ty mt tt ct) (hgd : o.guard = none) (ho : o.op = .build ty #[]) (hk : wpList P ops Q rest (a.put o.dst (imv I0)) w) : wpList P ops Q (o :: rest) a w := by
  refine wpList_plain hgd fun K hK => ?_
  have hrun := h.build w
  unfold Oper.wp
  simp only [execOp, ho, List.map_toArray, List.map_nil, Sem.run_bind, hrun, Result.andThen_ok, Sem.run_pure]
  exact hK _ _ hk
theorem ImT.wpStore (h : ImT P ty mt tt ct) (hgd : o.guard = none) (x y : Operand) (ho : o.op = .store ty x y) {g : Nat} {e : TypeId} {i j : Im} (hx : a.eval x = .pointer (some ⟨g, 0, none⟩)) (hy : a.eval y = imv j) (hr : w.heap[g]? = some (.cells (icells i).toArray e (0, 0))) (hi : i.T.length = 8) (hj : j.T.length = 8)
    (hk : ∀ W : World, Hid (W.heap[g]? = some (.cells (icells j).toArray e (0, 0))) → w.grownBy W (some g) → Hid (W.heap.size = w.heap.size) → wpList P ops Q rest (a.put o.dst undef) W) : wpList P ops Q (o :: rest) a w := by
  refine wpList_plain hgd fun K hK => ?_
  have hrun := h.stores hr hi hj
  unfold Oper.wp
  simp only [execOp, ho, hx, hy, Sem.run_bind, hrun, Result.andThen_ok, Sem.run_pure]
  exact hK _ _ (hk _ (Lib.hid (setRow_heap w g _ _ e _ hr)) ⟨rfl, rfl, rfl, by simp, fun k _ hk => setRow_other w g k _ (fun e => hk (by rw [e]))⟩ (Lib.hid (by simp)))
theorem ImT.wpEql (h : ImT P ty mt tt ct) (hw : Region.wanted o (yielded ops a.tmps) = true) (x y : Operand) (t : TypeId) (ho : o.op = .binOp .eql ty x y t) {i j : Im} (hx : a.eval x = imv i) (hy : a.eval y = imv j) (hi : i.T.length = 8) (hj : j.T.length = 8) {b : Bool} (hb : b = decide (i = j)) (hk : wpList P ops Q rest (a.put o.dst (.bool b)) w) : wpList P ops Q (o :: rest) a w :=
  wpL_val hw _ (by
    have h1 := h.eql (w := w) i j hi hj
    have h2 := h.guarded (w := w) .eql x y i j
    rw [hb]
    simp only [execOp, ho, hx, hy, Sem.run_bind, h1, h2, Result.andThen_ok, Sem.run_pure]) hk
theorem ImT.wpNeq (h : ImT P ty mt tt ct) (hw : Region.wanted o (yielded ops a.tmps) = true) (x y : Operand) (t : TypeId) (ho : o.op = .binOp .neq ty x y t) {i j : Im} (hx : a.eval x = imv i) (hy : a.eval y = imv j) (hi : i.T.length = 8) (hj : j.T.length = 8) {b : Bool} (hb : b = !decide (i = j)) (hk : wpList P ops Q rest (a.put o.dst (.bool b)) w) : wpList P ops Q (o :: rest) a w :=
  wpL_val hw _ (by
    have h1 := h.neq (w := w) i j hi hj
    have h2 := h.guarded (w := w) .neq x y i j
    rw [hb]
    simp only [execOp, ho, hx, hy, Sem.run_bind, h1, h2, Result.andThen_ok, Sem.run_pure]) hk
end
section
variable {P : Program} {ty mt tt ct : TypeId} {ops : Array Oper} {C : World → Prop} {K : Act → Prop} {o : Oper} {rest : List Oper} {a : Act}
theorem ImT.wpQload (h : ImT P ty mt tt ct) (hw : Region.wanted o (yielded ops a.tmps) = true) (x : Operand) (ho : o.op = .load ty x) {g : Nat} {e : TypeId} {fr : Nat × Nat} {i : Im} (hx : a.eval x = .pointer (some ⟨g, 0, none⟩)) (hr : ∀ w, C w → w.heap[g]? = some (.cells (icells i).toArray e fr)) (hi : i.T.length = 8) (hk : wpQuiet P ops C K rest (a.put o.dst (imv i))) : wpQuiet P ops C K (o :: rest) a :=
  wpQ_valw hw _ (fun w hC => by have hrun := h.loads (hr w hC) hi; simp only [execOp, ho, hx, Sem.run_bind, hrun, Result.andThen_ok, Sem.run_pure]) hk
theorem ImT.wpQloadT (h : ImT P ty mt tt ct) (hw : Region.wanted o (yielded ops a.tmps) = true) (x : Operand) (ho : o.op = .load tt x) {g : Nat} {e : TypeId} {fr : Nat × Nat} {i : Im} (hx : a.eval x = .pointer (some ⟨g, 3, none⟩)) (hr : ∀ w, C w → w.heap[g]? = some (.cells (icells i).toArray e fr)) (hi : i.T.length = 8) (hk : wpQuiet P ops C K rest (a.put o.dst (tbv i.T))) : wpQuiet P ops C K (o :: rest) a :=
  wpQ_valw hw _ (fun w hC => by have hrun := h.loadsT (hr w hC) hi; simp only [execOp, ho, hx, Sem.run_bind, hrun, Result.andThen_ok, Sem.run_pure]) hk
theorem ImT.wpQloadM (h : ImT P ty mt tt ct) (hw : Region.wanted o (yielded ops a.tmps) = true) (x : Operand) (ho : o.op = .load mt x) {g : Nat} {e : TypeId} {fr : Nat × Nat} {i : Im} (hx : a.eval x = .pointer (some ⟨g, 0, none⟩)) (hr : ∀ w, C w → w.heap[g]? = some (.cells (icells i).toArray e fr)) (hk : wpQuiet P ops C K rest (a.put o.dst (.agg #[.int .u64 (i.L : Int), .int .u64 (i.B : Int)]))) : wpQuiet P ops C K (o :: rest) a :=
  wpQ_valw hw _ (fun w hC => by have hrun := h.loadsM (hr w hC); simp only [execOp, ho, hx, Sem.run_bind, hrun, Result.andThen_ok, Sem.run_pure]) hk
theorem ImT.wpQeql (h : ImT P ty mt tt ct) (hw : Region.wanted o (yielded ops a.tmps) = true) (x y : Operand) (t : TypeId) (ho : o.op = .binOp .eql ty x y t) {i j : Im} (hx : a.eval x = imv i) (hy : a.eval y = imv j) (hi : i.T.length = 8) (hj : j.T.length = 8) {b : Bool} (hb : b = decide (i = j)) (hk : wpQuiet P ops C K rest (a.put o.dst (.bool b))) : wpQuiet P ops C K (o :: rest) a :=
  wpQ_valw hw (.bool b) (fun w _ => by
    have h1 := h.eql (w := w) i j hi hj
    have h2 := h.guarded (w := w) .eql x y i j
    rw [hb]
    simp only [execOp, ho, hx, hy, Sem.run_bind, h1, h2, Result.andThen_ok, Sem.run_pure]) hk
theorem ImT.wpQneq (h : ImT P ty mt tt ct) (hw : Region.wanted o (yielded ops a.tmps) = true) (x y : Operand) (t : TypeId) (ho : o.op = .binOp .neq ty x y t) {i j : Im} (hx : a.eval x = imv i) (hy : a.eval y = imv j) (hi : i.T.length = 8) (hj : j.T.length = 8) {b : Bool} (hb : b = !decide (i = j)) (hk : wpQuiet P ops C K rest (a.put o.dst (.bool b))) : wpQuiet P ops C K (o :: rest) a :=
  wpQ_valw hw (.bool b) (fun w _ => by
    have h1 := h.neq (w := w) i j hi hj
    have h2 := h.guarded (w := w) .neq x y i j
    rw [hb]
    simp only [execOp, ho, hx, hy, Sem.run_bind, h1, h2, Result.andThen_ok, Sem.run_pure]) hk
end

end Go.Proofs.YtpalmobmabkadaaGreatDoor

namespace Go.Proofs.YtpalmobmabkadaaGreatDoor
open Go.ChangeShapes Go.WideShapes Go.ChangeAt Go.RowKit

section
variable {H : Type} {enc : TypeId × Value → H} {P : Program} {W : World} {r : Reach} {b0 : Nat} {ty ct mt tt : TypeId} {v : Value} {d : DataW H} {p : List MemPlace}
theorem dec_tab (hT : TabT P ty ct) (hc : P.cellsOf ct = 2) (h1 : ∀ f ∈ (P.fieldsOf ct).toList, P.cellsOf f.type = 1) {cs : Array Value} (hsz : cs.size = 16) (h : DataW.Trod enc P W 0 (fun _ => true) true ty (.agg cs) d p) : ∃ T, Value.agg cs = tbv T ∧ Tok T := by
  obtain ⟨fuel, hf⟩ := h
  obtain ⟨f0, f1, hfs, n0, n1, u0, o0, u1, o1⟩ := hT.flds
  have c0 := h1 f0 (by rw [hfs]; simp)
  have c1 := h1 f1 (by rw [hfs]; simp)
  have hund : P.underlying ct = some (.struct #[f0, f1]) := by rw [hT.cund]; congr 2; exact Array.ext' hfs
  obtain ⟨xs, m, _, _, _, hlen, hel⟩ := DataW.trod_array hT.und hf
  have each : ∀ i, ∃ q : Nat × Nat, i < 8 → cs[i * 2]? = some (.int .u64 (q.1 : Int)) ∧ cs[i * 2 + 1]? = some (.int .u16 (q.2 : Int)) ∧ Cl.ok q := by
    intro i
    by_cases hi : i < 8
    · have hx := hel i hi
      rw [hc, List.getElem?_eq_getElem (by omega)] at hx
      obtain ⟨y0, y1, n', _, _, g0, g1⟩ := trod_struct2 hund hx
      rw [o0, c0, List.drop_zero] at g0
      rw [o1, c1] at g1
      obtain ⟨a, ea, _, wa⟩ := DataW.trod_int u0 g0
      obtain ⟨b, eb, _, wb⟩ := DataW.trod_int u1 g1
      have k0 : cs[i * 2]? = some (.int .u64 a) := by
        have h2 : (List.take 1 (List.take 2 (List.drop (i * 2) (Value.agg cs).cells.toList)))[0]? = some (.int .u64 a) := by rw [ea]; rfl
        rw [List.getElem?_take_of_lt (by decide), List.getElem?_take_of_lt (by decide), List.getElem?_drop] at h2
        simpa [Value.cells] using h2
      have k1 : cs[i * 2 + 1]? = some (.int .u16 b) := by
        have h2 : (List.take 1 (List.drop 1 (List.take 2 (List.drop (i * 2) (Value.agg cs).cells.toList))))[0]? = some (.int .u16 b) := by rw [eb]; rfl
        rw [List.getElem?_take_of_lt (by decide), List.getElem?_drop, List.getElem?_take_of_lt (by decide), List.getElem?_drop] at h2
        simpa [Value.cells] using h2
      have ra := wf_nat .u64 a wa rfl
      have rb := wf_nat .u16 b wb rfl
      have ra2 : a ≤ 18446744073709551615 := ra.2
      have rb2 : b ≤ 65535 := rb.2
      refine ⟨(a.toNat, b.toNat), fun _ => ⟨?_, ?_, ?_⟩⟩
      · rw [k0]; simp only [Int.toNat_of_nonneg ra.1]
      · rw [k1]; simp only [Int.toNat_of_nonneg rb.1]
      · exact ⟨by show a.toNat < _; omega, by show b.toNat < _; omega⟩
    · exact ⟨(0, 0), fun h => absurd h hi⟩
  obtain ⟨g, hg⟩ := Classical.axiomOfChoice each
  refine ⟨(List.range 8).map g, ?_, by simp, fun q hq => ?_⟩
  · unfold tbv
    congr 1
    apply Array.ext'
    apply List.ext_getElem?
    intro j
    by_cases hj : j < 16
    · have hp := tcells_get ((List.range 8).map g) (j / 2) (g (j / 2)) (by simp [show j / 2 < 8 by omega])
      have hq := hg (j / 2) (by omega)
      rcases Nat.mod_two_eq_zero_or_one j with hm | hm
      · rw [show j / 2 * 2 = j by omega] at hp hq
        rw [Array.getElem?_toList, hq.1, hp.1]
      · rw [show j / 2 * 2 + 1 = j by omega] at hp hq
        rw [Array.getElem?_toList, hq.2.1, hp.2]
    · rw [List.getElem?_eq_none (by rw [Array.length_toList]; omega), List.getElem?_eq_none (by rw [tcells_len]; simp; omega)]
  · obtain ⟨i, hi, rfl⟩ := List.mem_map.1 hq
    exact (hg i (List.mem_range.1 hi)).2.2
theorem okWide_struct' {fs : Array Field} (ht : P.underlying ty = some (.struct fs)) (h : Value.okWide P W r b0 ty v) : ∃ cs, v = .agg cs ∧ cs.size = P.cellsOf ty := by
  simp only [Value.okWide, ht] at h
  obtain ⟨cs, h1, h2, _⟩ := h
  exact ⟨cs, h1, h2⟩
theorem trod_marks (h : ImT P ty mt tt ct) (hm1 : ∀ f ∈ (P.fieldsOf mt).toList, P.cellsOf f.type = 1) {fuel : Nat} {cs : List Value} {x : DataW H × List MemPlace} (hl : cs.length = 2) (hx : DataW.trod enc P W 0 (fun _ => true) true fuel mt cs = some x) :
    ∃ a b : Nat, cs = [.int .u64 (a : Int), .int .u64 (b : Int)] ∧ a < 18446744073709551616 ∧ b < 18446744073709551616 := by
  obtain ⟨f0, f1, hf, n0, n1, u0, o0, u1, o1⟩ := h.mflds
  have c0 := hm1 f0 (by rw [hf]; simp)
  have c1 := hm1 f1 (by rw [hf]; simp)
  have hund : P.underlying mt = some (.struct #[f0, f1]) := by rw [h.mund]; congr 2; exact Array.ext' hf
  obtain ⟨y0, y1, n, _, _, g0, g1⟩ := trod_struct2 hund hx
  rw [o0, c0, List.drop_zero] at g0
  rw [o1, c1] at g1
  obtain ⟨a, ea, _, wa⟩ := DataW.trod_int u0 g0
  obtain ⟨b, eb, _, wb⟩ := DataW.trod_int u1 g1
  have ra := wf_nat .u64 a wa rfl
  have rb := wf_nat .u64 b wb rfl
  have ra2 : a ≤ 18446744073709551615 := ra.2
  have rb2 : b ≤ 18446744073709551615 := rb.2
  refine ⟨a.toNat, b.toNat, ?_, by omega, by omega⟩
  match cs, hl with
  | [x, y], _ =>
    simp only [List.take_succ_cons, List.take_zero, List.drop_succ_cons, List.drop_zero, List.cons.injEq, and_true] at ea eb
    rw [ea, eb]
    simp only [Int.toNat_of_nonneg ra.1, Int.toNat_of_nonneg rb.1]
theorem dec_image_at (h : ImT P ty mt tt ct) (hCm : P.cellsOf mt = 2) (hCt : P.cellsOf tt = 16) (hc : P.cellsOf ct = 2) (h1 : ∀ f ∈ (P.fieldsOf ct).toList, P.cellsOf f.type = 1) (hm1 : ∀ f ∈ (P.fieldsOf mt).toList, P.cellsOf f.type = 1)
    (hs1 : ∀ f, (P.fieldsOf ty)[1]? = some f → P.cellsOf f.type = 1) {cs : Array Value} (hsz : cs.size = 19) (hd : DataW.Trod enc P W 0 (fun _ => true) true ty (.agg cs) d p) : ∃ i : Im, Value.agg cs = imv i ∧ i.ok := by
  obtain ⟨fuel, hf⟩ := hd
  obtain ⟨f0, f1, f2, hfs, n0, n1, n2, t0, o0, u1, o1, t2, o2⟩ := h.flds
  have hfa : P.fieldsOf ty = #[f0, f1, f2] := Array.ext' hfs
  have c1 : P.cellsOf f1.type = 1 := hs1 f1 (by rw [hfa]; rfl)
  have hund : P.underlying ty = some (.struct #[f0, f1, f2]) := by rw [h.und, hfa]
  obtain ⟨xs, n, _, _, _, hlen, hel⟩ := DataW.trod_struct hund hf
  have hxl : xs.length = 3 := by simpa using hlen
  have g0 := hel 0 f0 rfl
  have g1 := hel 1 f1 rfl
  have g2 := hel 2 f2 rfl
  rw [t0, o0, hCm, List.drop_zero, List.getElem?_eq_getElem (by omega)] at g0
  rw [o1, c1, List.getElem?_eq_getElem (by omega)] at g1
  rw [t2, o2, hCt, List.getElem?_eq_getElem (by omega)] at g2
  have hcl : (Value.agg cs).cells.toList.length = 19 := by simpa [Value.cells] using hsz
  generalize hL : (Value.agg cs).cells.toList = L at *
  have hLc : cs.toList = L := hL
  obtain ⟨a, b, em, ha, hb⟩ := trod_marks h hm1 (by rw [List.length_take]; omega) g0
  obtain ⟨s, es, _, hss⟩ := DataW.trod_string u1 g1
  have ht16 : ((L.drop 3).take 16).toArray.size = 16 := by simp; omega
  have hx2 : 2 < xs.length := by omega
  have g2' : DataW.trod enc P W 0 (fun _ => true) true n tt (Value.agg ((L.drop 3).take 16).toArray).cells.toList = some ((xs[2]'hx2).1, (xs[2]'hx2).2) := g2
  obtain ⟨T, eT, hT⟩ := dec_tab (enc := enc) (W := W) h.tab hc h1 ht16 (show DataW.Trod enc P W 0 (fun _ => true) true tt (.agg ((L.drop 3).take 16).toArray) (xs[2]'hx2).1 (xs[2]'hx2).2 from ⟨n, g2'⟩)
  have eT2 : (L.drop 3).take 16 = tcells T := by
    have : ((L.drop 3).take 16).toArray = (tcells T).toArray := by unfold tbv at eT; exact Value.agg.inj eT
    simpa using this
  have hstr : s = str s.data.toList := by simp [str]
  refine ⟨⟨a, b, s.data.toList, T⟩, ?_, ha, hb, hT⟩
  unfold imv
  congr 1
  apply Array.ext'
  rw [hLc, List.toList_toArray]
  have h3 : L = L.take 2 ++ ((L.drop 2).take 1 ++ (L.drop 3).take 16) := by
    have e1 : (L.drop 3).take 16 = L.drop 3 := List.take_of_length_le (by rw [List.length_drop]; omega)
    rw [e1, show L.drop 3 = (L.drop 2).drop 1 by rw [List.drop_drop], List.take_append_drop, List.take_append_drop]
  rw [h3, em, es, eT2]
  show _ = Value.int .u64 (a : Int) :: .int .u64 (b : Int) :: .string (str s.data.toList) :: tcells T
  rw [← hstr]
  rfl
end
theorem marks_one : ∀ f ∈ (Tryz.prog.fieldsOf 36).toList, Tryz.prog.cellsOf f.type = 1 := by
  unfold Program.fieldsOf
  rw [Tryz.underlying36]
  intro f hf
  simp only [List.mem_cons, List.not_mem_nil, or_false] at hf
  rcases hf with rfl | rfl <;> kernel_rfl
theorem image_str : ∀ f, (Tryz.prog.fieldsOf 43)[1]? = some f → Tryz.prog.cellsOf f.type = 1 := by
  unfold Program.fieldsOf
  rw [Tryz.underlying43]
  intro f hf
  obtain rfl : _ = f := Option.some.inj hf
  exact (show Tryz.prog.cellsOf 9 = 1 by kernel_rfl)

end Go.Proofs.YtpalmobmabkadaaGreatDoor

namespace Go.Proofs.YtpalmobmabkadaaGreatDoor
open Go.RowKit
set_option maxRecDepth 20000

theorem icell0 {w : World} {b : Nat} {t : TypeId} {fr : Nat × Nat} {i : Im} (h : w.heap[b]? = some (.cells (icells i).toArray t fr)) : w.cell? ⟨b, 0, none⟩ = some (.int .u64 (i.L : Int)) := by rw [cell_of_row w b 0 _ _ _ h]; rfl
theorem icell1 {w : World} {b : Nat} {t : TypeId} {fr : Nat × Nat} {i : Im} (h : w.heap[b]? = some (.cells (icells i).toArray t fr)) : w.cell? ⟨b, 1, none⟩ = some (.int .u64 (i.B : Int)) := by rw [cell_of_row w b 1 _ _ _ h]; rfl
theorem icell2 {w : World} {b : Nat} {t : TypeId} {fr : Nat × Nat} {i : Im} (h : w.heap[b]? = some (.cells (icells i).toArray t fr)) : w.cell? ⟨b, 2, none⟩ = some (.string (str i.l)) := by rw [cell_of_row w b 2 _ _ _ h]; rfl
theorem ret_i64 {a b : Int} (h : a = b) : Ending.returned (.int .i64 a) = .returned (.int .i64 b) := by rw [h]
theorem ret_u32 {a b : Int} (h : a = b) : Ending.returned (.int .u32 a) = .returned (.int .u32 b) := by rw [h]
theorem ret_str {a b : List UInt8} (h : a = b) : Ending.returned (.string (str a)) = .returned (.string (str b)) := by rw [h]
theorem below_row {N : Nat} {w w' : World} (hb : Below N w w') {b : Nat} {o : Obj} (h : w.heap[b]? = some o) (hN : b < N) : w'.heap[b]? = some o := (hb.block b hN).trans h

theorem count_any (i : Im) (w : World) (hl : i.l.length ≤ 100000) :
    Calls Tryz.prog 83 #[imv i] w fun e w' => e = .returned (.int .u32 ((i.l.length / 8 : Nat) : Int)) ∧ Below w.heap.size w w' := by
  have hs : (str i.l).size = i.l.length := rfl
  have hw : IntKind.u32.wrap ((i.l.length : Int) / 8) = ((i.l.length / 8 : Nat) : Int) := by rw [IntKind.wrap_u32]; omega
  go_enter Tryz.func83, Tryz.ntmps83
  go_wp2_with (first
    | (refine wpL_rbox (cs := icells i) rfl (.tmp 0) rfl rfl ?_; intro W b hN; obtain ⟨hb, hr, hl1, hz⟩ := hN; have c2 := icell2 hr.out)
    | fail)
  go_ret
  exact ⟨ret_u32 (by omega), hl1⟩
theorem isize_any (n : Nat) (w : World) (hn : n < 4294967296) :
    Calls Tryz.prog 84 #[.int .u32 (n : Int)] w fun e w' => e = .returned (.int .i64 ((n * 8 : Nat) : Int)) ∧ Below w.heap.size w w' := by
  go_enter Tryz.func84, Tryz.ntmps84
  go_wp2
  go_ret
  exact ⟨ret_i64 (by omega), Below.refl _ _⟩

theorem szB_no {l : List UInt8} {n : Nat} (hn : n = l.length / 8) (h : ¬ (1 ≤ n ∧ n ≤ 64 ∧ l.length = n * 8)) : szB l = false := by
  unfold szB
  simp only [decide_eq_false_iff_not]
  omega
theorem szB_yes {l : List UInt8} {n : Nat} (hn : n = l.length / 8) (h : 1 ≤ n ∧ n ≤ 64 ∧ l.length = n * 8) : szB l = true := by
  unfold szB
  simp only [decide_eq_true_eq]
  omega
set_option maxHeartbeats 2000000 in
theorem igood_any (i : Im) (w : World) (hok : i.ok) (hlen : i.l.length ≤ 100000) (hT : Tab w) :
    Calls Tryz.prog 42 #[imv i] w fun e w' => e = .returned (.bool (igB i)) ∧ Below w.heap.size w w' := by
  have hcount := fun W => count_any i W hlen
  have hgd := fun W h => good_any i.L i.B W hok.1 hok.2.1 h
  have hs : (str i.l).size = i.l.length := rfl
  have hT8 := Lib.hid hok.2.2.1
  obtain ⟨n, hn⟩ : ∃ n, n = i.l.length / 8 := ⟨_, rfl⟩
  rw [← hn] at hcount
  have hisz := fun W => isize_any n W (by omega)
  have HC := Lib.hid hcount
  have HG := Lib.hid hgd
  obtain ⟨m, hm⟩ : ∃ m, m = n * 8 := ⟨_, rfl⟩
  rw [← hm] at hisz
  have HI := Lib.hid hisz
  have hbig : n ≤ 12500 := by omega
  have hig : igB i = (gdB i.L i.B && szB i.l) := rfl
  have hsy := szB_yes hn
  have hsn := szB_no hn
  clear hcount hgd hisz hok hn
  generalize gdB i.L i.B = gd at *
  generalize i.l.length = len at *
  cases gd
  · have hres : igB i = false := by rw [hig]; rfl
    rw [hres]
    clear hsy hsn hres hig
    go_enter Tryz.func42, Tryz.ntmps42
    go_wp2_with (first
      | (refine wpL_rbox (cs := icells i) rfl (.tmp 0) rfl rfl ?_; intro W0 b hN; obtain ⟨hb, hr, hl1, hz⟩ := hN)
      | (refine imA.wpLoad rfl (.tmp 1) rfl rfl hr.out hT8.out ?_)
      | (go_at_call 83; refine (HC.out _).mono ?_; rintro e W ⟨rfl, hb1⟩; have HR := Lib.hid (row_below hr.out hb1); have HB := Lib.hid (hl1.trans (hb1.mono hl1.size)); have hbW : b < W.heap.size := by have := hz.out; have := hb1.size; omega)
      | fail)
    clear hr hl1 hz hb1
    refine wp_low W.heap.size [([0, 1], 2), ([3, 4, 5, 6, 7, 8, 9, 10, 11, 12, 13, 14, 15], 16)] [17, 18, 19] (by kernel_rfl) (by kernel_rfl) (fun d _ _ _ _ h => by cases d <;> exact h) (Nat.le_refl _) fun wd hbd => ?_
    intro q hq
    have d0 := fun z => icell0 (below_row (hq z) HR.out hbW)
    have d1 := fun z => icell1 (below_row (hq z) HR.out hbW)
    have d2 := fun z => icell2 (below_row (hq z) HR.out hbW)
    simp only [pickI, Option.toList_some, List.cons_append, List.nil_append, List.getElem?_toArray, List.getElem?_cons_succ, List.getElem?_cons_zero]
    try go_frame
    go_big_quiet_step (fail)
    go_big_quiet_step (fail)
    refine wpQuiet_nil ?_
    clear hq q d0 d1 d2
    refine seg_op (by simp only [List.getElem?_toArray, List.getElem?_cons_succ, List.getElem?_cons_zero]; rfl) fun K hK => ?_
    go_simp
    refine (HG.out _ (hT.below (HB.out.trans (hbd.mono HB.out.size)))).mono ?_
    rintro e v0 ⟨rfl, bv0⟩
    have zv0 := hbd.trans (bv0.mono hbd.size)
    refine hK.out _ _ (seg_keep zv0 ?_)
    clear hK K
    intro q hq
    have d0 := fun z => icell0 (below_row (hq z) HR.out hbW)
    have d1 := fun z => icell1 (below_row (hq z) HR.out hbW)
    have d2 := fun z => icell2 (below_row (hq z) HR.out hbW)
    simp only [pickI, Option.toList_some, List.cons_append, List.nil_append, List.getElem?_toArray, List.getElem?_cons_succ, List.getElem?_cons_zero]
    try go_frame
    go_big_quiet_step (fail)
    go_big_quiet_step (fail)
    go_big_quiet_step (fail)
    go_big_quiet_step (fail)
    go_big_quiet_step (fail)
    go_big_quiet_step (fail)
    go_big_quiet_step (fail)
    go_big_quiet_step (fail)
    go_big_quiet_step (fail)
    go_big_quiet_step (fail)
    go_big_quiet_step (fail)
    go_big_quiet_step (fail)
    go_big_quiet_step (fail)
    refine wpQuiet_nil ?_
    clear hq q d0 d1 d2
    refine seg_op (by simp only [List.getElem?_toArray, List.getElem?_cons_succ, List.getElem?_cons_zero]; rfl) fun K hK => ?_
    go_simp
    refine hK.out _ _ (seg_keep zv0 ?_)
    clear hK K
    intro q hq
    have d0 := fun z => icell0 (below_row (hq z) HR.out hbW)
    have d1 := fun z => icell1 (below_row (hq z) HR.out hbW)
    have d2 := fun z => icell2 (below_row (hq z) HR.out hbW)
    simp only [pickI, Option.toList_some, List.cons_append, List.nil_append, List.getElem?_toArray, List.getElem?_cons_succ, List.getElem?_cons_zero]
    try go_frame
    go_big_quiet_step (fail)
    go_big_quiet_step (fail)
    go_big_quiet_step (fail)
    refine wpQuiet_nil ?_
    clear hq q d0 d1 d2
    have hfin := HB.out.trans (zv0.mono HB.out.size)
    go_wp2
    go_ret
    exact ⟨rfl, hfin⟩
  · by_cases h1 : 1 ≤ n
    · have q1 : decide ((1 : Int) ≤ (n : Int)) = true := by simp; omega
      by_cases h2 : n ≤ 64
      · have q2 : decide ((n : Int) ≤ 64) = true := by simp; omega
        by_cases h3 : len = n * 8
        · have q3 : ((len : Int) == (m : Int)) = true := by rw [h3, hm]; exact beq_self_eq_true _
          have q4 : (((str i.l).size : Int) == (m : Int)) = true := by rw [hs]; exact q3
          have hres : igB i = true := by rw [hig, hsy ⟨h1, h2, h3⟩]; rfl
          rw [hres]
          clear hsy hsn hres hig h1 h2 h3 hm
          go_enter Tryz.func42, Tryz.ntmps42
          go_wp2_with (first
            | (refine wpL_rbox (cs := icells i) rfl (.tmp 0) rfl rfl ?_; intro W0 b hN; obtain ⟨hb, hr, hl1, hz⟩ := hN)
            | (refine imA.wpLoad rfl (.tmp 1) rfl rfl hr.out hT8.out ?_)
            | (go_at_call 83; refine (HC.out _).mono ?_; rintro e W ⟨rfl, hb1⟩; have HR := Lib.hid (row_below hr.out hb1); have HB := Lib.hid (hl1.trans (hb1.mono hl1.size)); have hbW : b < W.heap.size := by have := hz.out; have := hb1.size; omega)
            | fail)
          clear hr hl1 hz hb1
          refine wp_low W.heap.size [([0, 1], 2), ([3, 4, 5, 6, 7, 8, 9, 10, 11, 12, 13, 14, 15], 16)] [17, 18, 19] (by kernel_rfl) (by kernel_rfl) (fun d _ _ _ _ h => by cases d <;> exact h) (Nat.le_refl _) fun wd hbd => ?_
          intro q hq
          have d0 := fun z => icell0 (below_row (hq z) HR.out hbW)
          have d1 := fun z => icell1 (below_row (hq z) HR.out hbW)
          have d2 := fun z => icell2 (below_row (hq z) HR.out hbW)
          simp only [pickI, Option.toList_some, List.cons_append, List.nil_append, List.getElem?_toArray, List.getElem?_cons_succ, List.getElem?_cons_zero]
          try go_frame
          go_big_quiet_step (fail)
          go_big_quiet_step (fail)
          refine wpQuiet_nil ?_
          clear hq q d0 d1 d2
          refine seg_op (by simp only [List.getElem?_toArray, List.getElem?_cons_succ, List.getElem?_cons_zero]; rfl) fun K hK => ?_
          go_simp
          refine (HG.out _ (hT.below (HB.out.trans (hbd.mono HB.out.size)))).mono ?_
          rintro e v0 ⟨rfl, bv0⟩
          have zv0 := hbd.trans (bv0.mono hbd.size)
          refine hK.out _ _ (seg_keep zv0 ?_)
          clear hK K
          intro q hq
          have d0 := fun z => icell0 (below_row (hq z) HR.out hbW)
          have d1 := fun z => icell1 (below_row (hq z) HR.out hbW)
          have d2 := fun z => icell2 (below_row (hq z) HR.out hbW)
          simp only [pickI, Option.toList_some, List.cons_append, List.nil_append, List.getElem?_toArray, List.getElem?_cons_succ, List.getElem?_cons_zero]
          try go_frame
          go_big_quiet_step (fail)
          go_big_quiet_step (fail)
          go_big_quiet_step (fail)
          go_big_quiet_step (fail)
          go_big_quiet_step (fail)
          go_big_quiet_step (fail)
          go_big_quiet_step (fail)
          go_big_quiet_step (fail)
          go_big_quiet_step (fail)
          go_big_quiet_step (fail)
          go_big_quiet_step (fail)
          go_big_quiet_step (fail)
          go_big_quiet_step (fail)
          refine wpQuiet_nil ?_
          clear hq q d0 d1 d2
          refine seg_op (by simp only [List.getElem?_toArray, List.getElem?_cons_succ, List.getElem?_cons_zero]; rfl) fun K hK => ?_
          go_simp
          refine (HI.out _).mono ?_
          rintro e v1 ⟨rfl, bv1⟩
          have zv1 := zv0.trans (bv1.mono zv0.size)
          refine hK.out _ _ (seg_keep zv1 ?_)
          clear hK K
          intro q hq
          have d0 := fun z => icell0 (below_row (hq z) HR.out hbW)
          have d1 := fun z => icell1 (below_row (hq z) HR.out hbW)
          have d2 := fun z => icell2 (below_row (hq z) HR.out hbW)
          simp only [pickI, Option.toList_some, List.cons_append, List.nil_append, List.getElem?_toArray, List.getElem?_cons_succ, List.getElem?_cons_zero]
          try go_frame
          go_big_quiet_step (fail)
          go_big_quiet_step (fail)
          go_big_quiet_step (fail)
          refine wpQuiet_nil ?_
          clear hq q d0 d1 d2
          have hfin := HB.out.trans (zv1.mono HB.out.size)
          go_wp2
          go_ret
          exact ⟨rfl, hfin⟩
        · have q3 : ((len : Int) == (m : Int)) = false := by rw [beq_eq_false_iff_ne]; omega
          have q4 : (((str i.l).size : Int) == (m : Int)) = false := by rw [hs]; exact q3
          have hres : igB i = false := by rw [hig, hsn (fun h => h3 h.2.2)]; rfl
          rw [hres]
          clear hsy hsn hres hig h1 h2 h3 hm
          go_enter Tryz.func42, Tryz.ntmps42
          go_wp2_with (first
            | (refine wpL_rbox (cs := icells i) rfl (.tmp 0) rfl rfl ?_; intro W0 b hN; obtain ⟨hb, hr, hl1, hz⟩ := hN)
            | (refine imA.wpLoad rfl (.tmp 1) rfl rfl hr.out hT8.out ?_)
            | (go_at_call 83; refine (HC.out _).mono ?_; rintro e W ⟨rfl, hb1⟩; have HR := Lib.hid (row_below hr.out hb1); have HB := Lib.hid (hl1.trans (hb1.mono hl1.size)); have hbW : b < W.heap.size := by have := hz.out; have := hb1.size; omega)
            | fail)
          clear hr hl1 hz hb1
          refine wp_low W.heap.size [([0, 1], 2), ([3, 4, 5, 6, 7, 8, 9, 10, 11, 12, 13, 14, 15], 16)] [17, 18, 19] (by kernel_rfl) (by kernel_rfl) (fun d _ _ _ _ h => by cases d <;> exact h) (Nat.le_refl _) fun wd hbd => ?_
          intro q hq
          have d0 := fun z => icell0 (below_row (hq z) HR.out hbW)
          have d1 := fun z => icell1 (below_row (hq z) HR.out hbW)
          have d2 := fun z => icell2 (below_row (hq z) HR.out hbW)
          simp only [pickI, Option.toList_some, List.cons_append, List.nil_append, List.getElem?_toArray, List.getElem?_cons_succ, List.getElem?_cons_zero]
          try go_frame
          go_big_quiet_step (fail)
          go_big_quiet_step (fail)
          refine wpQuiet_nil ?_
          clear hq q d0 d1 d2
          refine seg_op (by simp only [List.getElem?_toArray, List.getElem?_cons_succ, List.getElem?_cons_zero]; rfl) fun K hK => ?_
          go_simp
          refine (HG.out _ (hT.below (HB.out.trans (hbd.mono HB.out.size)))).mono ?_
          rintro e v0 ⟨rfl, bv0⟩
          have zv0 := hbd.trans (bv0.mono hbd.size)
          refine hK.out _ _ (seg_keep zv0 ?_)
          clear hK K
          intro q hq
          have d0 := fun z => icell0 (below_row (hq z) HR.out hbW)
          have d1 := fun z => icell1 (below_row (hq z) HR.out hbW)
          have d2 := fun z => icell2 (below_row (hq z) HR.out hbW)
          simp only [pickI, Option.toList_some, List.cons_append, List.nil_append, List.getElem?_toArray, List.getElem?_cons_succ, List.getElem?_cons_zero]
          try go_frame
          go_big_quiet_step (fail)
          go_big_quiet_step (fail)
          go_big_quiet_step (fail)
          go_big_quiet_step (fail)
          go_big_quiet_step (fail)
          go_big_quiet_step (fail)
          go_big_quiet_step (fail)
          go_big_quiet_step (fail)
          go_big_quiet_step (fail)
          go_big_quiet_step (fail)
          go_big_quiet_step (fail)
          go_big_quiet_step (fail)
          go_big_quiet_step (fail)
          refine wpQuiet_nil ?_
          clear hq q d0 d1 d2
          refine seg_op (by simp only [List.getElem?_toArray, List.getElem?_cons_succ, List.getElem?_cons_zero]; rfl) fun K hK => ?_
          go_simp
          refine (HI.out _).mono ?_
          rintro e v1 ⟨rfl, bv1⟩
          have zv1 := zv0.trans (bv1.mono zv0.size)
          refine hK.out _ _ (seg_keep zv1 ?_)
          clear hK K
          intro q hq
          have d0 := fun z => icell0 (below_row (hq z) HR.out hbW)
          have d1 := fun z => icell1 (below_row (hq z) HR.out hbW)
          have d2 := fun z => icell2 (below_row (hq z) HR.out hbW)
          simp only [pickI, Option.toList_some, List.cons_append, List.nil_append, List.getElem?_toArray, List.getElem?_cons_succ, List.getElem?_cons_zero]
          try go_frame
          go_big_quiet_step (fail)
          go_big_quiet_step (fail)
          go_big_quiet_step (fail)
          refine wpQuiet_nil ?_
          clear hq q d0 d1 d2
          have hfin := HB.out.trans (zv1.mono HB.out.size)
          go_wp2
          go_ret
          exact ⟨rfl, hfin⟩
      · have q2 : decide ((n : Int) ≤ 64) = false := by simp; omega
        have hres : igB i = false := by rw [hig, hsn (fun h => h2 h.2.1)]; rfl
        rw [hres]
        clear hsy hsn hres hig h1 h2
        go_enter Tryz.func42, Tryz.ntmps42
        go_wp2_with (first
          | (refine wpL_rbox (cs := icells i) rfl (.tmp 0) rfl rfl ?_; intro W0 b hN; obtain ⟨hb, hr, hl1, hz⟩ := hN)
          | (refine imA.wpLoad rfl (.tmp 1) rfl rfl hr.out hT8.out ?_)
          | (go_at_call 83; refine (HC.out _).mono ?_; rintro e W ⟨rfl, hb1⟩; have HR := Lib.hid (row_below hr.out hb1); have HB := Lib.hid (hl1.trans (hb1.mono hl1.size)); have hbW : b < W.heap.size := by have := hz.out; have := hb1.size; omega)
          | fail)
        clear hr hl1 hz hb1
        refine wp_low W.heap.size [([0, 1], 2), ([3, 4, 5, 6, 7, 8, 9, 10, 11, 12, 13, 14, 15], 16)] [17, 18, 19] (by kernel_rfl) (by kernel_rfl) (fun d _ _ _ _ h => by cases d <;> exact h) (Nat.le_refl _) fun wd hbd => ?_
        intro q hq
        have d0 := fun z => icell0 (below_row (hq z) HR.out hbW)
        have d1 := fun z => icell1 (below_row (hq z) HR.out hbW)
        have d2 := fun z => icell2 (below_row (hq z) HR.out hbW)
        simp only [pickI, Option.toList_some, List.cons_append, List.nil_append, List.getElem?_toArray, List.getElem?_cons_succ, List.getElem?_cons_zero]
        try go_frame
        go_big_quiet_step (fail)
        go_big_quiet_step (fail)
        refine wpQuiet_nil ?_
        clear hq q d0 d1 d2
        refine seg_op (by simp only [List.getElem?_toArray, List.getElem?_cons_succ, List.getElem?_cons_zero]; rfl) fun K hK => ?_
        go_simp
        refine (HG.out _ (hT.below (HB.out.trans (hbd.mono HB.out.size)))).mono ?_
        rintro e v0 ⟨rfl, bv0⟩
        have zv0 := hbd.trans (bv0.mono hbd.size)
        refine hK.out _ _ (seg_keep zv0 ?_)
        clear hK K
        intro q hq
        have d0 := fun z => icell0 (below_row (hq z) HR.out hbW)
        have d1 := fun z => icell1 (below_row (hq z) HR.out hbW)
        have d2 := fun z => icell2 (below_row (hq z) HR.out hbW)
        simp only [pickI, Option.toList_some, List.cons_append, List.nil_append, List.getElem?_toArray, List.getElem?_cons_succ, List.getElem?_cons_zero]
        try go_frame
        go_big_quiet_step (fail)
        go_big_quiet_step (fail)
        go_big_quiet_step (fail)
        go_big_quiet_step (fail)
        go_big_quiet_step (fail)
        go_big_quiet_step (fail)
        go_big_quiet_step (fail)
        go_big_quiet_step (fail)
        go_big_quiet_step (fail)
        go_big_quiet_step (fail)
        go_big_quiet_step (fail)
        go_big_quiet_step (fail)
        go_big_quiet_step (fail)
        refine wpQuiet_nil ?_
        clear hq q d0 d1 d2
        refine seg_op (by simp only [List.getElem?_toArray, List.getElem?_cons_succ, List.getElem?_cons_zero]; rfl) fun K hK => ?_
        go_simp
        refine hK.out _ _ (seg_keep zv0 ?_)
        clear hK K
        intro q hq
        have d0 := fun z => icell0 (below_row (hq z) HR.out hbW)
        have d1 := fun z => icell1 (below_row (hq z) HR.out hbW)
        have d2 := fun z => icell2 (below_row (hq z) HR.out hbW)
        simp only [pickI, Option.toList_some, List.cons_append, List.nil_append, List.getElem?_toArray, List.getElem?_cons_succ, List.getElem?_cons_zero]
        try go_frame
        go_big_quiet_step (fail)
        go_big_quiet_step (fail)
        go_big_quiet_step (fail)
        refine wpQuiet_nil ?_
        clear hq q d0 d1 d2
        have hfin := HB.out.trans (zv0.mono HB.out.size)
        go_wp2
        go_ret
        exact ⟨rfl, hfin⟩
    · have q1 : decide ((1 : Int) ≤ (n : Int)) = false := by simp; omega
      have hres : igB i = false := by rw [hig, hsn (fun h => h1 h.1)]; rfl
      rw [hres]
      clear hsy hsn hres hig h1
      go_enter Tryz.func42, Tryz.ntmps42
      go_wp2_with (first
        | (refine wpL_rbox (cs := icells i) rfl (.tmp 0) rfl rfl ?_; intro W0 b hN; obtain ⟨hb, hr, hl1, hz⟩ := hN)
        | (refine imA.wpLoad rfl (.tmp 1) rfl rfl hr.out hT8.out ?_)
        | (go_at_call 83; refine (HC.out _).mono ?_; rintro e W ⟨rfl, hb1⟩; have HR := Lib.hid (row_below hr.out hb1); have HB := Lib.hid (hl1.trans (hb1.mono hl1.size)); have hbW : b < W.heap.size := by have := hz.out; have := hb1.size; omega)
        | fail)
      clear hr hl1 hz hb1
      refine wp_low W.heap.size [([0, 1], 2), ([3, 4, 5, 6, 7, 8, 9, 10, 11, 12, 13, 14, 15], 16)] [17, 18, 19] (by kernel_rfl) (by kernel_rfl) (fun d _ _ _ _ h => by cases d <;> exact h) (Nat.le_refl _) fun wd hbd => ?_
      intro q hq
      have d0 := fun z => icell0 (below_row (hq z) HR.out hbW)
      have d1 := fun z => icell1 (below_row (hq z) HR.out hbW)
      have d2 := fun z => icell2 (below_row (hq z) HR.out hbW)
      simp only [pickI, Option.toList_some, List.cons_append, List.nil_append, List.getElem?_toArray, List.getElem?_cons_succ, List.getElem?_cons_zero]
      try go_frame
      go_big_quiet_step (fail)
      go_big_quiet_step (fail)
      refine wpQuiet_nil ?_
      clear hq q d0 d1 d2
      refine seg_op (by simp only [List.getElem?_toArray, List.getElem?_cons_succ, List.getElem?_cons_zero]; rfl) fun K hK => ?_
      go_simp
      refine (HG.out _ (hT.below (HB.out.trans (hbd.mono HB.out.size)))).mono ?_
      rintro e v0 ⟨rfl, bv0⟩
      have zv0 := hbd.trans (bv0.mono hbd.size)
      refine hK.out _ _ (seg_keep zv0 ?_)
      clear hK K
      intro q hq
      have d0 := fun z => icell0 (below_row (hq z) HR.out hbW)
      have d1 := fun z => icell1 (below_row (hq z) HR.out hbW)
      have d2 := fun z => icell2 (below_row (hq z) HR.out hbW)
      simp only [pickI, Option.toList_some, List.cons_append, List.nil_append, List.getElem?_toArray, List.getElem?_cons_succ, List.getElem?_cons_zero]
      try go_frame
      go_big_quiet_step (fail)
      go_big_quiet_step (fail)
      go_big_quiet_step (fail)
      go_big_quiet_step (fail)
      go_big_quiet_step (fail)
      go_big_quiet_step (fail)
      go_big_quiet_step (fail)
      go_big_quiet_step (fail)
      go_big_quiet_step (fail)
      go_big_quiet_step (fail)
      go_big_quiet_step (fail)
      go_big_quiet_step (fail)
      go_big_quiet_step (fail)
      refine wpQuiet_nil ?_
      clear hq q d0 d1 d2
      refine seg_op (by simp only [List.getElem?_toArray, List.getElem?_cons_succ, List.getElem?_cons_zero]; rfl) fun K hK => ?_
      go_simp
      refine hK.out _ _ (seg_keep zv0 ?_)
      clear hK K
      intro q hq
      have d0 := fun z => icell0 (below_row (hq z) HR.out hbW)
      have d1 := fun z => icell1 (below_row (hq z) HR.out hbW)
      have d2 := fun z => icell2 (below_row (hq z) HR.out hbW)
      simp only [pickI, Option.toList_some, List.cons_append, List.nil_append, List.getElem?_toArray, List.getElem?_cons_succ, List.getElem?_cons_zero]
      try go_frame
      go_big_quiet_step (fail)
      go_big_quiet_step (fail)
      go_big_quiet_step (fail)
      refine wpQuiet_nil ?_
      clear hq q d0 d1 d2
      have hfin := HB.out.trans (zv0.mono HB.out.size)
      go_wp2
      go_ret
      exact ⟨rfl, hfin⟩

end Go.Proofs.YtpalmobmabkadaaGreatDoor

namespace Go.Proofs.YtpalmobmabkadaaGreatDoor
open Go.RowKit
set_option maxRecDepth 20000

def sSize (n : Nat) : Nat := (151 + 4 * n) / 48
def sNeed (n : Nat) : Nat := 2 * sSize n + (2 * n + 8)
theorem sSize_le {n : Nat} (h : n ≤ 64) : 3 ≤ sSize n ∧ sSize n ≤ 8 := by unfold sSize; omega
theorem may_any (n : Nat) (w : World) : Calls Tryz.prog 32 #[.int .u32 (n : Int)] w fun e w' => e = .returned (.bool (decide (1 ≤ n ∧ n ≤ 64))) ∧ w = w' := by
  by_cases h1 : 1 ≤ n
  · have q1 : decide ((1 : Int) ≤ (n : Int)) = true := by simp; omega
    by_cases h2 : n ≤ 64
    · have q2 : decide ((n : Int) ≤ 64) = true := by simp; omega
      have hr : decide (1 ≤ n ∧ n ≤ 64) = true := decide_eq_true ⟨h1, h2⟩
      rw [hr]
      clear hr h1 h2
      go_enter Tryz.func32, Tryz.ntmps32
      go_wp2
      go_ret
      exact ⟨rfl, rfl⟩
    · have q2 : decide ((n : Int) ≤ 64) = false := by simp; omega
      have hr : decide (1 ≤ n ∧ n ≤ 64) = false := decide_eq_false (fun h => h2 h.2)
      rw [hr]
      clear hr h1 h2
      go_enter Tryz.func32, Tryz.ntmps32
      go_wp2
      go_ret
      exact ⟨rfl, rfl⟩
  · have q1 : decide ((1 : Int) ≤ (n : Int)) = false := by simp; omega
    have hr : decide (1 ≤ n ∧ n ≤ 64) = false := decide_eq_false (fun h => h1 h.1)
    rw [hr]
    clear hr h1
    go_enter Tryz.func32, Tryz.ntmps32
    go_wp2
    go_ret
    exact ⟨rfl, rfl⟩
theorem ssize_any (n : Nat) (w : World) (hn : n ≤ 64) : Calls Tryz.prog 34 #[.int .u32 (n : Int)] w fun e w' => e = .returned (.int .i64 (sSize n : Int)) ∧ w = w' := by
  have hz : Hid (sectorsOf ((96 + 4 * n : Nat) : Int) = sSize n) := Lib.hid (by rw [sectorsOf_at _ (by omega)]; unfold sSize; congr 1; omega)
  have hs := fun W => sectors_any ((96 + 4 * n : Nat) : Int) W (by simp [Lit.wf, IntKind.min, IntKind.max, IntKind.signed, IntKind.bits]; omega)
  rw [hz.out] at hs
  have he : ((96 + 4 * n : Nat) : Int) = 96 + 4 * (n : Int) := by omega
  rw [he] at hs
  have HS := Lib.hid hs
  generalize sSize n = z at *
  clear hs he hz
  go_enter Tryz.func34, Tryz.ntmps34
  go_wp2_with (go_at_call 72; refine (HS.out _).mono ?_; rintro e w1 ⟨rfl, rfl⟩)
  go_ret
  exact ⟨rfl, rfl⟩
theorem ahead_any (n : Nat) (w : World) (hn : n ≤ 64) : Calls Tryz.prog 36 #[.int .u32 (n : Int)] w fun e w' => e = .returned (.int .i64 ((2 * sSize n : Nat) : Int)) ∧ w = w' := by
  have HS := Lib.hid (fun W => ssize_any n W hn)
  have h1 := (sSize_le hn).2
  generalize sSize n = z at *
  go_enter Tryz.func36, Tryz.ntmps36
  go_wp2_with (go_at_call 34; refine (HS.out _).mono ?_; rintro e w1 ⟨rfl, rfl⟩)
  go_ret
  exact ⟨ret_i64 (by omega), rfl⟩
theorem behind_any (n : Nat) (w : World) (hn : n ≤ 64) : Calls Tryz.prog 57 #[.int .u32 (n : Int)] w fun e w' => e = .returned (.int .i64 ((2 * n + 8 : Nat) : Int)) ∧ w = w' := by
  go_enter Tryz.func57, Tryz.ntmps57
  go_wp2
  go_ret
  exact ⟨ret_i64 (by omega), rfl⟩
theorem ssectors_any (n : Nat) (w : World) : Calls Tryz.prog 22 #[.int .u32 (n : Int)] w fun e w' => e = .returned (.int .i64 ((if 1 ≤ n ∧ n ≤ 64 then sNeed n else 0 : Nat) : Int)) ∧ w = w' := by
  have hm := fun W => may_any n W
  by_cases h : 1 ≤ n ∧ n ≤ 64
  · rw [decide_eq_true h] at hm
    rw [if_pos h]
    have HM := Lib.hid hm
    have HA := Lib.hid (fun W => ahead_any n W h.2)
    have HB := Lib.hid (fun W => behind_any n W h.2)
    have hz := (sSize_le h.2).2
    have hn := h.2
    have he : sNeed n = 2 * sSize n + (2 * n + 8) := rfl
    generalize sNeed n = N at *
    generalize sSize n = z at *
    obtain ⟨a, ha⟩ : ∃ a, a = 2 * z := ⟨_, rfl⟩
    obtain ⟨b, hb⟩ : ∃ b, b = 2 * n + 8 := ⟨_, rfl⟩
    rw [← ha] at HA
    rw [← hb] at HB
    rw [← ha, ← hb] at he
    subst he
    have ha6 : a ≤ 16 := by omega
    have hb6 : b ≤ 136 := by omega
    clear hm h ha hb hz hn
    go_enter Tryz.func22, Tryz.ntmps22
    go_wp2_with (first
      | (go_at_call 32; refine (HM.out _).mono ?_; rintro e w1 ⟨rfl, rfl⟩)
      | (go_at_call 36; refine (HA.out _).mono ?_; rintro e w1 ⟨rfl, rfl⟩)
      | (go_at_call 57; refine (HB.out _).mono ?_; rintro e w1 ⟨rfl, rfl⟩)
      | fail)
    go_ret
    exact ⟨ret_i64 (by omega), rfl⟩
  · rw [decide_eq_false h] at hm
    rw [if_neg h]
    have HM := Lib.hid hm
    clear hm h
    go_enter Tryz.func22, Tryz.ntmps22
    go_wp2_with (first
      | (go_at_call 32; refine (HM.out _).mono ?_; rintro e w1 ⟨rfl, rfl⟩)
      | fail)
    go_ret
    exact ⟨rfl, rfl⟩

end Go.Proofs.YtpalmobmabkadaaGreatDoor
