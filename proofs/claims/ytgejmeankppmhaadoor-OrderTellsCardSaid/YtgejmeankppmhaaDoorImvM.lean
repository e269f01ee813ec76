/- Tables in runs of operations that only read, guarded or not. Images as values: what is made, laid, taken and compared. -/
import Derived.Test.YtgejmeankppmhaaDoorAsksM
import Derived.Test.YtgejmeankppmhaaDoorImM
import Derived.Deep.MidRow
namespace Go.Proofs.YtgejmeankppmhaaDoor
open Go.RowKit

section
variable {P : Program} {ty ct : TypeId}
theorem wpQ_valw {ops : Array Oper} {C : World → Prop} {K : Act → Prop} {o : Oper} {rest : List Oper} {a : Act} (hw : Region.wanted o (yielded ops a.tmps) = true) (v : Value) (hrun : ∀ x, C x → (execOp a.eval o).run P x = .ok (.value v) x) (h : wpQuiet P ops C K rest (a.put o.dst v)) : wpQuiet P ops C K (o :: rest) a := by
  unfold wpQuiet
  rw [if_pos hw]
  refine ⟨v, fun x hx => ?_, h⟩
  unfold Oper.quietAt
  rw [hrun x hx]
  exact ⟨rfl, rfl⟩
variable {ops : Array Oper} {C : World → Prop} {K : Act → Prop} {o : Oper} {rest : List Oper} {a : Act}
theorem TabT.wpQload (h : TabT P ty ct) (hw : Region.wanted o (yielded ops a.tmps) = true) (x : Operand) (ho : o.op = .load ty x) {g : Nat} {e : TypeId} {fr : Nat × Nat} {T : List Cl} (hx : a.eval x = .pointer (some ⟨g, 0, none⟩)) (hr : ∀ w, C w → w.heap[g]? = some (.cells (tcells T).toArray e fr)) (hT : T.length = 8) (hk : wpQuiet P ops C K rest (a.put o.dst (tbv T))) : wpQuiet P ops C K (o :: rest) a :=
  wpQ_valw hw (tbv T) (fun w hC => by
    have hrun := h.loads (hr w hC) hT
    simp only [execOp, ho, hx, Sem.run_bind, hrun, Result.andThen_ok, Sem.run_pure]) hk
theorem TabT.wpQeql (h : TabT P ty ct) (hw : Region.wanted o (yielded ops a.tmps) = true) (x y : Operand) (t : TypeId) (ho : o.op = .binOp .eql ty x y t) {S T : List Cl} (hx : a.eval x = tbv S) (hy : a.eval y = tbv T) (hS : S.length = 8) (hT : T.length = 8) {b : Bool} (hb : b = decide (S = T)) (hk : wpQuiet P ops C K rest (a.put o.dst (.bool b))) : wpQuiet P ops C K (o :: rest) a :=
  wpQ_valw hw (.bool b) (fun w _ => by
    have h1 := h.eql (w := w) S T hS hT
    have h2 := h.guarded (w := w) .eql x y S T
    rw [hb]
    simp only [execOp, ho, hx, hy, Sem.run_bind, h1, h2, Result.andThen_ok, Sem.run_pure]) hk
end
section
variable {P : Program} {ty ct : TypeId} {w : World} {ops : Array Oper} {rest : List Oper} {o : Oper} {a : Act} {Q : Exit → Act → World → Prop}
theorem TabT.wpEqlw (h : TabT P ty ct) (hw : Region.wanted o (yielded ops a.tmps) = true) (x y : Operand) (t : TypeId) (ho : o.op = .binOp .eql ty x y t) {S T : List Cl} (hx : a.eval x = tbv S) (hy : a.eval y = tbv T) (hS : S.length = 8) (hT : T.length = 8) {b : Bool} (hb : b = decide (S = T)) (hk : wpList P ops Q rest (a.put o.dst (.bool b)) w) : wpList P ops Q (o :: rest) a w := by
  refine wpList_step fun K hK => ?_
  rw [if_pos hw]
  have h1 := h.eql (w := w) S T hS hT
  have h2 := h.guarded (w := w) .eql x y S T
  unfold Oper.wp
  simp only [execOp, ho, hx, hy, Sem.run_bind, h1, h2, Result.andThen_ok, Sem.run_pure]
  rw [← hb]
  exact hK _ _ hk
theorem TabT.wpNeqw (h : TabT P ty ct) (hw : Region.wanted o (yielded ops a.tmps) = true) (x y : Operand) (t : TypeId) (ho : o.op = .binOp .neq ty x y t) {S T : List Cl} (hx : a.eval x = tbv S) (hy : a.eval y = tbv T) (hS : S.length = 8) (hT : T.length = 8) {b : Bool} (hb : b = !decide (S = T)) (hk : wpList P ops Q rest (a.put o.dst (.bool b)) w) : wpList P ops Q (o :: rest) a w := by
  refine wpList_step fun K hK => ?_
  rw [if_pos hw]
  have h1 := h.neq (w := w) S T hS hT
  have h2 := h.guarded (w := w) .neq x y S T
  unfold Oper.wp
  simp only [execOp, ho, hx, hy, Sem.run_bind, h1, h2, Result.andThen_ok, Sem.run_pure]
  rw [← hb]
  exact hK _ _ hk
end

end Go.Proofs.YtgejmeankppmhaaDoor

namespace Go.Proofs.YtgejmeankppmhaaDoor
open Go.RowKit
set_option maxRecDepth 20000

structure ImT (P : Program) (ty mt tt ct : TypeId) : Prop where
  tab : TabT P tt ct
  size : (P.info? ty).map (·.size) = some 19
  msize : (P.info? mt).map (·.size) = some 2
  und : P.underlying ty = some (.struct (P.fieldsOf ty))
  mund : P.underlying mt = some (.struct (P.fieldsOf mt))
  flds : ∃ f0 f1 f2, (P.fieldsOf ty).toList = [f0, f1, f2] ∧ f0.name ≠ "_" ∧ f1.name ≠ "_" ∧ f2.name ≠ "_" ∧ f0.type = mt ∧ f0.offset = 0 ∧ P.underlying f1.type = some .string ∧ f1.offset = 2 ∧ f2.type = tt ∧ f2.offset = 3
  mflds : ∃ g0 g1, (P.fieldsOf mt).toList = [g0, g1] ∧ g0.name ≠ "_" ∧ g1.name ≠ "_" ∧ P.underlying g0.type = some (.int .u64) ∧ g0.offset = 0 ∧ P.underlying g1.type = some (.int .u64) ∧ g1.offset = 1
  stood : P.stoodInHeld ty = false
  mstood : P.stoodInHeld mt = false
  zero : ∀ w, (zeroValue ty).run P w = .ok (imv I0) w
  build : ∀ w, (Instr.build ty #[]).run P w = .ok (imv I0) w
  guard : P.eqGuardType P.depth ty = false

theorem imA : ImT Tryd.prog 32 25 30 28 where
  tab := tabA
  size := by kernel_rfl
  msize := by kernel_rfl
  und := by unfold Program.fieldsOf; rw [Tryd.underlying32]
  mund := by unfold Program.fieldsOf; rw [Tryd.underlying25]
  flds := by
    unfold Program.fieldsOf
    rw [Tryd.underlying32]
    exact ⟨_, _, _, rfl, by simp, by simp, by simp, rfl, rfl, Tryd.underlying9, rfl, rfl, rfl⟩
  mflds := by
    unfold Program.fieldsOf
    rw [Tryd.underlying25]
    exact ⟨_, _, rfl, by simp, by simp, Tryd.underlying23, rfl, Tryd.underlying23, rfl⟩
  stood := by kernel_rfl
  mstood := by kernel_rfl
  zero := fun w => by kernel_rfl
  build := fun w => by kernel_rfl
  guard := by kernel_rfl
theorem imB : ImT Tryd.prog 51 37 49 47 where
  tab := tabB
  size := by kernel_rfl
  msize := by kernel_rfl
  und := by unfold Program.fieldsOf; rw [Tryd.underlying51]
  mund := by unfold Program.fieldsOf; rw [Tryd.underlying37]
  flds := by
    unfold Program.fieldsOf
    rw [Tryd.underlying51]
    exact ⟨_, _, _, rfl, by simp, by simp, by simp, rfl, rfl, Tryd.underlying9, rfl, rfl, rfl⟩
  mflds := by
    unfold Program.fieldsOf
    rw [Tryd.underlying37]
    exact ⟨_, _, rfl, by simp, by simp, Tryd.underlying23, rfl, Tryd.underlying23, rfl⟩
  stood := by kernel_rfl
  mstood := by kernel_rfl
  zero := fun w => by kernel_rfl
  build := fun w => by kernel_rfl
  guard := by kernel_rfl

section
variable {P : Program} {w : World}
theorem eqFieldsC (d : Nat) (xs ys : Array Value) (f : Field) (fs : List Field) (n : f.name ≠ "_") (a b : Value) (r : Bool) (h : (Go.part f.type xs f.offset).run P w = .ok a w) (k : (Go.part f.type ys f.offset).run P w = .ok b w)
    (e : (Op.equalIn d f.type a b).run P w = .ok r w) : (Op.eqFields d xs ys (f :: fs)).run P w = if r = true then (Op.eqFields d xs ys fs).run P w else .ok false w := by
  rw [Op.eqFields, if_pos n]
  cases r
  · simp only [Sem.run_bind, h, k, e, Result.andThen_ok, Bool.not_false, if_true, Sem.run_pure, Bool.false_eq_true, if_false]
  · simp only [Sem.run_bind, h, k, e, Result.andThen_ok, Bool.not_true, Bool.false_eq_true, if_false, if_true]
theorem eqFields0 (d : Nat) (xs ys : Array Value) : (Op.eqFields d xs ys []).run P w = .ok true w := by
  rw [Op.eqFields]
  rfl
/-- A part of a row that is one cell, or a row itself. -/
theorem part_one {t : TypeId} {D : TypeDesc} (ht : P.underlying t = some D) (hD : D.isRow = false) {cs : Array Value} {j : Nat} {x : Value} (hx : cs[j]? = some x) : (Go.part t cs j).run P w = .ok x w := by
  have ha : (isAgg t).run P w = .ok false w := by
    unfold isAgg
    rw [Sem.run_bind, run_underlying ht w]
    cases D <;> first | rfl | simp [TypeDesc.isRow] at hD
  simp [Go.part, Sem.run_bind, ha, hx, Result.andThen]
theorem part_row {t : TypeId} {D : TypeDesc} {n : Nat} (ht : P.underlying t = some D) (hD : D.isRow = true) (hn : (P.info? t).map (·.size) = some n) (cs : Array Value) (j : Nat) : (Go.part t cs j).run P w = .ok (.agg (cs.extract j (j + n))) w := by
  have ha : (isAgg t).run P w = .ok true w := by
    unfold isAgg
    rw [Sem.run_bind, run_underlying ht w]
    cases D <;> first | rfl | simp [TypeDesc.isRow] at hD
  have hs : (Go.sizeOf t).run P w = .ok n w := run_size hn
  simp only [Go.part, Sem.run_bind, ha, hs, Result.andThen_ok, if_true, Sem.run_pure]

theorem ic_marks (i : Im) : (icells i).toArray.extract 0 (0 + 2) = #[.int .u64 (i.L : Int), .int .u64 (i.B : Int)] := by
  apply Array.ext'
  simp [icells]
theorem ic_table (i : Im) (h : i.T.length = 8) : (icells i).toArray.extract 3 (3 + 16) = (tcells i.T).toArray := by
  apply Array.ext'
  have hl := tcells_len i.T
  simp [icells, List.extract_eq_take_drop]
  rw [List.take_of_length_le (by omega)]
variable {ty mt tt ct : TypeId}
theorem str_beq (a b : List UInt8) : ((str a).toList == (str b).toList) = decide (a = b) := by
  rw [Bool.eq_iff_iff]
  simp only [beq_iff_eq, decide_eq_true_eq]
  exact ⟨str_inj, fun e => by rw [e]⟩
theorem ImT.eqM (h : ImT P ty mt tt ct) (d : Nat) (i j : Im) : (Op.equalIn (d + 2) mt (.agg #[.int .u64 (i.L : Int), .int .u64 (i.B : Int)]) (.agg #[.int .u64 (j.L : Int), .int .u64 (j.B : Int)])).run P w = .ok (decide (i.L = j.L ∧ i.B = j.B)) w := by
  obtain ⟨f0, f1, hf, n0, n1, u0, o0, u1, o1⟩ := h.mflds
  rw [run_equalIn_struct w (d + 1) mt _ _ h.mund h.mstood, hf]
  rw [eqFieldsC (d + 1) _ _ f0 [f1] n0 _ _ _ (part_one u0 rfl (by rw [o0]; rfl)) (part_one u0 rfl (by rw [o0]; rfl)) (run_equalIn_int w d _ .u64 .u64 _ _ u0),
    eqFieldsC (d + 1) _ _ f1 [] n1 _ _ _ (part_one u1 rfl (by rw [o1]; rfl)) (part_one u1 rfl (by rw [o1]; rfl)) (run_equalIn_int w d _ .u64 .u64 _ _ u1), eqFields0]
  by_cases a : i.L = j.L
  · rw [if_pos (by simp [a])]
    by_cases b : i.B = j.B
    · rw [if_pos (by simp [b])]; simp [a, b]
    · rw [if_neg (by simp; omega)]; simp [b]
  · rw [if_neg (by simp; omega)]; simp [a]
theorem im_ext {i j : Im} : (i = j) ↔ (i.L = j.L ∧ i.B = j.B) ∧ i.l = j.l ∧ i.T = j.T := by
  cases i; cases j
  simp only [Im.mk.injEq]
  exact ⟨fun ⟨a, b, c, d⟩ => ⟨⟨a, b⟩, c, d⟩, fun ⟨⟨a, b⟩, c, d⟩ => ⟨a, b, c, d⟩⟩
theorem ImT.eqIn (h : ImT P ty mt tt ct) (d : Nat) (i j : Im) (hi : i.T.length = 8) (hj : j.T.length = 8) : (Op.equalIn (d + 4) ty (imv i) (imv j)).run P w = .ok (decide (i = j)) w := by
  obtain ⟨f0, f1, f2, hf, n0, n1, n2, t0, o0, u1, o1, t2, o2⟩ := h.flds
  unfold imv
  rw [run_equalIn_struct w (d + 3) ty _ _ h.und h.stood, hf]
  have p0 : ∀ k : Im, (Go.part f0.type (icells k).toArray f0.offset).run P w = .ok (.agg #[.int .u64 (k.L : Int), .int .u64 (k.B : Int)]) w := fun k => by
    rw [t0, o0, part_row h.mund rfl h.msize, ic_marks]
  have p1 : ∀ k : Im, (Go.part f1.type (icells k).toArray f1.offset).run P w = .ok (.string (str k.l)) w := fun k => part_one u1 rfl (by rw [o1]; rfl)
  have p2 : ∀ k : Im, k.T.length = 8 → (Go.part f2.type (icells k).toArray f2.offset).run P w = .ok (tbv k.T) w := fun k hk => by
    rw [t2, o2, part_row h.tab.und rfl h.tab.size, ic_table k hk]; rfl
  rw [eqFieldsC (d + 3) _ _ f0 [f1, f2] n0 _ _ _ (p0 i) (p0 j) (by rw [t0]; exact h.eqM (d + 1) i j),
    eqFieldsC (d + 3) _ _ f1 [f2] n1 _ _ _ (p1 i) (p1 j) (run_equalIn_string w (d + 2) _ _ _ u1),
    eqFieldsC (d + 3) _ _ f2 [] n2 _ _ _ (p2 i hi) (p2 j hj) (by rw [t2]; exact h.tab.eqIn d i.T j.T hi hj), eqFields0, str_beq]
  have hx := im_ext (i := i) (j := j)
  by_cases a : i.L = j.L ∧ i.B = j.B
  · rw [if_pos (by simp [a])]
    by_cases b : i.l = j.l
    · rw [if_pos (by simp [b])]
      by_cases c : i.T = j.T
      · rw [if_pos (by simp [c]), decide_eq_true (hx.2 ⟨a, b, c⟩)]
      · rw [if_neg (by simp [c]), decide_eq_false (fun e => c (hx.1 e).2.2)]
    · rw [if_neg (by simp [b]), decide_eq_false (fun e => b (hx.1 e).2.1)]
  · rw [if_neg (by simpa using a), decide_eq_false (fun e => a (hx.1 e).1)]
theorem ImT.eql (h : ImT P ty mt tt ct) (i j : Im) (hi : i.T.length = 8) (hj : j.T.length = 8) : (binOp .eql ty (imv i) (imv j)).run P w = .ok (.bool (decide (i = j))) w := by
  have := h.eqIn (w := w) 9996 i j hi hj
  unfold imv at this ⊢
  rw [run_eql_struct, this]
  rfl
theorem ImT.neq (h : ImT P ty mt tt ct) (i j : Im) (hi : i.T.length = 8) (hj : j.T.length = 8) : (binOp .neq ty (imv i) (imv j)).run P w = .ok (.bool (!decide (i = j))) w := by
  have := h.eqIn (w := w) 9996 i j hi hj
  unfold imv at this ⊢
  rw [run_neq_struct, this]
  rfl
theorem ImT.guarded (h : ImT P ty mt tt ct) (op : BinOp) (x y : Operand) (i j : Im) : (eqGuard op ty x y (imv i) (imv j)).run P w = .ok () w := run_eqGuard_agg w _ _ _ _ _ _ h.guard
theorem ImT.loads (h : ImT P ty mt tt ct) {g : Nat} {e : TypeId} {fr : Nat × Nat} {i : Im} (hr : w.heap[g]? = some (.cells (icells i).toArray e fr)) (hi : i.T.length = 8) : (Instr.loadAt ty (.pointer (some ⟨g, 0, none⟩))).run P w = .ok (imv i) w := by
  simp only [Instr.loadAt, Instr.sureAddr, Sem.run_bind, Sem.run_pure, Result.andThen_ok]
  exact run_loadVar_row w g e _ _ fr _ hr h.und rfl (by rw [h.size]; simp [icells_19 hi])
theorem ImT.loadsT (h : ImT P ty mt tt ct) {g : Nat} {e : TypeId} {fr : Nat × Nat} {i : Im} (hr : w.heap[g]? = some (.cells (icells i).toArray e fr)) (hi : i.T.length = 8) : (Instr.loadAt tt (.pointer (some ⟨g, 3, none⟩))).run P w = .ok (tbv i.T) w := by
  have h1 := World.rangeAt_of_block hr 3 16
  rw [ic_table i hi, List.toList_toArray] at h1
  exact run_loadAt_mid w g 3 tt (tcells i.T) _ h1 h.tab.und rfl (by rw [h.tab.size, tcells_len, hi])
theorem ImT.loadsM (h : ImT P ty mt tt ct) {g : Nat} {e : TypeId} {fr : Nat × Nat} {i : Im} (hr : w.heap[g]? = some (.cells (icells i).toArray e fr)) : (Instr.loadAt mt (.pointer (some ⟨g, 0, none⟩))).run P w = .ok (.agg #[.int .u64 (i.L : Int), .int .u64 (i.B : Int)]) w := by
  have h1 := World.rangeAt_of_block hr 0 2
  rw [ic_marks i] at h1
  exact run_loadAt_mid w g 0 mt _ _ h1 h.mund rfl (by rw [h.msize]; rfl)
theorem ImT.stores (h : ImT P ty mt tt ct) {g : Nat} {e : TypeId} {i j : Im} (hr : w.heap[g]? = some (.cells (icells i).toArray e (0, 0))) (hi : i.T.length = 8) (hj : j.T.length = 8) : (Instr.storeAt ty (.pointer (some ⟨g, 0, none⟩)) (imv j)).run P w = .ok () (w.setRow g (icells j).toArray) := by
  simp only [Instr.storeAt, Instr.sureAddr, Sem.run_bind, Sem.run_pure, Result.andThen_ok]
  exact run_storeVar_row w g e ty _ _ hr (by rw [h.size]; simp [icells_19 hj]) (by simp [icells_19 hi, icells_19 hj]) (by
    rw [Array.all_eq_true_iff_forall_mem]
    intro x hx
    exact icells_one j x (by simpa using hx))
end

section
variable {P : Program} {w : World} {ty mt tt ct : TypeId} {ops : Array Oper} {rest : List Oper} {o : Oper} {a : Act} {Q : Exit → Act → World → Prop}
/-- A new row, or a box of one. -/
def NewR (w : World) (ty : TypeId) (cs : List Value) (W : World) (b : Nat) : Prop := Hid (b = w.heap.size) ∧ Hid (W.heap[b]? = some (.cells cs.toArray ty (0, 0))) ∧ Below w.heap.size w W ∧ Hid (W.heap.size = b + 1)
theorem newR (w : World) (ty : TypeId) (cs : List Value) : NewR w ty cs (w.alloc (.cells cs.toArray ty)) w.heap.size :=
  ⟨Lib.hid rfl, Lib.hid (heap_alloc_new w _), (Below.refl _ _).alloc (Nat.le_refl _) _, Lib.hid (by simp)⟩
theorem wpL_rbox (hgd : o.guard = none) (x : Operand) (ho : o.op = .box ty x) {cs : List Value} (hx : a.eval x = .agg cs.toArray)
    (h : ∀ (W : World) (b : Nat), NewR w ty cs W b → wpList P ops Q rest (a.put o.dst (.pointer (some ⟨b, 0, none⟩))) W) : wpList P ops Q (o :: rest) a w := by
  refine wpList_plain hgd fun K hK => ?_
  have hr : (Instr.box ty (.agg cs.toArray)).run P w = .ok (.pointer (some ⟨w.heap.size, 0, none⟩)) (w.alloc (.cells cs.toArray ty)) := rfl
  unfold Oper.wp
  simp only [execOp, ho, hx, Sem.run_bind, hr, Result.andThen_ok, Sem.run_pure]
  exact hK _ _ (h _ _ (newR w ty cs))
theorem wpL_val (hw : Region.wanted o (yielded ops a.tmps) = true) (v : Value) (hrun : (execOp a.eval o).run P w = .ok (.value v) w) (h : wpList P ops Q rest (a.put o.dst v) w) : wpList P ops Q (o :: rest) a w := by
  refine wpList_step fun K hK => ?_
  rw [if_pos hw]
  unfold Oper.wp
  rw [hrun]
  exact hK _ _ h
theorem ImT.wpNew (h : ImT P ty mt tt ct) (hgd : o.guard = none) (ho : o.op = .alloc ty)
    (hk : ∀ (W : World) (b : Nat), NewR w ty (icells I0) W b → wpList P ops Q rest (a.put o.dst (.pointer (some ⟨b, 0, none⟩))) W) : wpList P ops Q (o :: rest) a w := by
  refine wpList_plain hgd fun K hK => ?_
  have hr : (Instr.alloc ty true (.tuple #[])).run P w = .ok (.pointer (some ⟨w.heap.size, 0, none⟩)) (w.alloc (.cells (icells I0).toArray ty)) := by
    have h0 : (newVar ty (imv I0)).run P w = .ok ⟨w.heap.size, 0, none⟩ (w.alloc (.cells (icells I0).toArray ty)) := run_newVar ty (imv I0)
    simp only [Instr.alloc, Sem.run_bind, h.zero, Result.andThen_ok, h0, Sem.run_pure]
  unfold Oper.wp
  simp only [execOp, ho, Sem.run_bind, hr, Result.andThen_ok, Sem.run_pure]
  exact hK _ _ (hk _ _ (newR w ty _))
theorem ImT.wpLoad (h : ImT P ty mt tt ct) (hw : Region.wanted o (yielded ops a.tmps) = true) (x : Operand) (ho : o.op = .load ty x) {g : Nat} {e : TypeId} {fr : Nat × Nat} {i : Im} (hx : a.eval x = .pointer (some ⟨g, 0, none⟩)) (hr : w.heap[g]? = some (.cells (icells i).toArray e fr)) (hi : i.T.length = 8)
    (hk : wpList P ops Q rest (a.put o.dst (imv i)) w) : wpList P ops Q (o :: rest) a w :=
  wpL_val hw _ (by have hrun := h.loads hr hi; simp only [execOp, ho, hx, Sem.run_bind, hrun, Result.andThen_ok, Sem.run_pure]) hk
theorem ImT.wpLoadT (h : ImT P ty mt tt ct) (hw : Region.wanted o (yielded ops a.tmps) = true) (x : Operand) (ho : o.op = .load tt x) {g : Nat} {e : TypeId} {fr : Nat × Nat} {i : Im} (hx : a.eval x = .pointer (some ⟨g, 3, none⟩)) (hr : w.heap[g]? = some (.cells (icells i).toArray e fr)) (hi : i.T.length = 8)
    (hk : wpList P ops Q rest (a.put o.dst (tbv i.T)) w) : wpList P ops Q (o :: rest) a w :=
  wpL_val hw _ (by have hrun := h.loadsT hr hi; simp only [execOp, ho, hx, Sem.run_bind, hrun, Result.andThen_ok, Sem.run_pure]) hk
theorem ImT.wpLoadM (h : ImT P ty mt tt ct) (hw : Region.wanted o (yielded ops a.tmps) = true) (x : Operand) (ho : o.op = .load mt x) {g : Nat} {e : TypeId} {fr : Nat × Nat} {i : Im} (hx : a.eval x = .pointer (some ⟨g, 0, none⟩)) (hr : w.heap[g]? = some (.cells (icells i).toArray e fr))
    (hk : wpList P ops Q rest (a.put o.dst (.agg #[.int .u64 (i.L : Int), .int .u64 (i.B : Int)])) w) : wpList P ops Q (o :: rest) a w :=
  wpL_val hw _ (by have hrun := h.loadsM hr; simp only [execOp, ho, hx, Sem.run_bind, hrun, Result.andThen_ok, Sem.run_pure]) hk
theorem ImT.wpBuild (h : ImT P ty mt tt ct) (hgd : o.guard = none) (ho : o.op = .build ty #[]) (hk : wpList P ops Q rest (a.put o.dst (imv I0)) w) : wpList P ops Q (o :: rest) a w := by
  refine wpList_plain hgd fun K hK => ?_
  have hrun := h.build w
  unfold Oper.wp
  simp only [execOp, ho, List.map_toArray, List.map_nil, Sem.run_bind, hrun, Result.andThen_ok, Sem.run_pure]
  exact hK _ _ hk
theorem ImT.wpStore (h : ImT P ty mt tt ct) (hgd : o.guard = none) (x y : Operand) (ho : o.op = .store ty x y) {g : Nat} {e : TypeId} {i j : Im} (hx : a.eval x = .pointer (some ⟨g, 0, none⟩)) (hy : a.eval y = imv j) (hr : w.heap[g]? = some (.cells (icells i).toArray e (0, 0))) (hi : i.T.length = 8) (hj : j.T.length = 8)
    (hk : ∀ W : World, Hid (W.heap[g]? = some (.cells (icells j).toArray e (0, 0))) → w.grownBy W (some g) → Hid (W.heap.size = w.heap.size) → wpList P ops Q rest (a.put o.dst undef) W) : wpList P ops Q (o :: rest) a w := by
  refine wpList_plain hgd fun K hK => ?_
  have hrun := h.stores hr hi hj
  unfold Oper.wp
  simp only [execOp, ho, hx, hy, Sem.run_bind, hrun, Result.andThen_ok, Sem.run_pure]
  exact hK _ _ (hk _ (Lib.hid (setRow_heap w g _ _ e _ hr)) ⟨rfl, rfl, rfl, by simp, fun k _ hk => setRow_other w g k _ (fun e => hk (by rw [e]))⟩ (Lib.hid (by simp)))
theorem ImT.wpEql (h : ImT P ty mt tt ct) (hw : Region.wanted o (yielded ops a.tmps) = true) (x y : Operand) (t : TypeId) (ho : o.op = .binOp .eql ty x y t) {i j : Im} (hx : a.eval x = imv i) (hy : a.eval y = imv j) (hi : i.T.length = 8) (hj : j.T.length = 8) {b : Bool} (hb : b = decide (i = j)) (hk : wpList P ops Q rest (a.put o.dst (.bool b)) w) : wpList P ops Q (o :: rest) a w :=
  wpL_val hw _ (by
    have h1 := h.eql (w := w) i j hi hj
    have h2 := h.guarded (w := w) .eql x y i j
    rw [hb]
    simp only [execOp, ho, hx, hy, Sem.run_bind, h1, h2, Result.andThen_ok, Sem.run_pure]) hk
theorem ImT.wpNeq (h : ImT P ty mt tt ct) (hw : Region.wanted o (yielded ops a.tmps) = true) (x y : Operand) (t : TypeId) (ho : o.op = .binOp .neq ty x y t) {i j : Im} (hx : a.eval x = imv i) (hy : a.eval y = imv j) (hi : i.T.length = 8) (hj : j.T.length = 8) {b : Bool} (hb : b = !decide (i = j)) (hk : wpList P ops Q rest (a.put o.dst (.bool b)) w) : wpList P ops Q (o :: rest) a w :=
  wpL_val hw _ (by
    have h1 := h.neq (w := w) i j hi hj
    have h2 := h.guarded (w := w) .neq x y i j
    rw [hb]
    simp only [execOp, ho, hx, hy, Sem.run_bind, h1, h2, Result.andThen_ok, Sem.run_pure]) hk
end
section
variable {P : Program} {ty mt tt ct : TypeId} {ops : Array Oper} {C : World → Prop} {K : Act → Prop} {o : Oper} {rest : List Oper} {a : Act}
theorem ImT.wpQload (h : ImT P ty mt tt ct) (hw : Region.wanted o (yielded ops a.tmps) = true) (x : Operand) (ho : o.op = .load ty x) {g : Nat} {e : TypeId} {fr : Nat × Nat} {i : Im} (hx : a.eval x = .pointer (some ⟨g, 0, none⟩)) (hr : ∀ w, C w → w.heap[g]? = some (.cells (icells i).toArray e fr)) (hi : i.T.length = 8) (hk : wpQuiet P ops C K rest (a.put o.dst (imv i))) : wpQuiet P ops C K (o :: rest) a :=
  wpQ_valw hw _ (fun w hC => by have hrun := h.loads (hr w hC) hi; simp only [execOp, ho, hx, Sem.run_bind, hrun, Result.andThen_ok, Sem.run_pure]) hk
theorem ImT.wpQloadT (h : ImT P ty mt tt ct) (hw : Region.wanted o (yielded ops a.tmps) = true) (x : Operand) (ho : o.op = .load tt x) {g : Nat} {e : TypeId} {fr : Nat × Nat} {i : Im} (hx : a.eval x = .pointer (some ⟨g, 3, none⟩)) (hr : ∀ w, C w → w.heap[g]? = some (.cells (icells i).toArray e fr)) (hi : i.T.length = 8) (hk : wpQuiet P ops C K rest (a.put o.dst (tbv i.T))) : wpQuiet P ops C K (o :: rest) a :=
  wpQ_valw hw _ (fun w hC => by have hrun := h.loadsT (hr w hC) hi; simp only [execOp, ho, hx, Sem.run_bind, hrun, Result.andThen_ok, Sem.run_pure]) hk
theorem ImT.wpQloadM (h : ImT P ty mt tt ct) (hw : Region.wanted o (yielded ops a.tmps) = true) (x : Operand) (ho : o.op = .load mt x) {g : Nat} {e : TypeId} {fr : Nat × Nat} {i : Im} (hx : a.eval x = .pointer (some ⟨g, 0, none⟩)) (hr : ∀ w, C w → w.heap[g]? = some (.cells (icells i).toArray e fr)) (hk : wpQuiet P ops C K rest (a.put o.dst (.agg #[.int .u64 (i.L : Int), .int .u64 (i.B : Int)]))) : wpQuiet P ops C K (o :: rest) a :=
  wpQ_valw hw _ (fun w hC => by have hrun := h.loadsM (hr w hC); simp only [execOp, ho, hx, Sem.run_bind, hrun, Result.andThen_ok, Sem.run_pure]) hk
theorem ImT.wpQeql (h : ImT P ty mt tt ct) (hw : Region.wanted o (yielded ops a.tmps) = true) (x y : Operand) (t : TypeId) (ho : o.op = .binOp .eql ty x y t) {i j : Im} (hx : a.eval x = imv i) (hy : a.eval y = imv j) (hi : i.T.length = 8) (hj : j.T.length = 8) {b : Bool} (hb : b = decide (i = j)) (hk : wpQuiet P ops C K rest (a.put o.dst (.bool b))) : wpQuiet P ops C K (o :: rest) a :=
  wpQ_valw hw (.bool b) (fun w _ => by
    have h1 := h.eql (w := w) i j hi hj
    have h2 := h.guarded (w := w) .eql x y i j
    rw [hb]
    simp only [execOp, ho, hx, hy, Sem.run_bind, h1, h2, Result.andThen_ok, Sem.run_pure]) hk
theorem ImT.wpQneq (h : ImT P ty mt tt ct) (hw : Region.wanted o (yielded ops a.tmps) = true) (x y : Operand) (t : TypeId) (ho : o.op = .binOp .neq ty x y t) {i j : Im} (hx : a.eval x = imv i) (hy : a.eval y = imv j) (hi : i.T.length = 8) (hj : j.T.length = 8) {b : Bool} (hb : b = !decide (i = j)) (hk : wpQuiet P ops C K rest (a.put o.dst (.bool b))) : wpQuiet P ops C K (o :: rest) a :=
  wpQ_valw hw (.bool b) (fun w _ => by
    have h1 := h.neq (w := w) i j hi hj
    have h2 := h.guarded (w := w) .neq x y i j
    rw [hb]
    simp only [execOp, ho, hx, hy, Sem.run_bind, h1, h2, Result.andThen_ok, Sem.run_pure]) hk
end

end Go.Proofs.YtgejmeankppmhaaDoor
