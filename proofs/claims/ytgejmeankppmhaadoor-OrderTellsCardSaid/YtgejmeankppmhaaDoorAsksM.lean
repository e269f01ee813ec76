/- Tables as values: what is made, laid, taken and compared. What is asked of a client: closures, asks, Has, Old. -/
import Derived.Test.YtgejmeankppmhaaDoorDoneM
import Derived.Laws.StructEq
import Derived.Laws.Tables
import Derived.Deep.WholeRow
namespace Go.Proofs.YtgejmeankppmhaaDoor
open Go.RowKit

theorem row_below {w w' : World} {b : Nat} {o : Obj} (h : w.heap[b]? = some o) (hb : Below w.heap.size w w') : w'.heap[b]? = some o :=
  (hb.block b (Array.getElem?_eq_some_iff.1 h).1).trans h
theorem row_far {w w' : World} {row : Option Nat} {b : Nat} {o : Obj} (h : w.heap[b]? = some o) (hg : w.grownBy w' row) (hr : some b ≠ row) : w'.heap[b]? = some o :=
  (hg.block b (Array.getElem?_eq_some_iff.1 h).1 hr).trans h
section
variable {P : Program} {ops : Array Oper} {C : World → Prop} {K : Act → Prop} {o : Oper} {rest : List Oper} {a : Act}
theorem wpQ_val (hgd : o.guard = none) (v : Value) (hrun : ∀ x, C x → (execOp a.eval o).run P x = .ok (.value v) x) (h : wpQuiet P ops C K rest (a.put o.dst v)) : wpQuiet P ops C K (o :: rest) a := by
  unfold wpQuiet
  have hw : Region.wanted o (yielded ops a.tmps) = true := by unfold Region.wanted; rw [hgd]
  rw [if_pos hw]
  refine ⟨v, fun x hx => ?_, h⟩
  unfold Oper.quietAt
  rw [hrun x hx]
  exact ⟨rfl, rfl⟩
theorem wpQ_load (hgd : o.guard = none) (ty : TypeId) (x : Operand) (ho : o.op = .load ty x) {p v : Value} (hx : a.eval x = p) (hrun : ∀ w, C w → (Instr.loadAt ty p).run P w = .ok v w) (h : wpQuiet P ops C K rest (a.put o.dst v)) : wpQuiet P ops C K (o :: rest) a :=
  wpQ_val hgd v (fun w hw => by simp [execOp, ho, hx, hrun w hw, Result.andThen]) h
end
def tcells (T : List Cl) : List Value := T.flatMap fun p => [.int .u64 (p.1 : Int), .int .u16 (p.2 : Int)]
def tbv (T : List Cl) : Value := .agg (tcells T).toArray
def T0 : List Cl := List.replicate 8 (0, 0)
theorem tcells_len (T : List Cl) : (tcells T).length = 2 * T.length := by
  induction T with
  | nil => rfl
  | cons p T ih => simp only [tcells, List.flatMap_cons, List.length_append, List.length_cons, List.length_nil] at ih ⊢; omega
theorem tcells_cons (p : Cl) (T : List Cl) : tcells (p :: T) = .int .u64 (p.1 : Int) :: .int .u16 (p.2 : Int) :: tcells T := rfl
theorem tcells_get (T : List Cl) (i : Nat) (p : Cl) (h : T[i]? = some p) : (tcells T)[i * 2]? = some (.int .u64 (p.1 : Int)) ∧ (tcells T)[i * 2 + 1]? = some (.int .u16 (p.2 : Int)) := by
  induction T generalizing i with
  | nil => cases h
  | cons q T ih =>
    rw [tcells_cons]
    cases i with
    | zero =>
      obtain rfl : q = p := by simpa using h
      exact ⟨rfl, rfl⟩
    | succ i =>
      have := ih i (by simpa using h)
      rw [show (i + 1) * 2 = i * 2 + 1 + 1 from by omega]
      exact this
theorem tcells_set (T : List Cl) (i : Nat) (p : Cl) : ((tcells T).set (i * 2) (.int .u64 (p.1 : Int))).set (i * 2 + 1) (.int .u16 (p.2 : Int)) = tcells (T.set i p) := by
  induction T generalizing i with
  | nil => rfl
  | cons q T ih =>
    cases i with
    | zero => rfl
    | succ i =>
      rw [tcells_cons, List.set_cons_succ, tcells_cons, show (i + 1) * 2 = i * 2 + 1 + 1 from by omega]
      simp only [List.set_cons_succ]
      rw [ih]
theorem tcells_one (T : List Cl) : ∀ u ∈ tcells T, u.oneCell' = true := by
  intro u hu
  simp only [tcells, List.mem_flatMap] at hu
  obtain ⟨p, _, hu⟩ := hu
  simp only [List.mem_cons, List.not_mem_nil, or_false] at hu
  rcases hu with rfl | rfl <;> rfl

structure TabT (P : Program) (ty ct : TypeId) : Prop where
  und : P.underlying ty = some (.array 8 ct)
  size : (P.info? ty).map (·.size) = some 16
  csize : (P.info? ct).map (·.size) = some 2
  cund : P.underlying ct = some (.struct (P.fieldsOf ct))
  flds : ∃ f0 f1, (P.fieldsOf ct).toList = [f0, f1] ∧ f0.name ≠ "_" ∧ f1.name ≠ "_" ∧ P.underlying f0.type = some (.int .u64) ∧ f0.offset = 0 ∧ P.underlying f1.type = some (.int .u16) ∧ f1.offset = 1
  stood : P.stoodInHeld ct = false
  zero : ∀ w, (zeroValue ty).run P w = .ok (tbv T0) w
  build : ∀ w, (Instr.build ty #[]).run P w = .ok (tbv T0) w
  guard : P.eqGuardType P.depth ty = false

theorem tabA : TabT Tryd.prog 30 28 where
  und := Tryd.underlying30
  size := by kernel_rfl
  csize := by kernel_rfl
  cund := by unfold Program.fieldsOf; rw [Tryd.underlying28]
  flds := by
    unfold Program.fieldsOf
    rw [Tryd.underlying28]
    exact ⟨_, _, rfl, by simp, by simp, Tryd.underlying23, rfl, Tryd.underlying26, rfl⟩
  stood := by kernel_rfl
  zero := fun w => by kernel_rfl
  build := fun w => by kernel_rfl
  guard := by kernel_rfl
theorem tabB : TabT Tryd.prog 49 47 where
  und := Tryd.underlying49
  size := by kernel_rfl
  csize := by kernel_rfl
  cund := by unfold Program.fieldsOf; rw [Tryd.underlying47]
  flds := by
    unfold Program.fieldsOf
    rw [Tryd.underlying47]
    exact ⟨_, _, rfl, by simp, by simp, Tryd.underlying23, rfl, Tryd.underlying26, rfl⟩
  stood := by kernel_rfl
  zero := fun w => by kernel_rfl
  build := fun w => by kernel_rfl
  guard := by kernel_rfl

section
variable {P : Program} {w : World}
theorem info_of {ty : TypeId} {n : Nat} (h : (P.info? ty).map (·.size) = some n) : ∃ i, P.info? ty = some i ∧ i.size = n := by
  cases hi : P.info? ty with
  | none => rw [hi] at h; cases h
  | some i => rw [hi] at h; exact ⟨i, rfl, by simpa using h⟩
theorem run_size {ty : TypeId} {n : Nat} (h : (P.info? ty).map (·.size) = some n) : (Go.sizeOf ty).run P w = .ok n w := by
  obtain ⟨i, hi, hn⟩ := info_of h
  simp [Go.sizeOf, Go.typeInfo, hi, hn, Result.andThen]
/-- One part after the other. -/
def eqAllN (d : Nat) (e : TypeId) (n : Nat) (xs ys : Array Value) : List Nat → Sem Bool
  | [] => pure true
  | i :: is => do
    let a ← Go.part e xs (i * n)
    let b ← Go.part e ys (i * n)
    let r ← Op.equalIn d e a b
    if (!r) = true then pure false else eqAllN d e n xs ys is
theorem run_equalIn_arrN (d : Nat) (w : World) (t e : TypeId) (n k : Nat) (xs ys : Array Value) (ht : P.underlying t = some (.array n e)) (hz : (P.info? e).map (·.size) = some k) :
    (Op.equalIn (d + 1) t (.agg xs) (.agg ys)).run P w = (eqAllN d e k xs ys (List.range' 0 n)).run P w := by
  have hsz : (Go.sizeOf e).run P w = .ok k w := run_size hz
  simp only [Op.equalIn, Sem.run_bind, run_underlying ht, Result.andThen_ok, hsz]
  simp only [Std.Legacy.Range.forIn_eq_forIn_range', Std.Legacy.Range.size, Nat.sub_zero, Nat.add_sub_cancel, Nat.div_one]
  generalize List.range' 0 n 1 = is
  clear hsz
  induction is generalizing w with
  | nil => simp [eqAllN]
  | cons i is ih =>
    simp only [List.forIn_cons, eqAllN, Sem.run_bind, Sem.run_ite]
    generalize (Go.part e xs (i * k)).run P w = r1
    cases r1 with
    | ok a w1 =>
      simp only [Result.andThen_ok]
      generalize (Go.part e ys (i * k)).run P w1 = r2
      cases r2 with
      | ok b w2 =>
        simp only [Result.andThen_ok]
        generalize (Op.equalIn d e a b).run P w2 = r3
        cases r3 with
        | ok r w3 =>
          cases r
          · simp only [Result.andThen_ok, Bool.not_false, if_true, Sem.run_pure]
          · simp only [Result.andThen_ok, Bool.not_true, Bool.false_eq_true, if_false, Sem.run_pure]
            exact ih w3
        | halt x w3 => simp [Result.andThen]
      | halt x w2 => simp [Result.andThen]
    | halt x w1 => simp [Result.andThen]
theorem eqFieldsP (d : Nat) (w : World) (xs ys : Array Value) (f0 f1 : Field) (n0 : f0.name ≠ "_") (n1 : f1.name ≠ "_") (a b a' b' : Value) (r0 r1 : Bool) (h0 : (Go.part f0.type xs f0.offset).run P w = .ok a w) (h1 : (Go.part f1.type xs f1.offset).run P w = .ok b w)
    (k0 : (Go.part f0.type ys f0.offset).run P w = .ok a' w) (k1 : (Go.part f1.type ys f1.offset).run P w = .ok b' w)
    (e0 : (Op.equalIn d f0.type a a').run P w = .ok r0 w) (e1 : (Op.equalIn d f1.type b b').run P w = .ok r1 w) : (Op.eqFields d xs ys [f0, f1]).run P w = .ok (r0 && r1) w := by
  unfold Op.eqFields
  rw [if_pos n0]
  cases r0
  · simp only [Sem.run_bind, h0, k0, e0, Result.andThen_ok, Bool.not_false, if_true, Sem.run_pure, Bool.false_and]
  · simp only [Sem.run_bind, h0, k0, e0, Result.andThen_ok, Bool.not_true, Bool.false_eq_true, if_false]
    unfold Op.eqFields
    rw [if_pos n1]
    cases r1
    · simp only [Sem.run_bind, h1, k1, e1, Result.andThen_ok, Bool.not_false, if_true, Sem.run_pure, Bool.true_and]
    · simp only [Sem.run_bind, h1, k1, e1, Result.andThen_ok, Bool.not_true, Bool.false_eq_true, if_false]
      unfold Op.eqFields
      rfl
variable {ty ct : TypeId}
theorem TabT.eqCl (h : TabT P ty ct) (d : Nat) (p q : Cl) : (Op.equalIn (d + 2) ct (clv p) (clv q)).run P w = .ok (decide (p = q)) w := by
  obtain ⟨f0, f1, hf, n0, n1, u0, o0, u1, o1⟩ := h.flds
  have hpart : ∀ (cs : Array Value) (t : TypeId) (k : IntKind) (j : Nat) (x : Value), P.underlying t = some (.int k) → cs[j]? = some x → (Go.part t cs j).run P w = .ok x w := by
    intro cs t k j x ht hx
    have ha : (isAgg t).run P w = .ok false w := by unfold isAgg; rw [Sem.run_bind, run_underlying ht w]; rfl
    simp [Go.part, Sem.run_bind, ha, hx, Result.andThen]
  unfold clv
  rw [run_equalIn_struct w (d + 1) ct _ _ h.cund h.stood, hf]
  refine (eqFieldsP (d + 1) w _ _ f0 f1 n0 n1 _ _ _ _ _ _ (hpart _ _ _ _ _ u0 (by rw [o0]; rfl)) (hpart _ _ _ _ _ u1 (by rw [o1]; rfl)) (hpart _ _ _ _ _ u0 (by rw [o0]; rfl)) (hpart _ _ _ _ _ u1 (by rw [o1]; rfl)) (run_equalIn_int w d _ .u64 .u64 _ _ u0) (run_equalIn_int w d _ .u16 .u16 _ _ u1)).trans ?_
  congr 1
  rw [Bool.eq_iff_iff]
  simp [Prod.ext_iff]
  omega
theorem TabT.partCl (h : TabT P ty ct) (T : List Cl) (i : Nat) (p : Cl) (hp : T[i]? = some p) : (Go.part ct (tcells T).toArray (i * 2)).run P w = .ok (clv p) w := by
  have ha : (isAgg ct).run P w = .ok true w := by unfold isAgg; rw [Sem.run_bind, run_underlying h.cund w]; rfl
  have hs : (Go.sizeOf ct).run P w = .ok 2 w := run_size h.csize
  obtain ⟨g0, g1⟩ := tcells_get T i p hp
  have hl := tcells_len T
  have hi : i < T.length := (List.getElem?_eq_some_iff.1 hp).1
  have e : ((tcells T).toArray.extract (i * 2) (i * 2 + 2)) = #[.int .u64 (p.1 : Int), .int .u16 (p.2 : Int)] := by
    apply Array.ext'
    simp only [List.extract_toArray, List.extract_eq_take_drop]
    apply List.ext_getElem?
    intro j
    rw [List.getElem?_take, List.getElem?_drop]
    match j with
    | 0 => simpa using g0
    | 1 => simpa using g1
    | j + 2 => rw [if_neg (by omega)]; rfl
  simp only [Go.part, Sem.run_bind, ha, hs, Result.andThen_ok, if_true, Sem.run_pure, e]
  rfl
theorem TabT.eqTail (h : TabT P ty ct) (d : Nat) (S T : List Cl) (hl : S.length = T.length) : ∀ (m k : Nat), k + m = S.length → S.take k = T.take k →
    (eqAllN (d + 2) ct 2 (tcells S).toArray (tcells T).toArray (List.range' k m)).run P w = .ok (decide (S = T)) w := by
  intro m
  induction m with
  | zero =>
    intro k hk ht
    have : S = T := by rwa [List.take_of_length_le (by omega), List.take_of_length_le (by omega)] at ht
    simp [eqAllN, this]
  | succ m ih =>
    intro k hk ht
    have h1 : k < S.length := by omega
    have h2 : k < T.length := by omega
    rw [List.range'_succ]
    simp only [eqAllN, Sem.run_bind, h.partCl S k S[k] (List.getElem?_eq_getElem h1), h.partCl T k T[k] (List.getElem?_eq_getElem h2), Result.andThen_ok, h.eqCl]
    by_cases hx : S[k] = T[k]
    · simp only [hx, decide_true, Bool.not_true, Bool.false_eq_true, if_false]
      exact ih (k + 1) (by omega) (by rw [List.take_succ_eq_append_getElem h1, List.take_succ_eq_append_getElem h2, ht, hx])
    · have hsn : S ≠ T := fun e => hx (by subst e; rfl)
      simp [hx, hsn]
theorem TabT.eqIn (h : TabT P ty ct) (d : Nat) (S T : List Cl) (hS : S.length = 8) (hT : T.length = 8) : (Op.equalIn (d + 3) ty (tbv S) (tbv T)).run P w = .ok (decide (S = T)) w := by
  unfold tbv
  rw [run_equalIn_arrN (d + 2) w ty ct 8 2 _ _ h.und h.csize]
  exact h.eqTail d S T (by omega) 8 0 (by omega) rfl
theorem TabT.eql (h : TabT P ty ct) (S T : List Cl) (hS : S.length = 8) (hT : T.length = 8) : (binOp .eql ty (tbv S) (tbv T)).run P w = .ok (.bool (decide (S = T))) w := by
  have := h.eqIn (w := w) 9997 S T hS hT
  unfold tbv at this ⊢
  rw [run_eql_struct, this]
  rfl
theorem TabT.neq (h : TabT P ty ct) (S T : List Cl) (hS : S.length = 8) (hT : T.length = 8) : (binOp .neq ty (tbv S) (tbv T)).run P w = .ok (.bool (!decide (S = T))) w := by
  have := h.eqIn (w := w) 9997 S T hS hT
  unfold tbv at this ⊢
  rw [run_neq_struct, this]
  rfl
theorem TabT.guarded (h : TabT P ty ct) (op : BinOp) (x y : Operand) (S T : List Cl) : (eqGuard op ty x y (tbv S) (tbv T)).run P w = .ok () w := run_eqGuard_agg w _ _ _ _ _ _ h.guard
theorem TabT.loads (h : TabT P ty ct) {g : Nat} {e : TypeId} {fr : Nat × Nat} {T : List Cl} (hr : w.heap[g]? = some (.cells (tcells T).toArray e fr)) (hT : T.length = 8) : (Instr.loadAt ty (.pointer (some ⟨g, 0, none⟩))).run P w = .ok (tbv T) w := by
  simp only [Instr.loadAt, Instr.sureAddr, Sem.run_bind, Sem.run_pure, Result.andThen_ok]
  exact run_loadVar_row w g e _ _ fr _ hr h.und rfl (by rw [h.size]; simp [tcells_len, hT])
theorem TabT.stores (h : TabT P ty ct) {g : Nat} {e : TypeId} {S T : List Cl} (hr : w.heap[g]? = some (.cells (tcells S).toArray e (0, 0))) (hS : S.length = 8) (hT : T.length = 8) : (Instr.storeAt ty (.pointer (some ⟨g, 0, none⟩)) (tbv T)).run P w = .ok () (w.setRow g (tcells T).toArray) := by
  simp only [Instr.storeAt, Instr.sureAddr, Sem.run_bind, Sem.run_pure, Result.andThen_ok]
  exact run_storeVar_row w g e ty _ _ hr (by rw [h.size]; simp [tcells_len, hT]) (by simp [tcells_len, hS, hT]) (by
    rw [Array.all_eq_true_iff_forall_mem]
    intro x hx
    exact tcells_one T x (by simpa using hx))
theorem TabT.wpQneq (h : TabT P ty ct) {ops : Array Oper} {C : World → Prop} {K : Act → Prop} {o : Oper} {rest : List Oper} {a : Act} (hgd : o.guard = none) (x y : Operand) (t : TypeId) (ho : o.op = .binOp .neq ty x y t) {S T : List Cl} (hx : a.eval x = tbv S) (hy : a.eval y = tbv T) (hS : S.length = 8) (hT : T.length = 8) {b : Bool} (hb : b = !decide (S = T)) (hk : wpQuiet P ops C K rest (a.put o.dst (.bool b))) : wpQuiet P ops C K (o :: rest) a :=
  wpQ_val hgd (.bool b) (fun w _ => by
    have h1 := h.neq (w := w) S T hS hT
    have h2 := h.guarded (w := w) .neq x y S T
    rw [hb]
    simp only [execOp, ho, hx, hy, Sem.run_bind, h1, h2, Result.andThen_ok, Sem.run_pure]) hk
theorem results_cell_tmp {fn : Func} {p q : Tmp} (h : fn.results = #[.cell p ty, .tmp q]) (tmps : Array Value) (g : Nat) (t : TypeId) (cs : Array Value) (fr : Nat × Nat) (d : TypeDesc)
    (hp : tmps.getD p undef = .pointer (some ⟨g, 0, none⟩)) (hg : w.heap[g]? = some (.cells cs t fr))
    (hu : P.underlying ty = some d) (hd : (match d with | .struct _ | .array _ _ => true | _ => false) = true) (hi : (P.info? ty).map (·.size) = some cs.size) :
    (results fn tmps).run P w = .ok (.tuple #[.agg cs, tmps.getD q undef]) w := by
  have hp' : tmps[p]?.getD undef = .pointer (some ⟨g, 0, none⟩) := by simpa using hp
  simp [results, h, hp', asAddr, run_loadVar_row w g t ty cs fr d hg hu hd hi]
theorem run_newVar (t : TypeId) (v : Value) : (newVar t v).run P w = .ok ⟨w.heap.size, 0, none⟩ (w.alloc (.cells v.cells t)) := by rfl

variable {ops : Array Oper} {rest : List Oper} {o : Oper} {a : Act} {Q : Exit → Act → World → Prop}
/-- A new table, or a box of one. -/
def NewT (w : World) (ty : TypeId) (T : List Cl) (W : World) (b : Nat) : Prop := Hid (b = w.heap.size) ∧ Hid (W.heap[b]? = some (.cells (tcells T).toArray ty (0, 0))) ∧ Below w.heap.size w W ∧ Hid (W.heap.size = b + 1)
theorem wpL_tbox (hgd : o.guard = none) (x : Operand) (ho : o.op = .box ty x) {T : List Cl} (hx : a.eval x = tbv T)
    (h : ∀ (W : World) (b : Nat), NewT w ty T W b → wpList P ops Q rest (a.put o.dst (.pointer (some ⟨b, 0, none⟩))) W) : wpList P ops Q (o :: rest) a w := by
  refine wpList_plain hgd fun K hK => ?_
  have hr : (Instr.box ty (tbv T)).run P w = .ok (.pointer (some ⟨w.heap.size, 0, none⟩)) (w.alloc (.cells (tcells T).toArray ty)) := rfl
  unfold Oper.wp
  simp only [execOp, ho, hx, Sem.run_bind, hr, Result.andThen_ok, Sem.run_pure]
  exact hK _ _ (h _ _ ⟨Lib.hid rfl, Lib.hid (heap_alloc_new w _), (Below.refl _ _).alloc (Nat.le_refl _) _, Lib.hid (by simp)⟩)
theorem TabT.wpNew (h : TabT P ty ct) (hgd : o.guard = none) (ho : o.op = .alloc ty)
    (hk : ∀ (W : World) (b : Nat), NewT w ty T0 W b → wpList P ops Q rest (a.put o.dst (.pointer (some ⟨b, 0, none⟩))) W) : wpList P ops Q (o :: rest) a w := by
  refine wpList_plain hgd fun K hK => ?_
  have hr : (Instr.alloc ty true (.tuple #[])).run P w = .ok (.pointer (some ⟨w.heap.size, 0, none⟩)) (w.alloc (.cells (tcells T0).toArray ty)) := by
    have h0 : (newVar ty (tbv T0)).run P w = .ok ⟨w.heap.size, 0, none⟩ (w.alloc (.cells (tcells T0).toArray ty)) := run_newVar ty (tbv T0)
    simp only [Instr.alloc, Sem.run_bind, h.zero, Result.andThen_ok, h0, Sem.run_pure]
  unfold Oper.wp
  simp only [execOp, ho, Sem.run_bind, hr, Result.andThen_ok, Sem.run_pure]
  exact hK _ _ (hk _ _ ⟨Lib.hid rfl, Lib.hid (heap_alloc_new w _), (Below.refl _ _).alloc (Nat.le_refl _) _, Lib.hid (by simp)⟩)
theorem TabT.wpLoad (h : TabT P ty ct) (hgd : o.guard = none) (x : Operand) (ho : o.op = .load ty x) {g : Nat} {e : TypeId} {fr : Nat × Nat} {T : List Cl} (hx : a.eval x = .pointer (some ⟨g, 0, none⟩)) (hr : w.heap[g]? = some (.cells (tcells T).toArray e fr)) (hT : T.length = 8)
    (hk : wpList P ops Q rest (a.put o.dst (tbv T)) w) : wpList P ops Q (o :: rest) a w := by
  refine wpList_plain hgd fun K hK => ?_
  have hrun := h.loads hr hT
  unfold Oper.wp
  simp only [execOp, ho, hx, Sem.run_bind, hrun, Result.andThen_ok, Sem.run_pure]
  exact hK _ _ hk
theorem TabT.wpStore (h : TabT P ty ct) (hgd : o.guard = none) (x y : Operand) (ho : o.op = .store ty x y) {g : Nat} {e : TypeId} {S T : List Cl} (hx : a.eval x = .pointer (some ⟨g, 0, none⟩)) (hy : a.eval y = tbv T) (hr : w.heap[g]? = some (.cells (tcells S).toArray e (0, 0))) (hS : S.length = 8) (hT : T.length = 8)
    (hk : ∀ W : World, Hid (W.heap[g]? = some (.cells (tcells T).toArray e (0, 0))) → w.grownBy W (some g) → Hid (W.heap.size = w.heap.size) → wpList P ops Q rest (a.put o.dst undef) W) : wpList P ops Q (o :: rest) a w := by
  refine wpList_plain hgd fun K hK => ?_
  have hrun := h.stores hr hS hT
  unfold Oper.wp
  simp only [execOp, ho, hx, hy, Sem.run_bind, hrun, Result.andThen_ok, Sem.run_pure]
  exact hK _ _ (hk _ (Lib.hid (setRow_heap w g _ _ e _ hr)) ⟨rfl, rfl, rfl, by simp, fun k _ hk => setRow_other w g k _ (fun e => hk (by rw [e]))⟩ (Lib.hid (by simp)))
theorem TabT.wpBuild (h : TabT P ty ct) (hgd : o.guard = none) (ho : o.op = .build ty #[]) (hk : wpList P ops Q rest (a.put o.dst (tbv T0)) w) : wpList P ops Q (o :: rest) a w := by
  refine wpList_plain hgd fun K hK => ?_
  have hrun := h.build w
  unfold Oper.wp
  simp only [execOp, ho, List.map_toArray, List.map_nil, Sem.run_bind, hrun, Result.andThen_ok, Sem.run_pure]
  exact hK _ _ hk
end

end Go.Proofs.YtgejmeankppmhaaDoor

namespace Go.Proofs.YtgejmeankppmhaaDoor
open Go.RowKit

def Tok (T : List Cl) : Prop := T.length = 8 ∧ ∀ p ∈ T, Cl.ok p
def at8 (T : List Cl) (c : Nat) (f : Cl → Bool) : Bool := decide (1 ≤ c ∧ c ≤ 8) && f (T.getD (c - 1) (0, 0))
theorem Tok.get {T : List Cl} (h : Tok T) (i : Nat) : (T.getD i (0, 0)).ok := by
  rw [List.getD]
  cases hi : T[i]? with
  | none => exact ⟨by decide, by decide⟩
  | some p => exact h.2 p (List.mem_of_getElem? hi)
theorem Tok.at_ {T : List Cl} (h : Tok T) {c : Nat} (h8 : 1 ≤ c ∧ c ≤ 8) : T[c - 1]? = some (T.getD (c - 1) (0, 0)) := by
  have : c - 1 < T.length := by have := h.1; omega
  rw [List.getD, List.getElem?_eq_getElem this]; rfl
theorem at8_in {T : List Cl} {c : Nat} (h8 : 1 ≤ c ∧ c ≤ 8) (f : Cl → Bool) : at8 T c f = f (T.getD (c - 1) (0, 0)) := by simp [at8, h8]
theorem at8_out {T : List Cl} {c : Nat} (h8 : ¬ (1 ≤ c ∧ c ≤ 8)) (f : Cl → Bool) : at8 T c f = false := by simp [at8, h8]

theorem add1_any (p : Cl) (r g : Nat) (w : World) (hp : p.ok) (hc : w.cell? ⟨g, 0, none⟩ = some (.int .u64 (r : Int))) :
    Calls Tryd.prog 48 #[clv p, .pointer (some ⟨g, 0, none⟩)] w fun e w' => e = .returned (.bool (!oldN p.1 r)) ∧ Below w.heap.size w w' := by
  have hh := fun W => old_any p r W hp
  have hc1 := fun o => cell_old (w := w) o hc
  skip
  unfold clv at hh ⊢
  go_enter Tryd.func48, Tryd.ntmps48
  go_wp2_with fail
  refine (hh _).mono ?_
  rintro e w1 ⟨rfl, hb1⟩
  go_wp2
  go_ret
  exact ⟨rfl, unal hb1⟩

set_option maxHeartbeats 1000000 in
theorem asks_add (T : List Cl) (c r g : Nat) (w : World) (hT : Tok T) (hc : w.cell? ⟨g, 0, none⟩ = some (.int .u64 (r : Int))) (hg : g < w.heap.size) :
    Calls Tryd.prog 47 #[tbv T, .int .u64 (c : Int), .func (.func 48) #[] #[.pointer (some ⟨g, 0, none⟩)]] w fun e w' => e = .returned (.bool (at8 T c fun p => !oldN p.1 r)) ∧ Below w.heap.size w w' := by
  by_cases h8 : 1 ≤ c ∧ c ≤ 8
  · have hi := hT.at_ h8
    have hfin := at8_in (T := T) h8 (fun p => !oldN p.1 r)
    rw [hfin]
    have hok := hT.get (c - 1)
    generalize T.getD (c - 1) (0, 0) = p at *
    obtain ⟨g0, g1⟩ := tcells_get T _ _ hi
    have hh := fun (W : World) (hb : Below w.heap.size w W) => add1_any p r g W hok ((hb.cell (p := ⟨g, 0, none⟩) hg).trans hc)
    obtain ⟨h1, h2⟩ := h8
    have HH := Lib.hid hh
    clear hfin hi hc hh
    unfold clv at HH
    go_enter Tryd.func47, Tryd.ntmps47
    go_wp2_with (first
      | (refine wpL_tbox rfl (.tmp 0) rfl rfl ?_; intro W b hN; obtain ⟨hb, hr, hbl, hz⟩ := hN
         have k0 : W.cell? ⟨b, (c - 1) * 2, none⟩ = some (.int .u64 (p.1 : Int)) := by rw [cell_of_row W b _ _ _ _ hr.out]; simpa using g0
         have k1 : W.cell? ⟨b, (c - 1) * 2 + 1, none⟩ = some (.int .u16 (p.2 : Int)) := by rw [cell_of_row W b _ _ _ _ hr.out]; simpa using g1)
      | (go_at_call 48; refine (HH.out _ hbl).mono ?_; rintro e w1 ⟨rfl, hb1⟩)
      | fail)
    go_ret
    exact ⟨rfl, hbl.trans (hb1.mono hbl.size)⟩
  · have hfin := at8_out (T := T) h8 (fun p => !oldN p.1 r)
    rcases Nat.lt_or_ge c 1 with h1 | h1
    · obtain rfl : c = 0 := by omega
      rw [hfin]
      clear h8 hfin hg hc hT
      go_enter Tryd.func47, Tryd.ntmps47
      go_wp2_with (first
        | (refine wpL_tbox rfl (.tmp 0) rfl rfl ?_; intro W b hN; obtain ⟨hb, hr, hbl, hz⟩ := hN)
        | fail)
      go_ret
      exact ⟨rfl, hbl⟩
    · have h2 : ¬ (c : Int) ≤ 8 := by omega
      have h3 : 1 ≤ (c : Int) := by omega
      clear h1
      rw [hfin]
      clear h8 hfin hg hc hT
      go_enter Tryd.func47, Tryd.ntmps47
      go_wp2_with (first
        | (refine wpL_tbox rfl (.tmp 0) rfl rfl ?_; intro W b hN; obtain ⟨hb, hr, hbl, hz⟩ := hN)
        | fail)
      go_ret
      exact ⟨rfl, hbl⟩


end Go.Proofs.YtgejmeankppmhaaDoor
