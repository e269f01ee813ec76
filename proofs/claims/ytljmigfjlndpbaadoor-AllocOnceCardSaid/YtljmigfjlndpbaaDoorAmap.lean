/- A map of numbers to truth values: which numbers it says true of, and how many it has. -/
import Derived.Test.YtljmigfjlndpbaaDoorAplay
import Derived.Maps.OwnSet
import Derived.IntWalk
namespace Go.Proofs.YtljmigfjlndpbaaDoor
open Go.RowKit
open Go.Maps (Keyed)

def Key (x : Int) : Prop := -9223372036854775808 ≤ x ∧ x ≤ 9223372036854775807
theorem Key.wf {x : Int} (h : Key x) : (Lit.int .i64 x).wf = true := by
  unfold Key at h
  simp [Lit.wf, IntKind.min, IntKind.max, IntKind.signed, IntKind.bits]
  omega
def bE : Value → Option (DataW Unit × List MemPlace)
  | .bool x => some (.lit (.bool x), [])
  | _ => none
/-- Block b is a map of at most m numbers; it has c, each of which it says true of; f tells which. -/
def BM (w : World) (b m : Nat) (f : Int → Bool) (c : Nat) : Prop := ∃ D, w.ownsMap Tryd.prog 3 bE b m D ∧ (∀ x, Maps.has D (.int .i64 x) = f x ∧ (f x = true → ∀ zd, D.atKey (.int .i64 x) zd = .lit (.bool true))) ∧ Maps.size D = c
theorem kK : Keyed Tryd.prog 3 := Maps.int_keyed Tryd.underlying3
theorem mT : Tryd.prog.underlying 48 = some (.map 3 4) := Tryd.underlying48
theorem bT : Tryd.prog.underlying 4 = some .bool := Tryd.underlying4
theorem bE_inv {v : Value} {z : DataW Unit × List MemPlace} (h : bE v = some z) : ∃ y, v = .bool y ∧ z = (.lit (.bool y), []) := by
  unfold bE at h
  split at h
  · cases h; exact ⟨_, rfl, rfl⟩
  · cases h
section
variable {w w' : World} {b m c : Nat} {f : Int → Bool}
theorem BM.lt (h : BM w b m f c) : b < w.heap.size := by obtain ⟨D, h, _⟩ := h; exact h.lt
theorem BM.kept {row : Option Nat} (h : BM w b m f c) (hg : w.grownBy w' row) (hne : some b ≠ row) : BM w' b m f c := by
  obtain ⟨D, h1, h2⟩ := h
  exact ⟨D, h1.kept hg hne, h2⟩
theorem BM.below (h : BM w b m f c) (hb : Below w.heap.size w w') : BM w' b m f c := h.kept (below_grown hb none) (by simp)
theorem BM.same (h : BM w b m f c) (hb : w'.heap[b]? = w.heap[b]?) : BM w' b m f c := by
  obtain ⟨D, ⟨es, clock, h1, r⟩, h2⟩ := h
  exact ⟨D, ⟨es, clock, hb.trans h1, r⟩, h2⟩
theorem BM.made (w : World) : BM (w.alloc (.map #[] 0)) w.heap.size 0 (fun _ => false) 0 :=
  ⟨_, World.ownsMap_made w _ _ _, fun x => ⟨by simp [Maps.has_eq], fun h => by cases h⟩, rfl⟩
theorem BM.look (h : BM w b m f c) {x : Int} (hx : Key x) : (Instr.lookup 48 (.map (some b)) (.int .i64 x) false).run Tryd.prog w = .ok (.bool (f x)) w := by
  obtain ⟨D, h1, h2, _⟩ := h
  obtain ⟨v, ps, hrun, hR⟩ := h1.lookup kK mT (z := .bool false) (by kernel_rfl) (zd := .lit (.bool false)) (zp := []) (rfl : bE (.bool false) = _) (Maps.keyOf_int_mk Tryd.underlying3 hx.wf)
  obtain ⟨y, rfl, hy⟩ := bE_inv hR
  simp only [Prod.mk.injEq] at hy
  obtain ⟨h3, h4⟩ := h2 x
  have e : y = f x := by
    cases hf : f x with
    | true =>
      have := (h4 hf _).symm.trans hy.1
      cases this
      rfl
    | false =>
      rw [hf] at h3
      have := (Maps.atKey_of_not_has h3 _).symm.trans hy.1
      cases this
      rfl
  rw [← e]
  exact hrun
theorem BM.len (h : BM w b m f c) (ty : TypeId) : (Builtin.len_ #[48] ty #[.map (some b)]).run Tryd.prog w = .ok (.int .i64 (c : Int)) w := by
  obtain ⟨D, h1, _, h3⟩ := h
  rw [← h3]
  exact h1.len mT ty
theorem BM.put (h : BM w b m f c) (hm : m < maxLen) {x : Int} (hx : Key x) : ∃ w', (Instr.mapUpdate 48 (.map (some b)) (.int .i64 x) (.bool true)).run Tryd.prog w = .ok () w' ∧ BM w' b (m + 1) (fun y => if y = x then true else f y) (if f x then c else c + 1) ∧ w.grownBy w' (some b) := by
  obtain ⟨D, h1, h2, h3⟩ := h
  obtain ⟨w', hrun, h4, h5⟩ := h1.store kK mT hm (Maps.keyOf_int_mk Tryd.underlying3 hx.wf) (rfl : bE (.bool true) = _)
  refine ⟨w', hrun, ⟨_, h4, fun y => ?_, ?_⟩, h5.grown⟩
  · dsimp only
    by_cases hy : y = x
    · subst hy
      rw [if_pos rfl]
      exact ⟨Maps.has_put_same h1.isMap (by exact trivial) _, fun _ zd => Maps.atKey_put_same h1.isMap (by exact trivial) _ zd⟩
    · rw [if_neg hy]
      have hne : (Lit.int .i64 y) ≠ .int .i64 x := fun e => hy (by cases e; rfl)
      rw [Maps.has_put_other hne]
      exact ⟨(h2 y).1, fun hf zd => (Maps.atKey_put_other hne _ zd).trans ((h2 y).2 hf zd)⟩
  · rw [Maps.size_put (h1.tidy kK), (h2 x).1, h3]
theorem BM.drop (h : BM w b m f c) {x : Int} (hx : Key x) (ty : TypeId) : ∃ w', (Builtin.delete_ #[48, 3] ty #[.map (some b), .int .i64 x]).run Tryd.prog w = .ok (.tuple #[]) w' ∧ BM w' b m (fun y => if y = x then false else f y) (if f x then c - 1 else c) ∧ w.grownBy w' (some b) := by
  obtain ⟨D, h1, h2, h3⟩ := h
  obtain ⟨w', hrun, h4, h5⟩ := h1.drop kK mT (Maps.keyOf_int_mk Tryd.underlying3 hx.wf) ty
  refine ⟨w', hrun, ⟨_, h4, fun y => ?_, ?_⟩, h5.grown⟩
  · dsimp only
    by_cases hy : y = x
    · subst hy
      rw [if_pos rfl, Maps.has_del_same]
      exact ⟨rfl, fun h => by cases h⟩
    · rw [if_neg hy]
      have hne : (Lit.int .i64 y) ≠ .int .i64 x := fun e => hy (by cases e; rfl)
      rw [Maps.has_del_other hne]
      exact ⟨(h2 y).1, fun hf zd => (Maps.atKey_del_other hne zd).trans ((h2 y).2 hf zd)⟩
  · have := Maps.size_del (k := .int .i64 x) (h1.tidy kK)
    rw [(h2 x).1, h3] at this
    cases hf : f x <;> rw [hf] at this <;> simp at this ⊢ <;> omega
end
section
variable {w : World} {ops : Array Oper} {rest : List Oper} {o : Oper} {a : Act} {Q : Exit → Act → World → Prop} {b m c : Nat} {f : Int → Bool}
theorem wpL_bmput (hgd : o.guard = none) (x y v : Operand) (ho : o.op = .mapUpdate 48 x y v) {k : Int} (hx : a.eval x = .map (some b)) (hy : a.eval y = .int .i64 k) (hv : a.eval v = .bool true) (h : BM w b m f c) (hm : m < maxLen) (hk : Key k)
    (hK : ∀ W : World, Hid (BM W b (m + 1) (fun y => if y = k then true else f y) (if f k then c else c + 1)) → Hid (w.grownBy W (some b)) → wpList Tryd.prog ops Q rest (a.put o.dst undef) W) : wpList Tryd.prog ops Q (o :: rest) a w := by
  refine wpList_plain hgd fun K hK' => ?_
  obtain ⟨w', hrun, h1, h2⟩ := h.put hm hk
  unfold Oper.wp
  simp only [execOp, ho, hx, hy, hv, Sem.run_bind, hrun, Result.andThen_ok, Sem.run_pure]
  exact hK' _ _ (hK w' (Lib.hid h1) (Lib.hid h2))
theorem wpL_bmdel (hgd : o.guard = none) (x y : Operand) (ho : o.op = .call { callee := .builtin .delete, args := #[x, y], argTypes := #[48, 3] }) {k : Int} (hx : a.eval x = .map (some b)) (hy : a.eval y = .int .i64 k) (h : BM w b m f c) (hk : Key k)
    (hK : ∀ W : World, Hid (BM W b m (fun y => if y = k then false else f y) (if f k then c - 1 else c)) → Hid (w.grownBy W (some b)) → wpList Tryd.prog ops Q rest (a.put o.dst (.tuple #[])) W) : wpList Tryd.prog ops Q (o :: rest) a w := by
  refine wpList_plain hgd fun K hK' => ?_
  obtain ⟨w', hrun, h1, h2⟩ := h.drop hk o.type
  unfold Oper.wp
  simp [execOp, ho, resolve, invoke, builtin, hx, hy, hrun, Result.andThen]
  exact hK' _ _ (hK w' (Lib.hid h1) (Lib.hid h2))
theorem wpL_bmlen (hgd : o.guard = none) (x : Operand) (ho : o.op = .call { callee := .builtin .len, args := #[x], argTypes := #[48] }) (hx : a.eval x = .map (some b)) (h : BM w b m f c)
    (hK : wpList Tryd.prog ops Q rest (a.put o.dst (.int .i64 (c : Int))) w) : wpList Tryd.prog ops Q (o :: rest) a w := by
  refine wpList_plain hgd fun K hK' => ?_
  have hrun := h.len o.type
  unfold Oper.wp
  simp [execOp, ho, resolve, invoke, builtin, hx, hrun, Result.andThen]
  exact hK' _ _ hK
theorem wpL_bmlook (hgd : o.guard = none) (x y : Operand) (ho : o.op = .lookup 48 x y false) {k : Int} (hx : a.eval x = .map (some b)) (hy : a.eval y = .int .i64 k) (h : BM w b m f c) (hk : Key k)
    (hK : wpList Tryd.prog ops Q rest (a.put o.dst (.bool (f k))) w) : wpList Tryd.prog ops Q (o :: rest) a w := by
  refine wpList_plain hgd fun K hK' => ?_
  have hrun := h.look hk
  unfold Oper.wp
  simp only [execOp, ho, hx, hy, Sem.run_bind, hrun, Result.andThen_ok, Sem.run_pure]
  exact hK' _ _ hK
end

/-! ### how many are free -/
section
variable {a : Av} {k : Nat}
theorem cnt_flip (h : a.Ok k) {i : Nat} (hi : i < a.n) (m : Nat) : cnt (a.flip i) m + (if i < m ∧ bitAt a.ws i = true then 1 else 0) = cnt a m + (if i < m ∧ bitAt a.ws i = false then 1 else 0) := by
  induction m with
  | zero => rfl
  | succ m ih =>
    rw [cnt_succ, cnt_succ, flip_at h hi m]
    by_cases hm : i = m
    · subst hm
      rw [if_neg (by omega), if_neg (by omega)] at ih
      cases hb : bitAt a.ws i <;> simp <;> omega
    · rw [if_neg hm]
      by_cases h1 : i < m
      · have h2 : i < m + 1 := by omega
        simp only [h1, h2, true_and] at ih ⊢
        omega
      · have h2 : ¬ i < m + 1 := by omega
        simp only [h1, h2, false_and, if_false, Nat.add_zero] at ih ⊢
        omega
theorem free_flip (h : a.Ok k) {i : Nat} (hi : i < a.n) : (a.flip i).free + (if bitAt a.ws i = true then 1 else 0) = a.free + (if bitAt a.ws i = false then 1 else 0) := by
  have := cnt_flip h hi a.n
  rw [free_cnt h, free_cnt (h.flip hi)]
  show cnt (a.flip i) a.n + _ = _
  simpa [hi] using this
theorem free_le (h : a.Ok k) : a.free ≤ a.n := by rw [free_cnt h]; exact cnt_le a a.n
theorem has_flip (h : a.Ok k) {i : Nat} (hi : i < a.n) (y : Int) : (a.flip i).has y = if y = (i : Int) then bitAt a.ws i else a.has y := by
  unfold Av.has
  show (inA a y && !bitAt (a.flip i).ws y.toNat) = _
  rw [flip_at h hi]
  by_cases hy : y = (i : Int)
  · subst hy
    simp [inA, hi]
  · rw [if_neg hy]
    by_cases h1 : i = y.toNat
    · have : inA a y = false := by unfold inA; simp; omega
      simp [this]
    · rw [if_neg h1]
theorem fresh_has {n : Nat} (h : Fresh a n) (y : Int) : a.has y = false := by
  unfold Av.has inA
  rw [h.1, h.2]
  by_cases hy : 0 ≤ y ∧ y < (n : Int)
  · have : y.toNat < n := by omega
    simp [this]
  · simp [hy]
theorem cnt_all {n : Nat} (h : ∀ j, j < n → bitAt a.ws j = true) : cnt a n = n := by
  induction n with
  | zero => rfl
  | succ n ih => rw [cnt_succ, ih (fun j hj => h j (by omega)), h n (by omega)]; rfl
theorem fresh_free {n : Nat} (h : Fresh a n) (ho : a.Ok k) : a.free = n := by
  rw [free_cnt ho, h.1]
  exact cnt_all (fun j hj => by rw [h.2]; simpa using hj)
theorem none_free (h : a.Ok k) (hf : a.first = none) : a.free = 0 := by
  rw [free_cnt h]
  have := first_is h
  rw [hf] at this
  have : ∀ n, cnt a n = 0 := by
    intro n
    induction n with
    | zero => rfl
    | succ n ih => rw [cnt_succ, ih, show bitAt a.ws n = false from this n]; rfl
  exact this a.n
end
end Go.Proofs.YtljmigfjlndpbaaDoor
