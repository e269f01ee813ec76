/- A drawn region as a tree, in which no block but some turns; operations that run to a value. -/
import Derived.Test.YtlpckhjmbfeegaaKeep
namespace Go.Proofs.Ytlpckhjmbfeegaa
open Go.RowKit
theorem ite_ok {c : Prop} [Decidable c] {A B : Prop} (h : c) (k : A) : if c then A else B := by rw [if_pos h]; exact k
section
variable {P : Program} {ops : Array Oper} {C : World → Prop} {o : Oper} {rest : List Oper} {a : Act} {w : World} {Q : Exit → Act → World → Prop}
/-- An operation that runs to a value. -/
theorem wp_run {K : Act → World → Prop} {v : Value} {w' : World} (hrun : (execOp a.eval o).run P w = .ok (.value v) w') (h : K (a.put o.dst v) w') : o.wp P a w K Q := by
  unfold Oper.wp
  rw [hrun]
  exact h
theorem wp_skip {K : Act → World → Prop} {w' : World} (hrun : (execOp a.eval o).run P w = .ok .skip w') (h : K (a.put o.dst undef) w') : o.wp P a w K Q := by
  unfold Oper.wp
  rw [hrun]
  exact h
theorem wp_look1 {K : Act → World → Prop} (ty : TypeId) (x y : Operand) (ok : Bool) (ho : o.op = .lookup ty x y ok) {p q v : Value} (hx : a.eval x = p) (hy : a.eval y = q) (hrun : (Instr.lookup ty p q ok).run P w = .ok v w) (h : K (a.put o.dst v) w) : o.wp P a w K Q :=
  wp_run (by simp only [execOp, ho, hx, hy, Sem.run_bind, hrun, Result.andThen_ok, Sem.run_pure]) h
theorem wp_bslice {K : Act → World → Prop} (ty : TypeId) (n : Nat) (x : Operand) (ho : o.op = .buildSlice ty n #[(0, x)]) {p v : Value} {w' : World} (hx : a.eval x = p) (hrun : (Instr.buildSlice ty n #[(0, p)]).run P w = .ok v w') (h : K (a.put o.dst v) w') : o.wp P a w K Q :=
  wp_run (by simp only [execOp, ho, List.map_toArray, List.map_cons, List.map_nil, hx, Sem.run_bind, hrun, Result.andThen_ok, Sem.run_pure]) h
theorem wp_update {K : Act → World → Prop} (ty : TypeId) (x y z : Operand) (ho : o.op = .mapUpdate ty x y z) {p q r : Value} {w' : World} (hx : a.eval x = p) (hy : a.eval y = q) (hz : a.eval z = r) (hrun : (Instr.mapUpdate ty p q r).run P w = .ok () w') (h : K (a.put o.dst undef) w') : o.wp P a w K Q :=
  wp_skip (by simp only [execOp, ho, hx, hy, hz, Sem.run_bind, hrun, Result.andThen_ok, Sem.run_pure]) h
theorem wp_treeF {id : Nat} {l : List Oper} (F : Nat → Prop) (t : Seg) (hm : P.follows .mixedOrders = true)
    (hok : (Region.noSelect l.toArray && (t.ok .any l.toArray (Array.replicate l.toArray.size false) && decide (t.steps ≤ l.toArray.size))) = true)
    (hQ : ∀ (d : Option Tmp) v c a w, Q (.panic c) (a.put d v) w → Q (.panic c) a w) (h : ∀ wd, Below w.heap.size w wd → wpTree P l.toArray Q (fun x => Keeps F w x) t a wd) : (Code.region id l.toArray true).wp P Q a w := by
  simp only [Bool.and_eq_true, decide_eq_true_eq] at hok
  exact wp_region_held hm (tree_sound hok.1 hQ t _ _ a _ hok.2.1 hok.2.2 (Keeps.refl _ _).drew (h _ (Below.refl _ _).drew))
theorem wpL_look (hgd : o.guard = none) (ty : TypeId) (x y : Operand) (ok : Bool) (ho : o.op = .lookup ty x y ok) {p q v : Value} (hx : a.eval x = p) (hy : a.eval y = q) (hrun : (Instr.lookup ty p q ok).run P w = .ok v w) (h : wpList P ops Q rest (a.put o.dst v) w) : wpList P ops Q (o :: rest) a w := by
  refine wpList_plain hgd fun K hK => ?_
  unfold Oper.wp
  simp only [execOp, ho, hx, hy, Sem.run_bind, hrun, Result.andThen_ok, Sem.run_pure]
  exact hK _ _ h
end
end Go.Proofs.Ytlpckhjmbfeegaa
