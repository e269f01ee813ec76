/- Tables in runs of operations that only read, guarded or not. -/
import Derived.Test.YtacaonlahggdeaaDoorAsks
namespace Go.Proofs.YtacaonlahggdeaaDoor
open Go.RowKit

section
variable {P : Program} {ty ct : TypeId}
theorem wpQ_valw {ops : Array Oper} {C : World → Prop} {K : Act → Prop} {o : Oper} {rest : List Oper} {a : Act} (hw : Region.wanted o (yielded ops a.tmps) = true) (v : Value) (hrun : ∀ x, C x → (execOp a.eval o).run P x = .ok (.value v) x) (h : wpQuiet P ops C K rest (a.put o.dst v)) : wpQuiet P ops C K (o :: rest) a := by
  unfold wpQuiet
  rw [if_pos hw]
  refine ⟨v, fun x hx => ?_, h⟩
  unfold Oper.quietAt
  rw [hrun x hx]
  exact ⟨rfl, rfl⟩
variable {ops : Array Oper} {C : World → Prop} {K : Act → Prop} {o : Oper} {rest : List Oper} {a : Act}
theorem TabT.wpQload (h : TabT P ty ct) (hw : Region.wanted o (yielded ops a.tmps) = true) (x : Operand) (ho : o.op = .load ty x) {g : Nat} {e : TypeId} {fr : Nat × Nat} {T : List Cl} (hx : a.eval x = .pointer (some ⟨g, 0, none⟩)) (hr : ∀ w, C w → w.heap[g]? = some (.cells (tcells T).toArray e fr)) (hT : T.length = 8) (hk : wpQuiet P ops C K rest (a.put o.dst (tbv T))) : wpQuiet P ops C K (o :: rest) a :=
  wpQ_valw hw (tbv T) (fun w hC => by
    have hrun := h.loads (hr w hC) hT
    simp only [execOp, ho, hx, Sem.run_bind, hrun, Result.andThen_ok, Sem.run_pure]) hk
theorem TabT.wpQeql (h : TabT P ty ct) (hw : Region.wanted o (yielded ops a.tmps) = true) (x y : Operand) (t : TypeId) (ho : o.op = .binOp .eql ty x y t) {S T : List Cl} (hx : a.eval x = tbv S) (hy : a.eval y = tbv T) (hS : S.length = 8) (hT : T.length = 8) {b : Bool} (hb : b = decide (S = T)) (hk : wpQuiet P ops C K rest (a.put o.dst (.bool b))) : wpQuiet P ops C K (o :: rest) a :=
  wpQ_valw hw (.bool b) (fun w _ => by
    have h1 := h.eql (w := w) S T hS hT
    have h2 := h.guarded (w := w) .eql x y S T
    rw [hb]
    simp only [execOp, ho, hx, hy, Sem.run_bind, h1, h2, Result.andThen_ok, Sem.run_pure]) hk
end
section
variable {P : Program} {ty ct : TypeId} {w : World} {ops : Array Oper} {rest : List Oper} {o : Oper} {a : Act} {Q : Exit → Act → World → Prop}
theorem TabT.wpEqlw (h : TabT P ty ct) (hw : Region.wanted o (yielded ops a.tmps) = true) (x y : Operand) (t : TypeId) (ho : o.op = .binOp .eql ty x y t) {S T : List Cl} (hx : a.eval x = tbv S) (hy : a.eval y = tbv T) (hS : S.length = 8) (hT : T.length = 8) {b : Bool} (hb : b = decide (S = T)) (hk : wpList P ops Q rest (a.put o.dst (.bool b)) w) : wpList P ops Q (o :: rest) a w := by
  refine wpList_step fun K hK => ?_
  rw [if_pos hw]
  have h1 := h.eql (w := w) S T hS hT
  have h2 := h.guarded (w := w) .eql x y S T
  unfold Oper.wp
  simp only [execOp, ho, hx, hy, Sem.run_bind, h1, h2, Result.andThen_ok, Sem.run_pure]
  rw [← hb]
  exact hK _ _ hk
theorem TabT.wpNeqw (h : TabT P ty ct) (hw : Region.wanted o (yielded ops a.tmps) = true) (x y : Operand) (t : TypeId) (ho : o.op = .binOp .neq ty x y t) {S T : List Cl} (hx : a.eval x = tbv S) (hy : a.eval y = tbv T) (hS : S.length = 8) (hT : T.length = 8) {b : Bool} (hb : b = !decide (S = T)) (hk : wpList P ops Q rest (a.put o.dst (.bool b)) w) : wpList P ops Q (o :: rest) a w := by
  refine wpList_step fun K hK => ?_
  rw [if_pos hw]
  have h1 := h.neq (w := w) S T hS hT
  have h2 := h.guarded (w := w) .neq x y S T
  unfold Oper.wp
  simp only [execOp, ho, hx, hy, Sem.run_bind, h1, h2, Result.andThen_ok, Sem.run_pure]
  rw [← hb]
  exact hK _ _ hk
end

end Go.Proofs.YtacaonlahggdeaaDoor
