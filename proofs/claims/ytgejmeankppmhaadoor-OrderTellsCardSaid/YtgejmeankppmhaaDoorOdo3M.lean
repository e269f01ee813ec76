/- Parts of an image's row: the table stored, the marks stored; five boxes of Do. Do where it does something: a noop. -/
import Derived.Test.YtgejmeankppmhaaDoorOdoM
namespace Go.Proofs.YtgejmeankppmhaaDoor
open Go.RowKit
open Bh (En ecell)
set_option maxRecDepth 20000

theorem heap_setCells {b : Nat} {t : TypeId} : ∀ (vs : List Value) (o : Nat) (w : World) (cs : List Value), o + vs.length ≤ cs.length → w.heap[b]? = some (.cells cs.toArray t (0, 0)) →
    (w.setCells b o vs).heap[b]? = some (.cells (cs.take o ++ vs ++ cs.drop (o + vs.length)).toArray t (0, 0)) ∧ w.grownBy (w.setCells b o vs) (some b)
  | [], o, w, cs, hl, h => by
    refine ⟨?_, World.grownBy.refl _ _⟩
    show w.heap[b]? = _
    rw [h]
    simp
  | v :: r, o, w, cs, hl, h => by
    rw [List.length_cons] at hl
    have h1 : (w.setCell ⟨b, o, none⟩ v).heap[b]? = some (.cells (cs.set o v).toArray t (0, 0)) := by
      rw [heap_setCell_same w b o _ _ _ h]
      simp
    obtain ⟨h2, h3⟩ := heap_setCells r (o + 1) (w.setCell ⟨b, o, none⟩ v) (cs.set o v) (by rw [List.length_set]; omega) h1
    refine ⟨?_, grownBy_trans (setCell_by (World.grownBy.refl w (some b)) (p := ⟨b, o, none⟩) rfl v) h3 (.inl rfl)⟩
    show ((w.setCell ⟨b, o, none⟩ v).setCells b (o + 1) r).heap[b]? = _
    rw [h2]
    congr 2
    apply Array.ext'
    simp only
    have hlo : o < cs.length := by omega
    rw [List.take_succ_eq_append_getElem (by rw [List.length_set]; exact hlo), List.take_set_of_le (Nat.le_refl _), List.getElem_set_self, List.drop_set_of_lt (by omega), List.length_cons, show o + 1 + r.length = o + (r.length + 1) by omega]
    simp
section
variable {P : Program} {w : World} {ops : Array Oper} {rest : List Oper} {o : Oper} {a : Act} {Q : Exit → Act → World → Prop}
theorem wpL_mids (hw : Region.wanted o (yielded ops a.tmps) = true) (ty : TypeId) (x : Operand) (ho : o.op = .load ty x) (p : Value) (hx : a.eval x = p) (V : Value) (hl : (Instr.loadAt ty p).run P w = .ok V w)
    (h : wpList P ops Q rest (a.put o.dst V) w) : wpList P ops Q (o :: rest) a w :=
  wpL_val hw _ (by simp only [execOp, ho, hx, hl, Sem.run_bind, Result.andThen_ok, Sem.run_pure]) h
theorem wpL_midk (hw : Region.wanted o (yielded ops a.tmps) = true) (ty : TypeId) (x : Operand) (ho : o.op = .load ty x) (p : Value) (hx : a.eval x = p) (V : Value) (hl : (Instr.loadAt ty p).run P w = .ok V w)
    (h : ∀ K : Act → World → Prop, (∀ a w, wpList P ops Q rest a w → K a w) → K (a.put o.dst V) w) : wpList P ops Q (o :: rest) a w :=
  wpL_mids hw ty x ho p hx V hl (h _ (fun _ _ h => h))
end

section
variable {w w' : World} {g : Nat} {ty : TypeId} {i : Im}
theorem im_there (h : w.heap[g]? = some (.cells (icells i).toArray ty (0, 0))) (hT : i.T.length = 8) {o n : Nat} (ho : o + n ≤ 19) : w.there g o n := fun j hj => by
  refine ⟨?_, frozen_of_row _ _ _ _ _ h⟩
  rw [cell_of_row w g (o + j) _ _ _ h, List.getElem?_toArray, List.getElem?_eq_getElem (by rw [icells_19 hT]; omega)]
  rfl
theorem im_setTable (h : w.heap[g]? = some (.cells (icells i).toArray ty (0, 0))) (hT : i.T.length = 8) (U : List Cl) (hU : U.length = 8) : (w.setCells g 3 (tcells U)).heap[g]? = some (.cells (icells ⟨i.L, i.B, i.l, U⟩).toArray ty (0, 0)) ∧ w.grownBy (w.setCells g 3 (tcells U)) (some g) := by
  have hl := tcells_len U
  have hl2 := tcells_len i.T
  obtain ⟨h1, h2⟩ := heap_setCells (tcells U) 3 w _ (by rw [icells_19 hT]; omega) h
  refine ⟨h1.trans ?_, h2⟩
  congr 2
  apply Array.ext'
  simp only
  rw [show 3 + (tcells U).length = 16 + 1 + 1 + 1 by omega]
  unfold icells
  simp only [List.take_succ_cons, List.take_zero, List.drop_succ_cons, List.cons_append, List.nil_append]
  rw [List.drop_of_length_le (by omega), List.append_nil]
theorem im_setMarks (h : w.heap[g]? = some (.cells (icells i).toArray ty (0, 0))) (L B : Nat) : ((w.setCell ⟨g, 0, none⟩ (.int .u64 (L : Int))).setCell ⟨g, 1, none⟩ (.int .u64 (B : Int))).heap[g]? = some (.cells (icells ⟨L, B, i.l, i.T⟩).toArray ty (0, 0)) ∧ w.grownBy ((w.setCell ⟨g, 0, none⟩ (.int .u64 (L : Int))).setCell ⟨g, 1, none⟩ (.int .u64 (B : Int))) (some g) := by
  refine ⟨?_, setCell_by (setCell_by (World.grownBy.refl w (some g)) (p := ⟨g, 0, none⟩) rfl _) (p := ⟨g, 1, none⟩) rfl _⟩
  rw [heap_setCell_same _ _ 1 _ _ _ (heap_setCell_same _ _ 0 _ _ _ h)]
  simp [icells]
end
/-- Five boxes: an image, an entry, what comes of it, the marks, and the next image. -/
structure D5 (w wr : World) (p2 p3 p4 p6 p8 : Nat) (i j : Im) (e : En) (M : Nat × Nat) (ty mt : TypeId) : Prop where
  d : D3 w wr p2 p3 p4 i e ty
  r6 : wr.heap[p6]? = some (.cells #[.int .u64 (M.1 : Int), .int .u64 (M.2 : Int)] mt (0, 0))
  r8 : wr.heap[p8]? = some (.cells (icells j).toArray ty (0, 0))
  ne : p8 ≠ p2 ∧ p8 ≠ p3 ∧ p8 ≠ p4 ∧ p8 ≠ p6 ∧ w.heap.size ≤ p8
section
variable {w wr w' : World} {p2 p3 p4 p6 p8 : Nat} {i j k : Im} {e : En} {M : Nat × Nat} {ty mt : TypeId}
theorem D5.below (h : D5 w wr p2 p3 p4 p6 p8 i j e M ty mt) (hb : Below wr.heap.size wr w') : D5 w w' p2 p3 p4 p6 p8 i j e M ty mt :=
  ⟨h.d.below hb, row_below h.r6 hb, row_below h.r8 hb, h.ne⟩
theorem D3.far (h : D3 w wr p2 p3 p4 i e ty) {q : Nat} (hg : wr.grownBy w' (some q)) (h2 : q ≠ p2) (h3 : q ≠ p3) (h4 : q ≠ p4) (hq : w.heap.size ≤ q) : D3 w w' p2 p3 p4 i e ty :=
  ⟨row_far h.r2 hg (fun e => h2 (Option.some.inj e).symm), row_far h.r3 hg (fun e => h3 (Option.some.inj e).symm), row_far h.r4 hg (fun e => h4 (Option.some.inj e).symm), h.bel.grown hg h.bel.size (fun k e => by have := Option.some.inj e; omega), h.lo⟩
theorem D5.set8 (h : D5 w wr p2 p3 p4 p6 p8 i j e M ty mt) (hr : w'.heap[p8]? = some (.cells (icells k).toArray ty (0, 0))) (hg : wr.grownBy w' (some p8)) : D5 w w' p2 p3 p4 p6 p8 i k e M ty mt :=
  ⟨h.d.far hg h.ne.1 h.ne.2.1 h.ne.2.2.1 h.ne.2.2.2.2, row_far h.r6 hg (fun e => h.ne.2.2.2.1 (Option.some.inj e).symm), hr, h.ne⟩
theorem D5.new (h : D3 w wr p2 p3 p4 i e ty) {w6 w8 : World} {p6 p8 : Nat} (hb6 : Below wr.heap.size wr w6) (h6 : p6 = wr.heap.size) (r6 : w6.heap[p6]? = some (.cells #[.int .u64 (M.1 : Int), .int .u64 (M.2 : Int)] mt (0, 0)))
    (hb8 : Below w6.heap.size w6 w8) (h8 : p8 = w6.heap.size) (r8 : w8.heap[p8]? = some (.cells (icells j).toArray ty (0, 0))) : D5 w w8 p2 p3 p4 p6 p8 i j e M ty mt := by
  have l2 := (Array.getElem?_eq_some_iff.1 h.r2).1
  have l3 := (Array.getElem?_eq_some_iff.1 h.r3).1
  have l4 := (Array.getElem?_eq_some_iff.1 h.r4).1
  have l6 := (Array.getElem?_eq_some_iff.1 r6).1
  have s6 := hb6.size
  have := h.bel.size
  exact ⟨(h.below hb6).below hb8, row_below r6 hb8, r8, by omega⟩
end
end Go.Proofs.YtgejmeankppmhaaDoor

namespace Go.Proofs.YtgejmeankppmhaaDoor
open Go.RowKit
open Bh (En ecell)
set_option maxRecDepth 20000

theorem pair_one (a c : Nat) : (#[.int .u64 (a : Int), .int .u64 (c : Int)] : Array Value).all (·.oneCell') = true := all_oneCell_toArray (cs := [.int .u64 (a : Int), .int .u64 (c : Int)]) (by intro u hu; simp at hu; rcases hu with rfl | rfl <;> rfl)
theorem st_marks {P : Program} {w w9 : World} {ops : Array Oper} {rest : List Oper} {o : Oper} {a : Act} {Q : Exit → Act → World → Prop} {ty mt tt ct : TypeId} (hI : ImT P ty mt tt ct) {p2 p3 p4 p6 p8 M1 M2 : Nat} {i j : Im} {e : En} {ty2 : TypeId} (x y : Operand)
    (hgd : o.guard = none) (ho : o.op = .store mt x y) (hx : a.eval x = .pointer (some ⟨p8, 0, none⟩)) (hy : a.eval y = .agg #[.int .u64 (M1 : Int), .int .u64 (M2 : Int)]) (h : D5 w w9 p2 p3 p4 p6 p8 i j e (M1, M2) ty2 mt) (hT : j.T.length = 8)
    (hk : ∀ W, Hid (D5 w W p2 p3 p4 p6 p8 i ⟨M1, M2, j.l, j.T⟩ e (M1, M2) ty2 mt) → wpList P ops Q rest (a.put o.dst undef) W) : wpList P ops Q (o :: rest) a w9 := by
  refine wpList_store_mid hgd mt x y ho p8 0 #[.int .u64 (M1 : Int), .int .u64 (M2 : Int)] hx hy (im_there h.r8 hT (o := 0) (n := 2) (by decide)) hI.msize (pair_one _ _) ?_
  have hsm := im_setMarks h.r8 M1 M2
  exact hk _ (Lib.hid (h.set8 hsm.1 hsm.2))
theorem st_table {P : Program} {w w9 : World} {ops : Array Oper} {rest : List Oper} {o : Oper} {a : Act} {Q : Exit → Act → World → Prop} {ty mt tt ct : TypeId} (hI : ImT P ty mt tt ct) {p2 p3 p4 p6 p8 : Nat} {M : Nat × Nat} {i j : Im} {e : En} {ty2 : TypeId} (x y : Operand) {U : List Cl}
    (hgd : o.guard = none) (ho : o.op = .store tt x y) (hx : a.eval x = .pointer (some ⟨p8, 3, none⟩)) (hy : a.eval y = tbv U) (h : D5 w w9 p2 p3 p4 p6 p8 i j e M ty2 mt) (hT : j.T.length = 8) (hU : U.length = 8)
    (hk : ∀ W, Hid (D5 w W p2 p3 p4 p6 p8 i ⟨j.L, j.B, j.l, U⟩ e M ty2 mt) → wpList P ops Q rest (a.put o.dst undef) W) : wpList P ops Q (o :: rest) a w9 := by
  refine wpList_store_mid hgd tt x y ho p8 3 (tcells U).toArray hx hy (im_there h.r8 hT (o := 3) (n := (tcells U).toArray.size) (by rw [List.size_toArray, tcells_len, hU]; decide)) (by rw [hI.tab.size, List.size_toArray, tcells_len, hU]) (all_oneCell_toArray (tcells_one U)) ?_
  have hsm := im_setTable h.r8 hT U hU
  exact hk _ (Lib.hid (h.set8 hsm.1 hsm.2))
theorem iput_bad {i : Im} {f c : Nat} {d : List UInt8} (h : (iput i f c d).2 ≠ 0) : (iput i f c d).1 = i := by
  unfold iput at h ⊢
  split
  · next h1 =>
    rw [if_pos h1] at h
    split
    · next h2 =>
      rw [if_pos h2] at h
      exact absurd rfl h
    · rfl
  · rfl
theorem iput_parts (i : Im) (f c : Nat) (d : List UInt8) : (iput i f c d).1 = ⟨i.L, i.B, (iput i f c d).1.l, i.T⟩ := by
  unfold iput
  split
  · split <;> rfl
  · rfl

end Go.Proofs.YtgejmeankppmhaaDoor
