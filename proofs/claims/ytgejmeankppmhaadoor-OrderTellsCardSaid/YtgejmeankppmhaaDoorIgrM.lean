/- Images are built out of their parts, and stored. A text is read as an image. -/
import Derived.Test.YtgejmeankppmhaaDoorIgcM
namespace Go.Proofs.YtgejmeankppmhaaDoor
open Go.RowKit
set_option maxRecDepth 20000

theorem len8 {T : List Cl} (h : T.length = 8) : ∃ p0 p1 p2 p3 p4 p5 p6 p7, T = [p0, p1, p2, p3, p4, p5, p6, p7] := by
  match T, h with
  | [p0, p1, p2, p3, p4, p5, p6, p7], _ => exact ⟨_, _, _, _, _, _, _, _, rfl⟩
set_option maxHeartbeats 2000000 in
theorem buildA (i : Im) (h : i.T.length = 8) (w : World) : (Instr.build 32 #[(0, .agg #[.int .u64 (i.L : Int), .int .u64 (i.B : Int)]), (1, .string (str i.l)), (2, tbv i.T)]).run Tryd.prog w = .ok (imv i) w := by
  obtain ⟨L, B, l, T⟩ := i
  obtain ⟨p0, p1, p2, p3, p4, p5, p6, p7, rfl⟩ := len8 h
  exact run_build w _ _ _ (by kernel_rfl)
set_option maxHeartbeats 2000000 in
theorem buildB (i : Im) (h : i.T.length = 8) (w : World) : (Instr.build 51 #[(0, .agg #[.int .u64 (i.L : Int), .int .u64 (i.B : Int)]), (1, .string (str i.l)), (2, tbv i.T)]).run Tryd.prog w = .ok (imv i) w := by
  obtain ⟨L, B, l, T⟩ := i
  obtain ⟨p0, p1, p2, p3, p4, p5, p6, p7, rfl⟩ := len8 h
  exact run_build w _ _ _ (by kernel_rfl)
theorem buildl (l : List UInt8) (w : World) : (Instr.build 32 #[(1, .string (str l))]).run Tryd.prog w = .ok (imv ⟨0, 0, l, T0⟩) w := run_build w _ _ _ (by kernel_rfl)

section
variable {P : Program} {w : World} {ty mt tt ct : TypeId} {ops : Array Oper} {rest : List Oper} {o : Oper} {a : Act} {Q : Exit → Act → World → Prop}
theorem ImT.opStore (h : ImT P ty mt tt ct) {K : Act → World → Prop} (x y : Operand) (ho : o.op = .store ty x y) {g : Nat} {e : TypeId} {i j : Im} (hx : a.eval x = .pointer (some ⟨g, 0, none⟩)) (hy : a.eval y = imv j) (hr : w.heap[g]? = some (.cells (icells i).toArray e (0, 0))) (hi : i.T.length = 8) (hj : j.T.length = 8)
    (hk : ∀ W : World, Hid (W.heap[g]? = some (.cells (icells j).toArray e (0, 0))) → w.grownBy W (some g) → Hid (W.heap.size = w.heap.size) → K (a.put o.dst undef) W) : o.wp P a w K Q := by
  have hrun := h.stores hr hi hj
  unfold Oper.wp
  simp only [execOp, ho, hx, hy, Sem.run_bind, hrun, Result.andThen_ok, Sem.run_pure]
  exact hk _ (Lib.hid (setRow_heap w g _ _ e _ hr)) ⟨rfl, rfl, rfl, by simp, fun k _ hk => setRow_other w g k _ (fun e => hk (by rw [e]))⟩ (Lib.hid (by simp))
theorem wpQ_build {C : World → Prop} {K : Act → Prop} (hw : Region.wanted o (yielded ops a.tmps) = true) (t : TypeId) (ps : Array (Nat × Operand)) (vs : Array (Nat × Value)) (ho : o.op = .build t ps) (hv : (ps.map fun (i, x) => (i, a.eval x)) = vs) (v : Value) (hrun : ∀ w, (Instr.build t vs).run P w = .ok v w) (h : wpQuiet P ops C K rest (a.put o.dst v)) : wpQuiet P ops C K (o :: rest) a :=
  wpQ_valw hw v (fun w _ => by
    have := hrun w
    rw [← hv] at this
    simp only [execOp, ho, Sem.run_bind, this, Result.andThen_ok, Sem.run_pure]) h
theorem wpL_build (hw : Region.wanted o (yielded ops a.tmps) = true) (t : TypeId) (ps : Array (Nat × Operand)) (vs : Array (Nat × Value)) (ho : o.op = .build t ps) (hv : (ps.map fun (i, x) => (i, a.eval x)) = vs) (v : Value) (hrun : ∀ w, (Instr.build t vs).run P w = .ok v w) (h : wpList P ops Q rest (a.put o.dst v) w) : wpList P ops Q (o :: rest) a w :=
  wpL_val hw v (by
    have := hrun w
    rw [← hv] at this
    simp only [execOp, ho, Sem.run_bind, this, Result.andThen_ok, Sem.run_pure]) h
end
theorem wpL_strb {P : Program} {w : World} {ops : Array Oper} {rest : List Oper} {o : Oper} {a : Act} {Q : Exit → Act → World → Prop} (hgd : o.guard = none) (x : Operand) (tx t : TypeId) (ho : o.op = .convert tx t x)
    {e : TypeId} (hs : P.underlying tx = some .string) (ht : P.underlying t = some (.slice e)) (he : P.underlying e = some (.int .u8)) {l : List UInt8} (hx : a.eval x = .string (str l)) (hlm : l.length ≤ maxLen)
    (h : ∀ (W : World) (A : Option Addr) (cap : Nat), Rd W W.heap.size 1 A l.length cap (u8s l) → (∀ b i, A = some ⟨b, i, none⟩ → w.heap.size ≤ b) → Below w.heap.size w W → wpList P ops Q rest (a.put o.dst (.slice A l.length cap)) W) : wpList P ops Q (o :: rest) a w := by
  have hrun := run_bytes_of_string w tx t e (str l) hs ht he
  have hge := grownCap_ge w (str l).size 0 e
  have hle := grownCap_le_maxLen w (str l).size 0 e hlm
  have hrow : bytesRow (str l) (grownCap w (str l).size 0 e) = (u8s l ++ List.replicate (grownCap w (str l).size 0 e - (str l).size) (Value.int .u8 0)).toArray := by
    unfold bytesRow
    apply Array.ext'
    simp only [str, u8s, Array.toList_append, Array.toList_map, Array.toList_replicate]
    rfl
  have hsz : l.length ≤ (bytesRow (str l) (grownCap w (str l).size 0 e)).size := by rw [hrow]; simp [u8s_len]
  have hnew := (heap_alloc_new w.drew (.cells (bytesRow (str l) (grownCap w (str l).size 0 e)) e ((bytesRow (str l) (grownCap w (str l).size 0 e)).size, (bytesRow (str l) (grownCap w (str l).size 0 e)).size + 1)))
  refine wpList_plain hgd fun K hK => ?_
  unfold Oper.wp
  simp only [execOp, ho, hx, Sem.run_bind, hrun, Result.andThen_ok, Sem.run_pure]
  refine hK _ _ (h _ (some ⟨w.heap.size, 0, none⟩) (grownCap w (str l).size 0 e) ⟨hge, hle, by rw [u8s_len, Nat.mul_one], fun _ => ⟨w.heap.size, 0, rfl, by simp, fun j u hu => ?_⟩⟩ (fun b i e => by cases e; exact Nat.le_refl _) ?_)
  · rw [cell_of_row _ w.heap.size (0 + j) _ _ _ hnew, hrow, Nat.zero_add]
    have hj := (List.getElem?_eq_some_iff.1 hu).1
    simp only [List.getElem?_toArray]
    rw [List.getElem?_append_left hj]
    exact hu
  · exact undrew ((Below.refl w.drew.heap.size w.drew).alloc (Nat.le_refl _) _)
theorem own_below {w w' : World} {base n sz : Nat} {e : TypeId} {v : Value} {xs : List Value} (h : w.ownsRow base e sz v n xs) (hb : Below w.heap.size w w') : w'.ownsRow base e sz v n xs := by
  refine h.kept (row := none) ⟨hb.os, hb.tape, hb.output, hb.size, fun i hi _ => hb.block i hi⟩ ?_
  cases hk : v.ownBlock with
  | none => exact .inl rfl
  | some q => exact .inr (by simp)
end Go.Proofs.YtgejmeankppmhaaDoor

namespace Go.Proofs.YtgejmeankppmhaaDoor
open Go.RowKit
set_option maxRecDepth 20000

section
variable {P : Program} {ops : Array Oper} {md : Region.Mode} {Q : Exit → Act → World → Prop}
theorem wp_treeS {id : Nat} {l : List Oper} {a : Act} {w : World} (S : World → Prop) (t : Seg) (hm : P.follows .mixedOrders = true)
    (hok : (Region.noSelect l.toArray && (t.ok .any l.toArray (Array.replicate l.toArray.size false) && decide (t.steps ≤ l.toArray.size))) = true)
    (hQ : ∀ (d : Option Tmp) v c a w, Q (.panic c) (a.put d v) w → Q (.panic c) a w) (hS : S w.drew) (h : wpTree P l.toArray Q S t a w.drew) : (Code.region id l.toArray true).wp P Q a w := by
  simp only [Bool.and_eq_true, decide_eq_true_eq] at hok
  exact wp_region_held hm (tree_sound hok.1 hQ t _ _ a _ hok.2.1 hok.2.2 hS h)
variable {w : World} {ty mt tt ct : TypeId} {o : Oper} {a : Act}
theorem ImT.opNew (h : ImT P ty mt tt ct) {K : Act → World → Prop} (ho : o.op = .alloc ty)
    (hk : ∀ (W : World) (b : Nat), NewR w ty (icells I0) W b → K (a.put o.dst (.pointer (some ⟨b, 0, none⟩))) W) : o.wp P a w K Q := by
  have hr : (Instr.alloc ty true (.tuple #[])).run P w = .ok (.pointer (some ⟨w.heap.size, 0, none⟩)) (w.alloc (.cells (icells I0).toArray ty)) := by
    have h0 : (newVar ty (imv I0)).run P w = .ok ⟨w.heap.size, 0, none⟩ (w.alloc (.cells (icells I0).toArray ty)) := run_newVar ty (imv I0)
    simp only [Instr.alloc, Sem.run_bind, h.zero, Result.andThen_ok, h0, Sem.run_pure]
  unfold Oper.wp
  simp only [execOp, ho, Sem.run_bind, hr, Result.andThen_ok, Sem.run_pure]
  exact hk _ _ (newR w ty _)
end

end Go.Proofs.YtgejmeankppmhaaDoor
