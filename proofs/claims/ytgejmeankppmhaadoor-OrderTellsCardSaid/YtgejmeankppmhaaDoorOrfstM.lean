/- What may be done, one behind the other: by least indices. The reference's first: the first entry of an index. -/
import Derived.Test.YtgejmeankppmhaaDoorOfirstM
namespace Go.Proofs.YtgejmeankppmhaaDoor
open Go.RowKit
open Bh (En)

instance (L n : Nat) : Decidable (Room L n) := by unfold Room; infer_instance
/-- Index x may be done now. -/
def cand (La Ba : Nat) (es : List En) (L B x : Nat) : Bool := Hs La Ba x && (!Hs L B x && (decide (Room L x) && match es.find? (fun e => decide (e.ix = x)) with | some e => e.may L B | none => false))
/-- All that may be done, one behind the other. -/
inductive Rdy (La Ba : Nat) (es : List En) : Nat → Nat → List Nat → Prop
  | stop (L B : Nat) (h : ∀ x, cand La Ba es L B x = false) : Rdy La Ba es L B []
  | step (L B x : Nat) (l : List Nat) (h : cand La Ba es L B x = true) (hm : ∀ y, cand La Ba es L B y = true → x ≤ y) (r : Rdy La Ba es (mset L B x).1 (mset L B x).2 l) : Rdy La Ba es L B (x :: l)
theorem Rdy.uniq {La Ba : Nat} {es : List En} {L B : Nat} {l m : List Nat} (h : Rdy La Ba es L B l) (k : Rdy La Ba es L B m) : l = m := by
  induction h generalizing m with
  | stop L B h =>
    cases k with
    | stop _ _ _ => rfl
    | step _ _ x l h2 _ _ => rw [h x] at h2; cases h2
  | step L B x l h hm r ih =>
    cases k with
    | stop _ _ h2 => rw [h2 x] at h; cases h
    | step _ _ y l2 h2 hm2 r2 =>
      obtain rfl : x = y := Nat.le_antisymm (hm y h2) (hm2 x h)
      rw [ih r2]
section
variable {La Ba : Nat} {es : List En} {L B x : Nat}
theorem cand_room (h : cand La Ba es L B x = true) : Room L x ∧ Hs L B x = false ∧ Hs La Ba x = true := by
  unfold cand at h
  simp only [Bool.and_eq_true, decide_eq_true_eq, Bool.not_eq_true'] at h
  exact ⟨h.2.2.1, h.2.1, h.1⟩
theorem cand_find (h : cand La Ba es L B x = true) : ∃ e, es.find? (fun e => decide (e.ix = x)) = some e ∧ e.may L B = true ∧ e ∈ es ∧ e.ix = x := by
  unfold cand at h
  simp only [Bool.and_eq_true, decide_eq_true_eq, Bool.not_eq_true'] at h
  have h2 := h.2.2.2
  split at h2
  · next e he => exact ⟨e, he, h2, List.mem_of_find?_eq_some he, by simpa using List.find?_some he⟩
  · cases h2
theorem cand_low (h : cand La Ba es L B x = true) : L < x := by
  obtain ⟨_, h2, _⟩ := cand_room h
  rcases Nat.lt_or_ge L x with h3 | h3
  · exact h3
  · rw [hs_low h3] at h2
    cases h2
theorem cand_top (h : cand La Ba es L B x = true) : x ≤ L + 64 := (cand_room h).1.2
/-- How many entries are not done. -/
def undone (es : List En) (L B : Nat) : Nat := (es.filter fun e => !Hs L B e.ix).length
theorem undone_le (es : List En) (L B : Nat) : undone es L B ≤ es.length := List.length_filter_le _ _
theorem filter_lt {α : Type} (f g : α → Bool) (l : List α) (hi : ∀ a ∈ l, g a = true → f a = true) (e : α) (he : e ∈ l) (h1 : f e = true) (h2 : g e = false) : (l.filter g).length < (l.filter f).length := by
  induction l with
  | nil => cases he
  | cons a l ih =>
    have hle : (l.filter g).length ≤ (l.filter f).length := by
      clear ih he
      induction l with
      | nil => exact Nat.le_refl _
      | cons b l ih2 =>
        have := ih2 (fun c hc => hi c (by rcases List.mem_cons.1 hc with rfl | hc; exact List.mem_cons_self .. ; exact List.mem_cons_of_mem _ (List.mem_cons_of_mem _ hc)))
        have hb := hi b (List.mem_cons_of_mem _ (List.mem_cons_self ..))
        simp only [List.filter_cons]
        cases hg : g b
        · cases hf : f b <;> simp <;> omega
        · rw [hb hg]; simp; omega
    simp only [List.filter_cons]
    rcases List.mem_cons.1 he with rfl | he
    · rw [h1, h2]; simp; omega
    · have := ih (fun c hc => hi c (List.mem_cons_of_mem _ hc)) he
      have ha := hi a (List.mem_cons_self ..)
      cases hg : g a
      · cases hf : f a <;> simp <;> omega
      · rw [ha hg]; simp; omega
theorem undone_lt (hB : B < 18446744073709551616) (h : cand La Ba es L B x = true) : undone es (mset L B x).1 (mset L B x).2 < undone es L B := by
  obtain ⟨hr, hn, _⟩ := cand_room h
  obtain ⟨e, _, _, hm, rfl⟩ := cand_find h
  unfold undone
  refine filter_lt _ _ es (fun a _ ha => ?_) e hm (by rw [hn]; rfl) ?_
  · rw [mset_hs L B e.ix a.ix hB hr] at ha
    simp only [Bool.not_eq_true', Bool.or_eq_false_iff] at ha ⊢
    exact ha.1
  · rw [mset_hs L B e.ix e.ix hB hr]
    simp
/-- What the map says once marks are these. -/
def fmap (La Ba : Nat) (es : List En) (L B : Nat) : SaysE := fstE (fun x => Hs La Ba x && !Hs L B x) es
theorem fmap_set (hB : B < 18446744073709551616) (hr : Room L x) : fmap La Ba es (mset L B x).1 (mset L B x).2 = fun y => if y = x then none else fmap La Ba es L B y := by
  funext y
  unfold fmap fstE
  simp only [mset_hs L B x y hB hr]
  by_cases hy : y = x
  · subst hy
    rw [if_pos rfl, if_neg (by simp)]
  · rw [if_neg hy]
    simp [hy]
theorem cand_none (h : fmap La Ba es L B x = none) : cand La Ba es L B x = false := by
  unfold fmap fstE at h
  unfold cand
  split at h
  · next hc =>
    simp only [Bool.and_eq_true, Bool.not_eq_true'] at hc
    rw [Option.map_eq_none_iff] at h
    rw [h]
    simp
  · next hc =>
    cases h1 : Hs La Ba x <;> cases h2 : Hs L B x <;> simp [h1, h2] at hc ⊢
theorem cand_some {c : Array Value} (h : fmap La Ba es L B x = some c) : ∃ e ∈ es, e.ix = x ∧ c = e.cells ∧ cand La Ba es L B x = (decide (Room L x) && e.may L B) := by
  unfold fmap fstE at h
  unfold cand
  split at h
  · next hc =>
    simp only [Bool.and_eq_true, Bool.not_eq_true'] at hc
    rw [Option.map_eq_some_iff] at h
    obtain ⟨e, h1, h2⟩ := h
    refine ⟨e, List.mem_of_find?_eq_some h1, by simpa using List.find?_some h1, h2.symm, ?_⟩
    rw [h1, hc.1, hc.2]
    simp
  · cases h
/-- So far. -/
def SoFar (La Ba : Nat) (es : List En) (L0 B0 : Nat) (acc : List Nat) (L B : Nat) : Prop := ∀ l, Rdy La Ba es L B l → Rdy La Ba es L0 B0 (acc ++ l)
theorem SoFar.nil (La Ba : Nat) (es : List En) (L0 B0 : Nat) : SoFar La Ba es L0 B0 [] L0 B0 := fun _ h => h
theorem SoFar.snoc {L0 B0 : Nat} {acc : List Nat} (h : SoFar La Ba es L0 B0 acc L B) (hc : cand La Ba es L B x = true) (hm : ∀ y, cand La Ba es L B y = true → x ≤ y) : SoFar La Ba es L0 B0 (acc ++ [x]) (mset L B x).1 (mset L B x).2 := fun l r => by
  have := h (x :: l) (.step L B x l hc hm r)
  simpa using this
theorem SoFar.done {L0 B0 : Nat} {acc : List Nat} (h : SoFar La Ba es L0 B0 acc L B) (hn : ∀ x, cand La Ba es L B x = false) : Rdy La Ba es L0 B0 acc := by
  have := h [] (.stop L B hn)
  simpa using this
end
end Go.Proofs.YtgejmeankppmhaaDoor

namespace Go.Proofs.YtgejmeankppmhaaDoor
open Go.RowKit
open Bh (En Ents ens ens_get ecell)
set_option maxRecDepth 20000

theorem e_one (e : En) : ∀ v ∈ e.cells.toList, v.oneCell' = true := by
  unfold En.cells
  intro v hv
  simp only [List.mem_cons, List.not_mem_nil, or_false] at hv
  rcases hv with rfl | rfl | rfl | rfl | rfl | rfl | rfl | rfl | rfl | rfl <;> rfl
theorem e_size : (Tryd.prog.info? 43).map (·.size) = some 10 := by kernel_rfl
section
variable {w : World} {ops : Array Oper} {rest : List Oper} {o : Oper} {a : Act} {Q : Exit → Act → World → Prop}
theorem e_stores {g : Nat} {t : TypeId} {d e : En} (hr : w.heap[g]? = some (.cells d.cells t (0, 0))) : (Instr.storeAt 43 (.pointer (some ⟨g, 0, none⟩)) (.agg e.cells)).run Tryd.prog w = .ok () (w.setRow g e.cells) := by
  simp only [Instr.storeAt, Instr.sureAddr, Sem.run_bind, Sem.run_pure, Result.andThen_ok]
  exact run_storeVar_row w g t 43 _ _ hr e_size rfl (by
    rw [Array.all_eq_true_iff_forall_mem]
    intro x hx
    exact e_one e x (by simpa using hx))
theorem wpL_estore (hgd : o.guard = none) (x y : Operand) (ho : o.op = .store 43 x y) {g : Nat} {t : TypeId} {d e : En} (hx : a.eval x = .pointer (some ⟨g, 0, none⟩)) (hy : a.eval y = .agg e.cells) (hr : w.heap[g]? = some (.cells d.cells t (0, 0)))
    (hk : ∀ W : World, Hid (W.heap[g]? = some (.cells e.cells t (0, 0))) → w.grownBy W (some g) → Hid (W.heap.size = w.heap.size) → wpList Tryd.prog ops Q rest (a.put o.dst undef) W) : wpList Tryd.prog ops Q (o :: rest) a w := by
  refine wpList_plain hgd fun K hK => ?_
  have hrun := e_stores (e := e) hr
  unfold Oper.wp
  simp only [execOp, ho, hx, hy, Sem.run_bind, hrun, Result.andThen_ok, Sem.run_pure]
  exact hK _ _ (hk _ (Lib.hid (setRow_heap w g _ _ t _ hr)) ⟨rfl, rfl, rfl, by simp, fun k _ hk => setRow_other w g k _ (fun e => hk (by rw [e]))⟩ (Lib.hid (by simp)))
theorem wpL_enew (hgd : o.guard = none) (ho : o.op = .alloc 43)
    (hk : ∀ (W : World) (b : Nat), NewR w 43 Ez.cells.toList W b → wpList Tryd.prog ops Q rest (a.put o.dst (.pointer (some ⟨b, 0, none⟩))) W) : wpList Tryd.prog ops Q (o :: rest) a w := by
  refine wpList_plain hgd fun K hK => ?_
  have hr : (Instr.alloc 43 true (.tuple #[])).run Tryd.prog w = .ok (.pointer (some ⟨w.heap.size, 0, none⟩)) (w.alloc (.cells Ez.cells 43)) := by
    kernel_rfl
  unfold Oper.wp
  simp only [execOp, ho, Sem.run_bind, hr, Result.andThen_ok, Sem.run_pure]
  exact hK _ _ (hk _ _ (newR w 43 _))
theorem wpL_ebuild (hgd : o.guard = none) (ho : o.op = .build 43 #[]) (hk : wpList Tryd.prog ops Q rest (a.put o.dst (.agg Ez.cells)) w) : wpList Tryd.prog ops Q (o :: rest) a w := by
  refine wpList_plain hgd fun K hK => ?_
  have hrun : (Instr.build 43 #[]).run Tryd.prog w = .ok (.agg Ez.cells) w := by kernel_rfl
  unfold Oper.wp
  simp only [execOp, ho, List.map_toArray, List.map_nil, Sem.run_bind, hrun, Result.andThen_ok, Sem.run_pure]
  exact hK _ _ hk
end
end Go.Proofs.YtgejmeankppmhaaDoor
