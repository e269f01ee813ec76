/- What turns, and what does not. A drawn region as a tree, in which no block but some turns; operations that run to a value. A map of numbers to sets, read as a function. -/
import Derived.Test.YtjhakplaffgkpaaDoorMbitsM
import Derived.Test.YtjhakplaffgkpaaDoorFarM
import Derived.Maps.OwnSet
import Derived.Maps.RangeWalk
namespace Go.Proofs.YtjhakplaffgkpaaDoor
open Go.RowKit

/-- No block but those of F turns. -/
structure Keeps (F : Nat → Prop) (w w' : World) : Prop where
  os : w'.os = w.os
  tape : w'.tape = w.tape
  output : w'.output = w.output
  size : w.heap.size ≤ w'.heap.size
  block : ∀ i, i < w.heap.size → ¬ F i → w'.heap[i]? = w.heap[i]?
section
variable {F F' : Nat → Prop} {w w1 w2 : World}
theorem Keeps.refl (F : Nat → Prop) (w : World) : Keeps F w w := ⟨rfl, rfl, rfl, Nat.le_refl _, fun _ _ _ => rfl⟩
theorem Keeps.trans (h : Keeps F w w1) (k : Keeps F' w1 w2) (hF : ∀ i, F' i → F i ∨ w.heap.size ≤ i) : Keeps F w w2 :=
  ⟨k.os.trans h.os, k.tape.trans h.tape, k.output.trans h.output, Nat.le_trans h.size k.size, fun i hi hn => (k.block i (Nat.lt_of_lt_of_le hi h.size) (fun hf => (hF i hf).elim hn (fun hh => by omega))).trans (h.block i hi hn)⟩
theorem Keeps.grown {row : Option Nat} (h : Keeps F w w1) (hg : w1.grownBy w2 row) (hr : ∀ k, row = some k → F k ∨ w.heap.size ≤ k) : Keeps F w w2 :=
  ⟨hg.os.trans h.os, hg.tape.trans h.tape, hg.output.trans h.output, Nat.le_trans h.size hg.size, fun i hi hn => (hg.block i (Nat.lt_of_lt_of_le hi h.size) (fun e => (hr i e.symm).elim hn (fun hh => by omega))).trans (h.block i hi hn)⟩
theorem Keeps.alloc (h : Keeps F w w1) (o : Obj) : Keeps F w (w1.alloc o) := h.grown (World.grownBy_alloc w1 o none) (fun k e => by cases e)
theorem Keeps.drew (h : Keeps F w w1) : Keeps F w w1.drew := ⟨h.os, h.tape, h.output, h.size, h.block⟩
theorem Keeps.drewN (h : Keeps F w w1) (n : Nat) : Keeps F w (w1.drewN n) := ⟨h.os, h.tape, h.output, h.size, h.block⟩
theorem Keeps.below {B : Nat} (h : Keeps F w w1) (hB : B ≤ w.heap.size) (hF : ∀ i, F i → B ≤ i) : Below B w w1 := ⟨h.os, h.tape, h.output, h.size, fun i hi => h.block i (by omega) (fun hf => by have := hF i hf; omega)⟩
theorem Keeps.of_below (h : Below w.heap.size w w1) : Keeps F w w1 := ⟨h.os, h.tape, h.output, h.size, fun i hi _ => h.block i hi⟩
theorem Keeps.wide (h : Keeps F w w1) (hF : ∀ i, F i → F' i) : Keeps F' w w1 := ⟨h.os, h.tape, h.output, h.size, fun i hi hn => h.block i hi (fun hf => hn (hF i hf))⟩
theorem Keeps.row (h : Keeps F w w1) {b : Nat} {o : Obj} (hc : w.heap[b]? = some o) (hF : ¬ F b) : w1.heap[b]? = some o := (h.block b (Array.getElem?_eq_some_iff.1 hc).1 hF).trans hc
theorem Keeps.own {B n sz : Nat} {e : TypeId} {v : Value} {xs : List Value} (h : Keeps F w w1) (ho : w.ownsRow B e sz v n xs) (hF : ∀ q, v.ownBlock = some q → ¬ F q) : w1.ownsRow B e sz v n xs := by
  obtain ⟨h1, h2⟩ := ho
  rcases h2 with h2 | ⟨g, cap, cur, rfl, hbg, hg, r⟩
  · exact ⟨h1, .inl h2⟩
  · exact ⟨h1, .inr ⟨g, cap, cur, rfl, hbg, h.row hg (hF g rfl), r⟩⟩
theorem Keeps.set (w : World) (b i : Nat) (u : Value) : Keeps (fun j => j = b) w (w.setCell ⟨b, i, none⟩ u) :=
  (Keeps.refl _ _).grown (setCell_by (World.grownBy.refl w (some b)) (p := ⟨b, i, none⟩) rfl u) (fun _ e => .inl (Option.some.inj e).symm)
/-- Where a slice's row is a row of cells, it is no map. -/
theorem own_ne_map {B n sz b c : Nat} {e : TypeId} {v : Value} {xs : List Value} {es : Array MapEntry} (ho : w.ownsRow B e sz v n xs) (hb : w.heap[b]? = some (.map es c)) : ∀ q, v.ownBlock = some q → q ≠ b := by
  intro q hq e
  subst e
  rcases ho.2 with ⟨rfl, _⟩ | ⟨g, cap, cur, rfl, _, hg, _⟩
  · cases hq
  · cases hq
    rw [hb] at hg
    cases hg
theorem own_ne_row {B n sz b : Nat} {e e' : TypeId} {v : Value} {xs : List Value} {cs : Array Value} {fr : Nat × Nat} (ho : w.ownsRow B e sz v n xs) (hb : w.heap[b]? = some (.cells cs e' fr)) (hne : e ≠ e') : ∀ q, v.ownBlock = some q → q ≠ b := by
  intro q hq h
  subst h
  rcases ho.2 with ⟨rfl, _⟩ | ⟨g, cap, cur, rfl, _, hg, _⟩
  · cases hq
  · cases hq
    rw [hb] at hg
    cases hg
    exact hne rfl
end
end Go.Proofs.YtjhakplaffgkpaaDoor

namespace Go.Proofs.YtjhakplaffgkpaaDoor
open Go.RowKit
theorem ite_ok {c : Prop} [Decidable c] {A B : Prop} (h : c) (k : A) : if c then A else B := by rw [if_pos h]; exact k
section
variable {P : Program} {ops : Array Oper} {C : World → Prop} {o : Oper} {rest : List Oper} {a : Act} {w : World} {Q : Exit → Act → World → Prop}
/-- An operation that runs to a value. -/
theorem wp_run {K : Act → World → Prop} {v : Value} {w' : World} (hrun : (execOp a.eval o).run P w = .ok (.value v) w') (h : K (a.put o.dst v) w') : o.wp P a w K Q := by
  unfold Oper.wp
  rw [hrun]
  exact h
theorem wp_skip {K : Act → World → Prop} {w' : World} (hrun : (execOp a.eval o).run P w = .ok .skip w') (h : K (a.put o.dst undef) w') : o.wp P a w K Q := by
  unfold Oper.wp
  rw [hrun]
  exact h
theorem wp_look1 {K : Act → World → Prop} (ty : TypeId) (x y : Operand) (ok : Bool) (ho : o.op = .lookup ty x y ok) {p q v : Value} (hx : a.eval x = p) (hy : a.eval y = q) (hrun : (Instr.lookup ty p q ok).run P w = .ok v w) (h : K (a.put o.dst v) w) : o.wp P a w K Q :=
  wp_run (by simp only [execOp, ho, hx, hy, Sem.run_bind, hrun, Result.andThen_ok, Sem.run_pure]) h
theorem wp_bslice {K : Act → World → Prop} (ty : TypeId) (n : Nat) (x : Operand) (ho : o.op = .buildSlice ty n #[(0, x)]) {p v : Value} {w' : World} (hx : a.eval x = p) (hrun : (Instr.buildSlice ty n #[(0, p)]).run P w = .ok v w') (h : K (a.put o.dst v) w') : o.wp P a w K Q :=
  wp_run (by simp only [execOp, ho, List.map_toArray, List.map_cons, List.map_nil, hx, Sem.run_bind, hrun, Result.andThen_ok, Sem.run_pure]) h
theorem wp_update {K : Act → World → Prop} (ty : TypeId) (x y z : Operand) (ho : o.op = .mapUpdate ty x y z) {p q r : Value} {w' : World} (hx : a.eval x = p) (hy : a.eval y = q) (hz : a.eval z = r) (hrun : (Instr.mapUpdate ty p q r).run P w = .ok () w') (h : K (a.put o.dst undef) w') : o.wp P a w K Q :=
  wp_skip (by simp only [execOp, ho, hx, hy, hz, Sem.run_bind, hrun, Result.andThen_ok, Sem.run_pure]) h
theorem wp_treeF {id : Nat} {l : List Oper} (F : Nat → Prop) (t : Seg) (hm : P.follows .mixedOrders = true)
    (hok : (Region.noSelect l.toArray && (t.ok .any l.toArray (Array.replicate l.toArray.size false) && decide (t.steps ≤ l.toArray.size))) = true)
    (hQ : ∀ (d : Option Tmp) v c a w, Q (.panic c) (a.put d v) w → Q (.panic c) a w) (h : ∀ wd, Below w.heap.size w wd → wpTree P l.toArray Q (fun x => Keeps F w x) t a wd) : (Code.region id l.toArray true).wp P Q a w := by
  simp only [Bool.and_eq_true, decide_eq_true_eq] at hok
  exact wp_region_held hm (tree_sound hok.1 hQ t _ _ a _ hok.2.1 hok.2.2 (Keeps.refl _ _).drew (h _ (Below.refl _ _).drew))
theorem wpL_look (hgd : o.guard = none) (ty : TypeId) (x y : Operand) (ok : Bool) (ho : o.op = .lookup ty x y ok) {p q v : Value} (hx : a.eval x = p) (hy : a.eval y = q) (hrun : (Instr.lookup ty p q ok).run P w = .ok v w) (h : wpList P ops Q rest (a.put o.dst v) w) : wpList P ops Q (o :: rest) a w := by
  refine wpList_plain hgd fun K hK => ?_
  unfold Oper.wp
  simp only [execOp, ho, hx, hy, Sem.run_bind, hrun, Result.andThen_ok, Sem.run_pure]
  exact hK _ _ h
end
end Go.Proofs.YtjhakplaffgkpaaDoor

namespace Go.Proofs.YtjhakplaffgkpaaDoor
open Go.RowKit
open Go.Maps (Keyed)

def wElem : Value → Option (DataW Unit × List MemPlace)
  | .int .u64 a => if decide (0 ≤ a) && decide (a < 18446744073709551616) then some (.lit (.int .u64 a), []) else none
  | _ => none
theorem wElem_mk (s : Nat) (h : s < 18446744073709551616) : wElem (.int .u64 (s : Int)) = some (.lit (.int .u64 (s : Int)), []) := by
  unfold wElem
  dsimp only
  rw [if_pos (by simp; omega)]
theorem wElem_inv {v : Value} {z : DataW Unit × List MemPlace} (h : wElem v = some z) : ∃ s : Nat, s < 18446744073709551616 ∧ v = .int .u64 (s : Int) ∧ z = (.lit (.int .u64 (s : Int)), []) := by
  unfold wElem at h
  split at h
  · rename_i a
    split at h
    · rename_i hc
      cases h
      simp at hc
      obtain ⟨k, rfl⟩ : ∃ k : Nat, a = (k : Int) := ⟨a.toNat, by omega⟩
      exact ⟨k, by omega, rfl, rfl⟩
    · cases h
  · cases h

/-- What a map says of a key. -/
abbrev SaysW := Nat → Option Nat
def ReadsW (D : DataW Unit) (f : SaysW) : Prop := ∀ x : Nat, (Maps.has D (.int .u64 (x : Int)) = true → ∃ s : Nat, (∀ zd, D.atKey (.int .u64 (x : Int)) zd = .lit (.int .u64 (s : Int))) ∧ f x = some s) ∧ (Maps.has D (.int .u64 (x : Int)) = false → f x = none)
/-- Block b is a map of at most n keys that says f. -/
def MapW (P : Program) (k : TypeId) (w : World) (b n : Nat) (f : SaysW) : Prop := ∃ D, w.ownsMap P k wElem b n D ∧ ReadsW D f
theorem key_wf {x : Nat} (h : x < 18446744073709551616) : (Lit.int .u64 (x : Int)).wf = true := by
  simp [Lit.wf, IntKind.min, IntKind.max, IntKind.signed, IntKind.bits]
  omega
theorem lit_ne {x y : Nat} (h : ¬ y = x) : (Lit.int .u64 (y : Int)) ≠ .int .u64 (x : Int) := fun e => h (by have := (Lit.int.inj e).2; omega)

section
variable {P : Program} {k e t : TypeId} {w w' : World} {b n : Nat} {f : SaysW}
theorem MapW.lt (h : MapW P k w b n f) : b < w.heap.size := by obtain ⟨D, h, _⟩ := h; exact h.lt
theorem MapW.obj (h : MapW P k w b n f) : ∃ es c, w.heap[b]? = some (.map es c) := by obtain ⟨D, ⟨es, clock, hb, _⟩, _⟩ := h; exact ⟨es, clock, hb⟩
theorem MapW.kept {row : Option Nat} (h : MapW P k w b n f) (hg : w.grownBy w' row) (hne : some b ≠ row) : MapW P k w' b n f := by
  obtain ⟨D, h1, h2⟩ := h
  exact ⟨D, h1.kept hg hne, h2⟩
theorem MapW.mono {n' : Nat} (h : MapW P k w b n f) (hn : n ≤ n') : MapW P k w b n' f := by
  obtain ⟨D, h1, h2⟩ := h
  exact ⟨D, h1.mono hn, h2⟩
theorem MapW.same (h : MapW P k w b n f) (hb : w'.heap[b]? = w.heap[b]?) : MapW P k w' b n f := by
  obtain ⟨D, ⟨es, clock, h1, r⟩, h2⟩ := h
  exact ⟨D, ⟨es, clock, hb.trans h1, r⟩, h2⟩
theorem readsW_empty : ReadsW (.map []) (fun _ => none) := fun x => ⟨fun h => by simp [Maps.has_eq] at h, fun _ => rfl⟩
theorem mapW_made (w : World) : MapW P k (w.alloc (.map #[] 0)) w.heap.size 0 (fun _ => none) := ⟨_, World.ownsMap_made w P k wElem, readsW_empty⟩
theorem ReadsW.put {D : DataW Unit} (h : ReadsW D f) (hm : Maps.IsMap D) (x s : Nat) : ReadsW (D.put (.int .u64 (x : Int)) (.lit (.int .u64 (s : Int)))) (fun y => if y = x then some s else f y) := by
  intro y
  by_cases hy : y = x
  · subst hy
    rw [Maps.has_put_same hm (by exact trivial)]
    exact ⟨fun _ => ⟨s, fun zd => Maps.atKey_put_same hm (by exact trivial) _ zd, if_pos rfl⟩, fun h => by cases h⟩
  · have hne := lit_ne hy
    rw [Maps.has_put_other hne]
    simp only [if_neg hy]
    refine ⟨fun hh => ?_, (h y).2⟩
    obtain ⟨s', h1, h2⟩ := (h y).1 hh
    exact ⟨s', fun zd => (Maps.atKey_put_other hne _ zd).trans (h1 zd), h2⟩

variable (hk : P.underlying k = some (.int .u64)) (ht : P.underlying t = some (.map k e))
include hk ht
theorem MapW.look (h : MapW P k w b n f) (hz : (zeroValue e).run P w = .ok (.int .u64 0) w) (x : Nat) (hx : x < 18446744073709551616) :
    (Instr.lookup t (.map (some b)) (.int .u64 (x : Int)) false).run P w = .ok (Value.int .u64 (((f x).getD 0 : Nat) : Int)) w ∧ (f x).getD 0 < 18446744073709551616 := by
  obtain ⟨D, h1, h2⟩ := h
  obtain ⟨v, ps, hrun, hR⟩ := h1.lookup (Maps.int_keyed hk) ht hz (wElem_mk 0 (by decide)) (Maps.keyOf_int_mk hk (key_wf hx))
  obtain ⟨s, hs, rfl, he⟩ := wElem_inv hR
  simp only [Prod.mk.injEq] at he
  have e : (f x).getD 0 = s := by
    cases hh : Maps.has D (.int .u64 (x : Int)) with
    | true =>
      obtain ⟨s', h3, h4⟩ := (h2 x).1 hh
      rw [h4, Option.getD_some]
      have := (h3 _).symm.trans he.1
      have := (Lit.int.inj (DataW.lit.inj this)).2
      omega
    | false =>
      rw [(h2 x).2 hh, Option.getD_none]
      have := (Maps.atKey_of_not_has hh _).symm.trans he.1
      have := (Lit.int.inj (DataW.lit.inj this)).2
      omega
  rw [e]
  exact ⟨hrun, hs⟩
theorem MapW.put (h : MapW P k w b n f) (hn : n < maxLen) (x : Nat) (hx : x < 18446744073709551616) (s : Nat) (hs : s < 18446744073709551616) :
    ∃ w', (Instr.mapUpdate t (.map (some b)) (.int .u64 (x : Int)) (.int .u64 (s : Int))).run P w = .ok () w' ∧ MapW P k w' b (n + 1) (fun y => if y = x then some s else f y) ∧ w.grownBy w' (some b) ∧ w'.heap.size = w.heap.size := by
  obtain ⟨D, h1, h2⟩ := h
  obtain ⟨w', hrun, h3, h4⟩ := h1.store (Maps.int_keyed hk) ht hn (Maps.keyOf_int_mk hk (key_wf hx)) (wElem_mk s hs)
  refine ⟨w', hrun, ⟨_, h3, h2.put h1.isMap x s⟩, h4.grown, ?_⟩
  obtain ⟨es, cl, es', cl', _, rfl⟩ := h4
  simp [ChangeMaps.setBlock]
omit hk ht in
/-- A map's copy. -/
theorem MapW.clone (h : MapW P k w b n f) : ∃ es cl, w.heap[b]? = some (.map es cl) ∧ ∀ W W' : World, W' = W.alloc (.map es cl) → MapW P k W' W.heap.size n f := by
  obtain ⟨D, ⟨es, clock, hb, F, hs, hD⟩, h2⟩ := h
  exact ⟨es, clock, hb, fun W W' e => ⟨D, ⟨es, clock, by rw [e]; exact heap_alloc_new W _, F, hs, hD⟩, h2⟩⟩
end

end Go.Proofs.YtjhakplaffgkpaaDoor
