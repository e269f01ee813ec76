/- A desk: who waits, as data and in memory. -/
import Derived.Test.YtkcpldkdnnhmmaaQrl
import Derived.Test.YtkcpldkdnnhmmaaMarks
import Derived.Test.YtkcpldkdnnhmmaaSlc
import Derived.Test.YtkcpldkdnnhmmaaKeep
import Derived.Deep.MidRow
import Derived.Great.BuildSlice
import Derived.Laws.Tables
namespace Go.Proofs.Ytkcpldkdnnhmmaa
open Go.RowKit
set_option maxRecDepth 20000

/-- Who waits. -/
structure Wt where
  cl : Nat
  rq : Nat
  ix : Nat
  fr : Nat
  ct : Nat
  rd : Nat
def Wt.cells (x : Wt) : Array Value := #[.int .u64 (x.cl : Int), .int .u64 (x.rq : Int), .int .u64 (x.ix : Int), .int .u32 (x.fr : Int), .int .u32 (x.ct : Int), .int .u64 (x.rd : Int)]
def wts (l : List Wt) : List Value := l.flatMap fun x => x.cells.toList
theorem wts_cons (x : Wt) (l : List Wt) : wts (x :: l) = x.cells.toList ++ wts l := rfl
theorem wts_app (a b : List Wt) : wts (a ++ b) = wts a ++ wts b := by simp [wts]
theorem wts_one1 (x : Wt) : wts [x] = x.cells.toList := by simp [wts]
theorem wts_len (l : List Wt) : (wts l).length = l.length * 6 := by
  induction l with
  | nil => rfl
  | cons x l ih => rw [wts_cons, List.length_append, ih, List.length_cons]; show 6 + _ = _; omega
theorem wt_one (x : Wt) : ∀ v ∈ x.cells.toList, v.oneCell' = true := by
  unfold Wt.cells
  intro v hv
  simp only [List.mem_cons, List.not_mem_nil, or_false] at hv
  rcases hv with rfl | rfl | rfl | rfl | rfl | rfl <;> rfl
theorem wts_one (l : List Wt) : ∀ v ∈ wts l, v.oneCell' = true := by
  intro v hv
  obtain ⟨x, _, h⟩ := List.mem_flatMap.1 hv
  exact wt_one x v h
theorem wts_get (l : List Wt) (i : Nat) (x : Wt) (hi : l[i]? = some x) (j : Nat) (u : Value) (hj : x.cells[j]? = some u) : (wts l)[i * 6 + j]? = some u := by
  induction l generalizing i with
  | nil => cases hi
  | cons y l ih =>
    have hl : y.cells.toList.length = 6 := rfl
    have hj6 : j < 6 := by have := (Array.getElem?_eq_some_iff.1 hj).1; exact this
    rw [wts_cons]
    cases i with
    | zero =>
      simp only [List.getElem?_cons_zero, Option.some.injEq] at hi
      subst hi
      rw [Nat.zero_mul, Nat.zero_add, List.getElem?_append_left (by omega)]
      simpa using hj
    | succ i =>
      rw [List.getElem?_cons_succ] at hi
      rw [List.getElem?_append_right (by omega), show (i + 1) * 6 + j - y.cells.toList.length = i * 6 + j by omega]
      exact ih i hi
theorem E_wt : Elem Try.prog 39 55 (.agg (Wt.cells ⟨0, 0, 0, 0, 0, 0⟩)) 6 40 := Elem.mk_ Try.underlying39 (by kernel_rfl) rfl (by decide)
theorem E_rwt : Elem Try.prog 41 68 (.agg (Wt.cells ⟨0, 0, 0, 0, 0, 0⟩)) 6 40 := Elem.mk_ Try.underlying41 (by kernel_rfl) rfl (by decide)

def Wt.isRead (x : Wt) : Bool := decide (x.ix = 0)
def Wt.isOf (c r : Nat) (x : Wt) : Bool := decide (x.cl = c) && decide (x.rq = r)
def Wt.wr (c r : Nat) (x : Wt) : Bool := !x.isRead && x.isOf c r
def Wt.rdr (c r : Nat) (x : Wt) : Bool := x.isRead && x.isOf c r
def Wt.upto (s : Nat) (x : Wt) : Bool := x.isRead && decide (x.rd ≤ s)
def Wt.done (L B : Nat) (x : Wt) : Bool := !x.isRead && Hs L B x.ix

/-- A desk: how many nodes, who it is, the last round, when each was heard, who waits. -/
structure Dk where
  n : Nat
  self : Nat
  round : Nat
  h : List Nat
  l : List Wt
def nset (n : Nat) : Nat := 2 ^ n - 1
def Dk.at_ (t : Dk) (k : Nat) : Nat := if k = t.self then t.round else t.h.getD k 0
def Dk.sure (t : Dk) : Nat := Qu.lst (nset t.n) t.at_
def Dk.wait (t : Dk) (l : List Wt) : Dk := { t with l := l }
def Dk.turn (t : Dk) (r : Nat) : Dk := { t with round := r }
def Dk.hear (t : Dk) (h : List Nat) : Dk := { t with h := h }
def Dk.full (t : Dk) : Bool := decide (64 ≤ t.l.length)
def Dk.cells (t : Dk) (v : Value) : List Value := [.int .u64 (nset t.n : Int), .int .i64 (t.self : Int), .int .u64 (t.round : Int)] ++ (u64s t.h ++ [v])
/-- What may be, of a desk. -/
structure Dk.Ok (t : Dk) : Prop where
  n1 : 1 ≤ t.n
  n7 : t.n ≤ 7
  sf : t.self < t.n
  hl : t.h.length = 7
  room : t.l.length ≤ 64
  ix : ∀ x ∈ t.l, x.ix < 18446744073709551616
/-- A desk in memory: its row g, who waits v. -/
structure Dg (w : World) (B g : Nat) (v : Value) (t : Dk) : Prop where
  row : w.heap[g]? = some (.cells (t.cells v).toArray 58 (0, 0))
  own : w.ownsRow B 55 6 v t.l.length (wts t.l)
  ne : v.ownBlock ≠ some g
  lo : B ≤ g
  ok : t.Ok
def Foot (g : Nat) (v : Value) (i : Nat) : Prop := i = g ∨ v.ownBlock = some i
/-- What a call makes of a desk. -/
def Mv (w : World) (B g : Nat) (v : Value) (t' : Dk) (w' : World) : Prop := ∃ v', Dg w' B g v' t' ∧ Keeps (Foot g v) w w' ∧ (v'.ownBlock = v.ownBlock ∨ ∀ q, v'.ownBlock = some q → w.heap.size ≤ q)
theorem Dk.set_waits {t : Dk} (h : t.h.length = 7) (v v2 : Value) (l2 : List Wt) : (t.cells v).set 10 v2 = (t.wait l2).cells v2 := by
  obtain ⟨n, s, r, hh, l⟩ := t
  match hh, h with
  | [a, b, c, d, e, f, g], _ => rfl
theorem Dk.set_round (t : Dk) (v : Value) (r : Nat) : (t.cells v).set 2 (.int .u64 (r : Int)) = (t.turn r).cells v := rfl
theorem Dk.set_heard {t : Dk} (h : t.h.length = 7) (v : Value) (k x : Nat) (hk : k < 7) : (t.cells v).set (3 + k) (.int .u64 (x : Int)) = (t.hear (t.h.set k x)).cells v := by
  unfold Dk.cells Dk.hear
  rw [List.set_append_right _ _ (by simp), show 3 + k - [Value.int .u64 (nset t.n : Int), .int .i64 (t.self : Int), .int .u64 (t.round : Int)].length = k by simp, List.set_append_left _ _ (by unfold u64s; rw [List.length_map]; omega)]
  unfold u64s
  rw [List.map_set]
section
variable {w w' w1 : World} {B g : Nat} {v : Value} {t : Dk}
theorem Dg.lt (h : Dg w B g v t) : g < w.heap.size := (Array.getElem?_eq_some_iff.1 h.row).1
theorem Dg.c0 (h : Dg w B g v t) : w.cell? ⟨g, 0, none⟩ = some (.int .u64 (nset t.n : Int)) := cell_of_row w g 0 _ _ _ h.row
theorem Dg.c1 (h : Dg w B g v t) : w.cell? ⟨g, 1, none⟩ = some (.int .i64 (t.self : Int)) := cell_of_row w g 1 _ _ _ h.row
theorem Dg.c2 (h : Dg w B g v t) : w.cell? ⟨g, 2, none⟩ = some (.int .u64 (t.round : Int)) := cell_of_row w g 2 _ _ _ h.row
theorem Dg.ch (h : Dg w B g v t) {k : Nat} (hk : k < 7) : w.cell? ⟨g, 3 + k, none⟩ = some (.int .u64 ((t.h.getD k 0 : Nat) : Int)) := by
  rw [cell_of_row w g (3 + k) _ _ _ h.row, List.getElem?_toArray]
  unfold Dk.cells
  rw [List.getElem?_append_right (by simp), show 3 + k - [Value.int .u64 (nset t.n : Int), .int .i64 (t.self : Int), .int .u64 (t.round : Int)].length = k by simp, List.getElem?_append_left (by unfold u64s; rw [List.length_map, h.ok.hl]; omega)]
  unfold u64s
  rw [List.getElem?_map, List.getElem?_eq_getElem (by rw [h.ok.hl]; omega), List.getD, List.getElem?_eq_getElem (by rw [h.ok.hl]; omega)]
  rfl
theorem Dg.c10 (h : Dg w B g v t) : w.cell? ⟨g, 10, none⟩ = some v := by
  rw [cell_of_row w g 10 _ _ _ h.row, List.getElem?_toArray]
  unfold Dk.cells
  rw [List.getElem?_append_right (by simp), List.getElem?_append_right (by unfold u64s; rw [List.length_map, h.ok.hl]; simp)]
  unfold u64s
  rw [List.length_map, h.ok.hl]
  rfl
theorem Dg.fr (h : Dg w B g v t) (i : Nat) : w.frozen? ⟨g, i, none⟩ = false := frozen_of_row w g i _ _ h.row
theorem Dg.form (h : Dg w B g v t) : ∃ A c, v = .slice A t.l.length c := ownsRow_form h.own
theorem Dg.keeps {F : Nat → Prop} (h : Dg w B g v t) (k : Keeps F w w') (hF : ∀ i, Foot g v i → ¬ F i) : Dg w' B g v t :=
  ⟨k.row h.row (hF g (.inl rfl)), k.own h.own (fun q hq => hF q (.inr hq)), h.ne, h.lo, h.ok⟩
theorem Dg.below (h : Dg w B g v t) (hb : Below w.heap.size w w') : Dg w' B g v t := h.keeps (F := fun _ => False) (Keeps.of_below hb) (fun _ _ h => h)
theorem Dg.foot (h : Dg w B g v t) {i : Nat} (hi : Foot g v i) : B ≤ i ∧ i < w.heap.size := by
  rcases hi with rfl | hi
  · exact ⟨h.lo, h.lt⟩
  · exact h.own.lt i hi
theorem Mv.same (h : Dg w B g v t) (hb : Below w.heap.size w w') : Mv w B g v t w' := ⟨v, h.below hb, Keeps.of_below hb, .inl rfl⟩
theorem Mv.after {t' : Dk} (h : Below w.heap.size w w1) (k : Mv w1 B g v t' w') : Mv w B g v t' w' := by
  obtain ⟨v', h1, h2, h3⟩ := k
  refine ⟨v', h1, (Keeps.of_below (F := Foot g v) h).trans h2 (fun i hi => .inl hi), ?_⟩
  rcases h3 with h3 | h3
  · exact .inl h3
  · exact .inr fun q hq => Nat.le_trans h.size (h3 q hq)
theorem Mv.then {t' : Dk} (k : Mv w B g v t w1) (h : Below w1.heap.size w1 w') (ht : t' = t) : Mv w B g v t' w' := by
  subst ht
  obtain ⟨v', h1, h2, h3⟩ := k
  exact ⟨v', h1.below h, h2.trans (Keeps.of_below (F := Foot g v) h) (fun i hi => .inl hi), h3⟩
/-- A cell of the desk's own row that is stored into. -/
theorem Dg.cell {t' : Dk} {j : Nat} {u : Value} (h : Dg w B g v t) (hc : (t.cells v).set j u = t'.cells v) (hl : t'.l = t.l) (hok : t'.Ok) : Dg (w.setCell ⟨g, j, none⟩ u) B g v t' ∧ Keeps (Foot g v) w (w.setCell ⟨g, j, none⟩ u) := by
  refine ⟨⟨?_, ?_, h.ne, h.lo, hok⟩, (Keeps.set w g j u).wide (fun i hi => .inl hi)⟩
  · rw [heap_setCell_same w g j _ _ _ h.row, List.setIfInBounds_toArray, hc]
  · rw [hl]
    exact (Keeps.set w g j u).own h.own (fun q hq e => h.ne (by rw [hq, e]))
/-- Others wait. -/
theorem Dg.waits {v2 : Value} {l2 : List Wt} (h : Dg w B g v t) (k : Keeps (fun i => v.ownBlock = some i) w w1) (ho : w1.ownsRow B 55 6 v2 l2.length (wts l2)) (hv : v2.ownBlock = v.ownBlock ∨ ∀ q, v2.ownBlock = some q → w.heap.size ≤ q) (hl : l2.length ≤ 64) (hx : ∀ x ∈ l2, x.ix < 18446744073709551616) :
    Mv w B g v (t.wait l2) (w1.setCell ⟨g, 10, none⟩ v2) := by
  have hne : v2.ownBlock ≠ some g := by
    rcases hv with hv | hv
    · rw [hv]; exact h.ne
    · intro e
      have := hv g e
      have := h.lt
      omega
  have hr := k.row h.row h.ne
  refine ⟨v2, ⟨?_, ?_, hne, h.lo, ⟨h.ok.n1, h.ok.n7, h.ok.sf, h.ok.hl, hl, hx⟩⟩, ?_, hv⟩
  · rw [heap_setCell_same w1 g 10 _ _ _ hr, List.setIfInBounds_toArray, Dk.set_waits h.ok.hl]
  · exact (Keeps.set w1 g 10 v2).own ho (fun q hq e => hne (by rw [hq, e]))
  · exact (k.wide (F' := Foot g v) (fun i hi => .inr hi)).trans (Keeps.set w1 g 10 v2) (fun i hi => .inl (.inl hi))
end
end Go.Proofs.Ytkcpldkdnnhmmaa
