/- A chain: its items, as data and in memory. -/
import Derived.Test.YtlpckhjmbfeegaaSlc
import Derived.Test.YtlpckhjmbfeegaaTreeF
import Derived.Deep.MidRow
import Derived.Great.BuildSlice
import Derived.Laws.Tables
import Derived.Lib.SliceRun
namespace Go.Proofs.Ytlpckhjmbfeegaa
open Go.RowKit
set_option maxRecDepth 20000

/-- An item: its term, its kind, its text. -/
structure It where
  tm : Nat
  kd : Int
  tx : List UInt8
def It.cells (x : It) : Array Value := #[.int .u64 (x.tm : Int), .int .i64 x.kd, .string (str x.tx)]
def itNil : It := ⟨0, 0, []⟩
def its (l : List It) : List Value := l.flatMap fun x => x.cells.toList
theorem its_cons (x : It) (l : List It) : its (x :: l) = x.cells.toList ++ its l := rfl
theorem its_app (a b : List It) : its (a ++ b) = its a ++ its b := by simp [its]
theorem its_one1 (x : It) : its [x] = x.cells.toList := by simp [its]
theorem its_len (l : List It) : (its l).length = l.length * 3 := by
  induction l with
  | nil => rfl
  | cons x l ih => rw [its_cons, List.length_append, ih, List.length_cons]; show 3 + _ = _; omega
theorem it_one (x : It) : ∀ v ∈ x.cells.toList, v.oneCell' = true := by
  unfold It.cells
  intro v hv
  simp only [List.mem_cons, List.not_mem_nil, or_false] at hv
  rcases hv with rfl | rfl | rfl <;> rfl
theorem its_one (l : List It) : ∀ v ∈ its l, v.oneCell' = true := by
  intro v hv
  obtain ⟨x, _, h⟩ := List.mem_flatMap.1 hv
  exact it_one x v h
theorem its_get (l : List It) (i : Nat) (x : It) (hi : l[i]? = some x) (j : Nat) (u : Value) (hj : x.cells[j]? = some u) : (its l)[i * 3 + j]? = some u := by
  induction l generalizing i with
  | nil => cases hi
  | cons y l ih =>
    have hl : y.cells.toList.length = 3 := rfl
    have hj3 : j < 3 := by have := (Array.getElem?_eq_some_iff.1 hj).1; exact this
    rw [its_cons]
    cases i with
    | zero =>
      simp only [List.getElem?_cons_zero, Option.some.injEq] at hi
      subst hi
      rw [Nat.zero_mul, Nat.zero_add, List.getElem?_append_left (by omega)]
      simpa using hj
    | succ i =>
      rw [List.getElem?_cons_succ] at hi
      rw [List.getElem?_append_right (by omega), show (i + 1) * 3 + j - y.cells.toList.length = i * 3 + j by omega]
      exact ih i hi
theorem its_take (l : List It) (k : Nat) : its (l.take k) = (its l).take (k * 3) := by
  induction l generalizing k with
  | nil => simp [its]
  | cons x l ih =>
    cases k with
    | zero => simp [its]
    | succ k =>
      have hl : x.cells.toList.length = 3 := rfl
      rw [List.take_succ_cons, its_cons, its_cons, ih, show (k + 1) * 3 = x.cells.toList.length + k * 3 by rw [hl]; omega, List.take_length_add_append]
theorem its_drop (l : List It) (k : Nat) : its (l.drop k) = (its l).drop (k * 3) := by
  induction l generalizing k with
  | nil => simp [its]
  | cons x l ih =>
    cases k with
    | zero => simp
    | succ k =>
      have hl : x.cells.toList.length = 3 := rfl
      rw [List.drop_succ_cons, its_cons, ih, show (k + 1) * 3 = x.cells.toList.length + k * 3 by rw [hl]; omega, List.drop_length_add_append]
theorem E_it : Elem Try.prog 31 47 (.agg (It.cells itNil)) 3 32 := Elem.mk_ Try.underlying31 (by kernel_rfl) rfl (by decide)
theorem E_rit : Elem Try.prog 37 62 (.agg (It.cells itNil)) 3 32 := Elem.mk_ Try.underlying37 (by kernel_rfl) rfl (by decide)

section
variable {w w' : World} {B n c k m : Nat} {A : Option Addr} {l : List It}
/-- The elements from k on, m of them. -/
theorem Rd.cut3 (h : Rd w B 3 A n c (its l)) (hl : l.length = n) (hk : k + m ≤ n) : Rd w B 3 (A.map (·.add (k * 3))) m (c - k) (its ((l.drop k).take m)) := by
  obtain ⟨h1, h2, h3, h4⟩ := h
  refine ⟨by omega, by omega, by rw [its_len, List.length_take, List.length_drop]; omega, fun hm => ?_⟩
  obtain ⟨b, o, rfl, hb, hc⟩ := h4 (by omega)
  refine ⟨b, o + k * 3, by simp [addOff], hb, fun j u hu => ?_⟩
  rw [Nat.add_assoc]
  refine hc (k * 3 + j) u ?_
  rw [its_take, its_drop, List.getElem?_take] at hu
  split at hu
  · rwa [List.getElem?_drop] at hu
  · cases hu
theorem Rd.drop3 (h : Rd w B 3 A n c (its l)) (hl : l.length = n) (hk : k ≤ n) : Rd w B 3 (A.map (·.add (k * 3))) (n - k) (c - k) (its (l.drop k)) := by
  have := h.cut3 (k := k) (m := n - k) hl (by omega)
  rwa [List.take_of_length_le (by rw [List.length_drop]; omega)] at this
theorem Rd.take3 (h : Rd w B 3 A n c (its l)) (hl : l.length = n) (hk : k ≤ n) : Rd w B 3 A k c (its (l.take k)) := by
  obtain ⟨h1, h2, h3, h4⟩ := h
  refine ⟨by omega, h2, by rw [its_len, List.length_take]; omega, fun hm => ?_⟩
  obtain ⟨b, o, hA, hb, hc⟩ := h4 (by omega)
  refine ⟨b, o, hA, hb, fun j u hu => hc j u ?_⟩
  rw [its_take, List.getElem?_take] at hu
  split at hu
  · exact hu
  · cases hu
/-- The cells of one of them. -/
theorem Rd.item {i : Nat} {x : It} (h : Rd w B 3 A n c (its l)) (hl : l.length = n) (hi : l[i]? = some x) : ∃ b o, A = some ⟨b, o, none⟩ ∧ b < B ∧ w.cell? ⟨b, o + i * 3, none⟩ = some (.int .u64 (x.tm : Int)) ∧ w.cell? ⟨b, o + i * 3 + 1, none⟩ = some (.int .i64 x.kd) ∧ w.cell? ⟨b, o + i * 3 + 2, none⟩ = some (.string (str x.tx)) := by
  obtain ⟨b, o, hA, hb, hc⟩ := h.2.2.2 (by have := (List.getElem?_eq_some_iff.1 hi).1; omega)
  refine ⟨b, o, hA, hb, ?_, ?_, ?_⟩
  · exact hc _ _ (its_get l i x hi 0 _ rfl)
  · rw [Nat.add_assoc]; exact hc _ _ (its_get l i x hi 1 _ rfl)
  · rw [Nat.add_assoc]; exact hc _ _ (its_get l i x hi 2 _ rfl)
end

/-- A chain: what is cut off, its term, the items behind it. -/
structure Cv where
  base : Nat
  old : Nat
  l : List It
def Cv.last (t : Cv) : Nat := t.base + t.l.length
def Cv.at_ (t : Cv) (i : Nat) : Option It := if i ≤ t.base then none else t.l[i - t.base - 1]?
def Cv.tm (t : Cv) (i : Nat) : Option Nat := if i = t.base then some t.old else (t.at_ i).map It.tm
def Cv.get (t : Cv) (i : Nat) : It := (t.at_ i).getD itNil
def Cv.term (t : Cv) (i : Nat) : Nat := (t.tm i).getD 0
def Cv.from_ (t : Cv) (i : Nat) : List It := t.l.drop (i - t.base - 1)
def Cv.newer (t : Cv) (last term : Nat) : Bool := decide (t.term t.last < term) || (decide (term = t.term t.last) && decide (t.last ≤ last))
def Cv.meets (t : Cv) (prev term : Nat) : Bool := decide (prev < t.base) || (decide (t.tm prev = some term))
def up : Nat → List It → Bool
  | _, [] => true
  | a, x :: l => decide (a ≤ x.tm) && up x.tm l
/-- Why items may not stand behind the item k: a number of api. -/
def Cv.stop (t : Cv) (k : Nat) (l : List It) : Int := if 4096 < k - t.base + l.length then 31 else if up (t.term k) l then 0 else 2
def Cv.set (t : Cv) (k : Nat) (l : List It) : Cv := { t with l := t.l.take (k - t.base) ++ l }
def Cv.put (t : Cv) (k : Nat) (l : List It) : Cv := if t.stop k l = 0 then t.set k l else t
/-- From the item behind k on: the first one that is not there, or of another term. -/
def Cv.differ (t : Cv) : Nat → List It → Option (Nat × List It)
  | _, [] => none
  | k, x :: l => if t.tm (k + 1) = some x.tm then t.differ (k + 1) l else some (k, x :: l)
def Cv.takeTo (t : Cv) (prev : Nat) (l : List It) : Nat := max (prev + l.length) t.base
def Cv.left (t : Cv) (prev : Nat) (l : List It) : Option (Nat × List It) := t.differ (max prev t.base) (l.drop (max prev t.base - prev))
def Cv.takes (t : Cv) (prev term : Nat) (l : List It) : Bool := t.meets prev term && (match t.left prev l with | none => true | some (k, m) => t.stop k m == 0)
def Cv.take (t : Cv) (prev term : Nat) (l : List It) : Cv := if t.meets prev term then (match t.left prev l with | none => t | some (k, m) => t.put k m) else t
def Cv.cutWhy (t : Cv) (b : Nat) : Int := if t.last < b then 30 else 0
def Cv.cut (t : Cv) (b : Nat) : Cv := if t.last < b then t else if b ≤ t.base then t else ⟨b, t.term b, t.from_ (b + 1)⟩

/-- A chain in memory: its row g, its items v. -/
structure Ck (w : World) (B g : Nat) (v : Value) (t : Cv) : Prop where
  row : w.heap[g]? = some (.cells #[.int .u64 (t.base : Int), .int .u64 (t.old : Int), v] 78 (0, 0))
  own : w.ownsRow B 47 3 v t.l.length (its t.l)
  lo : B ≤ g
  room : t.l.length ≤ 4096
  bound : t.last < 9000000000000000000
def Foot (g : Nat) (v : Value) (i : Nat) : Prop := i = g ∨ v.ownBlock = some i
/-- What a call makes of a chain. -/
def Mv (w : World) (B g : Nat) (v : Value) (t' : Cv) (w' : World) : Prop := ∃ v', Ck w' B g v' t' ∧ Keeps (Foot g v) w w' ∧ (v'.ownBlock = v.ownBlock ∨ ∀ q, v'.ownBlock = some q → w.heap.size ≤ q)
section
variable {w w' w1 : World} {B g : Nat} {v : Value} {t : Cv}
theorem Ck.lt (h : Ck w B g v t) : g < w.heap.size := (Array.getElem?_eq_some_iff.1 h.row).1
theorem Ck.ne (h : Ck w B g v t) : v.ownBlock ≠ some g := fun e => own_ne_row h.own h.row (by decide) g e rfl
theorem Ck.c0 (h : Ck w B g v t) : w.cell? ⟨g, 0, none⟩ = some (.int .u64 (t.base : Int)) := cell_of_row w g 0 _ _ _ h.row
theorem Ck.c1 (h : Ck w B g v t) : w.cell? ⟨g, 1, none⟩ = some (.int .u64 (t.old : Int)) := cell_of_row w g 1 _ _ _ h.row
theorem Ck.c2 (h : Ck w B g v t) : w.cell? ⟨g, 2, none⟩ = some v := cell_of_row w g 2 _ _ _ h.row
theorem Ck.fr (h : Ck w B g v t) (i : Nat) : w.frozen? ⟨g, i, none⟩ = false := frozen_of_row w g i _ _ h.row
theorem Ck.form (h : Ck w B g v t) : ∃ A c, v = .slice A t.l.length c := ownsRow_form h.own
theorem Ck.keeps {F : Nat → Prop} (h : Ck w B g v t) (k : Keeps F w w') (hF : ∀ i, Foot g v i → ¬ F i) : Ck w' B g v t :=
  ⟨k.row h.row (hF g (.inl rfl)), k.own h.own (fun q hq => hF q (.inr hq)), h.lo, h.room, h.bound⟩
theorem Ck.below (h : Ck w B g v t) (hb : Below w.heap.size w w') : Ck w' B g v t := h.keeps (F := fun _ => False) (Keeps.of_below hb) (fun _ _ h => h)
theorem Ck.foot (h : Ck w B g v t) {i : Nat} (hi : Foot g v i) : B ≤ i ∧ i < w.heap.size := by
  rcases hi with rfl | hi
  · exact ⟨h.lo, h.lt⟩
  · exact h.own.lt i hi
theorem Mv.same (h : Ck w B g v t) (hb : Below w.heap.size w w') : Mv w B g v t w' := ⟨v, h.below hb, Keeps.of_below hb, .inl rfl⟩
theorem Mv.after {t' : Cv} (h : Below w.heap.size w w1) (k : Mv w1 B g v t' w') : Mv w B g v t' w' := by
  obtain ⟨v', h1, h2, h3⟩ := k
  refine ⟨v', h1, (Keeps.of_below (F := Foot g v) h).trans h2 (fun i hi => .inl hi), ?_⟩
  rcases h3 with h3 | h3
  · exact .inl h3
  · exact .inr fun q hq => Nat.le_trans h.size (h3 q hq)
theorem Mv.then {t' : Cv} (k : Mv w B g v t' w1) (h : Below w1.heap.size w1 w') : Mv w B g v t' w' := by
  obtain ⟨v', h1, h2, h3⟩ := k
  exact ⟨v', h1.below h, h2.trans (Keeps.of_below (F := Foot g v) h) (fun i hi => .inl hi), h3⟩
/-- The items are others. -/
theorem Ck.items {v2 : Value} {l2 : List It} (h : Ck w B g v t) (k : Keeps (fun i => v.ownBlock = some i) w w1) (ho : w1.ownsRow B 47 3 v2 l2.length (its l2)) (hv : v2.ownBlock = v.ownBlock ∨ ∀ q, v2.ownBlock = some q → w.heap.size ≤ q) (hl : l2.length ≤ 4096) (hb : t.base + l2.length < 9000000000000000000) :
    Mv w B g v { t with l := l2 } (w1.setCell ⟨g, 2, none⟩ v2) := by
  have hr := k.row h.row h.ne
  refine ⟨v2, ⟨?_, ?_, h.lo, hl, hb⟩, ?_, hv⟩
  · rw [heap_setCell_same w1 g 2 _ _ _ hr]; rfl
  · exact (Keeps.set w1 g 2 v2).own ho (fun q hq e => own_ne_row ho hr (by decide) q hq e)
  · exact (k.wide (F' := Foot g v) (fun i hi => .inr hi)).trans (Keeps.set w1 g 2 v2) (fun i hi => .inl (.inl hi))
theorem Ck.bl (h : Ck w B g v t) : t.base < 9000000000000000000 := by have := h.bound; unfold Cv.last at this; omega
end
theorem at_none {t : Cv} {i : Nat} (h : i ≤ t.base) : t.at_ i = none := by unfold Cv.at_; rw [if_pos h]
theorem at_far {t : Cv} {i : Nat} (h : t.last < i) : t.at_ i = none := by
  unfold Cv.last at h
  unfold Cv.at_
  rw [if_neg (by omega)]
  exact List.getElem?_eq_none (by omega)
theorem at_in {t : Cv} {i : Nat} (h : t.base < i) (h2 : i ≤ t.last) : ∃ x, t.at_ i = some x ∧ t.l[i - t.base - 1]? = some x := by
  unfold Cv.last at h2
  unfold Cv.at_
  rw [if_neg (by omega)]
  exact ⟨_, List.getElem?_eq_getElem (by omega), List.getElem?_eq_getElem (by omega)⟩
end Go.Proofs.Ytlpckhjmbfeegaa
