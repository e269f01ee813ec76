/- A bag in memory, and what its calls do that make no bag: Len, Lost, At, Put, Double, Clear, New. -/
import Derived.Test.YtdddknncndjbcaaSegs
import Derived.Test.YtdddknncndjbcaaFar
import Derived.Lib.SliceRun
namespace Go.Proofs.Ytdddknncndjbcaa
open Go.RowKit

/-- No block but those of F turns. -/
structure Keeps (F : Nat → Prop) (w w' : World) : Prop where
  os : w'.os = w.os
  tape : w'.tape = w.tape
  output : w'.output = w.output
  size : w.heap.size ≤ w'.heap.size
  block : ∀ i, i < w.heap.size → ¬ F i → w'.heap[i]? = w.heap[i]?
section
variable {F F' : Nat → Prop} {w w1 w2 : World}
theorem Keeps.refl (F : Nat → Prop) (w : World) : Keeps F w w := ⟨rfl, rfl, rfl, Nat.le_refl _, fun _ _ _ => rfl⟩
theorem Keeps.trans (h : Keeps F w w1) (k : Keeps F' w1 w2) (hF : ∀ i, F' i → F i ∨ w.heap.size ≤ i) : Keeps F w w2 :=
  ⟨k.os.trans h.os, k.tape.trans h.tape, k.output.trans h.output, Nat.le_trans h.size k.size, fun i hi hn => (k.block i (Nat.lt_of_lt_of_le hi h.size) (fun hf => (hF i hf).elim hn (fun hh => by omega))).trans (h.block i hi hn)⟩
theorem Keeps.grown {row : Option Nat} (h : Keeps F w w1) (hg : w1.grownBy w2 row) (hr : ∀ k, row = some k → F k ∨ w.heap.size ≤ k) : Keeps F w w2 :=
  ⟨hg.os.trans h.os, hg.tape.trans h.tape, hg.output.trans h.output, Nat.le_trans h.size hg.size, fun i hi hn => (hg.block i (Nat.lt_of_lt_of_le hi h.size) (fun e => (hr i e.symm).elim hn (fun hh => by omega))).trans (h.block i hi hn)⟩
theorem Keeps.alloc (h : Keeps F w w1) (o : Obj) : Keeps F w (w1.alloc o) := h.grown (World.grownBy_alloc w1 o none) (fun k e => by cases e)
theorem Keeps.drew (h : Keeps F w w1) : Keeps F w w1.drew := ⟨h.os, h.tape, h.output, h.size, h.block⟩
theorem Keeps.below {B : Nat} (h : Keeps F w w1) (hB : B ≤ w.heap.size) (hF : ∀ i, F i → B ≤ i) : Below B w w1 := ⟨h.os, h.tape, h.output, h.size, fun i hi => h.block i (by omega) (fun hf => by have := hF i hf; omega)⟩
theorem Keeps.of_below (h : Below w.heap.size w w1) : Keeps F w w1 := ⟨h.os, h.tape, h.output, h.size, fun i hi _ => h.block i hi⟩
theorem Keeps.wide (h : Keeps F w w1) (hF : ∀ i, F i → F' i) : Keeps F' w w1 := ⟨h.os, h.tape, h.output, h.size, fun i hi hn => h.block i hi (fun hf => hn (hF i hf))⟩
theorem Keeps.row (h : Keeps F w w1) {b : Nat} {o : Obj} (hc : w.heap[b]? = some o) (hF : ¬ F b) : w1.heap[b]? = some o := (h.block b (Array.getElem?_eq_some_iff.1 hc).1 hF).trans hc
theorem Keeps.own {B n sz : Nat} {e : TypeId} {v : Value} {xs : List Value} (h : Keeps F w w1) (ho : w.ownsRow B e sz v n xs) (hF : ∀ q, v.ownBlock = some q → ¬ F q) : w1.ownsRow B e sz v n xs := by
  obtain ⟨h1, h2⟩ := ho
  rcases h2 with h2 | ⟨g, cap, cur, rfl, hbg, hg, r⟩
  · exact ⟨h1, .inl h2⟩
  · exact ⟨h1, .inr ⟨g, cap, cur, rfl, hbg, h.row hg (hF g rfl), r⟩⟩
theorem Keeps.set (w : World) (b i : Nat) (u : Value) : Keeps (fun j => j = b) w (w.setCell ⟨b, i, none⟩ u) :=
  (Keeps.refl _ _).grown (setCell_by (World.grownBy.refl w (some b)) (p := ⟨b, i, none⟩) rfl u) (fun _ e => .inl (Option.some.inj e).symm)
end

def is (l : List Int) : List Value := l.map (Value.int .i64)
theorem is_len (l : List Int) : (is l).length = l.length := by simp [is]
theorem is_app (l k : List Int) : is (l ++ k) = is l ++ is k := by simp [is]
theorem is_one (l : List Int) : ∀ u ∈ is l, u.oneCell' = true := by
  intro u hu
  obtain ⟨x, _, rfl⟩ := List.mem_map.1 hu
  rfl
theorem is_get {l : List Int} {i : Nat} (h : i < l.length) : (is l)[i]? = some (.int .i64 (l.getD i 0)) := by
  rw [List.getD]
  simp [is, h]
theorem is_take (l : List Int) (k : Nat) : is (l.take k) = (is l).take k := by simp [is, List.map_take]
theorem is_drop (l : List Int) (k : Nat) : is (l.drop k) = (is l).drop k := by simp [is, List.map_drop]
theorem Ei : Elem Try.prog 26 3 (.int .i64 0) 1 8 := Elem.mk_ Try.underlying26 (by kernel_rfl) rfl (by decide)

/-- A bag: its things, how many it has room for, how many were lost. -/
structure Bv where
  l : List Int
  most : Nat
  lost : Nat
def Bv.inb (t : Bv) (i : Int) : Bool := decide (0 ≤ i ∧ i < t.l.length)
def Bv.full (t : Bv) : Bool := decide (t.most ≤ t.l.length)
def Bv.add (t : Bv) (x : Int) : Bv := { t with l := t.l ++ [x] }
def Bv.lose (t : Bv) : Bv := { t with lost := t.lost + 1 }
def Bv.put (t : Bv) (x : Int) : Bv := if t.full then t.lose else t.add x
def Bv.get (t : Bv) (i : Int) : Int := if t.inb i then t.l.getD i.toNat 0 else 0
def Bv.take (t : Bv) (i : Int) : Bv := if t.inb i then { t with l := t.l.take i.toNat ++ t.l.drop (i.toNat + 1) } else t
def Bv.why (t : Bv) (i : Int) : Int := if t.inb i then (if t.full then 31 else 0) else 40
def Bv.double (t : Bv) (i : Int) : Bv := if t.inb i then (if t.full then t else t.add (t.get i)) else t
def Bv.clear (t : Bv) : Bv := { t with l := [] }
/-- A bag in memory: its row g, its things v. -/
structure Bg (w : World) (B g : Nat) (v : Value) (t : Bv) : Prop where
  row : w.heap[g]? = some (.cells #[v, .int .i64 (t.most : Int), .int .u64 (t.lost : Int)] 43 (0, 0))
  own : w.ownsRow B 3 1 v t.l.length (is t.l)
  ne : v.ownBlock ≠ some g
  lo : B ≤ g
  room : t.l.length ≤ t.most
  most : 1 ≤ t.most ∧ t.most ≤ 256
def Foot (g : Nat) (v : Value) (i : Nat) : Prop := i = g ∨ v.ownBlock = some i
/-- What a call makes of a bag. -/
def Mv (w : World) (B g : Nat) (v : Value) (t' : Bv) (w' : World) : Prop := ∃ v', Bg w' B g v' t' ∧ Keeps (Foot g v) w w' ∧ (v'.ownBlock = v.ownBlock ∨ ∀ q, v'.ownBlock = some q → w.heap.size ≤ q)
section
variable {w w' w1 : World} {B g : Nat} {v : Value} {t : Bv}
theorem Bg.lt (h : Bg w B g v t) : g < w.heap.size := (Array.getElem?_eq_some_iff.1 h.row).1
theorem Bg.c0 (h : Bg w B g v t) : w.cell? ⟨g, 0, none⟩ = some v := cell_of_row w g 0 _ _ _ h.row
theorem Bg.c1 (h : Bg w B g v t) : w.cell? ⟨g, 1, none⟩ = some (.int .i64 (t.most : Int)) := cell_of_row w g 1 _ _ _ h.row
theorem Bg.c2 (h : Bg w B g v t) : w.cell? ⟨g, 2, none⟩ = some (.int .u64 (t.lost : Int)) := cell_of_row w g 2 _ _ _ h.row
theorem Bg.fr (h : Bg w B g v t) (i : Nat) : w.frozen? ⟨g, i, none⟩ = false := frozen_of_row w g i _ _ h.row
theorem Bg.form (h : Bg w B g v t) : ∃ A c, v = .slice A t.l.length c := ownsRow_form h.own
theorem Bg.keeps {F : Nat → Prop} (h : Bg w B g v t) (k : Keeps F w w') (hF : ∀ i, Foot g v i → ¬ F i) : Bg w' B g v t :=
  ⟨k.row h.row (hF g (.inl rfl)), k.own h.own (fun q hq => hF q (.inr hq)), h.ne, h.lo, h.room, h.most⟩
theorem Bg.below (h : Bg w B g v t) (hb : Below w.heap.size w w') : Bg w' B g v t := h.keeps (F := fun _ => False) (Keeps.of_below hb) (fun _ _ h => h)
theorem Bg.foot (h : Bg w B g v t) {i : Nat} (hi : Foot g v i) : B ≤ i ∧ i < w.heap.size := by
  rcases hi with rfl | hi
  · exact ⟨h.lo, h.lt⟩
  · exact h.own.lt i hi
theorem Mv.same (h : Bg w B g v t) (hb : Below w.heap.size w w') : Mv w B g v t w' := ⟨v, h.below hb, Keeps.of_below hb, .inl rfl⟩
/-- The things are others: what was put behind them, or none. -/
theorem Bg.things {v2 : Value} {l2 : List Int} (h : Bg w B g v t) (k : Keeps (fun i => v.ownBlock = some i) w w1) (ho : w1.ownsRow B 3 1 v2 l2.length (is l2)) (hv : v2.ownBlock = v.ownBlock ∨ ∀ q, v2.ownBlock = some q → w.heap.size ≤ q) (hl : l2.length ≤ t.most) :
    Mv w B g v { t with l := l2 } (w1.setCell ⟨g, 0, none⟩ v2) := by
  have hne : v2.ownBlock ≠ some g := by
    rcases hv with hv | hv
    · rw [hv]; exact h.ne
    · intro e
      have := hv g e
      have := h.lt
      omega
  have hr := k.row h.row h.ne
  refine ⟨v2, ⟨?_, ?_, hne, h.lo, hl, h.most⟩, ?_, hv⟩
  · rw [heap_setCell_same w1 g 0 _ _ _ hr]; rfl
  · exact (Keeps.set w1 g 0 v2).own ho (fun q hq e => hne (by rw [hq, e]))
  · exact (k.wide (F' := Foot g v) (fun i hi => .inr hi)).trans (Keeps.set w1 g 0 v2) (fun i hi => .inl (.inl hi))

theorem len_any (h : Bg w B g v t) : Calls Try.prog 15 #[.pointer (some ⟨g, 0, none⟩)] w fun e w' => e = .returned (.int .i64 (t.l.length : Int)) ∧ w = w' := by
  obtain ⟨A, c, rfl⟩ := h.form
  have c0 := h.c0
  clear h
  go_enter Try.func15, Try.ntmps15
  go_wp2
  go_ret
  exact ⟨rfl, rfl⟩
theorem lost_any (h : Bg w B g v t) : Calls Try.prog 16 #[.pointer (some ⟨g, 0, none⟩)] w fun e w' => e = .returned (.int .u64 (t.lost : Int)) ∧ w = w' := by
  have c2 := h.c2
  clear h
  go_enter Try.func16, Try.ntmps16
  go_wp2
  go_ret
  exact ⟨rfl, rfl⟩
theorem made_any (h : Bg w B g v t) : Calls Try.prog 17 #[.pointer (some ⟨g, 0, none⟩)] w fun e w' => e = .returned (.bool true) ∧ w = w' := by
  have c1 := h.c1
  have hm : decide (0 < (t.most : Int)) = true := by have := h.most; simp; omega
  have hm2 : 0 < t.most := by have := h.most; omega
  clear h
  go_enter Try.func17, Try.ntmps17
  go_wp2
  go_ret
  exact ⟨rfl, rfl⟩
theorem full_any (h : Bg w B g v t) : Calls Try.prog 18 #[.pointer (some ⟨g, 0, none⟩)] w fun e w' => e = .returned (.bool t.full) ∧ Below w.heap.size w w' := by
  obtain ⟨A, c, rfl⟩ := h.form
  have c0 := h.c0
  have c1 := h.c1
  have HF : Hid (decide (t.most ≤ t.l.length) = t.full) := Lib.hid rfl
  clear h
  go_enter Try.func18, Try.ntmps18
  go_wp2_with (fail)
  go_quiet (fail)
  go_wp2
  go_ret
  rw [← HF.out]
  exact ⟨by simp, ⟨rfl, rfl, rfl, Nat.le_refl _, fun _ _ => rfl⟩⟩
end
end Go.Proofs.Ytdddknncndjbcaa
