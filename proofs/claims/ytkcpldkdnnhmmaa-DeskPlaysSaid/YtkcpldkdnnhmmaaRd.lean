/- The reference's desk: in memory; New. -/
import Derived.Test.YtkcpldkdnnhmmaaDsure0
namespace Go.Proofs.Ytkcpldkdnnhmmaa
open Go.RowKit
set_option maxRecDepth 20000

def h64 (t : Dk) : List Nat := t.h ++ List.replicate 57 0
def Dk.rcells (t : Dk) (hg : Nat) (v : Value) : List Value := [.int .i64 (t.n : Int), .int .i64 (t.self : Int), v, .int .u64 (t.round : Int), .slice (some ⟨hg, 0, none⟩) 64 64]
/-- The reference's desk in memory: its row g, its row of rounds hg, who waits v. -/
structure Rg (w : World) (B g hg : Nat) (v : Value) (t : Dk) : Prop where
  row : w.heap[g]? = some (.cells (t.rcells hg v).toArray 44 (0, 0))
  own : w.ownsRow B 68 6 v t.l.length (wts t.l)
  hrow : w.heap[hg]? = some (.cells (u64s (h64 t)).toArray 29 (0, 0))
  lo : B ≤ g
  hlo : B ≤ hg
  ok : t.Ok
def RFoot (g hg : Nat) (v : Value) (i : Nat) : Prop := i = g ∨ (i = hg ∨ v.ownBlock = some i)
def RMv (w : World) (B g hg : Nat) (v : Value) (t' : Dk) (w' : World) : Prop := ∃ v', Rg w' B g hg v' t' ∧ Keeps (RFoot g hg v) w w' ∧ (v'.ownBlock = v.ownBlock ∨ ∀ q, v'.ownBlock = some q → w.heap.size ≤ q)
theorem h64_len {t : Dk} (h : t.h.length = 7) : (h64 t).length = 64 := by unfold h64; rw [List.length_append, h, List.length_replicate]
theorem h64_get {t : Dk} (h : t.h.length = 7) {k : Nat} (hk : k < 7) : (h64 t).getD k 0 = t.h.getD k 0 := by
  unfold h64
  rw [List.getD, List.getD, List.getElem?_append_left (by omega)]
theorem h64_set {t : Dk} (h : t.h.length = 7) {k x : Nat} (hk : k < 7) : (h64 t).set k x = h64 (t.hear (t.h.set k x)) := by
  unfold h64
  rw [List.set_append_left _ _ (by omega)]
  rfl
section
variable {w w' w1 : World} {B g hg : Nat} {v : Value} {t : Dk}
theorem Rg.lt (h : Rg w B g hg v t) : g < w.heap.size := (Array.getElem?_eq_some_iff.1 h.row).1
theorem Rg.hlt (h : Rg w B g hg v t) : hg < w.heap.size := (Array.getElem?_eq_some_iff.1 h.hrow).1
theorem Rg.ghn (h : Rg w B g hg v t) : g ≠ hg := by
  intro e
  have h1 := h.row
  rw [e, h.hrow] at h1
  have := (Obj.cells.inj (Option.some.inj h1)).2.1
  exact absurd this (by decide)
theorem Rg.vg (h : Rg w B g hg v t) : v.ownBlock ≠ some g := fun e => own_ne_row h.own h.row (by decide) g e rfl
theorem Rg.vh (h : Rg w B g hg v t) : v.ownBlock ≠ some hg := fun e => own_ne_row h.own h.hrow (by decide) hg e rfl
theorem Rg.c0 (h : Rg w B g hg v t) : w.cell? ⟨g, 0, none⟩ = some (.int .i64 (t.n : Int)) := cell_of_row w g 0 _ _ _ h.row
theorem Rg.c1 (h : Rg w B g hg v t) : w.cell? ⟨g, 1, none⟩ = some (.int .i64 (t.self : Int)) := cell_of_row w g 1 _ _ _ h.row
theorem Rg.c2 (h : Rg w B g hg v t) : w.cell? ⟨g, 2, none⟩ = some v := cell_of_row w g 2 _ _ _ h.row
theorem Rg.c3 (h : Rg w B g hg v t) : w.cell? ⟨g, 3, none⟩ = some (.int .u64 (t.round : Int)) := cell_of_row w g 3 _ _ _ h.row
theorem Rg.c4 (h : Rg w B g hg v t) : w.cell? ⟨g, 4, none⟩ = some (.slice (some ⟨hg, 0, none⟩) 64 64) := cell_of_row w g 4 _ _ _ h.row
theorem Rg.fr (h : Rg w B g hg v t) (i : Nat) : w.frozen? ⟨g, i, none⟩ = false := frozen_of_row w g i _ _ h.row
theorem Rg.ch (h : Rg w B g hg v t) {k : Nat} (hk : k < 7) : w.cell? ⟨hg, k, none⟩ = some (.int .u64 ((t.h.getD k 0 : Nat) : Int)) := by
  rw [cell_of_row w hg k _ _ _ h.hrow, List.getElem?_toArray]
  unfold u64s
  rw [List.getElem?_map, List.getElem?_eq_getElem (by rw [h64_len h.ok.hl]; omega), ← h64_get h.ok.hl hk, List.getD, List.getElem?_eq_getElem (by rw [h64_len h.ok.hl]; omega)]
  rfl
theorem Rg.form (h : Rg w B g hg v t) : ∃ A c, v = .slice A t.l.length c := ownsRow_form h.own
theorem Rg.keeps {F : Nat → Prop} (h : Rg w B g hg v t) (k : Keeps F w w') (hF : ∀ i, RFoot g hg v i → ¬ F i) : Rg w' B g hg v t :=
  ⟨k.row h.row (hF g (.inl rfl)), k.own h.own (fun q hq => hF q (.inr (.inr hq))), k.row h.hrow (hF hg (.inr (.inl rfl))), h.lo, h.hlo, h.ok⟩
theorem Rg.below (h : Rg w B g hg v t) (hb : Below w.heap.size w w') : Rg w' B g hg v t := h.keeps (F := fun _ => False) (Keeps.of_below hb) (fun _ _ h => h)
theorem Rg.foot (h : Rg w B g hg v t) {i : Nat} (hi : RFoot g hg v i) : B ≤ i ∧ i < w.heap.size := by
  rcases hi with rfl | rfl | hi
  · exact ⟨h.lo, h.lt⟩
  · exact ⟨h.hlo, h.hlt⟩
  · exact h.own.lt i hi
theorem RMv.same (h : Rg w B g hg v t) (hb : Below w.heap.size w w') : RMv w B g hg v t w' := ⟨v, h.below hb, Keeps.of_below hb, .inl rfl⟩
theorem RMv.pre {t' : Dk} (k : Keeps (RFoot g hg v) w w1) (m : RMv w1 B g hg v t' w') : RMv w B g hg v t' w' := by
  obtain ⟨v', h1, h2, h3⟩ := m
  exact ⟨v', h1, k.trans h2 (fun i hi => .inl hi), h3.imp id (fun h q hq => Nat.le_trans k.size (h q hq))⟩
theorem RMv.trans1 {w2 : World} {v1 : Value} {t2 : Dk} (m : RMv w1 B g hg v1 t2 w2) (h2 : Keeps (RFoot g hg v) w w1) (h3 : v1.ownBlock = v.ownBlock ∨ ∀ q, v1.ownBlock = some q → w.heap.size ≤ q) : RMv w B g hg v t2 w2 := by
  obtain ⟨v2, q1, q2, q3⟩ := m
  refine ⟨v2, q1, h2.trans q2 (fun i hi => ?_), ?_⟩
  · rcases hi with hi | hi | hi
    · exact .inl (.inl hi)
    · exact .inl (.inr (.inl hi))
    · rcases h3 with h3 | h3
      · exact .inl (.inr (.inr (h3 ▸ hi)))
      · exact .inr (h3 i hi)
  · rcases q3 with q3 | q3
    · rw [q3]; exact h3
    · exact .inr fun q hq => Nat.le_trans h2.size (q3 q hq)
/-- A cell of the desk's row that is stored into. -/
theorem Rg.cell {t' : Dk} {j : Nat} {u : Value} (h : Rg w B g hg v t) (hc : (t.rcells hg v).set j u = t'.rcells hg v) (hl : t'.l = t.l) (hh : t'.h = t.h) (hok : t'.Ok) : Rg (w.setCell ⟨g, j, none⟩ u) B g hg v t' ∧ Keeps (RFoot g hg v) w (w.setCell ⟨g, j, none⟩ u) := by
  have k := Keeps.set w g j u
  refine ⟨⟨?_, ?_, ?_, h.lo, h.hlo, hok⟩, k.wide (fun i hi => .inl hi)⟩
  · rw [heap_setCell_same w g j _ _ _ h.row, List.setIfInBounds_toArray, hc]
  · rw [hl]
    exact k.own h.own (fun q hq e => h.vg (by rw [hq, e]))
  · have : h64 t' = h64 t := by unfold h64; rw [hh]
    rw [this]
    exact k.row h.hrow (fun e => h.ghn e.symm)
/-- When a node was heard is stored. -/
theorem Rg.heard {k x : Nat} (h : Rg w B g hg v t) (hk : k < 7) : Rg (w.setCell ⟨hg, k, none⟩ (.int .u64 (x : Int))) B g hg v (t.hear (t.h.set k x)) ∧ Keeps (RFoot g hg v) w (w.setCell ⟨hg, k, none⟩ (.int .u64 (x : Int))) := by
  have kk := Keeps.set w hg k (.int .u64 (x : Int))
  refine ⟨⟨kk.row h.row h.ghn, kk.own h.own (fun q hq e => h.vh (by rw [hq, e])), ?_, h.lo, h.hlo, h.ok.hear k x⟩, kk.wide (fun i hi => .inr (.inl hi))⟩
  rw [heap_setCell_same w hg k _ _ _ h.hrow, List.setIfInBounds_toArray, ← h64_set h.ok.hl hk]
  unfold u64s
  rw [List.map_set]
/-- Others wait. -/
theorem Rg.waits {v2 : Value} {l2 : List Wt} (h : Rg w B g hg v t) (k : Keeps (fun i => v.ownBlock = some i) w w1) (ho : w1.ownsRow B 68 6 v2 l2.length (wts l2)) (hv : v2.ownBlock = v.ownBlock ∨ ∀ q, v2.ownBlock = some q → w.heap.size ≤ q) (hl : l2.length ≤ 64) (hx : ∀ x ∈ l2, x.ix < 18446744073709551616) :
    RMv w B g hg v (t.wait l2) (w1.setCell ⟨g, 2, none⟩ v2) := by
  have hr := k.row h.row h.vg
  have hh := k.row h.hrow h.vh
  have kk := Keeps.set w1 g 2 v2
  refine ⟨v2, ⟨?_, ?_, ?_, h.lo, h.hlo, ⟨h.ok.n1, h.ok.n7, h.ok.sf, h.ok.hl, hl, hx⟩⟩, ?_, hv⟩
  · rw [heap_setCell_same w1 g 2 _ _ _ hr, List.setIfInBounds_toArray]
    rfl
  · exact kk.own ho (fun q hq e => own_ne_row ho hr (by decide) q hq e)
  · exact kk.row hh (fun e => h.ghn e.symm)
  · exact (k.wide (F' := RFoot g hg v) (fun i hi => .inr (.inr hi))).trans kk (fun i hi => .inl (.inl hi))
end
/-- A drawn region as a tree, in worlds that meet S. -/
theorem wp_treeS {P : Program} {Q : Exit → Act → World → Prop} {a : Act} {w : World} {id : Nat} {l : List Oper} (S : World → Prop) (t : Seg) (hm : P.follows .mixedOrders = true)
    (hok : (Region.noSelect l.toArray && (t.ok .any l.toArray (Array.replicate l.toArray.size false) && decide (t.steps ≤ l.toArray.size))) = true)
    (hQ : ∀ (d : Option Tmp) v c a w, Q (.panic c) (a.put d v) w → Q (.panic c) a w) (hS : S w.drew) (h : wpTree P l.toArray Q S t a w.drew) : (Code.region id l.toArray true).wp P Q a w := by
  simp only [Bool.and_eq_true, decide_eq_true_eq] at hok
  exact wp_region_held hm (tree_sound hok.1 hQ t _ _ a _ hok.2.1 hok.2.2 hS h)
/-- The last round, and a span in a box. -/
def Reads3 (g p R f k : Nat) (x : World) : Prop := x.cell? ⟨g, 3, none⟩ = some (.int .u64 (R : Int)) ∧ x.cell? ⟨p, 0, none⟩ = some (.int .u32 (f : Int)) ∧ x.cell? ⟨p, 1, none⟩ = some (.int .u32 (k : Int))
theorem Reads3.keeps {g p R f k : Nat} {F : Nat → Prop} {w w' : World} (h : Reads3 g p R f k w) (kk : Keeps F w w') (hg : ¬ F g) (hp : ¬ F p) : Reads3 g p R f k w' :=
  ⟨keeps_cell kk h.1 hg, keeps_cell kk h.2.1 hp, keeps_cell kk h.2.2 hp⟩
theorem made64' : (madeCells (Value.int .u64 0).cells (64 * 1)).toList = u64s (List.replicate 64 0) := by kernel_rfl
theorem h64_new (n s : Nat) : h64 (newDk n s) = List.replicate 64 0 := by kernel_rfl
def RNewOk (w : World) (n self : Nat) (e : Ending) (w' : World) : Prop := ∃ g hg, e = .returned (.tuple #[.pointer (some ⟨g, 0, none⟩), .bool true]) ∧ Rg w' w.heap.size g hg (.slice none 0 0) (newDk n self) ∧ Below w.heap.size w w'
theorem rnew_none (n self : Int) (w : World) (h : BadN n self) : Calls Try.prog 9 #[.int .i64 n, .int .i64 self] w fun e w' => e = .returned (.tuple #[.pointer none, .bool false]) ∧ w = w' := by
  unfold BadN at h
  by_cases h1 : n < 1
  · have d1 : decide (n < 1) = true := by simpa using h1
    clear h
    go_enter Try.func9, Try.ntmps9
    go_wp2
    go_ret2
    exact ⟨rfl, rfl⟩
  · have d1 : decide (n < 1) = false := by simpa using h1
    by_cases h2 : 7 < n
    · have d2 : decide (7 < n) = true := by simpa using h2
      clear h
      go_enter Try.func9, Try.ntmps9
      go_wp2
      go_ret2
      exact ⟨rfl, rfl⟩
    · have d2 : decide (7 < n) = false := by simpa using h2
      by_cases h3 : self < 0
      · have d3 : decide (self < 0) = true := by simpa using h3
        clear h
        go_enter Try.func9, Try.ntmps9
        go_wp2
        go_ret2
        exact ⟨rfl, rfl⟩
      · have d3 : decide (self < 0) = false := by simpa using h3
        have h4 : n ≤ self := by omega
        have d4 : decide (n ≤ self) = true := by simpa using h4
        clear h
        go_enter Try.func9, Try.ntmps9
        go_wp2
        go_ret2
        exact ⟨rfl, rfl⟩
theorem rnew_any (n self : Nat) (w : World) (h1 : 1 ≤ n) (h7 : n ≤ 7) (hs : self < n) : Calls Try.prog 9 #[.int .i64 (n : Int), .int .i64 (self : Int)] w (RNewOk w n self) := by
  have d1 : decide ((n : Int) < 1) = false := by simp; omega
  have d2 : decide (7 < (n : Int)) = false := by simp; omega
  have d3 : decide ((self : Int) < 0) = false := by simp
  have d4 : decide ((n : Int) ≤ (self : Int)) = false := by simp; omega
  have e1 : ¬ (n : Int) < 1 := by omega
  have e2 : ¬ 7 < (n : Int) := by omega
  have e4 : ¬ (n : Int) ≤ (self : Int) := by omega
  have HOK := Lib.hid (newDk_ok h1 h7 hs)
  clear h1 h7 hs
  go_enter Try.func9, Try.ntmps9
  go_wp2_with (first
    | (at_make; refine wpL_make rfl _ _ _ rfl (base := w.heap.size) E_u64 64 rfl rfl (by omega) (by omega) (by omega) (by unfold maxLen; omega) (Nat.le_refl _) ?_; intro w2 hown2 hg2
       rw [made64', ← h64_new n self] at hown2
       have HF := Lib.hid (own_full hown2).1
       have HB2 := Lib.hid ((Below.refl w.heap.size w).grown hg2 (Nat.le_refl _) (fun _ e => by cases e))
       clear hown2 hg2)
    | fail)
  go_ret2
  have hb := (Below.refl w2.heap.size w2).alloc (Nat.le_refl _) (.cells ((newDk n self).rcells w.heap.size (.slice none 0 0)).toArray 44)
  have hlt : w.heap.size < w2.heap.size := (Array.getElem?_eq_some_iff.1 HF.out).1
  exact ⟨w2.heap.size, w.heap.size, rfl, ⟨heap_alloc_new w2 _, World.ownsRow_nil _ _ _ _, (hb.block _ hlt).trans HF.out, HB2.out.size, Nat.le_refl _, HOK.out⟩, HB2.out.trans (hb.mono HB2.out.size)⟩
/-- RTwo of the reference's rows, apart. -/
structure RTwo (w wr : World) (a b : Value) (l m : List Wt) : Prop where
  bel : Below w.heap.size w wr
  oa : wr.ownsRow w.heap.size 68 6 a l.length (wts l)
  ob : wr.ownsRow w.heap.size 68 6 b m.length (wts m)
  ne : ∀ q, a.ownBlock = some q → b.ownBlock ≠ some q
theorem RTwo.below {w wr w' : World} {a b : Value} {l m : List Wt} (h : RTwo w wr a b l m) (hb : Below wr.heap.size wr w') : RTwo w w' a b l m :=
  ⟨h.bel.trans (hb.mono h.bel.size), owns_below h.oa hb, owns_below h.ob hb, h.ne⟩
theorem RTwo.appA {w wr w' : World} {a a' b : Value} {l m : List Wt} {x : Wt} (h : RTwo w wr a b l m) (ho : w'.ownsRow w.heap.size 68 6 a' (l.length + 1) (wts l ++ x.cells.toList)) (hg : wr.grownBy w' a.ownBlock) (hat : a'.ownBlock = a.ownBlock ∨ a'.ownBlock = some wr.heap.size) : RTwo w w' a' b (l ++ [x]) m := by
  refine ⟨h.bel.grown hg h.bel.size (fun k e => (h.oa.lt k e).1), by rw [List.length_append, wts_app, wts_one1]; exact ho, own_grown h.ob hg (fun q hq e => h.ne q e hq), fun q hq => ?_⟩
  rcases hat with hat | hat
  · exact h.ne q (hat ▸ hq)
  · rw [hat] at hq
    cases hq
    intro e
    have := (h.ob.lt _ e).2
    omega
theorem RTwo.appB {w wr w' : World} {a b b' : Value} {l m : List Wt} {x : Wt} (h : RTwo w wr a b l m) (ho : w'.ownsRow w.heap.size 68 6 b' (m.length + 1) (wts m ++ x.cells.toList)) (hg : wr.grownBy w' b.ownBlock) (hat : b'.ownBlock = b.ownBlock ∨ b'.ownBlock = some wr.heap.size) : RTwo w w' a b' l (m ++ [x]) := by
  refine ⟨h.bel.grown hg h.bel.size (fun k e => (h.ob.lt k e).1), own_grown h.oa hg (fun q hq e => h.ne q hq e), by rw [List.length_append, wts_app, wts_one1]; exact ho, fun q hq e => ?_⟩
  rcases hat with hat | hat
  · exact h.ne q hq (hat ▸ e)
  · rw [hat] at e
    cases e
    have := (h.oa.lt _ hq).2
    omega
/-- A row of one's own that is appended to. -/
structure ROne (w wr : World) (a : Value) (l : List Wt) : Prop where
  bel : Below w.heap.size w wr
  own : wr.ownsRow w.heap.size 68 6 a l.length (wts l)
theorem ROne.below {w wr w' : World} {a : Value} {l : List Wt} (h : ROne w wr a l) (hb : Below wr.heap.size wr w') : ROne w w' a l :=
  ⟨h.bel.trans (hb.mono h.bel.size), owns_below h.own hb⟩
theorem ROne.app {w wr w' : World} {a a' : Value} {l : List Wt} {x : Wt} (h : ROne w wr a l) (ho : w'.ownsRow w.heap.size 68 6 a' (l.length + 1) (wts l ++ x.cells.toList)) (hg : wr.grownBy w' a.ownBlock) : ROne w w' a' (l ++ [x]) :=
  ⟨h.bel.grown hg h.bel.size (fun k e => (h.own.lt k e).1), by rw [List.length_append, wts_app, wts_one1]; exact ho⟩
end Go.Proofs.Ytkcpldkdnnhmmaa
