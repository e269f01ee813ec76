/- A map of nodes to lists, read as a function. maps.Keys of a map of numbers to sets, and what its iterator gives. -/
import Derived.Test.YtapfggpeodpflaaKeepM
import Derived.Maps.OwnSet
import Derived.Maps.RangeWalk
import Derived.RangeFuncFrom
import Derived.Sort.MapsRangeIn
import Derived.WalkKit
import Derived.OwnWalkIn
import Derived.TacticsInMore
import Derived.RegionIn
import Derived.LoopNIn
import Derived.LoopIn
namespace Go.Proofs.Ytapfggpeodpflaa
open Go.RowKit
open Go.Maps (Keyed)

/-- Nodes as cells. -/
def ins (l : List Nat) : List Value := l.map fun (x : Nat) => Value.int .i64 (x : Int)
theorem ins_len (l : List Nat) : (ins l).length = l.length := by simp [ins]
/-- How a slice reads: where it lies, how long it is. -/
def vElem : Value → Option (DataW Unit × List MemPlace)
  | .slice none n c => some (.agg [.nil, .lit (.int .i64 (n : Int)), .lit (.int .i64 (c : Int))], [])
  | .slice (some ⟨b, o, none⟩) n c => some (.agg [.agg [.lit (.int .i64 (b : Int)), .lit (.int .i64 (o : Int))], .lit (.int .i64 (n : Int)), .lit (.int .i64 (c : Int))], [])
  | _ => none
theorem vElem_inj {v v' : Value} {d : DataW Unit} {p p' : List MemPlace} (h : vElem v = some (d, p)) (h' : vElem v' = some (d, p')) : v = v' := by
  unfold vElem at h h'
  split at h
  · cases h
    split at h'
    · have := Option.some.inj h'
      simp only [Prod.mk.injEq, DataW.agg.injEq, List.cons.injEq, DataW.lit.injEq, Lit.int.injEq, true_and, and_true] at this
      obtain ⟨⟨h1, h2⟩, _⟩ := this
      have e1 : _ := Int.ofNat.inj h1
      have e2 : _ := Int.ofNat.inj h2
      subst e1
      subst e2
      rfl
    · simp at h'
    · cases h'
  · cases h
    split at h'
    · simp at h'
    · have := Option.some.inj h'
      simp only [Prod.mk.injEq, DataW.agg.injEq, List.cons.injEq, DataW.lit.injEq, Lit.int.injEq, true_and, and_true] at this
      obtain ⟨⟨⟨h0, h3⟩, h1, h2⟩, _⟩ := this
      have e0 : _ := Int.ofNat.inj h0
      have e3 : _ := Int.ofNat.inj h3
      have e1 : _ := Int.ofNat.inj h1
      have e2 : _ := Int.ofNat.inj h2
      subst e0
      subst e1
      subst e2
      subst e3
      rfl
    · cases h'
  · cases h
theorem vElem_nil {v : Value} {z : DataW Unit × List MemPlace} (h : vElem v = some z) : z = (z.1, []) := by
  unfold vElem at h
  split at h
  · cases h; rfl
  · cases h; rfl
  · cases h
/-- A slice that is a list. -/
def IsSl (v : Value) : Prop := ∃ d, vElem v = some (d, [])
theorem isSl_own {w : World} {B n sz : Nat} {e : TypeId} {v : Value} {xs : List Value} (h : w.ownsRow B e sz v n xs) : IsSl v := by
  rcases h.2 with ⟨rfl, _⟩ | ⟨g, cap, cur, rfl, _⟩ <;> exact ⟨_, rfl⟩
theorem isSl_zero : IsSl (.slice none 0 0) := ⟨_, rfl⟩

/-- What a map says of a key. -/
abbrev SaysB := Nat → Option Value
def ReadsB (D : DataW Unit) (f : SaysB) : Prop := (∀ z : Int, z < 0 → Maps.has D (.int .i64 z) = false) ∧ ∀ x : Nat, (Maps.has D (.int .i64 (x : Int)) = true → ∃ v d, vElem v = some (d, []) ∧ (∀ zd, D.atKey (.int .i64 (x : Int)) zd = d) ∧ f x = some v) ∧ (Maps.has D (.int .i64 (x : Int)) = false → f x = none)
/-- Block b is a map of at most n keys that says f. -/
def MapB (P : Program) (k : TypeId) (w : World) (b n : Nat) (f : SaysB) : Prop := ∃ D, w.ownsMap P k vElem b n D ∧ ReadsB D f
theorem key_wf {x : Nat} (h : x < 9223372036854775808) : (Lit.int .i64 (x : Int)).wf = true := by
  simp [Lit.wf, IntKind.min, IntKind.max, IntKind.signed, IntKind.bits]
  omega
theorem lit_ne {x y : Nat} (h : ¬ y = x) : (Lit.int .i64 (y : Int)) ≠ .int .i64 (x : Int) := fun e => h (by have := (Lit.int.inj e).2; omega)

section
variable {P : Program} {k e t : TypeId} {w w' : World} {b n : Nat} {f : SaysB}
theorem MapB.lt (h : MapB P k w b n f) : b < w.heap.size := by obtain ⟨D, h, _⟩ := h; exact h.lt
theorem MapB.obj (h : MapB P k w b n f) : ∃ es c, w.heap[b]? = some (.map es c) := by obtain ⟨D, ⟨es, clock, hb, _⟩, _⟩ := h; exact ⟨es, clock, hb⟩
theorem MapB.kept {row : Option Nat} (h : MapB P k w b n f) (hg : w.grownBy w' row) (hne : some b ≠ row) : MapB P k w' b n f := by
  obtain ⟨D, h1, h2⟩ := h
  exact ⟨D, h1.kept hg hne, h2⟩
theorem MapB.mono {n' : Nat} (h : MapB P k w b n f) (hn : n ≤ n') : MapB P k w b n' f := by
  obtain ⟨D, h1, h2⟩ := h
  exact ⟨D, h1.mono hn, h2⟩
theorem MapB.same (h : MapB P k w b n f) (hb : w'.heap[b]? = w.heap[b]?) : MapB P k w' b n f := by
  obtain ⟨D, ⟨es, clock, h1, r⟩, h2⟩ := h
  exact ⟨D, ⟨es, clock, hb.trans h1, r⟩, h2⟩
theorem readsB_empty : ReadsB (.map []) (fun _ => none) := ⟨fun _ _ => by simp [Maps.has_eq], fun x => ⟨fun h => by simp [Maps.has_eq] at h, fun _ => rfl⟩⟩
theorem mapB_made (w : World) : MapB P k (w.alloc (.map #[] 0)) w.heap.size 0 (fun _ => none) := ⟨_, World.ownsMap_made w P k vElem, readsB_empty⟩
theorem ReadsB.put {D : DataW Unit} (h : ReadsB D f) (hm : Maps.IsMap D) (x : Nat) {v : Value} {d : DataW Unit} (hv : vElem v = some (d, [])) : ReadsB (D.put (.int .i64 (x : Int)) d) (fun y => if y = x then some v else f y) := by
  refine ⟨fun z hz => ?_, fun y => ?_⟩
  · have hne : (Lit.int .i64 z) ≠ .int .i64 (x : Int) := fun e => by have := (Lit.int.inj e).2; omega
    rw [Maps.has_put_other hne]
    exact h.1 z hz
  by_cases hy : y = x
  · subst hy
    rw [Maps.has_put_same hm (by exact trivial)]
    exact ⟨fun _ => ⟨v, d, hv, fun zd => Maps.atKey_put_same hm (by exact trivial) _ zd, if_pos rfl⟩, fun h => by cases h⟩
  · have hne := lit_ne hy
    rw [Maps.has_put_other hne]
    simp only [if_neg hy]
    refine ⟨fun hh => ?_, (h.2 y).2⟩
    obtain ⟨v', d', h0, h1, h2⟩ := (h.2 y).1 hh
    exact ⟨v', d', h0, fun zd => (Maps.atKey_put_other hne _ zd).trans (h1 zd), h2⟩

variable (hk : P.underlying k = some (.int .i64)) (ht : P.underlying t = some (.map k e))
include hk ht
theorem MapB.look (h : MapB P k w b n f) (hz : (zeroValue e).run P w = .ok (.slice none 0 0) w) (x : Nat) (hx : x < 9223372036854775808) :
    (Instr.lookup t (.map (some b)) (.int .i64 (x : Int)) false).run P w = .ok ((f x).getD (.slice none 0 0)) w := by
  obtain ⟨D, h1, h2⟩ := h
  obtain ⟨v, ps, hrun, hR⟩ := h1.lookup (Maps.int_keyed hk) ht hz (rfl : vElem (.slice none 0 0) = some (_, [])) (Maps.keyOf_int_mk hk (key_wf hx))
  have e : (f x).getD (.slice none 0 0) = v := by
    cases hh : Maps.has D (.int .i64 (x : Int)) with
    | true =>
      obtain ⟨v', d, h0, h3, h4⟩ := (h2.2 x).1 hh
      rw [h4, Option.getD_some]
      rw [h3] at hR
      exact vElem_inj h0 hR
    | false =>
      rw [(h2.2 x).2 hh, Option.getD_none]
      rw [Maps.atKey_of_not_has hh] at hR
      exact vElem_inj rfl hR
  rw [e]
  exact hrun
theorem MapB.put (h : MapB P k w b n f) (hn : n < maxLen) (x : Nat) (hx : x < 9223372036854775808) {v : Value} (hs : IsSl v) :
    ∃ w', (Instr.mapUpdate t (.map (some b)) (.int .i64 (x : Int)) v).run P w = .ok () w' ∧ MapB P k w' b (n + 1) (fun y => if y = x then some v else f y) ∧ w.grownBy w' (some b) ∧ w'.heap.size = w.heap.size := by
  obtain ⟨D, h1, h2⟩ := h
  obtain ⟨d, hd⟩ := hs
  obtain ⟨w', hrun, h3, h4⟩ := h1.store (Maps.int_keyed hk) ht hn (Maps.keyOf_int_mk hk (key_wf hx)) hd
  refine ⟨w', hrun, ⟨_, h3, h2.put h1.isMap x hd⟩, h4.grown, ?_⟩
  obtain ⟨es, cl, es', cl', _, rfl⟩ := h4
  simp [ChangeMaps.setBlock]
end

end Go.Proofs.Ytapfggpeodpflaa

namespace Go.Proofs.Ytapfggpeodpflaa
open Go.RowKit Go.Maps

/-- No key twice; a key is on the list just where the map has it and it is no longer to come. -/
def CollB (D : DataW Unit) (left : Lit → Bool) (ss : List Nat) : Prop := ss.Nodup ∧ ∀ x : Nat, x ∈ ss ↔ (has D (.int .i64 (x : Int)) = true ∧ left (.int .i64 (x : Int)) = false)
theorem collB_start (D : DataW Unit) : CollB D (has D) [] := ⟨List.nodup_nil, fun x => by cases has D (.int .i64 (x : Int)) <;> simp⟩
theorem CollB.step {D : DataW Unit} {left : Lit → Bool} {ss : List Nat} (h : CollB D left ss) {x : Nat} {y : DataW Unit} (hlk : left (.int .i64 (x : Int)) = true) (hat : ∀ zd, D.atKey (.int .i64 (x : Int)) zd = y) : CollB D (fun z => left z && !z.sameKey (.int .i64 (x : Int))) (ss ++ [x]) := by
  have hhas := has_true_of_atKey hat
  have hnew : x ∉ ss := fun hx => by have := ((h.2 x).1 hx).2; rw [hlk] at this; cases this
  refine ⟨List.nodup_append.2 ⟨h.1, by simp, fun a ha b hb => by simp at hb; subst hb; exact fun e => hnew (e ▸ ha)⟩, fun y => ?_⟩
  dsimp only
  by_cases hy : y = x
  · subst hy
    rw [WideAt.sameKey_self (a := .int .i64 (y : Int)) (by exact trivial)]
    simp [hhas]
  · rw [Maps.sameKey_ne (lit_ne hy)]
    simp [h.2 y, hy]
theorem key_of_i64 {D : DataW Unit} {f : SaysB} (hr : ReadsB D f) {key : Value} {kl : Lit} {y : DataW Unit} (h : keyOf Try.prog 3 key = some kl) (hat : ∀ zd, D.atKey kl zd = y) : ∃ x : Nat, key = .int .i64 (x : Int) ∧ kl = .int .i64 (x : Int) := by
  obtain ⟨x, rfl, rfl, hw⟩ := Maps.keyOf_int_inv Try.underlying3 h
  have hh := has_true_of_atKey hat
  have hx : ¬ x < 0 := fun hx => by rw [hr.1 x hx] at hh; cases hh
  exact ⟨x.toNat, by rw [show ((x.toNat : Nat) : Int) = x by omega], by rw [show ((x.toNat : Nat) : Int) = x by omega]⟩
/-- What the keys are, once none is left. -/
theorem CollB.done {D : DataW Unit} {left : Lit → Bool} {ss : List Nat} {f : SaysB} (h : CollB D left ss) (hr : ReadsB D f) (hl : ∀ kl, left kl = false) : ss.Nodup ∧ ∀ x, x ∈ ss ↔ (f x).isSome = true := by
  refine ⟨h.1, fun x => ?_⟩
  rw [h.2 x, hl]
  cases hh : has D (.int .i64 (x : Int)) with
  | true => obtain ⟨s, d, _, _, e⟩ := (hr.2 x).1 hh; simp [e]
  | false => simp [(hr.2 x).2 hh]

def encB (x : Nat) : Array Value := #[.int .i64 (x : Int)]
set_option maxRecDepth 100000 in
set_option maxHeartbeats 1000000 in
theorem keys_in (n : Nat) (hn : 1 ≤ n) (Bm b m : Nat) (f : SaysB) (w : World) (hBm : Bm < w.heap.size) (hm : w.cell? ⟨Bm, 0, none⟩ = some (.map (some b))) (hM : MapB Try.prog 3 w b m f) :
    SeqStopsA Fence.wide n Try.prog 37 #[.pointer (some ⟨Bm, 0, none⟩)] encB (fun ss => ss.Nodup ∧ ∀ x, x ∈ ss ↔ (f x).isSome = true) (fun _ => True) m w := fun l J Jx W hW hJ _ hY h0 => by
  obtain ⟨D, hown, hrd⟩ := hM.same (w' := W) (hW.block b hM.lt)
  have hm' := (hW.cell (p := ⟨Bm, 0, none⟩) hBm).trans hm
  have hsz := hown.size_le
  have HY := Lib.hid hY
  clear hM hm hBm hY
  refine callsIn_of_wp Try.func37 rfl trivial ?_ rfl
  simp only [Try.ntmps37, List.size_toArray, List.length_cons, List.length_nil, Nat.reduceAdd, Nat.reduceSub, Array.replicate_succ, Array.replicate_zero, List.push_toArray, List.append_toArray, List.nil_append, List.cons_append]
  gi_wp2_with (first
    | (gi_at_range; refine wpListIn_range_own _ rfl _ 44 rfl 3 23 (int_keyed Try.underlying3) Try.underlying44 _ b m _ rfl hown ?_; intro w0 hrg0 hg0 hs0)
    | gi_in)
  go_frame
  gi_loopw [3] (fun _ wr => ∃ (left : Lit → Bool) (cnt : Nat) (ss : List Nat), wr.ranges Try.prog 3 vElem b W.heap.size m D left cnt ∧ ss.length + cnt ≤ m ∧ CollB D left ss ∧ J ss wr)
    (fun _ wr => wr.rangeLeft b W.heap.size)
  case atStart =>
    exact ⟨_, _, [], hrg0, by simpa using hsz, collB_start D, hJ [] W w0 none h0 hg0 (fun r e => by cases e)⟩
  case round =>
    obtain ⟨left, cnt, ss, hrg, hcs, hC, hJs⟩ := hrel
    gi_wp2_with (first
      | (gi_at_next; refine wpListIn_next_ranges _ rfl _ rfl 3 (int_keyed Try.underlying3) vElem (fun x : Int => Value.int .i64 x) (fun v : Value => v) (fun key kl hk => by obtain ⟨x, hx, _⟩ := Maps.keyOf_int_inv Try.underlying3 hk; exact ⟨x, hx⟩) (fun v y _ => ⟨v, rfl⟩) b W.heap.size m _ _ _ rfl hrg ?_ ?_)
      | gi_in)
    · intro hc0 hl0
      gi_wp2
      go_end0
      exact ⟨⟨_, rfl⟩, .inl ⟨ss, hC.done hrd hl0, hJs⟩⟩
    · intro x c kl yd yp w2 cnt2 hkey hlk hv hat hrg2 hlt hg2 hs2 hen
      obtain ⟨x', ex, rfl⟩ := key_of_i64 hrd hkey hat
      obtain rfl : x = (x' : Int) := (Value.int.inj ex).2
      have hJ2 : J ss w2 := hJ ss wr w2 (some W.heap.size) hJs hg2 (fun r e => by cases e; exact ⟨Nat.le_refl _, hrg.iter_walk⟩)
      obtain ⟨fn, tmps, assign, body, hy, hR⟩ := HY.out ss x' w2 hJ2 (by omega)
      have hC2 := hC.step hlk hat
      unfold encB at hy
      clear hs2
      gi_wp2
      refine hR.mono ?_
      rintro e W3 (⟨rfl, hJ3, hk3⟩ | ⟨rfl, hJx3⟩)
      · gi_wp2
        have hrg3 := hrg2.of_walks hk3
        go_roundw
        case rel => exact ⟨_, cnt2, ss ++ [x'], hrg3, by simp; omega, hC2, hJ3⟩
        case measure => rw [hrg3.left_eq, hrg.left_eq]; exact hlt
      · gi_wp2
        refine bodyPost_ret (results_none rfl _ _ _) rfl ?_
        exact ⟨⟨_, rfl⟩, .inr ⟨ss ++ [x'], trivial, hJx3⟩⟩
end Go.Proofs.Ytapfggpeodpflaa
