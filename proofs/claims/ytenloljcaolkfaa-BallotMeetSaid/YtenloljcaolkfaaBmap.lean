/- A map of nodes to lists, read as a function. -/
import Derived.Test.YtenloljcaolkfaaKeep
import Derived.Maps.OwnSet
import Derived.Maps.RangeWalk
namespace Go.Proofs.Ytenloljcaolkfaa
open Go.RowKit
open Go.Maps (Keyed)

/-- Nodes as cells. -/
def ins (l : List Nat) : List Value := l.map fun (x : Nat) => Value.int .i64 (x : Int)
theorem ins_len (l : List Nat) : (ins l).length = l.length := by simp [ins]
/-- How a slice reads: where it lies, how long it is. -/
def vElem : Value → Option (DataW Unit × List MemPlace)
  | .slice none n c => some (.agg [.nil, .lit (.int .i64 (n : Int)), .lit (.int .i64 (c : Int))], [])
  | .slice (some ⟨b, o, none⟩) n c => some (.agg [.agg [.lit (.int .i64 (b : Int)), .lit (.int .i64 (o : Int))], .lit (.int .i64 (n : Int)), .lit (.int .i64 (c : Int))], [])
  | _ => none
theorem vElem_inj {v v' : Value} {d : DataW Unit} {p p' : List MemPlace} (h : vElem v = some (d, p)) (h' : vElem v' = some (d, p')) : v = v' := by
  unfold vElem at h h'
  split at h
  · cases h
    split at h'
    · have := Option.some.inj h'
      simp only [Prod.mk.injEq, DataW.agg.injEq, List.cons.injEq, DataW.lit.injEq, Lit.int.injEq, true_and, and_true] at this
      obtain ⟨⟨h1, h2⟩, _⟩ := this
      have e1 : _ := Int.ofNat.inj h1
      have e2 : _ := Int.ofNat.inj h2
      subst e1
      subst e2
      rfl
    · simp at h'
    · cases h'
  · cases h
    split at h'
    · simp at h'
    · have := Option.some.inj h'
      simp only [Prod.mk.injEq, DataW.agg.injEq, List.cons.injEq, DataW.lit.injEq, Lit.int.injEq, true_and, and_true] at this
      obtain ⟨⟨⟨h0, h3⟩, h1, h2⟩, _⟩ := this
      have e0 : _ := Int.ofNat.inj h0
      have e3 : _ := Int.ofNat.inj h3
      have e1 : _ := Int.ofNat.inj h1
      have e2 : _ := Int.ofNat.inj h2
      subst e0
      subst e1
      subst e2
      subst e3
      rfl
    · cases h'
  · cases h
theorem vElem_nil {v : Value} {z : DataW Unit × List MemPlace} (h : vElem v = some z) : z = (z.1, []) := by
  unfold vElem at h
  split at h
  · cases h; rfl
  · cases h; rfl
  · cases h
/-- A slice that is a list. -/
def IsSl (v : Value) : Prop := ∃ d, vElem v = some (d, [])
theorem isSl_own {w : World} {B n sz : Nat} {e : TypeId} {v : Value} {xs : List Value} (h : w.ownsRow B e sz v n xs) : IsSl v := by
  rcases h.2 with ⟨rfl, _⟩ | ⟨g, cap, cur, rfl, _⟩ <;> exact ⟨_, rfl⟩
theorem isSl_zero : IsSl (.slice none 0 0) := ⟨_, rfl⟩

/-- What a map says of a key. -/
abbrev SaysB := Nat → Option Value
def ReadsB (D : DataW Unit) (f : SaysB) : Prop := (∀ z : Int, z < 0 → Maps.has D (.int .i64 z) = false) ∧ ∀ x : Nat, (Maps.has D (.int .i64 (x : Int)) = true → ∃ v d, vElem v = some (d, []) ∧ (∀ zd, D.atKey (.int .i64 (x : Int)) zd = d) ∧ f x = some v) ∧ (Maps.has D (.int .i64 (x : Int)) = false → f x = none)
/-- Block b is a map of at most n keys that says f. -/
def MapB (P : Program) (k : TypeId) (w : World) (b n : Nat) (f : SaysB) : Prop := ∃ D, w.ownsMap P k vElem b n D ∧ ReadsB D f
theorem key_wf {x : Nat} (h : x < 9223372036854775808) : (Lit.int .i64 (x : Int)).wf = true := by
  simp [Lit.wf, IntKind.min, IntKind.max, IntKind.signed, IntKind.bits]
  omega
theorem lit_ne {x y : Nat} (h : ¬ y = x) : (Lit.int .i64 (y : Int)) ≠ .int .i64 (x : Int) := fun e => h (by have := (Lit.int.inj e).2; omega)

section
variable {P : Program} {k e t : TypeId} {w w' : World} {b n : Nat} {f : SaysB}
theorem MapB.lt (h : MapB P k w b n f) : b < w.heap.size := by obtain ⟨D, h, _⟩ := h; exact h.lt
theorem MapB.obj (h : MapB P k w b n f) : ∃ es c, w.heap[b]? = some (.map es c) := by obtain ⟨D, ⟨es, clock, hb, _⟩, _⟩ := h; exact ⟨es, clock, hb⟩
theorem MapB.kept {row : Option Nat} (h : MapB P k w b n f) (hg : w.grownBy w' row) (hne : some b ≠ row) : MapB P k w' b n f := by
  obtain ⟨D, h1, h2⟩ := h
  exact ⟨D, h1.kept hg hne, h2⟩
theorem MapB.mono {n' : Nat} (h : MapB P k w b n f) (hn : n ≤ n') : MapB P k w b n' f := by
  obtain ⟨D, h1, h2⟩ := h
  exact ⟨D, h1.mono hn, h2⟩
theorem MapB.same (h : MapB P k w b n f) (hb : w'.heap[b]? = w.heap[b]?) : MapB P k w' b n f := by
  obtain ⟨D, ⟨es, clock, h1, r⟩, h2⟩ := h
  exact ⟨D, ⟨es, clock, hb.trans h1, r⟩, h2⟩
theorem readsB_empty : ReadsB (.map []) (fun _ => none) := ⟨fun _ _ => by simp [Maps.has_eq], fun x => ⟨fun h => by simp [Maps.has_eq] at h, fun _ => rfl⟩⟩
theorem mapB_made (w : World) : MapB P k (w.alloc (.map #[] 0)) w.heap.size 0 (fun _ => none) := ⟨_, World.ownsMap_made w P k vElem, readsB_empty⟩
theorem ReadsB.put {D : DataW Unit} (h : ReadsB D f) (hm : Maps.IsMap D) (x : Nat) {v : Value} {d : DataW Unit} (hv : vElem v = some (d, [])) : ReadsB (D.put (.int .i64 (x : Int)) d) (fun y => if y = x then some v else f y) := by
  refine ⟨fun z hz => ?_, fun y => ?_⟩
  · have hne : (Lit.int .i64 z) ≠ .int .i64 (x : Int) := fun e => by have := (Lit.int.inj e).2; omega
    rw [Maps.has_put_other hne]
    exact h.1 z hz
  by_cases hy : y = x
  · subst hy
    rw [Maps.has_put_same hm (by exact trivial)]
    exact ⟨fun _ => ⟨v, d, hv, fun zd => Maps.atKey_put_same hm (by exact trivial) _ zd, if_pos rfl⟩, fun h => by cases h⟩
  · have hne := lit_ne hy
    rw [Maps.has_put_other hne]
    simp only [if_neg hy]
    refine ⟨fun hh => ?_, (h.2 y).2⟩
    obtain ⟨v', d', h0, h1, h2⟩ := (h.2 y).1 hh
    exact ⟨v', d', h0, fun zd => (Maps.atKey_put_other hne _ zd).trans (h1 zd), h2⟩

variable (hk : P.underlying k = some (.int .i64)) (ht : P.underlying t = some (.map k e))
include hk ht
theorem MapB.look (h : MapB P k w b n f) (hz : (zeroValue e).run P w = .ok (.slice none 0 0) w) (x : Nat) (hx : x < 9223372036854775808) :
    (Instr.lookup t (.map (some b)) (.int .i64 (x : Int)) false).run P w = .ok ((f x).getD (.slice none 0 0)) w := by
  obtain ⟨D, h1, h2⟩ := h
  obtain ⟨v, ps, hrun, hR⟩ := h1.lookup (Maps.int_keyed hk) ht hz (rfl : vElem (.slice none 0 0) = some (_, [])) (Maps.keyOf_int_mk hk (key_wf hx))
  have e : (f x).getD (.slice none 0 0) = v := by
    cases hh : Maps.has D (.int .i64 (x : Int)) with
    | true =>
      obtain ⟨v', d, h0, h3, h4⟩ := (h2.2 x).1 hh
      rw [h4, Option.getD_some]
      rw [h3] at hR
      exact vElem_inj h0 hR
    | false =>
      rw [(h2.2 x).2 hh, Option.getD_none]
      rw [Maps.atKey_of_not_has hh] at hR
      exact vElem_inj rfl hR
  rw [e]
  exact hrun
theorem MapB.put (h : MapB P k w b n f) (hn : n < maxLen) (x : Nat) (hx : x < 9223372036854775808) {v : Value} (hs : IsSl v) :
    ∃ w', (Instr.mapUpdate t (.map (some b)) (.int .i64 (x : Int)) v).run P w = .ok () w' ∧ MapB P k w' b (n + 1) (fun y => if y = x then some v else f y) ∧ w.grownBy w' (some b) ∧ w'.heap.size = w.heap.size := by
  obtain ⟨D, h1, h2⟩ := h
  obtain ⟨d, hd⟩ := hs
  obtain ⟨w', hrun, h3, h4⟩ := h1.store (Maps.int_keyed hk) ht hn (Maps.keyOf_int_mk hk (key_wf hx)) hd
  refine ⟨w', hrun, ⟨_, h3, h2.put h1.isMap x hd⟩, h4.grown, ?_⟩
  obtain ⟨es, cl, es', cl', _, rfl⟩ := h4
  simp [ChangeMaps.setBlock]
end

end Go.Proofs.Ytenloljcaolkfaa
