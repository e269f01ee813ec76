/- Do, whole: the program's and the reference's. A map of numbers to entries, read as a function. -/
import Derived.Test.YtgejmeankppmhaaDoorOdapM
import Derived.Test.YtgejmeankppmhaaDoorOdarM
import Derived.Test.YtgejmeankppmhaaDoorOdbpM
import Derived.Test.YtgejmeankppmhaaDoorOdbrM
import Derived.Test.YtgejmeankppmhaaDoorOdcpM
import Derived.Test.YtgejmeankppmhaaDoorOdcrM
import Derived.Maps.OwnSet
import Derived.Maps.RangeWalk
namespace Go.Proofs.YtgejmeankppmhaaDoor
open Go.RowKit
open Bh (En ecell)
set_option maxRecDepth 20000

theorem do_any (i : Im) (e : En) (w : World) (hi : i.ok) (h : e.Reads w) (ht : Tab w) (hg : Gd i.L i.B) (hl : i.l.length ≤ 100000) (hd : e.da.length ≤ 100000) :
    Calls Tryd.prog 9 #[imv i, .agg e.cells] w fun r w' => r = .returned (.tuple #[imv (ido i e).1, .int .i64 (ido i e).2]) ∧ Below w.heap.size w w' := by
  unfold ido
  cases hs : Hs i.L i.B e.ix
  · rw [if_neg (by simp)]
    by_cases hr : Room i.L e.ix
    · rw [if_pos hr]
      by_cases hk : e.kd = 1
      · rw [if_pos hk]
        by_cases hp : (iput i e.fr e.ct e.da).2 = 0
        · rw [if_pos hp]
          exact do_good i e w hi h ht hs hg hr hk hp hl hd
        · rw [if_neg hp]
          exact do_bad i e w hi h ht hs hg hr hk hp hl hd
      · rw [if_neg hk]
        exact do_noop i e w hi h ht hs hg hr hk
    · rw [if_neg hr]
      exact do_room i e w hi h hs hg hr
  · rw [if_pos rfl]
    exact do_there i e w hi h hs
theorem rdo_any (i : Im) (e : En) (w : World) (hi : i.ok) (h : e.Reads w) (hg : Gd i.L i.B) (hl : i.l.length ≤ 100000) (hd : e.da.length ≤ 100000) :
    Calls Tryd.prog 10 #[imv i, .agg e.cells] w fun r w' => r = .returned (.tuple #[imv (ido i e).1, .int .i64 (ido i e).2]) ∧ Below w.heap.size w w' := by
  unfold ido
  cases hs : Hs i.L i.B e.ix
  · rw [if_neg (by simp)]
    by_cases hr : Room i.L e.ix
    · rw [if_pos hr]
      by_cases hk : e.kd = 1
      · rw [if_pos hk]
        by_cases hp : (iput i e.fr e.ct e.da).2 = 0
        · rw [if_pos hp]
          exact rdo_good i e w hi h hs hg hr hk hp hl hd
        · rw [if_neg hp]
          exact rdo_bad i e w hi h hs hg hr hk hp hl hd
      · rw [if_neg hk]
        exact rdo_noop i e w hi h hs hg hr hk
    · rw [if_neg hr]
      exact rdo_room i e w hi h hs hg hr
  · rw [if_pos rfl]
    exact rdo_there i e w hi h hs
end Go.Proofs.YtgejmeankppmhaaDoor

namespace Go.Proofs.YtgejmeankppmhaaDoor
open Go.RowKit
open Go.Maps (Keyed)
set_option maxRecDepth 20000

/-- A value by its number in a list; -1 is nothing. -/
def dcd (Z : Array Value) (l : List (Array Value)) (s : Int) : Array Value := if s < 0 then Z else (l[s.toNat]?).getD Z
open Classical in
/-- How an entry reads: by a number of it. -/
noncomputable def eElem (Z : Array Value) (l : List (Array Value)) (v : Value) : Option (DataW Unit × List MemPlace) :=
  if h : ∃ s : Int, v = .agg (dcd Z l s) then some (.lit (.int .i64 (Classical.choose h)), []) else none
theorem eElem_mk (Z : Array Value) (l : List (Array Value)) (s : Int) : ∃ s', eElem Z l (.agg (dcd Z l s)) = some (.lit (.int .i64 s'), []) ∧ dcd Z l s' = dcd Z l s := by
  have h : ∃ s' : Int, Value.agg (dcd Z l s) = .agg (dcd Z l s') := ⟨s, rfl⟩
  refine ⟨Classical.choose h, dif_pos h, ?_⟩
  have := Classical.choose_spec h
  injection this with e
  exact e.symm
theorem eElem_inv {Z : Array Value} {l : List (Array Value)} {v : Value} {z : DataW Unit × List MemPlace} (h : eElem Z l v = some z) : ∃ s : Int, v = .agg (dcd Z l s) ∧ z = (.lit (.int .i64 s), []) := by
  unfold eElem at h
  split at h
  · next hh =>
    cases h
    exact ⟨_, Classical.choose_spec hh, rfl⟩
  · cases h
/-- What a map says of a key: an entry's cells. -/
abbrev SaysE := Nat → Option (Array Value)
def ReadsE (Z : Array Value) (l : List (Array Value)) (D : DataW Unit) (f : SaysE) : Prop := ∀ x : Nat, (Maps.has D (.int .u64 (x : Int)) = true → ∃ s : Int, (∀ zd, D.atKey (.int .u64 (x : Int)) zd = .lit (.int .i64 s)) ∧ f x = some (dcd Z l s)) ∧ (Maps.has D (.int .u64 (x : Int)) = false → f x = none)
/-- Block b is a map of at most n keys that says f, of the list's values. -/
def MapE (P : Program) (k : TypeId) (Z : Array Value) (l : List (Array Value)) (w : World) (b n : Nat) (f : SaysE) : Prop := ∃ D, w.ownsMap P k (eElem Z l) b n D ∧ ReadsE Z l D f
theorem key64_wf {x : Nat} (h : x < 18446744073709551616) : (Lit.int .u64 (x : Int)).wf = true := by
  simp [Lit.wf, IntKind.min, IntKind.max, IntKind.signed, IntKind.bits]
  omega

section
variable {P : Program} {k e t : TypeId} {Z : Array Value} {l : List (Array Value)} {w w' : World} {b n : Nat} {f : SaysE}
theorem MapE.lt (h : MapE P k Z l w b n f) : b < w.heap.size := by obtain ⟨D, h, _⟩ := h; exact h.lt
theorem MapE.kept {row : Option Nat} (h : MapE P k Z l w b n f) (hg : w.grownBy w' row) (hne : some b ≠ row) : MapE P k Z l w' b n f := by
  obtain ⟨D, h1, h2⟩ := h
  exact ⟨D, h1.kept hg hne, h2⟩
theorem MapE.same (h : MapE P k Z l w b n f) (hb : w'.heap[b]? = w.heap[b]?) : MapE P k Z l w' b n f := by
  obtain ⟨D, ⟨es, clock, h1, r⟩, h2⟩ := h
  exact ⟨D, ⟨es, clock, hb.trans h1, r⟩, h2⟩
theorem mapE_made (w : World) : MapE P k Z l (w.alloc (.map #[] 0)) w.heap.size 0 (fun _ => none) := ⟨_, World.ownsMap_made w P k (eElem Z l), fun x => ⟨fun h => by simp [Maps.has_eq] at h, fun _ => rfl⟩⟩
theorem ReadsE.put {D : DataW Unit} (h : ReadsE Z l D f) (hm : Maps.IsMap D) (x : Nat) (s : Int) : ReadsE Z l (D.put (.int .u64 (x : Int)) (.lit (.int .i64 s))) (fun y => if y = x then some (dcd Z l s) else f y) := by
  intro y
  by_cases hy : y = x
  · subst hy
    rw [Maps.has_put_same hm (by exact trivial)]
    exact ⟨fun _ => ⟨s, fun zd => Maps.atKey_put_same hm (by exact trivial) _ zd, if_pos rfl⟩, fun h => by cases h⟩
  · have hne : (Lit.int .u64 (y : Int)) ≠ .int .u64 (x : Int) := fun e => hy (by injection e with _ e; omega)
    rw [Maps.has_put_other hne]
    simp only [if_neg hy]
    refine ⟨fun hh => ?_, (h y).2⟩
    obtain ⟨s', h1, h2⟩ := (h y).1 hh
    exact ⟨s', fun zd => (Maps.atKey_put_other hne _ zd).trans (h1 zd), h2⟩
theorem ReadsE.del {D : DataW Unit} (h : ReadsE Z l D f) (x : Nat) : ReadsE Z l (D.del (.int .u64 (x : Int))) (fun y => if y = x then none else f y) := by
  intro y
  by_cases hy : y = x
  · subst hy
    rw [Maps.has_del_same]
    exact ⟨fun h => (by cases h), fun _ => if_pos rfl⟩
  · have hne : (Lit.int .u64 (y : Int)) ≠ .int .u64 (x : Int) := fun e => hy (by injection e with _ e; omega)
    rw [Maps.has_del_other hne]
    simp only [if_neg hy]
    refine ⟨fun hh => ?_, (h y).2⟩
    obtain ⟨s', h1, h2⟩ := (h y).1 hh
    exact ⟨s', fun zd => (Maps.atKey_del_other hne zd).trans (h1 zd), h2⟩

variable (hk : P.underlying k = some (.int .u64)) (ht : P.underlying t = some (.map k e))
include hk ht
theorem MapE.lookOk (h : MapE P k Z l w b n f) (hz : (zeroValue e).run P w = .ok (.agg Z) w) (x : Nat) (hx : x < 18446744073709551616) :
    (Instr.lookup t (.map (some b)) (.int .u64 (x : Int)) true).run P w = .ok (.tuple #[.agg ((f x).getD Z), .bool (f x).isSome]) w := by
  obtain ⟨D, h1, h2⟩ := h
  have hz1 : dcd Z l (-1) = Z := if_pos (by decide)
  obtain ⟨s0, hz2, hz3⟩ := eElem_mk Z l (-1)
  rw [hz1] at hz2 hz3
  obtain ⟨v, ps, hrun, hR⟩ := h1.look_ok (Maps.int_keyed hk) ht hz hz2 (Maps.keyOf_int_mk hk (key64_wf hx))
  obtain ⟨s, rfl, he⟩ := eElem_inv hR
  simp only [Prod.mk.injEq] at he
  cases hh : Maps.has D (.int .u64 (x : Int)) with
  | true =>
    obtain ⟨s', h3, h4⟩ := (h2 x).1 hh
    rw [h4, Option.getD_some, Option.isSome_some]
    have := (h3 _).symm.trans he.1
    cases this
    rw [hh] at hrun
    exact hrun
  | false =>
    rw [(h2 x).2 hh, Option.getD_none, Option.isSome_none]
    have := (Maps.atKey_of_not_has hh _).symm.trans he.1
    cases this
    rw [hh, hz3] at hrun
    exact hrun
theorem MapE.put (h : MapE P k Z l w b n f) (hn : n < maxLen) (x : Nat) (hx : x < 18446744073709551616) (cs : Array Value) (hcs : ∃ j : Nat, l[j]? = some cs) :
    ∃ w', (Instr.mapUpdate t (.map (some b)) (.int .u64 (x : Int)) (.agg cs)).run P w = .ok () w' ∧ MapE P k Z l w' b (n + 1) (fun y => if y = x then some cs else f y) ∧ w.grownBy w' (some b) ∧ w'.heap.size = w.heap.size := by
  obtain ⟨D, h1, h2⟩ := h
  obtain ⟨j, hj⟩ := hcs
  have hd : dcd Z l (j : Int) = cs := by
    unfold dcd
    rw [if_neg (by omega), Int.toNat_natCast, hj, Option.getD_some]
  obtain ⟨s, hs1, hs2⟩ := eElem_mk Z l (j : Int)
  rw [hd] at hs1 hs2
  obtain ⟨w', hrun, h3, h4⟩ := h1.store (Maps.int_keyed hk) ht hn (Maps.keyOf_int_mk hk (key64_wf hx)) hs1
  have h5 := h2.put h1.isMap x s
  rw [hs2] at h5
  refine ⟨w', hrun, ⟨_, h3, h5⟩, h4.grown, ?_⟩
  obtain ⟨es, cl, es', cl', _, rfl⟩ := h4
  simp [ChangeMaps.setBlock]
theorem MapE.drop (h : MapE P k Z l w b n f) (x : Nat) (hx : x < 18446744073709551616) (ty : TypeId) :
    ∃ w', (Builtin.delete_ #[t, k] ty #[.map (some b), .int .u64 (x : Int)]).run P w = .ok (.tuple #[]) w' ∧ MapE P k Z l w' b n (fun y => if y = x then none else f y) ∧ w.grownBy w' (some b) ∧ w'.heap.size = w.heap.size := by
  obtain ⟨D, h1, h2⟩ := h
  obtain ⟨w', hrun, h3, h4⟩ := h1.drop (Maps.int_keyed hk) ht (Maps.keyOf_int_mk hk (key64_wf hx)) ty
  refine ⟨w', hrun, ⟨_, h3, h2.del x⟩, h4.grown, ?_⟩
  obtain ⟨es, cl, es', cl', _, rfl⟩ := h4
  simp [ChangeMaps.setBlock]
end
end Go.Proofs.YtgejmeankppmhaaDoor
