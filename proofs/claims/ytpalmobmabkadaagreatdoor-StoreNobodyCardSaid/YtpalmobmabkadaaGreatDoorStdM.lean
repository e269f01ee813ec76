/- A map of numbers of blocks to sectors, read as a function. -/
import Derived.Test.YtpalmobmabkadaaGreatDoorSecZM
import Derived.Maps.OwnSet
import Derived.Maps.RangeWalk
namespace Go.Proofs.YtpalmobmabkadaaGreatDoor
open Go.RowKit
open Go.Maps (Keyed)

/-- What may be an int. -/
def IOk (s : Int) : Prop := -9223372036854775808 ≤ s ∧ s ≤ 9223372036854775807
/-- How an int reads. -/
def iElem : Value → Option (DataW Unit × List MemPlace)
  | .int .i64 a => if decide (-9223372036854775808 ≤ a) && decide (a ≤ 9223372036854775807) then some (.lit (.int .i64 a), []) else none
  | _ => none
theorem iElem_mk (s : Int) (h : IOk s) : iElem (.int .i64 s) = some (.lit (.int .i64 s), []) := by
  unfold iElem
  dsimp only
  rw [if_pos (by simp [h.1, h.2])]
theorem iElem_inv {v : Value} {z : DataW Unit × List MemPlace} (h : iElem v = some z) : ∃ s : Int, IOk s ∧ v = .int .i64 s ∧ z = (.lit (.int .i64 s), []) := by
  unfold iElem at h
  split at h
  · rename_i a
    split at h
    · rename_i hc
      cases h
      exact ⟨a, by unfold IOk; simpa using hc, rfl, rfl⟩
    · cases h
  · cases h

/-- What a map says of a key. -/
abbrev SaysS := Int → Option Int
def ReadsS (D : DataW Unit) (f : SaysS) : Prop := ∀ x : Int, (Maps.has D (.int .u32 x) = true → ∃ s, (∀ zd, D.atKey (.int .u32 x) zd = .lit (.int .i64 s)) ∧ f x = some s) ∧ (Maps.has D (.int .u32 x) = false → f x = none)
/-- Block b is a map of at most n keys that says f. -/
def MapS (P : Program) (k : TypeId) (w : World) (b n : Nat) (f : SaysS) : Prop := ∃ D, w.ownsMap P k iElem b n D ∧ ReadsS D f
/-- What may be a key. -/
def KeyS (x : Int) : Prop := 0 ≤ x ∧ x ≤ 4294967295
theorem KeyS.wf {x : Int} (h : KeyS x) : (Lit.int .u32 x).wf = true := by
  unfold KeyS at h
  simp [Lit.wf, IntKind.min, IntKind.max, IntKind.signed, IntKind.bits]
  omega

section
variable {P : Program} {k e t : TypeId} {w w' : World} {b n : Nat} {f : SaysS}
theorem MapS.lt (h : MapS P k w b n f) : b < w.heap.size := by obtain ⟨D, h, _⟩ := h; exact h.lt
theorem MapS.kept {row : Option Nat} (h : MapS P k w b n f) (hg : w.grownBy w' row) (hne : some b ≠ row) : MapS P k w' b n f := by
  obtain ⟨D, h1, h2⟩ := h
  exact ⟨D, h1.kept hg hne, h2⟩
theorem MapS.mono {n' : Nat} (h : MapS P k w b n f) (hn : n ≤ n') : MapS P k w b n' f := by
  obtain ⟨D, h1, h2⟩ := h
  exact ⟨D, h1.mono hn, h2⟩
theorem MapS.same (h : MapS P k w b n f) (hb : w'.heap[b]? = w.heap[b]?) : MapS P k w' b n f := by
  obtain ⟨D, ⟨es, clock, h1, r⟩, h2⟩ := h
  exact ⟨D, ⟨es, clock, hb.trans h1, r⟩, h2⟩
theorem readsS_empty : ReadsS (.map []) (fun _ => none) := fun x => ⟨fun h => by simp [Maps.has_eq] at h, fun _ => rfl⟩
theorem mapS_made (w : World) : MapS P k (w.alloc (.map #[] 0)) w.heap.size 0 (fun _ => none) := ⟨_, World.ownsMap_made w P k iElem, readsS_empty⟩
theorem ReadsS.put {D : DataW Unit} (h : ReadsS D f) (hm : Maps.IsMap D) (x : Int) (s : Int) : ReadsS (D.put (.int .u32 x) (.lit (.int .i64 s))) (fun y => if y = x then some s else f y) := by
  intro y
  by_cases hy : y = x
  · subst hy
    rw [Maps.has_put_same hm (by exact trivial)]
    exact ⟨fun _ => ⟨s, fun zd => Maps.atKey_put_same hm (by exact trivial) _ zd, if_pos rfl⟩, fun h => by cases h⟩
  · have hne : (Lit.int .u32 y) ≠ .int .u32 x := fun e => hy (by cases e; rfl)
    rw [Maps.has_put_other hne]
    simp only [if_neg hy]
    refine ⟨fun hh => ?_, (h y).2⟩
    obtain ⟨s', h1, h2⟩ := (h y).1 hh
    exact ⟨s', fun zd => (Maps.atKey_put_other hne _ zd).trans (h1 zd), h2⟩
theorem ReadsS.del {D : DataW Unit} (h : ReadsS D f) (x : Int) : ReadsS (D.del (.int .u32 x)) (fun y => if y = x then none else f y) := by
  intro y
  by_cases hy : y = x
  · subst hy
    rw [Maps.has_del_same]
    exact ⟨fun h => (by cases h), fun _ => if_pos rfl⟩
  · have hne : (Lit.int .u32 y) ≠ .int .u32 x := fun e => hy (by cases e; rfl)
    rw [Maps.has_del_other hne]
    simp only [if_neg hy]
    refine ⟨fun hh => ?_, (h y).2⟩
    obtain ⟨s', h1, h2⟩ := (h y).1 hh
    exact ⟨s', fun zd => (Maps.atKey_del_other hne zd).trans (h1 zd), h2⟩

variable (hk : P.underlying k = some (.int .u32)) (ht : P.underlying t = some (.map k e))
include hk ht
theorem MapS.look (h : MapS P k w b n f) {z : Int} (hz : (zeroValue e).run P w = .ok (.int .i64 z) w) (hz64 : IOk z) (x : Int) (hx : KeyS x) :
    (Instr.lookup t (.map (some b)) (.int .u32 x) false).run P w = .ok (Value.int .i64 ((f x).getD z)) w ∧ IOk ((f x).getD z) := by
  obtain ⟨D, h1, h2⟩ := h
  obtain ⟨v, ps, hrun, hR⟩ := h1.lookup (Maps.int_keyed hk) ht hz (iElem_mk z hz64) (Maps.keyOf_int_mk hk hx.wf)
  obtain ⟨s, hs, rfl, he⟩ := iElem_inv hR
  simp only [Prod.mk.injEq] at he
  have e : (f x).getD z = s := by
    cases hh : Maps.has D (.int .u32 x) with
    | true =>
      obtain ⟨s', h3, h4⟩ := (h2 x).1 hh
      rw [h4, Option.getD_some]
      have := (h3 _).symm.trans he.1
      cases this
      rfl
    | false =>
      rw [(h2 x).2 hh, Option.getD_none]
      have := (Maps.atKey_of_not_has hh _).symm.trans he.1
      cases this
      rfl
  rw [e]
  exact ⟨hrun, hs⟩
theorem MapS.lookOk (h : MapS P k w b n f) {z : Int} (hz : (zeroValue e).run P w = .ok (.int .i64 z) w) (hz64 : IOk z) (x : Int) (hx : KeyS x) :
    (Instr.lookup t (.map (some b)) (.int .u32 x) true).run P w = .ok (.tuple #[Value.int .i64 ((f x).getD z), .bool (f x).isSome]) w ∧ IOk ((f x).getD z) := by
  obtain ⟨D, h1, h2⟩ := h
  obtain ⟨v, ps, hrun, hR⟩ := h1.look_ok (Maps.int_keyed hk) ht hz (iElem_mk z hz64) (Maps.keyOf_int_mk hk hx.wf)
  obtain ⟨s, hs, rfl, he⟩ := iElem_inv hR
  simp only [Prod.mk.injEq] at he
  cases hh : Maps.has D (.int .u32 x) with
  | true =>
    obtain ⟨s', h3, h4⟩ := (h2 x).1 hh
    rw [h4, Option.getD_some, Option.isSome_some]
    have := (h3 _).symm.trans he.1
    cases this
    rw [hh] at hrun
    exact ⟨hrun, hs⟩
  | false =>
    rw [(h2 x).2 hh, Option.getD_none, Option.isSome_none]
    have := (Maps.atKey_of_not_has hh _).symm.trans he.1
    cases this
    rw [hh] at hrun
    exact ⟨hrun, hs⟩
theorem MapS.put (h : MapS P k w b n f) (hn : n < maxLen) (x : Int) (hx : KeyS x) (s : Int) (hs : IOk s) :
    ∃ w', (Instr.mapUpdate t (.map (some b)) (.int .u32 x) (.int .i64 s)).run P w = .ok () w' ∧ MapS P k w' b (n + 1) (fun y => if y = x then some s else f y) ∧ w.grownBy w' (some b) ∧ w'.heap.size = w.heap.size := by
  obtain ⟨D, h1, h2⟩ := h
  obtain ⟨w', hrun, h3, h4⟩ := h1.store (Maps.int_keyed hk) ht hn (Maps.keyOf_int_mk hk hx.wf) (iElem_mk s hs)
  refine ⟨w', hrun, ⟨_, h3, h2.put h1.isMap x s⟩, h4.grown, ?_⟩
  obtain ⟨es, cl, es', cl', _, rfl⟩ := h4
  simp [ChangeMaps.setBlock]
theorem MapS.drop (h : MapS P k w b n f) (x : Int) (hx : KeyS x) (ty : TypeId) :
    ∃ w', (Builtin.delete_ #[t, k] ty #[.map (some b), .int .u32 x]).run P w = .ok (.tuple #[]) w' ∧ MapS P k w' b n (fun y => if y = x then none else f y) ∧ w.grownBy w' (some b) ∧ w'.heap.size = w.heap.size := by
  obtain ⟨D, h1, h2⟩ := h
  obtain ⟨w', hrun, h3, h4⟩ := h1.drop (Maps.int_keyed hk) ht (Maps.keyOf_int_mk hk hx.wf) ty
  refine ⟨w', hrun, ⟨_, h3, h2.del x⟩, h4.grown, ?_⟩
  obtain ⟨es, cl, es', cl', _, rfl⟩ := h4
  simp [ChangeMaps.setBlock]
omit hk ht in
/-- A map's copy. -/
theorem MapS.clone (h : MapS P k w b n f) (ty : TypeId) : ∃ o, (Extern.MapsClone.clone #[.iface ty (.map (some b))]).run P w = .ok (.iface ty (.map (some w.heap.size))) (w.alloc o) ∧ MapS P k (w.alloc o) w.heap.size n f := by
  obtain ⟨D, ⟨es, clock, hb, F, hs, hD⟩, h2⟩ := h
  refine ⟨.map es clock, ?_, D, ⟨es, clock, heap_alloc_new w _, F, hs, hD⟩, h2⟩
  have e : Extern.MapsClone.clone #[.iface ty (.map (some b))] = (getObj b >>= fun o => match o with
      | .map entries clock => (newObj (.map entries clock) >>= fun n => pure (.iface ty (.map (some n))))
      | _ => stuck "maps.clone: a map expected") := rfl
  rw [e]
  simp [MapKept.run_getObj_map hb, Result.andThen]
end

/-- A range over a map under way: which keys are still to come. -/
def RangeS (P : Program) (k : TypeId) (w : World) (b r n : Nat) (f : SaysS) (left : Int → Bool) (cnt : Nat) : Prop :=
  ∃ D lf, w.ranges P k iElem b r n D lf cnt ∧ ReadsS D f ∧ ∀ x, left x = lf (.int .u32 x)
section
variable {P : Program} {k e t : TypeId} {w w' : World} {b r n cnt : Nat} {f : SaysS} {left : Int → Bool}
theorem RangeS.kept {row : Option Nat} (h : RangeS P k w b r n f left cnt) (hg : w.grownBy w' row) (hb : some b ≠ row) (hr : some r ≠ row) : RangeS P k w' b r n f left cnt := by
  obtain ⟨D, lf, h1, h2⟩ := h
  exact ⟨D, lf, h1.kept hg hb hr, h2⟩
theorem RangeS.owns (h : RangeS P k w b r n f left cnt) : MapS P k w b n f := by
  obtain ⟨D, lf, h1, h2, _⟩ := h
  exact ⟨D, h1.owns, h2⟩
theorem RangeS.left_eq (h : RangeS P k w b r n f left cnt) : w.rangeLeft b r = cnt := by
  obtain ⟨D, lf, h1, h2, _⟩ := h
  exact h1.left_eq
variable (hk : P.underlying k = some (.int .u32)) (ht : P.underlying t = some (.map k e))
include hk
include ht in
theorem MapS.range (h : MapS P k w b n f) :
    ∃ w' cnt, (Instr.range t (.map (some b))).run P w = .ok (.pointer (some ⟨w.heap.size, 0, none⟩)) w' ∧ RangeS P k w' b w.heap.size n f (fun x => (f x).isSome) cnt ∧ w.grownBy w' none ∧ w'.heap.size = w.heap.size + 1 := by
  obtain ⟨D, h1, h2⟩ := h
  obtain ⟨w', hrun, h3, h4, h5⟩ := h1.range (Maps.int_keyed hk) ht
  refine ⟨w', _, hrun, ⟨D, _, h3, h2, fun x => ?_⟩, h4, h5⟩
  cases hh : Maps.has D (.int .u32 x) with
  | true => obtain ⟨s, _, e⟩ := (h2 x).1 hh; show (f x).isSome = true; rw [e]; rfl
  | false => show (f x).isSome = false; rw [(h2 x).2 hh]; rfl
theorem RangeS.next (h : RangeS P k w b r n f left cnt) (ty : TypeId) :
    ((∀ x, left x = false) ∧ (Instr.next (.pointer (some ⟨r, 0, none⟩)) false ty).run P w = .ok (.tuple #[.bool false]) w) ∨
    ∃ x s w' cnt', KeyS x ∧ left x = true ∧ f x = some s ∧ IOk s ∧ (Instr.next (.pointer (some ⟨r, 0, none⟩)) false ty).run P w = .ok (.tuple #[.bool true, .int .u32 x, Value.int .i64 s]) w' ∧
      RangeS P k w' b r n f (fun y => left y && !decide (y = x)) cnt' ∧ cnt' < cnt ∧ w.grownBy w' (some r) ∧ w'.heap.size = w.heap.size ∧ (Instr.entry (.pointer (some ⟨r, 0, none⟩))).run P w' = .ok (.tuple #[.int .u32 x, Value.int .i64 s]) w' := by
  obtain ⟨D, lf, h1, h2, h3⟩ := h
  rcases h1.next (Maps.int_keyed hk) ty with ⟨_, hl, hrun⟩ | ⟨key, v, kl, y, w', cnt', hkey, hlk, hv, hat, hrun, hrg, hlt, hgr, hsz, hen⟩
  · exact .inl ⟨fun x => by rw [h3]; exact hl _, hrun⟩
  · obtain ⟨x, rfl, rfl, hw⟩ := Maps.keyOf_int_inv hk hkey
    obtain ⟨s, hs, rfl, rfl⟩ := iElem_inv hv
    have hx : KeyS x := by
      unfold KeyS
      simp [Lit.wf, IntKind.min, IntKind.max, IntKind.signed, IntKind.bits] at hw
      omega
    have hh : Maps.has D (.int .u32 x) = true := Maps.has_true_of_atKey hat
    obtain ⟨s', h4, h5⟩ := (h2 x).1 hh
    have : s' = s := by
      have := (h4 .nil).symm.trans (hat .nil)
      cases this
      rfl
    subst this
    refine .inr ⟨x, s', w', cnt', hx, by rw [h3]; exact hlk, h5, hs, hrun, ⟨D, _, hrg, h2, fun y => ?_⟩, hlt, hgr, hsz, hen⟩
    show (left y && !decide (y = x)) = _
    rw [h3]
    congr 1
    by_cases hy : y = x
    · subst hy; simp [WideAt.sameKey_self (a := .int .u32 y) (by exact trivial)]
    · have hne : (Lit.int .u32 y) ≠ .int .u32 x := fun e => hy (by cases e; rfl)
      rw [Maps.sameKey_ne hne]
      simp [hy]
end

end Go.Proofs.YtpalmobmabkadaaGreatDoor
