/- A map of ints to sectors, read as a function. -/
import Derived.Test.YtdmcbojncgdccaaWords
import Derived.Maps.OwnSet
import Derived.Maps.RangeWalk
namespace Go.Proofs.Ytdmcbojncgdccaa
open Go.RowKit
open Go.Maps (Keyed)

/-- A sector's value. -/
def secv (s : List UInt8) : Value := .agg (u8s s).toArray
def isU8 : Value → Bool
  | .int .u8 a => decide (0 ≤ a) && decide (a < 256)
  | _ => false
def u8of : Value → UInt8
  | .int .u8 a => UInt8.ofNat a.toNat
  | _ => 0
/-- How a sector reads: as its bytes. -/
def secElem : Value → Option (DataW Unit × List MemPlace)
  | .agg cs => if cs.size = 64 ∧ cs.toList.all isU8 = true then some (.lit (.string (cs.toList.map u8of)), []) else none
  | _ => none
theorem u8of_u8 (b : UInt8) : u8of (u8 b) = b := by simp [u8of, u8]
theorem isU8_u8 (b : UInt8) : isU8 (u8 b) = true := by
  have := b.toNat_lt
  simp [isU8, u8]
  omega
theorem u8_u8of (v : Value) (h : isU8 v = true) : u8 (u8of v) = v := by
  unfold isU8 at h
  split at h
  · simp at h
    simp only [u8of, u8, UInt8.toNat_ofNat']
    congr 1
    omega
  · cases h
theorem u8s_inv (l : List Value) (h : l.all isU8 = true) : u8s (l.map u8of) = l := by
  rw [List.all_eq_true] at h
  simp only [u8s, List.map_map]
  conv => rhs; rw [← List.map_id l]
  exact List.map_congr_left fun v hv => u8_u8of v (h v hv)
theorem secElem_mk (s : List UInt8) (h : s.length = 64) : secElem (secv s) = some (.lit (.string s), []) := by
  unfold secElem secv
  have e1 : (u8s s).toArray.size = 64 := by simp [u8s_len, h]
  have e2 : (u8s s).toArray.toList.all isU8 = true := by
    rw [List.all_eq_true]
    intro v hv
    simp only [u8s, List.mem_map] at hv
    obtain ⟨b, _, rfl⟩ := hv
    exact isU8_u8 b
  have e3 : (u8s s).toArray.toList.map u8of = s := by
    simp only [u8s, List.map_map]
    conv => rhs; rw [← List.map_id s]
    exact List.map_congr_left fun b _ => u8of_u8 b
  simp only [e1, e2, e3, and_self, if_true]
theorem secElem_inv {v : Value} {z : DataW Unit × List MemPlace} (h : secElem v = some z) : ∃ s : List UInt8, s.length = 64 ∧ v = secv s ∧ z = (.lit (.string s), []) := by
  unfold secElem at h
  split at h
  · rename_i cs
    split at h
    · rename_i hc
      cases h
      refine ⟨cs.toList.map u8of, by simpa using hc.1, ?_, rfl⟩
      unfold secv
      rw [u8s_inv _ hc.2]
    · cases h
  · cases h

/-- What a map says of a key. -/
abbrev Says := Int → Option (List UInt8)
def Reads (D : DataW Unit) (f : Says) : Prop := ∀ x : Int, (Maps.has D (.int .i64 x) = true → ∃ s, (∀ zd, D.atKey (.int .i64 x) zd = .lit (.string s)) ∧ f x = some s) ∧ (Maps.has D (.int .i64 x) = false → f x = none)
/-- Block b is a map of at most n keys that says f. -/
def MapI (P : Program) (k : TypeId) (w : World) (b n : Nat) (f : Says) : Prop := ∃ D, w.ownsMap P k secElem b n D ∧ Reads D f
/-- What may be a key. -/
def Key (x : Int) : Prop := -9223372036854775808 ≤ x ∧ x ≤ 9223372036854775807
theorem Key.wf {x : Int} (h : Key x) : (Lit.int .i64 x).wf = true := by
  unfold Key at h
  simp [Lit.wf, IntKind.min, IntKind.max, IntKind.signed, IntKind.bits]
  omega

section
variable {P : Program} {k e t : TypeId} {w w' : World} {b n : Nat} {f : Says}
theorem MapI.lt (h : MapI P k w b n f) : b < w.heap.size := by obtain ⟨D, h, _⟩ := h; exact h.lt
theorem MapI.kept {row : Option Nat} (h : MapI P k w b n f) (hg : w.grownBy w' row) (hne : some b ≠ row) : MapI P k w' b n f := by
  obtain ⟨D, h1, h2⟩ := h
  exact ⟨D, h1.kept hg hne, h2⟩
theorem MapI.mono {n' : Nat} (h : MapI P k w b n f) (hn : n ≤ n') : MapI P k w b n' f := by
  obtain ⟨D, h1, h2⟩ := h
  exact ⟨D, h1.mono hn, h2⟩
theorem MapI.same (h : MapI P k w b n f) (hb : w'.heap[b]? = w.heap[b]?) : MapI P k w' b n f := by
  obtain ⟨D, ⟨es, clock, h1, r⟩, h2⟩ := h
  exact ⟨D, ⟨es, clock, hb.trans h1, r⟩, h2⟩
theorem reads_empty : Reads (.map []) (fun _ => none) := fun x => ⟨fun h => by simp [Maps.has_eq] at h, fun _ => rfl⟩
theorem mapI_made (w : World) : MapI P k (w.alloc (.map #[] 0)) w.heap.size 0 (fun _ => none) := ⟨_, World.ownsMap_made w P k secElem, reads_empty⟩
theorem Reads.put {D : DataW Unit} (h : Reads D f) (hm : Maps.IsMap D) (x : Int) (s : List UInt8) : Reads (D.put (.int .i64 x) (.lit (.string s))) (fun y => if y = x then some s else f y) := by
  intro y
  by_cases hy : y = x
  · subst hy
    rw [Maps.has_put_same hm (by exact trivial)]
    exact ⟨fun _ => ⟨s, fun zd => Maps.atKey_put_same hm (by exact trivial) _ zd, if_pos rfl⟩, fun h => by cases h⟩
  · have hne : (Lit.int .i64 y) ≠ .int .i64 x := fun e => hy (by cases e; rfl)
    rw [Maps.has_put_other hne]
    simp only [if_neg hy]
    refine ⟨fun hh => ?_, (h y).2⟩
    obtain ⟨s', h1, h2⟩ := (h y).1 hh
    exact ⟨s', fun zd => (Maps.atKey_put_other hne _ zd).trans (h1 zd), h2⟩
theorem Reads.del {D : DataW Unit} (h : Reads D f) (x : Int) : Reads (D.del (.int .i64 x)) (fun y => if y = x then none else f y) := by
  intro y
  by_cases hy : y = x
  · subst hy
    rw [Maps.has_del_same]
    exact ⟨fun h => (by cases h), fun _ => if_pos rfl⟩
  · have hne : (Lit.int .i64 y) ≠ .int .i64 x := fun e => hy (by cases e; rfl)
    rw [Maps.has_del_other hne]
    simp only [if_neg hy]
    refine ⟨fun hh => ?_, (h y).2⟩
    obtain ⟨s', h1, h2⟩ := (h y).1 hh
    exact ⟨s', fun zd => (Maps.atKey_del_other hne zd).trans (h1 zd), h2⟩

variable (hk : P.underlying k = some (.int .i64)) (ht : P.underlying t = some (.map k e))
include hk ht
theorem MapI.look (h : MapI P k w b n f) {z : List UInt8} (hz : (zeroValue e).run P w = .ok (secv z) w) (hz64 : z.length = 64) (x : Int) (hx : Key x) :
    (Instr.lookup t (.map (some b)) (.int .i64 x) false).run P w = .ok (secv ((f x).getD z)) w ∧ ((f x).getD z).length = 64 := by
  obtain ⟨D, h1, h2⟩ := h
  obtain ⟨v, ps, hrun, hR⟩ := h1.lookup (Maps.int_keyed hk) ht hz (secElem_mk z hz64) (Maps.keyOf_int_mk hk hx.wf)
  obtain ⟨s, hs, rfl, he⟩ := secElem_inv hR
  simp only [Prod.mk.injEq] at he
  have e : (f x).getD z = s := by
    cases hh : Maps.has D (.int .i64 x) with
    | true =>
      obtain ⟨s', h3, h4⟩ := (h2 x).1 hh
      rw [h4, Option.getD_some]
      have := (h3 _).symm.trans he.1
      cases this
      rfl
    | false =>
      rw [(h2 x).2 hh, Option.getD_none]
      have := (Maps.atKey_of_not_has hh _).symm.trans he.1
      cases this
      rfl
  rw [e]
  exact ⟨hrun, hs⟩
theorem MapI.lookOk (h : MapI P k w b n f) {z : List UInt8} (hz : (zeroValue e).run P w = .ok (secv z) w) (hz64 : z.length = 64) (x : Int) (hx : Key x) :
    (Instr.lookup t (.map (some b)) (.int .i64 x) true).run P w = .ok (.tuple #[secv ((f x).getD z), .bool (f x).isSome]) w ∧ ((f x).getD z).length = 64 := by
  obtain ⟨D, h1, h2⟩ := h
  obtain ⟨v, ps, hrun, hR⟩ := h1.look_ok (Maps.int_keyed hk) ht hz (secElem_mk z hz64) (Maps.keyOf_int_mk hk hx.wf)
  obtain ⟨s, hs, rfl, he⟩ := secElem_inv hR
  simp only [Prod.mk.injEq] at he
  cases hh : Maps.has D (.int .i64 x) with
  | true =>
    obtain ⟨s', h3, h4⟩ := (h2 x).1 hh
    rw [h4, Option.getD_some, Option.isSome_some]
    have := (h3 _).symm.trans he.1
    cases this
    rw [hh] at hrun
    exact ⟨hrun, hs⟩
  | false =>
    rw [(h2 x).2 hh, Option.getD_none, Option.isSome_none]
    have := (Maps.atKey_of_not_has hh _).symm.trans he.1
    cases this
    rw [hh] at hrun
    exact ⟨hrun, hs⟩
theorem MapI.put (h : MapI P k w b n f) (hn : n < maxLen) (x : Int) (hx : Key x) (s : List UInt8) (hs : s.length = 64) :
    ∃ w', (Instr.mapUpdate t (.map (some b)) (.int .i64 x) (secv s)).run P w = .ok () w' ∧ MapI P k w' b (n + 1) (fun y => if y = x then some s else f y) ∧ w.grownBy w' (some b) ∧ w'.heap.size = w.heap.size := by
  obtain ⟨D, h1, h2⟩ := h
  obtain ⟨w', hrun, h3, h4⟩ := h1.store (Maps.int_keyed hk) ht hn (Maps.keyOf_int_mk hk hx.wf) (secElem_mk s hs)
  refine ⟨w', hrun, ⟨_, h3, h2.put h1.isMap x s⟩, h4.grown, ?_⟩
  obtain ⟨es, cl, es', cl', _, rfl⟩ := h4
  simp [ChangeMaps.setBlock]
theorem MapI.drop (h : MapI P k w b n f) (x : Int) (hx : Key x) (ty : TypeId) :
    ∃ w', (Builtin.delete_ #[t, k] ty #[.map (some b), .int .i64 x]).run P w = .ok (.tuple #[]) w' ∧ MapI P k w' b n (fun y => if y = x then none else f y) ∧ w.grownBy w' (some b) ∧ w'.heap.size = w.heap.size := by
  obtain ⟨D, h1, h2⟩ := h
  obtain ⟨w', hrun, h3, h4⟩ := h1.drop (Maps.int_keyed hk) ht (Maps.keyOf_int_mk hk hx.wf) ty
  refine ⟨w', hrun, ⟨_, h3, h2.del x⟩, h4.grown, ?_⟩
  obtain ⟨es, cl, es', cl', _, rfl⟩ := h4
  simp [ChangeMaps.setBlock]
omit hk ht in
/-- A map's copy. -/
theorem MapI.clone (h : MapI P k w b n f) (ty : TypeId) : ∃ o, (Extern.MapsClone.clone #[.iface ty (.map (some b))]).run P w = .ok (.iface ty (.map (some w.heap.size))) (w.alloc o) ∧ MapI P k (w.alloc o) w.heap.size n f := by
  obtain ⟨D, ⟨es, clock, hb, F, hs, hD⟩, h2⟩ := h
  refine ⟨.map es clock, ?_, D, ⟨es, clock, heap_alloc_new w _, F, hs, hD⟩, h2⟩
  have e : Extern.MapsClone.clone #[.iface ty (.map (some b))] = (getObj b >>= fun o => match o with
      | .map entries clock => (newObj (.map entries clock) >>= fun n => pure (.iface ty (.map (some n))))
      | _ => stuck "maps.clone: a map expected") := rfl
  rw [e]
  simp [MapKept.run_getObj_map hb, Result.andThen]
end

/-- A range over a map under way: which keys are still to come. -/
def RangeI (P : Program) (k : TypeId) (w : World) (b r n : Nat) (f : Says) (left : Int → Bool) (cnt : Nat) : Prop :=
  ∃ D lf, w.ranges P k secElem b r n D lf cnt ∧ Reads D f ∧ ∀ x, left x = lf (.int .i64 x)
section
variable {P : Program} {k e t : TypeId} {w w' : World} {b r n cnt : Nat} {f : Says} {left : Int → Bool}
theorem RangeI.kept {row : Option Nat} (h : RangeI P k w b r n f left cnt) (hg : w.grownBy w' row) (hb : some b ≠ row) (hr : some r ≠ row) : RangeI P k w' b r n f left cnt := by
  obtain ⟨D, lf, h1, h2⟩ := h
  exact ⟨D, lf, h1.kept hg hb hr, h2⟩
theorem RangeI.owns (h : RangeI P k w b r n f left cnt) : MapI P k w b n f := by
  obtain ⟨D, lf, h1, h2, _⟩ := h
  exact ⟨D, h1.owns, h2⟩
theorem RangeI.left_eq (h : RangeI P k w b r n f left cnt) : w.rangeLeft b r = cnt := by
  obtain ⟨D, lf, h1, h2, _⟩ := h
  exact h1.left_eq
variable (hk : P.underlying k = some (.int .i64)) (ht : P.underlying t = some (.map k e))
include hk
include ht in
theorem MapI.range (h : MapI P k w b n f) :
    ∃ w' cnt, (Instr.range t (.map (some b))).run P w = .ok (.pointer (some ⟨w.heap.size, 0, none⟩)) w' ∧ RangeI P k w' b w.heap.size n f (fun x => (f x).isSome) cnt ∧ w.grownBy w' none ∧ w'.heap.size = w.heap.size + 1 := by
  obtain ⟨D, h1, h2⟩ := h
  obtain ⟨w', hrun, h3, h4, h5⟩ := h1.range (Maps.int_keyed hk) ht
  refine ⟨w', _, hrun, ⟨D, _, h3, h2, fun x => ?_⟩, h4, h5⟩
  cases hh : Maps.has D (.int .i64 x) with
  | true => obtain ⟨s, _, e⟩ := (h2 x).1 hh; show (f x).isSome = true; rw [e]; rfl
  | false => show (f x).isSome = false; rw [(h2 x).2 hh]; rfl
theorem RangeI.next (h : RangeI P k w b r n f left cnt) (ty : TypeId) :
    ((∀ x, left x = false) ∧ (Instr.next (.pointer (some ⟨r, 0, none⟩)) false ty).run P w = .ok (.tuple #[.bool false]) w) ∨
    ∃ x s w' cnt', Key x ∧ left x = true ∧ f x = some s ∧ s.length = 64 ∧ (Instr.next (.pointer (some ⟨r, 0, none⟩)) false ty).run P w = .ok (.tuple #[.bool true, .int .i64 x, secv s]) w' ∧
      RangeI P k w' b r n f (fun y => left y && !decide (y = x)) cnt' ∧ cnt' < cnt ∧ w.grownBy w' (some r) ∧ w'.heap.size = w.heap.size ∧ (Instr.entry (.pointer (some ⟨r, 0, none⟩))).run P w' = .ok (.tuple #[.int .i64 x, secv s]) w' := by
  obtain ⟨D, lf, h1, h2, h3⟩ := h
  rcases h1.next (Maps.int_keyed hk) ty with ⟨_, hl, hrun⟩ | ⟨key, v, kl, y, w', cnt', hkey, hlk, hv, hat, hrun, hrg, hlt, hgr, hsz, hen⟩
  · exact .inl ⟨fun x => by rw [h3]; exact hl _, hrun⟩
  · obtain ⟨x, rfl, rfl, hw⟩ := Maps.keyOf_int_inv hk hkey
    obtain ⟨s, hs, rfl, rfl⟩ := secElem_inv hv
    have hx : Key x := by
      unfold Key
      simp [Lit.wf, IntKind.min, IntKind.max, IntKind.signed, IntKind.bits] at hw
      omega
    have hh : Maps.has D (.int .i64 x) = true := Maps.has_true_of_atKey hat
    obtain ⟨s', h4, h5⟩ := (h2 x).1 hh
    have : s' = s := by
      have := (h4 .nil).symm.trans (hat .nil)
      cases this
      rfl
    subst this
    refine .inr ⟨x, s', w', cnt', hx, by rw [h3]; exact hlk, h5, hs, hrun, ⟨D, _, hrg, h2, fun y => ?_⟩, hlt, hgr, hsz, hen⟩
    show (left y && !decide (y = x)) = _
    rw [h3]
    congr 1
    by_cases hy : y = x
    · subst hy; simp [WideAt.sameKey_self (a := .int .i64 y) (by exact trivial)]
    · have hne : (Lit.int .i64 y) ≠ .int .i64 x := fun e => hy (by cases e; rfl)
      rw [Maps.sameKey_ne hne]
      simp [hy]
end

end Go.Proofs.Ytdmcbojncgdccaa
