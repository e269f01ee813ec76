/- A map of ints to sectors, read as a function. A device in memory, and its calls that only read or step. Sectors as values: what is made, laid, taken and compared. -/
import Derived.Test.YtpalmobmabkadaaGreatDoorSegsZM
import Derived.Maps.OwnSet
import Derived.Maps.RangeWalk
import Derived.Test.YtpalmobmabkadaaGreatDoorFjoinbZM
import Derived.IntWalk
import Derived.Laws.StructEq
import Derived.Deep.WholeRow
namespace Go.Proofs.YtpalmobmabkadaaGreatDoor
set_option maxRecDepth 20000
open Go.RowKit
open Go.Maps (Keyed)

/-- A sector's value. -/
def secv (s : List UInt8) : Value := .agg (u8s s).toArray
def isU8 : Value → Bool
  | .int .u8 a => decide (0 ≤ a) && decide (a < 256)
  | _ => false
def u8of : Value → UInt8
  | .int .u8 a => UInt8.ofNat a.toNat
  | _ => 0
/-- How a sector reads: as its bytes. -/
def secElem : Value → Option (DataW Unit × List MemPlace)
  | .agg cs => if cs.size = 64 ∧ cs.toList.all isU8 = true then some (.lit (.string (cs.toList.map u8of)), []) else none
  | _ => none
theorem u8of_u8 (b : UInt8) : u8of (u8 b) = b := by simp [u8of, u8]
theorem isU8_u8 (b : UInt8) : isU8 (u8 b) = true := by
  have := b.toNat_lt
  simp [isU8, u8]
  omega
theorem u8_u8of (v : Value) (h : isU8 v = true) : u8 (u8of v) = v := by
  unfold isU8 at h
  split at h
  · simp at h
    simp only [u8of, u8, UInt8.toNat_ofNat']
    congr 1
    omega
  · cases h
theorem u8s_inv (l : List Value) (h : l.all isU8 = true) : u8s (l.map u8of) = l := by
  rw [List.all_eq_true] at h
  simp only [u8s, List.map_map]
  conv => rhs; rw [← List.map_id l]
  exact List.map_congr_left fun v hv => u8_u8of v (h v hv)
theorem secElem_mk (s : List UInt8) (h : s.length = 64) : secElem (secv s) = some (.lit (.string s), []) := by
  unfold secElem secv
  have e1 : (u8s s).toArray.size = 64 := by simp [u8s_len, h]
  have e2 : (u8s s).toArray.toList.all isU8 = true := by
    rw [List.all_eq_true]
    intro v hv
    simp only [u8s, List.mem_map] at hv
    obtain ⟨b, _, rfl⟩ := hv
    exact isU8_u8 b
  have e3 : (u8s s).toArray.toList.map u8of = s := by
    simp only [u8s, List.map_map]
    conv => rhs; rw [← List.map_id s]
    exact List.map_congr_left fun b _ => u8of_u8 b
  simp only [e1, e2, e3, and_self, if_true]
theorem secElem_inv {v : Value} {z : DataW Unit × List MemPlace} (h : secElem v = some z) : ∃ s : List UInt8, s.length = 64 ∧ v = secv s ∧ z = (.lit (.string s), []) := by
  unfold secElem at h
  split at h
  · rename_i cs
    split at h
    · rename_i hc
      cases h
      refine ⟨cs.toList.map u8of, by simpa using hc.1, ?_, rfl⟩
      unfold secv
      rw [u8s_inv _ hc.2]
    · cases h
  · cases h

/-- What a map says of a key. -/
abbrev Says := Int → Option (List UInt8)
def Reads (D : DataW Unit) (f : Says) : Prop := ∀ x : Int, (Maps.has D (.int .i64 x) = true → ∃ s, (∀ zd, D.atKey (.int .i64 x) zd = .lit (.string s)) ∧ f x = some s) ∧ (Maps.has D (.int .i64 x) = false → f x = none)
/-- Block b is a map of at most n keys that says f. -/
def MapI (P : Program) (k : TypeId) (w : World) (b n : Nat) (f : Says) : Prop := ∃ D, w.ownsMap P k secElem b n D ∧ Reads D f
/-- What may be a key. -/
def Key (x : Int) : Prop := -9223372036854775808 ≤ x ∧ x ≤ 9223372036854775807
theorem Key.wf {x : Int} (h : Key x) : (Lit.int .i64 x).wf = true := by
  unfold Key at h
  simp [Lit.wf, IntKind.min, IntKind.max, IntKind.signed, IntKind.bits]
  omega

section
variable {P : Program} {k e t : TypeId} {w w' : World} {b n : Nat} {f : Says}
theorem MapI.lt (h : MapI P k w b n f) : b < w.heap.size := by obtain ⟨D, h, _⟩ := h; exact h.lt
theorem MapI.kept {row : Option Nat} (h : MapI P k w b n f) (hg : w.grownBy w' row) (hne : some b ≠ row) : MapI P k w' b n f := by
  obtain ⟨D, h1, h2⟩ := h
  exact ⟨D, h1.kept hg hne, h2⟩
theorem MapI.mono {n' : Nat} (h : MapI P k w b n f) (hn : n ≤ n') : MapI P k w b n' f := by
  obtain ⟨D, h1, h2⟩ := h
  exact ⟨D, h1.mono hn, h2⟩
theorem MapI.same (h : MapI P k w b n f) (hb : w'.heap[b]? = w.heap[b]?) : MapI P k w' b n f := by
  obtain ⟨D, ⟨es, clock, h1, r⟩, h2⟩ := h
  exact ⟨D, ⟨es, clock, hb.trans h1, r⟩, h2⟩
theorem reads_empty : Reads (.map []) (fun _ => none) := fun x => ⟨fun h => by simp [Maps.has_eq] at h, fun _ => rfl⟩
theorem mapI_made (w : World) : MapI P k (w.alloc (.map #[] 0)) w.heap.size 0 (fun _ => none) := ⟨_, World.ownsMap_made w P k secElem, reads_empty⟩
theorem Reads.put {D : DataW Unit} (h : Reads D f) (hm : Maps.IsMap D) (x : Int) (s : List UInt8) : Reads (D.put (.int .i64 x) (.lit (.string s))) (fun y => if y = x then some s else f y) := by
  intro y
  by_cases hy : y = x
  · subst hy
    rw [Maps.has_put_same hm (by exact trivial)]
    exact ⟨fun _ => ⟨s, fun zd => Maps.atKey_put_same hm (by exact trivial) _ zd, if_pos rfl⟩, fun h => by cases h⟩
  · have hne : (Lit.int .i64 y) ≠ .int .i64 x := fun e => hy (by cases e; rfl)
    rw [Maps.has_put_other hne]
    simp only [if_neg hy]
    refine ⟨fun hh => ?_, (h y).2⟩
    obtain ⟨s', h1, h2⟩ := (h y).1 hh
    exact ⟨s', fun zd => (Maps.atKey_put_other hne _ zd).trans (h1 zd), h2⟩
theorem Reads.del {D : DataW Unit} (h : Reads D f) (x : Int) : Reads (D.del (.int .i64 x)) (fun y => if y = x then none else f y) := by
  intro y
  by_cases hy : y = x
  · subst hy
    rw [Maps.has_del_same]
    exact ⟨fun h => (by cases h), fun _ => if_pos rfl⟩
  · have hne : (Lit.int .i64 y) ≠ .int .i64 x := fun e => hy (by cases e; rfl)
    rw [Maps.has_del_other hne]
    simp only [if_neg hy]
    refine ⟨fun hh => ?_, (h y).2⟩
    obtain ⟨s', h1, h2⟩ := (h y).1 hh
    exact ⟨s', fun zd => (Maps.atKey_del_other hne zd).trans (h1 zd), h2⟩

variable (hk : P.underlying k = some (.int .i64)) (ht : P.underlying t = some (.map k e))
include hk ht
theorem MapI.look (h : MapI P k w b n f) {z : List UInt8} (hz : (zeroValue e).run P w = .ok (secv z) w) (hz64 : z.length = 64) (x : Int) (hx : Key x) :
    (Instr.lookup t (.map (some b)) (.int .i64 x) false).run P w = .ok (secv ((f x).getD z)) w ∧ ((f x).getD z).length = 64 := by
  obtain ⟨D, h1, h2⟩ := h
  obtain ⟨v, ps, hrun, hR⟩ := h1.lookup (Maps.int_keyed hk) ht hz (secElem_mk z hz64) (Maps.keyOf_int_mk hk hx.wf)
  obtain ⟨s, hs, rfl, he⟩ := secElem_inv hR
  simp only [Prod.mk.injEq] at he
  have e : (f x).getD z = s := by
    cases hh : Maps.has D (.int .i64 x) with
    | true =>
      obtain ⟨s', h3, h4⟩ := (h2 x).1 hh
      rw [h4, Option.getD_some]
      have := (h3 _).symm.trans he.1
      cases this
      rfl
    | false =>
      rw [(h2 x).2 hh, Option.getD_none]
      have := (Maps.atKey_of_not_has hh _).symm.trans he.1
      cases this
      rfl
  rw [e]
  exact ⟨hrun, hs⟩
theorem MapI.lookOk (h : MapI P k w b n f) {z : List UInt8} (hz : (zeroValue e).run P w = .ok (secv z) w) (hz64 : z.length = 64) (x : Int) (hx : Key x) :
    (Instr.lookup t (.map (some b)) (.int .i64 x) true).run P w = .ok (.tuple #[secv ((f x).getD z), .bool (f x).isSome]) w ∧ ((f x).getD z).length = 64 := by
  obtain ⟨D, h1, h2⟩ := h
  obtain ⟨v, ps, hrun, hR⟩ := h1.look_ok (Maps.int_keyed hk) ht hz (secElem_mk z hz64) (Maps.keyOf_int_mk hk hx.wf)
  obtain ⟨s, hs, rfl, he⟩ := secElem_inv hR
  simp only [Prod.mk.injEq] at he
  cases hh : Maps.has D (.int .i64 x) with
  | true =>
    obtain ⟨s', h3, h4⟩ := (h2 x).1 hh
    rw [h4, Option.getD_some, Option.isSome_some]
    have := (h3 _).symm.trans he.1
    cases this
    rw [hh] at hrun
    exact ⟨hrun, hs⟩
  | false =>
    rw [(h2 x).2 hh, Option.getD_none, Option.isSome_none]
    have := (Maps.atKey_of_not_has hh _).symm.trans he.1
    cases this
    rw [hh] at hrun
    exact ⟨hrun, hs⟩
theorem MapI.put (h : MapI P k w b n f) (hn : n < maxLen) (x : Int) (hx : Key x) (s : List UInt8) (hs : s.length = 64) :
    ∃ w', (Instr.mapUpdate t (.map (some b)) (.int .i64 x) (secv s)).run P w = .ok () w' ∧ MapI P k w' b (n + 1) (fun y => if y = x then some s else f y) ∧ w.grownBy w' (some b) ∧ w'.heap.size = w.heap.size := by
  obtain ⟨D, h1, h2⟩ := h
  obtain ⟨w', hrun, h3, h4⟩ := h1.store (Maps.int_keyed hk) ht hn (Maps.keyOf_int_mk hk hx.wf) (secElem_mk s hs)
  refine ⟨w', hrun, ⟨_, h3, h2.put h1.isMap x s⟩, h4.grown, ?_⟩
  obtain ⟨es, cl, es', cl', _, rfl⟩ := h4
  simp [ChangeMaps.setBlock]
theorem MapI.drop (h : MapI P k w b n f) (x : Int) (hx : Key x) (ty : TypeId) :
    ∃ w', (Builtin.delete_ #[t, k] ty #[.map (some b), .int .i64 x]).run P w = .ok (.tuple #[]) w' ∧ MapI P k w' b n (fun y => if y = x then none else f y) ∧ w.grownBy w' (some b) ∧ w'.heap.size = w.heap.size := by
  obtain ⟨D, h1, h2⟩ := h
  obtain ⟨w', hrun, h3, h4⟩ := h1.drop (Maps.int_keyed hk) ht (Maps.keyOf_int_mk hk hx.wf) ty
  refine ⟨w', hrun, ⟨_, h3, h2.del x⟩, h4.grown, ?_⟩
  obtain ⟨es, cl, es', cl', _, rfl⟩ := h4
  simp [ChangeMaps.setBlock]
omit hk ht in
/-- A map's copy. -/
theorem MapI.clone (h : MapI P k w b n f) (ty : TypeId) : ∃ o, (Extern.MapsClone.clone #[.iface ty (.map (some b))]).run P w = .ok (.iface ty (.map (some w.heap.size))) (w.alloc o) ∧ MapI P k (w.alloc o) w.heap.size n f := by
  obtain ⟨D, ⟨es, clock, hb, F, hs, hD⟩, h2⟩ := h
  refine ⟨.map es clock, ?_, D, ⟨es, clock, heap_alloc_new w _, F, hs, hD⟩, h2⟩
  have e : Extern.MapsClone.clone #[.iface ty (.map (some b))] = (getObj b >>= fun o => match o with
      | .map entries clock => (newObj (.map entries clock) >>= fun n => pure (.iface ty (.map (some n))))
      | _ => stuck "maps.clone: a map expected") := rfl
  rw [e]
  simp [MapKept.run_getObj_map hb, Result.andThen]
end

/-- A range over a map under way: which keys are still to come. -/
def RangeI (P : Program) (k : TypeId) (w : World) (b r n : Nat) (f : Says) (left : Int → Bool) (cnt : Nat) : Prop :=
  ∃ D lf, w.ranges P k secElem b r n D lf cnt ∧ Reads D f ∧ ∀ x, left x = lf (.int .i64 x)
section
variable {P : Program} {k e t : TypeId} {w w' : World} {b r n cnt : Nat} {f : Says} {left : Int → Bool}
theorem RangeI.kept {row : Option Nat} (h : RangeI P k w b r n f left cnt) (hg : w.grownBy w' row) (hb : some b ≠ row) (hr : some r ≠ row) : RangeI P k w' b r n f left cnt := by
  obtain ⟨D, lf, h1, h2⟩ := h
  exact ⟨D, lf, h1.kept hg hb hr, h2⟩
theorem RangeI.owns (h : RangeI P k w b r n f left cnt) : MapI P k w b n f := by
  obtain ⟨D, lf, h1, h2, _⟩ := h
  exact ⟨D, h1.owns, h2⟩
theorem RangeI.left_eq (h : RangeI P k w b r n f left cnt) : w.rangeLeft b r = cnt := by
  obtain ⟨D, lf, h1, h2, _⟩ := h
  exact h1.left_eq
variable (hk : P.underlying k = some (.int .i64)) (ht : P.underlying t = some (.map k e))
include hk
include ht in
theorem MapI.range (h : MapI P k w b n f) :
    ∃ w' cnt, (Instr.range t (.map (some b))).run P w = .ok (.pointer (some ⟨w.heap.size, 0, none⟩)) w' ∧ RangeI P k w' b w.heap.size n f (fun x => (f x).isSome) cnt ∧ w.grownBy w' none ∧ w'.heap.size = w.heap.size + 1 := by
  obtain ⟨D, h1, h2⟩ := h
  obtain ⟨w', hrun, h3, h4, h5⟩ := h1.range (Maps.int_keyed hk) ht
  refine ⟨w', _, hrun, ⟨D, _, h3, h2, fun x => ?_⟩, h4, h5⟩
  cases hh : Maps.has D (.int .i64 x) with
  | true => obtain ⟨s, _, e⟩ := (h2 x).1 hh; show (f x).isSome = true; rw [e]; rfl
  | false => show (f x).isSome = false; rw [(h2 x).2 hh]; rfl
theorem RangeI.next (h : RangeI P k w b r n f left cnt) (ty : TypeId) :
    ((∀ x, left x = false) ∧ (Instr.next (.pointer (some ⟨r, 0, none⟩)) false ty).run P w = .ok (.tuple #[.bool false]) w) ∨
    ∃ x s w' cnt', Key x ∧ left x = true ∧ f x = some s ∧ s.length = 64 ∧ (Instr.next (.pointer (some ⟨r, 0, none⟩)) false ty).run P w = .ok (.tuple #[.bool true, .int .i64 x, secv s]) w' ∧
      RangeI P k w' b r n f (fun y => left y && !decide (y = x)) cnt' ∧ cnt' < cnt ∧ w.grownBy w' (some r) ∧ w'.heap.size = w.heap.size ∧ (Instr.entry (.pointer (some ⟨r, 0, none⟩))).run P w' = .ok (.tuple #[.int .i64 x, secv s]) w' := by
  obtain ⟨D, lf, h1, h2, h3⟩ := h
  rcases h1.next (Maps.int_keyed hk) ty with ⟨_, hl, hrun⟩ | ⟨key, v, kl, y, w', cnt', hkey, hlk, hv, hat, hrun, hrg, hlt, hgr, hsz, hen⟩
  · exact .inl ⟨fun x => by rw [h3]; exact hl _, hrun⟩
  · obtain ⟨x, rfl, rfl, hw⟩ := Maps.keyOf_int_inv hk hkey
    obtain ⟨s, hs, rfl, rfl⟩ := secElem_inv hv
    have hx : Key x := by
      unfold Key
      simp [Lit.wf, IntKind.min, IntKind.max, IntKind.signed, IntKind.bits] at hw
      omega
    have hh : Maps.has D (.int .i64 x) = true := Maps.has_true_of_atKey hat
    obtain ⟨s', h4, h5⟩ := (h2 x).1 hh
    have : s' = s := by
      have := (h4 .nil).symm.trans (hat .nil)
      cases this
      rfl
    subst this
    refine .inr ⟨x, s', w', cnt', hx, by rw [h3]; exact hlk, h5, hs, hrun, ⟨D, _, hrg, h2, fun y => ?_⟩, hlt, hgr, hsz, hen⟩
    show (left y && !decide (y = x)) = _
    rw [h3]
    congr 1
    by_cases hy : y = x
    · subst hy; simp [WideAt.sameKey_self (a := .int .i64 y) (by exact trivial)]
    · have hne : (Lit.int .i64 y) ≠ .int .i64 x := fun e => hy (by cases e; rfl)
      rw [Maps.sameKey_ne hne]
      simp [hy]
end

end Go.Proofs.YtpalmobmabkadaaGreatDoor

namespace Go.Proofs.YtpalmobmabkadaaGreatDoor
set_option maxRecDepth 20000
open Go.RowKit

/-- What a device is: how many sectors, what is safe, what waits, whether the power is gone, the fuse, how much was done. -/
structure Dv where
  n : Nat
  S : Int → List UInt8
  ws : List (Int × List UInt8)
  down : Bool
  fuse : Nat
  done : Nat
def Z : List UInt8 := List.replicate 64 0
theorem Z_len : Z.length = 64 := rfl
def nz (S : Int → List UInt8) : Says := fun x => if S x = Z then none else some (S x)
def lastOf (ws : List (Int × List UInt8)) : Says := ws.foldl (fun f p => fun y => if y = p.1 then some p.2 else f y) (fun _ => none)
theorem lastOf_snoc (ws : List (Int × List UInt8)) (p : Int × List UInt8) : lastOf (ws ++ [p]) = fun y => if y = p.1 then some p.2 else lastOf ws y := by simp [lastOf, List.foldl_append]
theorem nz_get (S : Int → List UInt8) (x : Int) : (nz S x).getD Z = S x := by
  unfold nz
  split
  · rename_i h; rw [h]; rfl
  · rfl
/-- The cells of what waits. -/
def chg (p : Int × List UInt8) : List Value := .int .i64 p.1 :: u8s p.2
def chgs (ws : List (Int × List UInt8)) : List Value := ws.flatMap chg
theorem chgs_snoc (ws : List (Int × List UInt8)) (p : Int × List UInt8) : chgs (ws ++ [p]) = chgs ws ++ chg p := by simp [chgs]
/-- What is read of a sector. -/
def Dv.seen (d : Dv) (x : Int) : List UInt8 := (lastOf d.ws x).getD (d.S x)

/-- A device's cells. -/
def devRow (d : Dv) (bs bl : Nat) (v : Value) : Array Value := #[.int .i64 d.n, .map (some bs), v, .map (some bl), .bool d.down, .int .u64 (d.fuse : Int), .int .i64 (d.done : Int)]

/-- It is as it should be. -/
structure Dv.Ok (d : Dv) : Prop where
  n : d.n ≤ 65536
  S : ∀ x, (d.S x).length = 64
  ws : ∀ p ∈ d.ws, p.2.length = 64 ∧ 0 ≤ p.1 ∧ p.1 < d.n
  fuse : d.fuse < 18446744073709551616

structure Dev (w : World) (B g bs bl : Nat) (v : Value) (k : Nat) (d : Dv) : Prop where
  row : w.heap[g]? = some (.cells (devRow d bs bl v) 93 (0, 0))
  safe : MapI Tryz.prog 3 w bs k (nz d.S)
  last : MapI Tryz.prog 3 w bl d.ws.length (lastOf d.ws)
  waits : w.ownsRow B 101 65 v d.ws.length (chgs d.ws)
  gs : g ≠ bs
  gl : g ≠ bl
  sl : bs ≠ bl
  vg : ∀ k, v.ownBlock = some k → k ≠ g ∧ k ≠ bs ∧ k ≠ bl
  hg : B ≤ g
  hs : B ≤ bs
  hl : B ≤ bl
  ok : d.Ok

section
variable {w w' : World} {B g bs bl k : Nat} {v : Value} {d : Dv}
theorem Dev.c0 (h : Dev w B g bs bl v k d) : w.cell? ⟨g, 0, none⟩ = some (.int .i64 (d.n : Int)) := cell_of_row w g 0 _ _ _ h.row
theorem Dev.c1 (h : Dev w B g bs bl v k d) : w.cell? ⟨g, 1, none⟩ = some (.map (some bs)) := cell_of_row w g 1 _ _ _ h.row
theorem Dev.c2 (h : Dev w B g bs bl v k d) : w.cell? ⟨g, 2, none⟩ = some v := cell_of_row w g 2 _ _ _ h.row
theorem Dev.c3 (h : Dev w B g bs bl v k d) : w.cell? ⟨g, 3, none⟩ = some (.map (some bl)) := cell_of_row w g 3 _ _ _ h.row
theorem Dev.c4 (h : Dev w B g bs bl v k d) : w.cell? ⟨g, 4, none⟩ = some (.bool d.down) := cell_of_row w g 4 _ _ _ h.row
theorem Dev.c5 (h : Dev w B g bs bl v k d) : w.cell? ⟨g, 5, none⟩ = some (.int .u64 (d.fuse : Int)) := cell_of_row w g 5 _ _ _ h.row
theorem Dev.c6 (h : Dev w B g bs bl v k d) : w.cell? ⟨g, 6, none⟩ = some (.int .i64 (d.done : Int)) := cell_of_row w g 6 _ _ _ h.row
theorem Dev.free (h : Dev w B g bs bl v k d) (i : Nat) : w.frozen? ⟨g, i, none⟩ = false := frozen_of_row w g i _ _ h.row
theorem Dev.lt (h : Dev w B g bs bl v k d) : g < w.heap.size := (Array.getElem?_eq_some_iff.1 h.row).1
/-- The blocks that are its own. -/
def Foot (g bs bl : Nat) (v : Value) (i : Nat) : Prop := i = g ∨ i = bs ∨ i = bl ∨ v.ownBlock = some i
theorem Dev.foot_lt (h : Dev w B g bs bl v k d) {i : Nat} (hi : Foot g bs bl v i) : B ≤ i ∧ i < w.heap.size := by
  rcases hi with rfl | rfl | rfl | hi
  · exact ⟨h.hg, h.lt⟩
  · exact ⟨h.hs, h.safe.lt⟩
  · exact ⟨h.hl, h.last.lt⟩
  · exact h.waits.lt i hi
end

/-- All but the blocks of F is as it was. -/
structure Keeps (F : Nat → Prop) (w w' : World) : Prop where
  os : w'.os = w.os
  tape : w'.tape = w.tape
  output : w'.output = w.output
  size : w.heap.size ≤ w'.heap.size
  block : ∀ i, i < w.heap.size → ¬ F i → w'.heap[i]? = w.heap[i]?
section
variable {F F' : Nat → Prop} {w w1 w2 : World}
theorem Keeps.refl (F : Nat → Prop) (w : World) : Keeps F w w := ⟨rfl, rfl, rfl, Nat.le_refl _, fun _ _ _ => rfl⟩
theorem Keeps.trans (h : Keeps F w w1) (k : Keeps F' w1 w2) (hF : ∀ i, F' i → F i ∨ w.heap.size ≤ i) : Keeps F w w2 :=
  ⟨k.os.trans h.os, k.tape.trans h.tape, k.output.trans h.output, Nat.le_trans h.size k.size, fun i hi hn => (k.block i (Nat.lt_of_lt_of_le hi h.size) (fun hf => (hF i hf).elim hn (fun hh => by omega))).trans (h.block i hi hn)⟩
theorem Keeps.grown {row : Option Nat} (h : Keeps F w w1) (hg : w1.grownBy w2 row) (hr : ∀ k, row = some k → F k ∨ w.heap.size ≤ k) : Keeps F w w2 :=
  ⟨hg.os.trans h.os, hg.tape.trans h.tape, hg.output.trans h.output, Nat.le_trans h.size hg.size, fun i hi hn => (hg.block i (Nat.lt_of_lt_of_le hi h.size) (fun e => (hr i e.symm).elim hn (fun hh => by omega))).trans (h.block i hi hn)⟩
theorem Keeps.alloc (h : Keeps F w w1) (o : Obj) : Keeps F w (w1.alloc o) := h.grown (World.grownBy_alloc w1 o none) (fun k e => by cases e)
theorem Keeps.drew (h : Keeps F w w1) : Keeps F w w1.drew := ⟨h.os, h.tape, h.output, h.size, h.block⟩
theorem Keeps.below {B : Nat} (h : Keeps F w w1) (hB : B ≤ w.heap.size) (hF : ∀ i, F i → B ≤ i) : Below B w w1 := ⟨h.os, h.tape, h.output, h.size, fun i hi => h.block i (by omega) (fun hf => by have := hF i hf; omega)⟩
theorem Keeps.of_below (h : Below w.heap.size w w1) : Keeps F w w1 := ⟨h.os, h.tape, h.output, h.size, fun i hi _ => h.block i hi⟩
theorem Keeps.wide (h : Keeps F w w1) (hF : ∀ i, F i → F' i) : Keeps F' w w1 := ⟨h.os, h.tape, h.output, h.size, fun i hi hn => h.block i hi (fun hf => hn (hF i hf))⟩
end

/-- A device whose own blocks are F. -/
def Dvc (w : World) (B g : Nat) (F : Nat → Prop) (d : Dv) : Prop := ∃ bs bl v k, Dev w B g bs bl v k d ∧ k + d.ws.length ≤ d.done ∧ ∀ i, F i ↔ Foot g bs bl v i
/-- What a call makes of it. -/
def Goes (B g : Nat) (F : Nat → Prop) (d' : Dv) (w w' : World) : Prop := ∃ F', Dvc w' B g F' d' ∧ Keeps F w w' ∧ ∀ i, F' i → F i ∨ w.heap.size ≤ i
section
variable {w w' : World} {B g bs bl k : Nat} {v : Value} {d : Dv}
theorem Dev.keeps (h : Dev w B g bs bl v k d) {F : Nat → Prop} (kp : Keeps F w w') (hF : ∀ i, F i → ¬ Foot g bs bl v i) : Dev w' B g bs bl v k d := by
  have eg := kp.block g h.lt (fun hf => hF g hf (.inl rfl))
  have es := kp.block bs h.safe.lt (fun hf => hF bs hf (.inr (.inl rfl)))
  have el := kp.block bl h.last.lt (fun hf => hF bl hf (.inr (.inr (.inl rfl))))
  refine ⟨eg.trans h.row, h.safe.same es, h.last.same el, ?_, h.gs, h.gl, h.sl, h.vg, h.hg, h.hs, h.hl, h.ok⟩
  obtain ⟨hl, h2⟩ := h.waits
  rcases h2 with h2 | ⟨q, cap, cur, hv, hb, hq, r⟩
  · exact ⟨hl, .inl h2⟩
  · refine ⟨hl, .inr ⟨q, cap, cur, hv, hb, (kp.block q (Array.getElem?_eq_some_iff.1 hq).1 (fun hf => hF q hf (.inr (.inr (.inr (by rw [hv]; rfl)))))).trans hq, r⟩⟩
theorem Dvc.keeps {F G : Nat → Prop} (h : Dvc w B g F d) (kp : Keeps G w w') (hF : ∀ i, G i → ¬ F i) : Dvc w' B g F d := by
  obtain ⟨bs, bl, v, k, h1, hk, h2⟩ := h
  exact ⟨bs, bl, v, k, h1.keeps kp (fun i hi hf => hF i hi ((h2 i).2 hf)), hk, h2⟩
theorem Dvc.lt {F : Nat → Prop} (h : Dvc w B g F d) (i : Nat) (hi : F i) : B ≤ i ∧ i < w.heap.size := by
  obtain ⟨bs, bl, v, k, h1, _, h2⟩ := h
  exact h1.foot_lt ((h2 i).1 hi)
theorem Dvc.ok {F : Nat → Prop} (h : Dvc w B g F d) : d.Ok := by obtain ⟨bs, bl, v, k, h1, _⟩ := h; exact h1.ok
/-- Only the device's own row turns. -/
theorem Dev.set {w1 : World} {d1 : Dv} (h : Dev w B g bs bl v k d) (hrow : w1.heap[g]? = some (.cells (devRow d1 bs bl v) 93 (0, 0))) (hg : w.grownBy w1 (some g)) (hS : d1.S = d.S) (hws : d1.ws = d.ws) (ho : d1.Ok) : Dev w1 B g bs bl v k d1 := by
  refine ⟨hrow, ?_, ?_, ?_, h.gs, h.gl, h.sl, h.vg, h.hg, h.hs, h.hl, ho⟩
  · rw [hS]
    exact h.safe.kept hg (fun e => h.gs (Option.some.inj e).symm)
  · rw [hws]
    exact h.last.kept hg (fun e => h.gl (Option.some.inj e).symm)
  · rw [hws]
    refine h.waits.kept hg ?_
    cases hk : v.ownBlock with
    | none => exact .inl rfl
    | some q => exact .inr (fun e => (h.vg q hk).1 (Option.some.inj e))
theorem Dev.goes {w1 : World} {d1 : Dv} (h : Dev w1 B g bs bl v k d1) (hk : k + d1.ws.length ≤ d1.done) {F : Nat → Prop} (hF : ∀ i, F i ↔ Foot g bs bl v i) (kp : Keeps F w w1) : Goes B g F d1 w w1 := ⟨F, ⟨bs, bl, v, k, h, hk, hF⟩, kp, fun _ hi => .inl hi⟩
end

/-! ### calls that only read -/
theorem need_any (n : Int) (w : World) (h0 : 0 ≤ n) (hn : n ≤ 4611686018427387904) : Calls Tryz.prog 122 #[.int .i64 n] w fun e w' => e = .returned (.int .i64 ((n + 63) / 64)) ∧ w = w' := by
  by_cases h1 : n < 1
  · obtain rfl : n = 0 := by omega
    go_enter Tryz.func122, Tryz.ntmps122
    go_wp2
    go_ret
    exact ⟨rfl, rfl⟩
  · have d1 : decide (n < 1) = false := by simpa using h1
    have e : (n + 63) / 64 = (n - 1) / 64 + 1 := by omega
    rw [e]
    have h2 : 1 ≤ n := by omega
    clear e h1 h0
    go_enter Tryz.func122, Tryz.ntmps122
    go_wp2
    go_ret
    exact ⟨rfl, rfl⟩
theorem power_nil (w : World) : Calls Tryz.prog 95 #[.pointer none] w fun e w' => e = .returned (.int .i64 1) ∧ w = w' := by
  go_enter Tryz.func95, Tryz.ntmps95
  go_wp2
  go_ret
  exact ⟨rfl, rfl⟩
def pw (b : Bool) : Int := if b then 50 else 0
theorem power_at (g : Nat) (b : Bool) (w : World) (c4 : w.cell? ⟨g, 4, none⟩ = some (.bool b)) : Calls Tryz.prog 95 #[.pointer (some ⟨g, 0, none⟩)] w fun e w' => e = .returned (.int .i64 (pw b)) ∧ w = w' := by
  cases b
  · go_enter Tryz.func95, Tryz.ntmps95
    go_wp2
    go_ret
    exact ⟨rfl, rfl⟩
  · go_enter Tryz.func95, Tryz.ntmps95
    go_wp2
    go_ret
    exact ⟨rfl, rfl⟩
def withinB (n : Nat) (x m : Int) : Bool := decide (0 ≤ x ∧ 0 ≤ m ∧ x ≤ (n : Int) - m)
theorem within_at (g n : Nat) (x m : Int) (w : World) (c0 : w.cell? ⟨g, 0, none⟩ = some (.int .i64 (n : Int))) (hn : n ≤ 65536) (hm2 : m ≤ 9223372036854775807) : Calls Tryz.prog 104 #[.pointer (some ⟨g, 0, none⟩), .int .i64 x, .int .i64 m] w fun e w' => e = .returned (.bool (withinB n x m)) ∧ w = w' := by
  unfold withinB
  by_cases h0 : 0 ≤ x
  · have d0 : decide (0 ≤ x) = true := by simpa using h0
    by_cases h1 : 0 ≤ m
    · have d1 : decide (0 ≤ m) = true := by simpa using h1
      have hd : decide (0 ≤ x ∧ 0 ≤ m ∧ x ≤ (n : Int) - m) = decide (x ≤ (n : Int) - m) := by simp [h0, h1]
      rw [hd]
      clear hd
      have hni : (n : Int) ≤ 65536 := by omega
      go_enter Tryz.func104, Tryz.ntmps104
      go_wp2
      go_ret
      exact ⟨rfl, rfl⟩
    · have d1 : decide (0 ≤ m) = false := by simpa using h1
      have hd : decide (0 ≤ x ∧ 0 ≤ m ∧ x ≤ (n : Int) - m) = false := by simp [h1]
      rw [hd]
      clear hd h1
      go_enter Tryz.func104, Tryz.ntmps104
      go_wp2
      go_ret
      exact ⟨rfl, rfl⟩
  · have d0 : decide (0 ≤ x) = false := by simpa using h0
    have hd : decide (0 ≤ x ∧ 0 ≤ m ∧ x ≤ (n : Int) - m) = false := by simp [h0]
    rw [hd]
    clear hd h0
    go_enter Tryz.func104, Tryz.ntmps104
    go_wp2
    go_ret
    exact ⟨rfl, rfl⟩
/-- How many bytes of a change are kept. -/
def kept1 (ks : List Int) (i : Nat) : Nat := match ks[i]? with | none => 0 | some k => (min (max k 0) 64).toNat
theorem kept_any (A : Option Addr) (n c i : Nat) (ks : List Int) (w : World) (h : Rd w w.heap.size 1 A n c (ks.map (Value.int .i64))) (_ : i ≤ 1000000) (_ : n ≤ 1000000) : Calls Tryz.prog 44 #[.slice A n c, .int .i64 (i : Int)] w fun e w' => e = .returned (.int .i64 ((kept1 ks i : Nat) : Int)) ∧ w = w' := by
  have hl : ks.length = n := by have := h.len; rwa [List.length_map] at this
  by_cases hlt : i < n
  · obtain ⟨b, o, u, rfl, hbl, hu, hc⟩ := h.at_ hlt
    simp only [List.getElem?_map, Option.map_eq_some_iff] at hu
    obtain ⟨z, hz, rfl⟩ := hu
    have e : ((kept1 ks i : Nat) : Int) = min (max z 0) 64 := by simp only [kept1, hz]; omega
    have e1 : (if (if z < 0 then 0 else z) < 64 then (if z < 0 then 0 else z) else 64) = ((kept1 ks i : Nat) : Int) := by rw [e]; split <;> split <;> omega
    have e2 : (min (64 : Int) (max 0 z)) = ((kept1 ks i : Nat) : Int) := by rw [e]; omega
    have e3 : (min (max z 0) 64) = ((kept1 ks i : Nat) : Int) := e.symm
    generalize ((kept1 ks i : Nat) : Int) = q at *
    have d1 : decide (n ≤ i) = false := by simp; omega
    clear e hz hl
    go_enter Tryz.func44, Tryz.ntmps44
    go_wp2
    go_ret
    exact ⟨by first | rfl | (rw [← e1]; rfl) | (rw [← e3]; congr 2; omega), rfl⟩
  · have e : kept1 ks i = 0 := by unfold kept1; rw [List.getElem?_eq_none (by omega)]
    rw [e]
    have d1 : decide (n ≤ i) = true := by simp; omega
    clear e hl hlt
    go_enter Tryz.func44, Tryz.ntmps44
    go_wp2
    go_ret
    exact ⟨rfl, rfl⟩

end Go.Proofs.YtpalmobmabkadaaGreatDoor

namespace Go.Proofs.YtpalmobmabkadaaGreatDoor
set_option maxRecDepth 20000
open Go.RowKit

section
variable (w : World)
theorem alloc_sec : (Instr.alloc 99 true (.tuple #[])).run Tryz.prog w = .ok (.pointer (some ⟨w.heap.size, 0, none⟩)) (w.alloc (.cells (u8s Z).toArray 99)) := by kernel_rfl
theorem box_sec (s : List UInt8) : (Instr.box 99 (secv s)).run Tryz.prog w = .ok (.pointer (some ⟨w.heap.size, 0, none⟩)) (w.alloc (.cells (u8s s).toArray 99)) := by rfl
theorem build_sec : (Instr.build 99 #[]).run Tryz.prog w = .ok (secv Z) w := by kernel_rfl
theorem zero_sec : (zeroValue 99).run Tryz.prog w = .ok (secv Z) w := by kernel_rfl
theorem size_sec : (Tryz.prog.info? 99).map (·.size) = some 64 := by kernel_rfl
theorem secv_cells (s : List UInt8) : (secv s).cells = (u8s s).toArray := rfl
variable {w}
theorem load_sec {g : Nat} {e : TypeId} {fr : Nat × Nat} {s : List UInt8} (h : w.heap[g]? = some (.cells (u8s s).toArray e fr)) (hs : s.length = 64) : (Instr.loadAt 99 (.pointer (some ⟨g, 0, none⟩))).run Tryz.prog w = .ok (secv s) w := by
  simp only [Instr.loadAt, Instr.sureAddr, Sem.run_bind, Sem.run_pure, Result.andThen_ok]
  exact run_loadVar_row w g e _ _ fr _ h Tryz.underlying99 rfl (by rw [size_sec]; simp [u8s_len, hs])
theorem store_sec {g : Nat} {e : TypeId} {s : List UInt8} {cur : Array Value} (h : w.heap[g]? = some (.cells cur e (0, 0))) (hc : cur.size = 64) (hs : s.length = 64) : (Instr.storeAt 99 (.pointer (some ⟨g, 0, none⟩)) (secv s)).run Tryz.prog w = .ok () (w.setRow g (u8s s).toArray) := by
  have hst := run_storeCells_at Tryz.prog g 0 e (u8s s) 0 cur w h (by rw [u8s_len]; omega) (u8s_one s)
  simp only [Nat.add_zero, Nat.zero_add, List.take_zero, List.nil_append] at hst
  rw [List.drop_of_length_le (by rw [u8s_len, Array.length_toList]; omega), List.append_nil] at hst
  have hz : ∃ i, Tryz.prog.info? 99 = some i ∧ i.size = 64 := by
    have := size_sec
    cases hi : Tryz.prog.info? 99 with
    | none => rw [hi] at this; cases this
    | some i => rw [hi] at this; exact ⟨i, rfl, by simpa using this⟩
  obtain ⟨i, hi, hi64⟩ := hz
  have e1 : (secv s).cells.size = 64 := by rw [secv_cells]; simp [u8s_len, hs]
  have e2 : (secv s).cells.toList = u8s s := by rw [secv_cells]
  simp [Instr.storeAt, Instr.sureAddr, storeVar, sizeOf, typeInfo, hi, hi64, e1, e2, hst, Result.andThen]
theorem store_new (w : World) (s : List UInt8) (hs : s.length = 64) : (Instr.storeAt 99 (.pointer (some ⟨w.heap.size, 0, none⟩)) (secv s)).run Tryz.prog (w.alloc (.cells (u8s Z).toArray 99)) = .ok () (w.alloc (.cells (u8s s).toArray 99)) := by
  rw [store_sec (heap_alloc_new w _) rfl hs, World.setRow_alloc_new]
end

/-- One cell after the other. -/
def eqAll (d : Nat) (e : TypeId) (n : Nat) (xs ys : Array Value) : List Nat → Sem Bool
  | [] => pure true
  | i :: is => do
    let a ← part e xs (i * n)
    let b ← part e ys (i * n)
    let r ← Op.equalIn d e a b
    if (!r) = true then pure false else eqAll d e n xs ys is
section
variable {P : Program}
theorem run_equalIn_arr (d : Nat) (w : World) (t e : TypeId) (n : Nat) (xs ys : Array Value) (ht : P.underlying t = some (.array n e)) (hz : (P.info? e).map (·.size) = some 1) :
    (Op.equalIn (d + 1) t (.agg xs) (.agg ys)).run P w = (eqAll d e 1 xs ys (List.range' 0 n)).run P w := by
  obtain ⟨i, hi, hi1⟩ : ∃ i, P.info? e = some i ∧ i.size = 1 := by
    cases hi : P.info? e with
    | none => rw [hi] at hz; cases hz
    | some i => rw [hi] at hz; exact ⟨i, rfl, by simpa using hz⟩
  have hsz : (sizeOf e).run P w = .ok 1 w := by simp [sizeOf, typeInfo, hi, hi1, Result.andThen]
  simp only [Op.equalIn, Sem.run_bind, run_underlying ht, Result.andThen_ok, hsz]
  simp only [Std.Legacy.Range.forIn_eq_forIn_range', Std.Legacy.Range.size, Nat.sub_zero, Nat.add_sub_cancel, Nat.div_one]
  generalize List.range' 0 n 1 = is
  clear hsz
  induction is generalizing w with
  | nil => simp [eqAll]
  | cons i is ih =>
    simp only [List.forIn_cons, eqAll, Sem.run_bind, Sem.run_ite]
    generalize (part e xs (i * 1)).run P w = r1
    cases r1 with
    | ok a w1 =>
      simp only [Result.andThen_ok]
      generalize (part e ys (i * 1)).run P w1 = r2
      cases r2 with
      | ok b w2 =>
        simp only [Result.andThen_ok]
        generalize (Op.equalIn d e a b).run P w2 = r3
        cases r3 with
        | ok r w3 =>
          cases r
          · simp only [Result.andThen_ok, Bool.not_false, if_true, Sem.run_pure]
          · simp only [Result.andThen_ok, Bool.not_true, Bool.false_eq_true, if_false, Sem.run_pure]
            exact ih w3
        | halt x w3 => simp [Result.andThen]
      | halt x w2 => simp [Result.andThen]
    | halt x w1 => simp [Result.andThen]
theorem run_eqAll (d : Nat) (e : TypeId) (he : P.underlying e = some (.int .u8)) (s u : List UInt8) (hsu : s.length = u.length) (w : World) : ∀ (m k : Nat), k + m = s.length → s.take k = u.take k →
    (eqAll (d + 1) e 1 (u8s s).toArray (u8s u).toArray (List.range' k m)).run P w = .ok (decide (s = u)) w := by
  have hpart : ∀ (l : List UInt8) (k : Nat) (x : UInt8), l[k]? = some x → (part e (u8s l).toArray (k * 1)).run P w = .ok (u8 x) w := by
    intro l k x hk
    have ha : (isAgg e).run P w = .ok false w := by unfold isAgg; rw [Sem.run_bind, run_underlying he w]; rfl
    have hg : (u8s l)[k]? = some (u8 x) := by simp [u8s, hk]
    simp [part, Sem.run_bind, ha, hg, Result.andThen]
  intro m
  induction m with
  | zero =>
    intro k hk ht
    have : s = u := by rwa [List.take_of_length_le (by omega), List.take_of_length_le (by omega)] at ht
    simp [eqAll, this]
  | succ m ih =>
    intro k hk ht
    have h1 : k < s.length := by omega
    have h2 : k < u.length := by omega
    rw [List.range'_succ]
    simp only [eqAll, Sem.run_bind, hpart s k s[k] (List.getElem?_eq_getElem h1), hpart u k u[k] (List.getElem?_eq_getElem h2), Result.andThen_ok, u8]
    rw [run_equalIn_int w d e .u8 .u8 _ _ he]
    by_cases hx : s[k] = u[k]
    · simp only [hx, beq_self_eq_true, Result.andThen_ok, Bool.not_true, Bool.false_eq_true, if_false]
      exact ih (k + 1) (by omega) (by rw [List.take_succ_eq_append_getElem h1, List.take_succ_eq_append_getElem h2, ht, hx])
    · have hne : ((s[k].toNat : Int) == (u[k].toNat : Int)) = false := by
        simp only [beq_eq_false_iff_ne, ne_eq]
        intro e
        exact hx (UInt8.toNat_inj.1 (by exact_mod_cast e))
      have hsn : s ≠ u := fun e => hx (by subst e; rfl)
      simp [hne, hsn, Result.andThen]
end
theorem eql_sec (s u : List UInt8) (hs : s.length = 64) (hu : u.length = 64) (w : World) : (binOp .eql 99 (secv s) (secv u)).run Tryz.prog w = .ok (.bool (decide (s = u))) w := by
  unfold secv
  rw [run_eql_struct, run_equalIn_arr 9999 w 99 5 64 _ _ Tryz.underlying99 (by kernel_rfl), run_eqAll 9998 5 Tryz.underlying5 s u (by omega) w 64 0 (by omega) rfl]
  rfl
theorem guard_sec (s u : List UInt8) (x y : Operand) (w : World) : (eqGuard .eql 99 x y (secv s) (secv u)).run Tryz.prog w = .ok () w := run_eqGuard_agg w _ _ _ _ _ _ (by kernel_rfl)

section
variable {w : World} {ops : Array Oper} {rest : List Oper} {o : Oper} {a : Act} {Q : Exit → Act → World → Prop}
/-- A sector is laid into a box. -/
theorem wpL_box (hgd : o.guard = none) (x : Operand) (ho : o.op = .box 99 x) {s : List UInt8} (hx : a.eval x = secv s)
    (h : ∀ (W : World) (b : Nat), Hid (b = w.heap.size) → W.heap[b]? = some (.cells (u8s s).toArray 99 (0, 0)) → w.grownBy W none → Hid (W.heap.size = b + 1) → wpList Tryz.prog ops Q rest (a.put o.dst (.pointer (some ⟨b, 0, none⟩))) W) : wpList Tryz.prog ops Q (o :: rest) a w := by
  refine wpList_plain hgd fun K hK => ?_
  have hr := box_sec w s
  unfold Oper.wp
  simp [execOp, ho, hx, hr, Result.andThen]
  exact hK _ _ (h _ _ (Lib.hid rfl) (heap_alloc_new w _) (World.grownBy_alloc _ _ _) (Lib.hid (by simp)))
/-- A new sector of noughts. -/
theorem wpL_new (hgd : o.guard = none) (ho : o.op = .alloc 99)
    (h : ∀ (W : World) (b : Nat), Hid (b = w.heap.size) → W.heap[b]? = some (.cells (u8s Z).toArray 99 (0, 0)) → w.grownBy W none → Hid (W.heap.size = b + 1) → wpList Tryz.prog ops Q rest (a.put o.dst (.pointer (some ⟨b, 0, none⟩))) W) : wpList Tryz.prog ops Q (o :: rest) a w := by
  refine wpList_plain hgd fun K hK => ?_
  have hr := alloc_sec w
  unfold Oper.wp
  simp [execOp, ho, hr, Result.andThen]
  exact hK _ _ (h _ _ (Lib.hid rfl) (heap_alloc_new w _) (World.grownBy_alloc _ _ _) (Lib.hid (by simp)))
/-- A sector is taken out of its block. -/
theorem wpL_load (hgd : o.guard = none) (x : Operand) (ho : o.op = .load 99 x) {g : Nat} {e : TypeId} {fr : Nat × Nat} {s : List UInt8} (hx : a.eval x = .pointer (some ⟨g, 0, none⟩)) (hr : w.heap[g]? = some (.cells (u8s s).toArray e fr)) (hs : s.length = 64)
    (h : wpList Tryz.prog ops Q rest (a.put o.dst (secv s)) w) : wpList Tryz.prog ops Q (o :: rest) a w := by
  refine wpList_plain hgd fun K hK => ?_
  have hrun := load_sec hr hs
  unfold Oper.wp
  simp [execOp, ho, hx, hrun, Result.andThen]
  exact hK _ _ h
/-- A sector is laid into its block. -/
theorem wpL_store (hgd : o.guard = none) (x y : Operand) (ho : o.op = .store 99 x y) {g : Nat} {e : TypeId} {s : List UInt8} {cur : Array Value} (hx : a.eval x = .pointer (some ⟨g, 0, none⟩)) (hy : a.eval y = secv s) (hr : w.heap[g]? = some (.cells cur e (0, 0))) (hc : cur.size = 64) (hs : s.length = 64)
    (h : ∀ W : World, W.heap[g]? = some (.cells (u8s s).toArray e (0, 0)) → w.grownBy W (some g) → Hid (W.heap.size = w.heap.size) → wpList Tryz.prog ops Q rest (a.put o.dst undef) W) : wpList Tryz.prog ops Q (o :: rest) a w := by
  refine wpList_plain hgd fun K hK => ?_
  have hrun := store_sec hr hc hs
  unfold Oper.wp
  simp [execOp, ho, hx, hy, hrun, Result.andThen]
  exact hK _ _ (h _ (setRow_heap w g cur _ e _ hr) ⟨rfl, rfl, rfl, by simp, fun k _ hk => setRow_other w g k _ (fun e => hk (by rw [e]))⟩ (Lib.hid (by simp)))
/-- The sector of noughts. -/
theorem wpL_zero (hgd : o.guard = none) (ho : o.op = .build 99 #[]) (h : wpList Tryz.prog ops Q rest (a.put o.dst (secv Z)) w) : wpList Tryz.prog ops Q (o :: rest) a w := by
  refine wpList_plain hgd fun K hK => ?_
  have hrun := build_sec w
  unfold Oper.wp
  simp only [execOp, ho, List.map_toArray, List.map_nil, Sem.run_bind, hrun, Result.andThen_ok, Sem.run_pure]
  exact hK _ _ h
/-- Whether two sectors are the same. -/
theorem wpL_eql (hgd : o.guard = none) (x y : Operand) (t : TypeId) (ho : o.op = .binOp .eql 99 x y t) {s u : List UInt8} (hx : a.eval x = secv s) (hy : a.eval y = secv u) (hs : s.length = 64) (hu : u.length = 64) (b : Bool) (hb : b = decide (s = u))
    (h : wpList Tryz.prog ops Q rest (a.put o.dst (.bool b)) w) : wpList Tryz.prog ops Q (o :: rest) a w := by
  refine wpList_plain hgd fun K hK => ?_
  have h1 := eql_sec s u hs hu w
  have h2 := guard_sec s u x y w
  rw [← hb] at h1
  unfold Oper.wp
  simp only [execOp, ho, hx, hy, Sem.run_bind, h1, h2, Result.andThen_ok, Sem.run_pure]
  exact hK _ _ h
end

end Go.Proofs.YtpalmobmabkadaaGreatDoor
