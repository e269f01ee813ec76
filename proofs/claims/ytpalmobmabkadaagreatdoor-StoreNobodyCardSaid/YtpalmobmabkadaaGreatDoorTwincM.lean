/- Calls of a device as arguments of a law, read as data. The reference device in memory, and its calls that only look. The reference device: what is put. The reference device: what is flushed. The reference device: the power comes again. The reference device: what is read. The reference device: what is written. A twin: the better one of two places. -/
import Derived.Test.YtpalmobmabkadaaGreatDoorSegsZM
import Derived.Deep.Fields
import Derived.ChangeSame
import Derived.Test.YtpalmobmabkadaaGreatDoorDevmZM
import Derived.Test.YtpalmobmabkadaaGreatDoorFrefZM
import Derived.LoopN
namespace Go.Proofs.YtpalmobmabkadaaGreatDoor
set_option maxRecDepth 20000
open Go.ChangeShapes Go.WideShapes Go.ChangeAt Go.RowKit
open Go.Deep (oneCellFields open_slice hone_of)

section
variable {H : Type} {enc : TypeId × Value → H} {P : Program} {W : World} {r : Reach} {b0 : Nat} {t e : TypeId} {v : Value} {d : DataW H} {p : List MemPlace}

/-- One cell that reads as a slice of numbers. -/
theorem cell_nums {k : IntKind} {fuel : Nat} {y : DataW H × List MemPlace} (ht : P.underlying t = some (.slice e)) (he : P.underlying e = some (.int k)) (hc : P.cellsOf e = 1) (h : DataW.trod enc P W 0 (fun _ => true) true fuel t [v] = some y) :
    ∃ (A : Option Addr) (n c : Nat) (zs : List Int), v = .slice A n c ∧ Rd W W.heap.size 1 A n c (zs.map (Value.int k)) ∧ ∀ z ∈ zs, (Lit.int k z).wf = true := by
  rcases open_ints ht he hc h with ⟨hcs, _⟩ | ⟨x, l, c', zs, hcs, _, hl, hm, hz, _, hcell, hwz⟩
  · cases hcs
    exact ⟨_, _, _, [], rfl, Rd.nil_, fun _ hx => by cases hx⟩
  · cases hcs
    simp only [if_true] at hz
    refine ⟨_, _, _, zs.take l, rfl, ⟨hl, hm, by simp; omega, fun hn => ?_⟩, fun z hx => hwz z (List.mem_of_mem_take hx)⟩
    obtain ⟨b, off, spot⟩ := x
    have hc0 := hcell 0 (by omega)
    have hspot : spot = none := by simpa [Addr.add] using World.cell?_spot hc0
    subst hspot
    refine ⟨b, off, rfl, ?_, fun j u hu => ?_⟩
    · have := World.block_lt_of_cell? W _ hc0
      simpa [addOff] using this
    · have hj : j < (zs.take l).length := by
        have := (List.getElem?_eq_some_iff.1 hu).1
        simpa using this
      have hj' : j < l ∧ j < zs.length := by rw [List.length_take] at hj; omega
      rw [← addOff, hcell j hj'.2]
      simp only [List.getElem?_map, List.getElem?_take, if_pos hj'.1, List.getElem?_eq_getElem hj'.2, Option.map_some, Option.some.injEq] at hu
      subst hu
      simp [List.getD, hj'.2]
theorem cell_bytes {fuel : Nat} {y : DataW H × List MemPlace} (ht : P.underlying t = some (.slice e)) (he : P.underlying e = some (.int .u8)) (hc : P.cellsOf e = 1) (h : DataW.trod enc P W 0 (fun _ => true) true fuel t [v] = some y) :
    ∃ (A : Option Addr) (n c : Nat) (l : List UInt8), v = .slice A n c ∧ Rd W W.heap.size 1 A n c (u8s l) := by
  obtain ⟨A, n, c, zs, rfl, hr, hw⟩ := cell_nums ht he hc h
  refine ⟨A, n, c, zs.map (fun z => UInt8.ofNat z.toNat), rfl, ?_⟩
  have : u8s (zs.map (fun z => UInt8.ofNat z.toNat)) = zs.map (Value.int .u8) := by
    simp only [u8s, List.map_map]
    refine List.map_congr_left fun z hz => ?_
    have h1 := hw z hz
    simp only [Lit.wf] at h1
    simp only [Function.comp, u8, UInt8.toNat_ofNat']
    refine congrArg _ ?_
    simp [IntKind.min, IntKind.max, IntKind.signed, IntKind.bits] at h1
    omega
  rw [this]
  exact hr

/-- What a call of a device is, as data. -/
structure Opd where
  kind : Int
  at_ : Int
  n : Int
  A : Option Addr
  bn : Nat
  bc : Nat
  b : List UInt8
  A2 : Option Addr
  kn : Nat
  kc : Nat
  keep : List Int
def Opd.cells (o : Opd) : Array Value := #[.int .i64 o.kind, .int .i64 o.at_, .int .i64 o.n, .slice o.A o.bn o.bc, .slice o.A2 o.kn o.kc]
/-- It reads so in a world. -/
def Opd.Reads (o : Opd) (W : World) : Prop := Rd W W.heap.size 1 o.A o.bn o.bc (u8s o.b) ∧ Rd W W.heap.size 1 o.A2 o.kn o.kc (o.keep.map (Value.int .i64)) ∧ (Lit.int .i64 o.kind).wf = true ∧ (Lit.int .i64 o.at_).wf = true ∧ (Lit.int .i64 o.n).wf = true ∧ ∀ z ∈ o.keep, (Lit.int .i64 z).wf = true

/-- Five cells that read as a call. -/
theorem op_of_cells {f0 f1 f2 f3 f4 : Field} {e1 e2 : TypeId} {n : Nat} {v0 v1 v2 v3 v4 : Value} {y0 y1 y2 y3 y4 : DataW H × List MemPlace} (h0 : P.underlying f0.type = some (.int .i64)) (h1 : P.underlying f1.type = some (.int .i64)) (h2 : P.underlying f2.type = some (.int .i64))
    (h3 : P.underlying f3.type = some (.slice e1)) (he1 : P.underlying e1 = some (.int .u8)) (hc1 : P.cellsOf e1 = 1) (h4 : P.underlying f4.type = some (.slice e2)) (he2 : P.underlying e2 = some (.int .i64)) (hc2 : P.cellsOf e2 = 1)
    (g0 : DataW.trod enc P W 0 (fun _ => true) true n f0.type [v0] = some y0) (g1 : DataW.trod enc P W 0 (fun _ => true) true n f1.type [v1] = some y1) (g2 : DataW.trod enc P W 0 (fun _ => true) true n f2.type [v2] = some y2)
    (g3 : DataW.trod enc P W 0 (fun _ => true) true n f3.type [v3] = some y3) (g4 : DataW.trod enc P W 0 (fun _ => true) true n f4.type [v4] = some y4) : ∃ o : Opd, #[v0, v1, v2, v3, v4] = o.cells ∧ o.Reads W := by
  obtain ⟨a, ha, _, hwa⟩ := DataW.trod_int h0 g0
  obtain ⟨b, hb, _, hwb⟩ := DataW.trod_int h1 g1
  obtain ⟨c, hc, _, hwc⟩ := DataW.trod_int h2 g2
  cases ha
  cases hb
  cases hc
  obtain ⟨A, bn, bc, l, rfl, hl⟩ := cell_bytes h3 he1 hc1 g3
  obtain ⟨A2, kn, kc, ks, rfl, hk, hwk⟩ := cell_nums h4 he2 hc2 g4
  exact ⟨⟨a, b, c, A, bn, bc, l, A2, kn, kc, ks⟩, rfl, hl, hk, hwa, hwb, hwc, hwk⟩

theorem dec_op {f0 f1 f2 f3 f4 : Field} {e1 e2 : TypeId} (hs : P.underlying t = some (.struct #[f0, f1, f2, f3, f4])) (hone : oneCellFields P #[f0, f1, f2, f3, f4] = true) (hC : P.cellsOf t = 5)
    (h0 : P.underlying f0.type = some (.int .i64)) (h1 : P.underlying f1.type = some (.int .i64)) (h2 : P.underlying f2.type = some (.int .i64))
    (h3 : P.underlying f3.type = some (.slice e1)) (he1 : P.underlying e1 = some (.int .u8)) (hc1 : P.cellsOf e1 = 1) (h4 : P.underlying f4.type = some (.slice e2)) (he2 : P.underlying e2 = some (.int .i64)) (hc2 : P.cellsOf e2 = 1)
    (hok : Value.okWide P W r b0 t v) (h : DataW.Trod enc P W 0 (fun _ => true) true t v d p) : ∃ o : Opd, v = .agg o.cells ∧ o.Reads W := by
  obtain ⟨cs, rfl, hsz⟩ := okWide_struct hs hok
  have hsz5 := hsz.trans hC
  obtain ⟨l⟩ := cs
  obtain ⟨fuel, hf⟩ := h
  obtain ⟨ys, n, _, _, _, hyl, hg⟩ := DataW.trod_struct hs hf
  match l, hsz5 with
  | [c0, c1, c2, c3, c4], _ =>
    match ys, hyl with
    | [y0, y1, y2, y3, y4], _ =>
      have g0 := hg 0 f0 rfl
      have g1 := hg 1 f1 rfl
      have g2 := hg 2 f2 rfl
      have g3 := hg 3 f3 rfl
      have g4 := hg 4 f4 rfl
      obtain ⟨o0, k0⟩ := hone_of hone 0 f0 rfl
      obtain ⟨o1, k1⟩ := hone_of hone 1 f1 rfl
      obtain ⟨o2, k2⟩ := hone_of hone 2 f2 rfl
      obtain ⟨o3, k3⟩ := hone_of hone 3 f3 rfl
      obtain ⟨o4, k4⟩ := hone_of hone 4 f4 rfl
      rw [o0, k0] at g0
      rw [o1, k1] at g1
      rw [o2, k2] at g2
      rw [o3, k3] at g3
      rw [o4, k4] at g4
      obtain ⟨o, ho, hr⟩ := op_of_cells h0 h1 h2 h3 he1 hc1 h4 he2 hc2 (v0 := c0) (v1 := c1) (v2 := c2) (v3 := c3) (v4 := c4) g0 g1 g2 g3 g4
      exact ⟨o, by rw [← ho], hr⟩
end

end Go.Proofs.YtpalmobmabkadaaGreatDoor

namespace Go.Proofs.YtpalmobmabkadaaGreatDoor
set_option maxRecDepth 20000
open Go.RowKit

/-- What a reference device is. -/
structure Rv where
  n : Nat
  safe : List (Int × List UInt8)
  loose : List (Int × List UInt8)
  down : Bool
  fuse : Int
  done : Nat
def rch (p : Int × List UInt8) : List Value := [.int .i64 p.1, .string (str p.2)]
def rchs (l : List (Int × List UInt8)) : List Value := l.flatMap rch
theorem rchs_snoc (l : List (Int × List UInt8)) (p : Int × List UInt8) : rchs (l ++ [p]) = rchs l ++ rch p := by simp [rchs]
theorem rchs_len (l : List (Int × List UInt8)) : (rchs l).length = l.length * 2 := by
  induction l with
  | nil => rfl
  | cons p l ih => simp only [rchs, List.flatMap_cons, List.length_append, List.length_cons] at ih ⊢; simp only [rch, List.length_cons, List.length_nil]; omega
theorem rchs_get (l : List (Int × List UInt8)) (i : Nat) (p : Int × List UInt8) (hi : l[i]? = some p) : (rchs l)[2 * i]? = some (.int .i64 p.1) ∧ (rchs l)[2 * i + 1]? = some (.string (str p.2)) := by
  induction l generalizing i with
  | nil => simp at hi
  | cons q l ih =>
    have e : rchs (q :: l) = .int .i64 q.1 :: .string (str q.2) :: rchs l := rfl
    rw [e]
    cases i with
    | zero =>
      simp only [List.getElem?_cons_zero, Option.some.injEq] at hi
      subst hi
      exact ⟨rfl, rfl⟩
    | succ i =>
      rw [show 2 * (i + 1) = (2 * i + 1) + 1 from by omega]
      simp only [List.getElem?_cons_succ] at hi ⊢
      exact ih i hi
theorem rchs_one (l : List (Int × List UInt8)) : ∀ u ∈ rchs l, u.oneCell' = true := by
  intro u hu
  simp only [rchs, List.mem_flatMap, rch, List.mem_cons, List.not_mem_nil, or_false] at hu
  obtain ⟨p, _, rfl | rfl⟩ := hu
  · rfl
  · rfl
def rrow (r : Rv) (vs vl : Value) : Array Value := #[.int .i64 r.n, vs, vl, .bool r.down, .int .i64 r.fuse, .int .i64 r.done]
structure Rv.Ok (r : Rv) : Prop where
  n : r.n ≤ 65536
  safe : ∀ p ∈ r.safe, p.2.length = 64
  loose : ∀ p ∈ r.loose, p.2.length = 64
  fuse : -1 ≤ r.fuse ∧ r.fuse ≤ 9223372036854775807
section
variable {w w' : World} {B q : Nat} {vs vl : Value} {r : Rv}
/-- The blocks that are its own. -/
def Rfoot (q : Nat) (vs vl : Value) (i : Nat) : Prop := i = q ∨ vs.ownBlock = some i ∨ vl.ownBlock = some i
theorem ownsRow_kp {F : Nat → Prop} {base sz n : Nat} {e : TypeId} {v : Value} {xs : List Value} (h : w.ownsRow base e sz v n xs) (kp : Keeps F w w') (hF : ∀ i, v.ownBlock = some i → ¬ F i) : w'.ownsRow base e sz v n xs := by
  obtain ⟨hl, h2⟩ := h
  rcases h2 with h2 | ⟨q, cap, cur, hv, hb, hq, r⟩
  · exact ⟨hl, .inl h2⟩
  · exact ⟨hl, .inr ⟨q, cap, cur, hv, hb, (kp.block q (Array.getElem?_eq_some_iff.1 hq).1 (hF q (by rw [hv]; rfl))).trans hq, r⟩⟩
/-- A row of one's own as a slice that reads. -/
theorem owns_slice {base n : Nat} {e : TypeId} {v : Value} {l : List (Int × List UInt8)} (h : w.ownsRow base e 2 v n (rchs l)) : ∃ A c, v = .slice A n c ∧ Rd w w.heap.size 2 A n c (rchs l) := by
  obtain ⟨hl, h2⟩ := h
  rcases h2 with ⟨rfl, rfl⟩ | ⟨g, cap, cur, rfl, hb, hg, hc, hm, hcs, htake⟩
  · refine ⟨none, 0, rfl, Nat.le_refl _, Nat.zero_le _, hl, fun h => absurd h (by omega)⟩
  · refine ⟨some ⟨g, 0, none⟩, cap, rfl, hc, hm, hl, fun _ => ⟨g, 0, rfl, (Array.getElem?_eq_some_iff.1 hg).1, fun j u hu => ?_⟩⟩
    have := World.ownsRow.cells (w := w) (base := base) (e := e) (size := 2) (v := .slice (some ⟨g, 0, none⟩) n cap) (n := n) ⟨hl, .inr ⟨g, cap, cur, rfl, hb, hg, hc, hm, hcs, htake⟩⟩ (g := g) rfl j u hu
    rwa [addOff] at this
end

/-! ### calls that only look -/
def rfound (l : List (Int × List UInt8)) (x : Int) : Value := .tuple #[.string (str ((lastOf l x).getD [])), .bool (lastOf l x).isSome]
theorem lastOf_take (l : List (Int × List UInt8)) (x : Int) (m : Nat) (p : Int × List UInt8) (h : l[m]? = some p) : lastOf (l.take (m + 1)) x = if x = p.1 then some p.2 else lastOf (l.take m) x := by
  obtain ⟨hl, rfl⟩ := List.getElem?_eq_some_iff.1 h
  rw [List.take_succ_eq_append_getElem hl, lastOf_snoc]
/-- What is safe of a sector; what is read of it. -/
def Rv.safeOf (r : Rv) (x : Int) : List UInt8 := (lastOf r.safe x).getD Z
def Rv.sector (r : Rv) (x : Int) : List UInt8 := (lastOf r.loose x).getD (r.safeOf x)
theorem lastOf_mem_ : ∀ (l : List (Int × List UInt8)) (f : Says) (x : Int) (s : List UInt8), l.foldl (fun f p => fun y => if y = p.1 then some p.2 else f y) f x = some s → (∃ p ∈ l, p.2 = s) ∨ f x = some s := by
  intro l
  induction l with
  | nil => intro f x s h; exact .inr h
  | cons p l ih =>
    intro f x s h
    rcases ih _ x s h with ⟨q, hq, e⟩ | h1
    · exact .inl ⟨q, List.mem_cons_of_mem _ hq, e⟩
    · by_cases hx : x = p.1
      · simp only [if_pos hx, Option.some.injEq] at h1
        exact .inl ⟨p, List.mem_cons_self, h1⟩
      · simp only [if_neg hx] at h1
        exact .inr h1
theorem lastOf_mem (l : List (Int × List UInt8)) (x : Int) (s : List UInt8) (h : lastOf l x = some s) : ∃ p ∈ l, p.2 = s := by
  rcases lastOf_mem_ l _ x s h with h | h
  · exact h
  · cases h
theorem Rv.safeOf_len {r : Rv} (h : r.Ok) (x : Int) : (r.safeOf x).length = 64 := by
  unfold Rv.safeOf
  cases hl : lastOf r.safe x with
  | none => rfl
  | some s =>
    obtain ⟨p, hp, e⟩ := lastOf_mem _ _ _ hl
    rw [Option.getD_some, ← e]
    exact h.safe p hp
theorem Rv.sector_len {r : Rv} (h : r.Ok) (x : Int) : (r.sector x).length = 64 := by
  unfold Rv.sector
  cases hl : lastOf r.loose x with
  | none => exact Rv.safeOf_len h x
  | some s =>
    obtain ⟨p, hp, e⟩ := lastOf_mem _ _ _ hl
    rw [Option.getD_some, ← e]
    exact h.loose p hp
def Rv.blow (r : Rv) : Rv := { r with done := r.done + 1, down := r.down || decide (r.fuse = 0), fuse := if 0 ≤ r.fuse then r.fuse - 1 else r.fuse }
theorem Rv.Ok.blow {r : Rv} (h : r.Ok) : r.blow.Ok := ⟨h.n, h.safe, h.loose, by have := h.fuse; show -1 ≤ (if 0 ≤ r.fuse then r.fuse - 1 else r.fuse) ∧ (if 0 ≤ r.fuse then r.fuse - 1 else r.fuse) ≤ _; split <;> omega⟩
def Rv.new (n : Nat) : Rv := ⟨n, [], [], false, -1, 0⟩
end Go.Proofs.YtpalmobmabkadaaGreatDoor

namespace Go.Proofs.YtpalmobmabkadaaGreatDoor
set_option maxRecDepth 20000
open Go.RowKit

theorem rd_rch {w : World} {g : Nat} {e : TypeId} {p : Int × List UInt8} (h : w.heap[g]? = some (.cells #[.int .i64 p.1, .string (str p.2)] e (0, 0))) : Rd w w.heap.size 2 (some ⟨g, 0, none⟩) 1 1 (rch p) :=
  ⟨Nat.le_refl _, by unfold maxLen; omega, rfl, fun _ => ⟨g, 0, rfl, (Array.getElem?_eq_some_iff.1 h).1, fun j u hu => by
    rw [cell_of_row w g (0 + j) _ e (0, 0) h, Nat.zero_add]
    simpa [rch] using hu⟩⟩
theorem rch_one (p : Int × List UInt8) : ∀ u ∈ rch p, u.oneCell' = true := by
  have := rchs_one [p]
  simpa [rchs] using this
def Rv.kept (r : Rv) (x : Int) : List (Int × List UInt8) := r.safe.filter (fun p => decide (p.1 ≠ x))
def Rv.put (r : Rv) (x : Int) (s : List UInt8) : Rv := { r with safe := r.kept x ++ [(x, s)] }
theorem Rv.kept_le (r : Rv) (x : Int) : (r.kept x).length ≤ r.safe.length := List.length_filter_le _ _
theorem Rv.Ok.put {r : Rv} (h : r.Ok) (x : Int) (s : List UInt8) (hs : s.length = 64) : (r.put x s).Ok := ⟨h.n, (fun p hp => by
  rcases List.mem_append.1 hp with hp | hp
  · exact h.safe p (List.mem_filter.1 hp).1
  · obtain rfl := List.mem_singleton.1 hp; exact hs), h.loose, h.fuse⟩
def keepTo (l : List (Int × List UInt8)) (x : Int) (m : Nat) : List (Int × List UInt8) := (l.take m).filter (fun p => decide (p.1 ≠ x))
theorem keepTo_step (l : List (Int × List UInt8)) (x : Int) (m : Nat) (p : Int × List UInt8) (h : l[m]? = some p) : keepTo l x (m + 1) = if p.1 = x then keepTo l x m else keepTo l x m ++ [p] := by
  obtain ⟨hl, rfl⟩ := List.getElem?_eq_some_iff.1 h
  unfold keepTo
  rw [List.take_succ_eq_append_getElem hl, List.filter_append]
  by_cases hx : (l[m]).1 = x <;> simp [hx]
theorem keepTo_le (l : List (Int × List UInt8)) (x : Int) (m : Nat) : (keepTo l x m).length ≤ l.length := Nat.le_trans (List.length_filter_le _ _) (by rw [List.length_take]; omega)

end Go.Proofs.YtpalmobmabkadaaGreatDoor

namespace Go.Proofs.YtpalmobmabkadaaGreatDoor
set_option maxRecDepth 20000
open Go.RowKit

def Rv.puts (r : Rv) (l : List (Int × List UInt8)) : Rv := l.foldl (fun r p => r.put p.1 p.2) r
theorem Rv.puts_snoc (r : Rv) (l : List (Int × List UInt8)) (p : Int × List UInt8) : r.puts (l ++ [p]) = (r.puts l).put p.1 p.2 := by simp [Rv.puts, List.foldl_append]
theorem Rv.puts_step (r : Rv) (l : List (Int × List UInt8)) (m : Nat) (p : Int × List UInt8) (h : l[m]? = some p) : r.puts (l.take (m + 1)) = (r.puts (l.take m)).put p.1 p.2 := by
  obtain ⟨hl, rfl⟩ := List.getElem?_eq_some_iff.1 h
  rw [List.take_succ_eq_append_getElem hl, Rv.puts_snoc]
theorem Rv.puts_rest (l : List (Int × List UInt8)) : ∀ (r : Rv), (r.puts l).loose = r.loose ∧ (r.puts l).n = r.n ∧ (r.puts l).down = r.down ∧ (r.puts l).fuse = r.fuse ∧ (r.puts l).done = r.done ∧ (r.puts l).safe.length ≤ r.safe.length + l.length := by
  induction l with
  | nil => intro r; exact ⟨rfl, rfl, rfl, rfl, rfl, Nat.le_refl _⟩
  | cons p l ih =>
    intro r
    obtain ⟨h1, h2, h3, h4, h5, h6⟩ := ih (r.put p.1 p.2)
    refine ⟨h1, h2, h3, h4, h5, Nat.le_trans h6 ?_⟩
    have := r.kept_le p.1
    simp only [Rv.put, List.length_append, List.length_cons, List.length_nil]
    omega
def Rv.emptied (r : Rv) : Rv := { r with loose := [] }
theorem Rv.Ok.emptied {r : Rv} (h : r.Ok) : r.emptied.Ok := ⟨h.n, h.safe, (fun p hp => by cases hp), h.fuse⟩
def Rv.flush (r : Rv) : Rv × Int := if r.down = true then (r, 50) else if r.blow.down = true then (r.blow, 50) else ((r.blow.puts r.loose).emptied, 0)
theorem Keeps.drew0 {F : Nat → Prop} {w w' : World} (h : Keeps F w.drew w') : Keeps F w w' := ⟨h.os, h.tape, h.output, h.size, h.block⟩
end Go.Proofs.YtpalmobmabkadaaGreatDoor

namespace Go.Proofs.YtpalmobmabkadaaGreatDoor
set_option maxRecDepth 20000
open Go.RowKit

def Rv.crash1 (r : Rv) (ks : List Int) : Nat → Rv
  | 0 => r
  | i + 1 => match r.loose[i]? with
    | none => r.crash1 ks i
    | some p => (r.crash1 ks i).put p.1 (p.2.take (kept1 ks i) ++ ((r.crash1 ks i).safeOf p.1).drop (kept1 ks i))
def Rv.crash (r : Rv) (ks : List Int) : Rv := { r.crash1 ks r.loose.length with loose := [], down := false, fuse := -1 }
theorem Rv.crash1_rest (r : Rv) (ks : List Int) (i : Nat) : (r.crash1 ks i).loose = r.loose ∧ (r.crash1 ks i).n = r.n ∧ (r.crash1 ks i).done = r.done ∧ (r.crash1 ks i).safe.length ≤ r.safe.length + i := by
  induction i with
  | zero => exact ⟨rfl, rfl, rfl, Nat.le_refl _⟩
  | succ i ih =>
    obtain ⟨h1, h2, h3, h4⟩ := ih
    rw [Rv.crash1]
    split
    · exact ⟨h1, h2, h3, by omega⟩
    · rename_i p hp
      refine ⟨h1, h2, h3, ?_⟩
      have := (r.crash1 ks i).kept_le p.1
      simp only [Rv.put, List.length_append, List.length_cons, List.length_nil]
      omega

theorem str_cat (a b : List UInt8) : str a ++ str b = str (a ++ b) := by
  apply ByteArray.ext
  simp [str]
end Go.Proofs.YtpalmobmabkadaaGreatDoor

namespace Go.Proofs.YtpalmobmabkadaaGreatDoor
set_option maxRecDepth 20000
open Go.RowKit

theorem byteCells_strr (l : List UInt8) : byteCells (str l) = u8s l := rfl
def Rv.bytes (r : Rv) (x : Int) : Nat → List UInt8
  | 0 => []
  | m + 1 => r.bytes x m ++ r.sector (x + m)
end Go.Proofs.YtpalmobmabkadaaGreatDoor

namespace Go.Proofs.YtpalmobmabkadaaGreatDoor
set_option maxRecDepth 20000
open Go.RowKit

/-- Bytes of a string in memory of their own. -/
theorem wpL_bytes {P : Program} {w : World} {ops : Array Oper} {rest : List Oper} {o : Oper} {a : Act} {Q : Exit → Act → World → Prop} (hgd : o.guard = none) (x : Operand) (tx t : TypeId) (ho : o.op = .convert tx t x)
    {e : TypeId} (hs : P.underlying tx = some .string) (ht : P.underlying t = some (.slice e)) (he : P.underlying e = some (.int .u8)) {l : List UInt8} (hx : a.eval x = .string (str l)) (hlm : l.length ≤ maxLen)
    (h : ∀ (W : World) (b cap S : Nat) (R : List Value), Hid (b = w.heap.size) → W.heap[b]? = some (.cells (u8s l ++ R).toArray e (S, S + 1)) → Hid (l.length ≤ S) → Hid (l.length ≤ cap ∧ cap ≤ maxLen) → Below w.heap.size w W → Hid (W.heap.size = b + 1) → wpList P ops Q rest (a.put o.dst (.slice (some ⟨b, 0, none⟩) l.length cap)) W) : wpList P ops Q (o :: rest) a w := by
  have hrun := run_bytes_of_string w tx t e (str l) hs ht he
  have hge := grownCap_ge w (str l).size 0 e
  have hle := grownCap_le_maxLen w (str l).size 0 e hlm
  have hrow : bytesRow (str l) (grownCap w (str l).size 0 e) = (u8s l ++ List.replicate (grownCap w (str l).size 0 e - (str l).size) (Value.int .u8 0)).toArray := by
    unfold bytesRow
    apply Array.ext'
    simp only [str, u8s, Array.toList_append, Array.toList_map, Array.toList_replicate]
    rfl
  have hge2 : l.length ≤ grownCap w (str l).size 0 e := hge
  have hsz : l.length ≤ (bytesRow (str l) (grownCap w (str l).size 0 e)).size := by rw [hrow]; simp [u8s_len]
  refine wpList_plain hgd fun K hK => ?_
  unfold Oper.wp
  simp only [execOp, ho, hx, Sem.run_bind, hrun, Result.andThen_ok, Sem.run_pure]
  refine hK _ _ (h _ w.heap.size (grownCap w (str l).size 0 e) (bytesRow (str l) (grownCap w (str l).size 0 e)).size (List.replicate (grownCap w (str l).size 0 e - (str l).size) (Value.int .u8 0)) (Lib.hid rfl) ?_ (Lib.hid hsz) (Lib.hid ⟨hge, hle⟩) ?_ (Lib.hid (by simp)))
  · exact (heap_alloc_new w.drew _).trans (congrArg (fun z => some (Obj.cells z e ((bytesRow (str l) (grownCap w (str l).size 0 e)).size, (bytesRow (str l) (grownCap w (str l).size 0 e)).size + 1))) hrow)
  · exact undrew ((Below.refl w.drew.heap.size w.drew).alloc (Nat.le_refl _) _)
theorem frozen_row {w : World} {g j S : Nat} {cs : Array Value} {t : TypeId} (hg : w.heap[g]? = some (.cells cs t (S, S + 1))) (hj : j < S) : w.frozen? ⟨g, j, none⟩ = false := by
  simp [World.frozen?, hg]
  omega
theorem setCell_row {w : World} {g i : Nat} {cs : Array Value} {t : TypeId} {fr : Nat × Nat} {v : Value} (hg : w.heap[g]? = some (.cells cs t fr)) : (w.setCell ⟨g, i, none⟩ v).heap[g]? = some (.cells (cs.setIfInBounds i v) t fr) := by
  rw [setCell_eq_setRow w g i cs t fr v hg]
  exact setRow_heap w g cs _ t _ hg

/-- So many bytes of a part stand in a row of noughts. -/
def part (s : List UInt8) (k : Nat) : List UInt8 := s.take k ++ Z.drop k
theorem part_len (s : List UInt8) (k : Nat) (hk : k ≤ s.length) (h : s.length ≤ 64) : (part s k).length = 64 := by unfold part; rw [List.length_append, List.length_take, List.length_drop, Z_len]; omega
theorem part_zero (s : List UInt8) : part s 0 = Z := by unfold part; simp
theorem part_end (s : List UInt8) : part s s.length = pad s := by unfold part pad; rw [List.take_of_length_le (Nat.le_refl _)]
theorem part_step (s : List UInt8) (k : Nat) (u : UInt8) (hu : s[k]? = some u) (h : s.length ≤ 64) : (u8s (part s k)).set k (u8 u) = u8s (part s (k + 1)) := by
  obtain ⟨hk, rfl⟩ := List.getElem?_eq_some_iff.1 hu
  have e : part s k = s.take k ++ Z[k]'(by rw [Z_len]; omega) :: Z.drop (k + 1) := by
    unfold part
    rw [← List.drop_eq_getElem_cons]
  have e2 : part s (k + 1) = s.take k ++ s[k] :: Z.drop (k + 1) := by
    unfold part
    rw [List.take_succ_eq_append_getElem hk, List.append_assoc]
    rfl
  have hl : (u8s (s.take k)).length = k := by rw [u8s_len, List.length_take]; omega
  rw [e, e2, u8s_app, u8s_app]
  show (u8s (s.take k) ++ u8 _ :: u8s (Z.drop (k + 1))).set k (u8 s[k]) = u8s (s.take k) ++ u8 s[k] :: u8s (Z.drop (k + 1))
  rw [List.set_append_right _ _ (by omega), hl, Nat.sub_self]
  rfl

def Rv.chg (r : Rv) (p : Int × List UInt8) : Rv := { r with loose := r.loose ++ [p] }
theorem Rv.Ok.chg {r : Rv} (h : r.Ok) (p : Int × List UInt8) (hp : p.2.length = 64) : (r.chg p).Ok := ⟨h.n, h.safe, (fun q hq => by
  rcases List.mem_append.1 hq with hq | hq
  · exact h.loose q hq
  · obtain rfl := List.mem_singleton.1 hq; exact hp), h.fuse⟩
section
variable {P : Program} {ops : Array Oper} {C : World → Prop} {K : Act → Prop} {o : Oper} {rest : List Oper} {a : Act}
theorem wpQ_conv (hgd : o.guard = none) (t tx : TypeId) (x : Operand) (ho : o.op = .convert t tx x) {p v : Value} (hx : a.eval x = p) (hrun : ∀ w, C w → (convert t tx p).run P w = .ok v w) (h : wpQuiet P ops C K rest (a.put o.dst v)) : wpQuiet P ops C K (o :: rest) a :=
  wpQ_val hgd v (fun w hw => by simp [execOp, ho, hx, hrun w hw, Result.andThen]) h
end
def Rv.write (r : Rv) (x : Int) (l : List UInt8) : Nat → Rv × Int
  | 0 => (r, 0)
  | k + 1 => if (r.write x l k).2 ≠ 0 then r.write x l k else (((r.write x l k).1.chg (x + k, pad (sct l k))).blow, pw ((r.write x l k).1.chg (x + k, pad (sct l k))).blow.down)
theorem Rv.write_stays (d : Rv) (x : Int) (l : List UInt8) (j k : Nat) (h : j ≤ k) (he : (d.write x l j).2 ≠ 0) : d.write x l k = d.write x l j := by
  induction k with
  | zero => obtain rfl : j = 0 := by omega
            rfl
  | succ k ih =>
    rcases Nat.lt_or_ge j (k + 1) with h1 | h1
    · have := ih (by omega)
      rw [Rv.write, if_pos (by rw [this]; exact he), this]
    · obtain rfl : j = k + 1 := by omega
      rfl
theorem Rv.write_rest (r : Rv) (x : Int) (l : List UInt8) (j : Nat) : (r.write x l j).1.done ≤ r.done + j ∧ (r.write x l j).1.loose.length ≤ r.loose.length + j ∧ (r.write x l j).1.n = r.n ∧ (r.write x l j).1.safe = r.safe := by
  induction j with
  | zero => exact ⟨Nat.le_refl _, Nat.le_refl _, rfl, rfl⟩
  | succ j ih =>
    obtain ⟨h1, h2, h3, h4⟩ := ih
    rw [Rv.write]
    split
    · exact ⟨by omega, by omega, h3, h4⟩
    · refine ⟨?_, ?_, h3, h4⟩
      · show (r.write x l j).1.done + 1 ≤ _
        omega
      · show ((r.write x l j).1.loose ++ [_]).length ≤ _
        rw [List.length_append, List.length_singleton]
        omega

end Go.Proofs.YtpalmobmabkadaaGreatDoor

namespace Go.Proofs.YtpalmobmabkadaaGreatDoor
set_option maxRecDepth 20000
open Go.RowKit

/-- What is better of two that are held. -/
def bestOf (n0 : Nat) (t0 : List UInt8) (n1 : Nat) (t1 : List UInt8) : Int × Nat × List UInt8 := if n0 < n1 then (1, n1, t1) else if 0 < n0 then (0, n0, t0) else (0, 0, [])
/-- How the search stands: the best one so far, and the two rows of the call. -/
structure Lk2 (w W : World) (b : Nat) (n0 : Nat) (t0 : List UInt8) (n1 : Nat) (t1 : List UInt8) (x : Int) (y : Nat) (z : List UInt8) : Prop where
  hb : Below w.heap.size w W
  size : w.heap.size + 2 ≤ W.heap.size
  r0 : W.heap[w.heap.size]? = some (.cells #[.int .i64 0, .int .u64 0, .string { data := #[] }] 126 (0, 0))
  r1 : W.heap[w.heap.size + 1]? = some (.cells #[.int .i64 x, .int .u64 (y : Int), .string (str z)] 126 (0, 0))
  rb : W.heap[b]? = some (.cells #[.int .i64 0, .int .u64 (n0 : Int), .string (str t0), .int .i64 1, .int .u64 (n1 : Int), .string (str t1)] 126 (0, 0))
section
variable {w W : World} {b : Nat} {n0 : Nat} {t0 : List UInt8} {n1 : Nat} {t1 : List UInt8} {x : Int} {y : Nat} {z : List UInt8}
theorem Lk2.facts (h : Lk2 w W b n0 t0 n1 t1 x y z) : W.cell? ⟨b, 0, none⟩ = some (.int .i64 0) ∧ W.cell? ⟨b, 1, none⟩ = some (.int .u64 (n0 : Int)) ∧ W.cell? ⟨b, 2, none⟩ = some (.string (str t0)) ∧ W.cell? ⟨b, 3, none⟩ = some (.int .i64 1) ∧ W.cell? ⟨b, 4, none⟩ = some (.int .u64 (n1 : Int)) ∧ W.cell? ⟨b, 5, none⟩ = some (.string (str t1))
    ∧ W.cell? ⟨w.heap.size + 1, 0, none⟩ = some (.int .i64 x) ∧ W.cell? ⟨w.heap.size + 1, 1, none⟩ = some (.int .u64 (y : Int)) ∧ W.cell? ⟨w.heap.size + 1, 2, none⟩ = some (.string (str z))
    ∧ W.frozen? ⟨w.heap.size + 1, 0, none⟩ = false ∧ W.frozen? ⟨w.heap.size + 1, 1, none⟩ = false ∧ W.frozen? ⟨w.heap.size + 1, 2, none⟩ = false
    ∧ W.cell? ⟨w.heap.size, 0, none⟩ = some (.int .i64 0) ∧ W.cell? ⟨w.heap.size, 1, none⟩ = some (.int .u64 0) ∧ W.cell? ⟨w.heap.size, 2, none⟩ = some (.string { data := #[] })
    ∧ W.frozen? ⟨w.heap.size, 0, none⟩ = false ∧ W.frozen? ⟨w.heap.size, 1, none⟩ = false ∧ W.frozen? ⟨w.heap.size, 2, none⟩ = false :=
  ⟨cell_of_row W b 0 _ _ _ h.rb, cell_of_row W b 1 _ _ _ h.rb, cell_of_row W b 2 _ _ _ h.rb, cell_of_row W b 3 _ _ _ h.rb, cell_of_row W b 4 _ _ _ h.rb, cell_of_row W b 5 _ _ _ h.rb,
   cell_of_row W _ 0 _ _ _ h.r1, cell_of_row W _ 1 _ _ _ h.r1, cell_of_row W _ 2 _ _ _ h.r1, frozen_of_row W _ 0 _ _ h.r1, frozen_of_row W _ 1 _ _ h.r1, frozen_of_row W _ 2 _ _ h.r1,
   cell_of_row W _ 0 _ _ _ h.r0, cell_of_row W _ 1 _ _ _ h.r0, cell_of_row W _ 2 _ _ _ h.r0, frozen_of_row W _ 0 _ _ h.r0, frozen_of_row W _ 1 _ _ h.r0, frozen_of_row W _ 2 _ _ h.r0⟩
theorem Lk2.set (h : Lk2 w W b n0 t0 n1 t1 x y z) (hb : b < w.heap.size) (x' : Int) (y' : Nat) (z' : List UInt8) : Lk2 w (((W.setCell ⟨w.heap.size + 1, 0, none⟩ (.int .i64 x')).setCell ⟨w.heap.size + 1, 1, none⟩ (.int .u64 (y' : Int))).setCell ⟨w.heap.size + 1, 2, none⟩ (.string (str z'))).drew b n0 t0 n1 t1 x' y' z' := by
  have hk := (((Below.refl (w.heap.size + 1) W).setCell (p := ⟨w.heap.size + 1, 0, none⟩) (Nat.le_refl _) (.int .i64 x')).setCell (p := ⟨w.heap.size + 1, 1, none⟩) (Nat.le_refl _) (.int .u64 (y' : Int))).setCell (p := ⟨w.heap.size + 1, 2, none⟩) (Nat.le_refl _) (.string (str z'))
  refine ⟨(h.hb.trans (hk.mono (by omega))).drew, Nat.le_trans h.size hk.size, (hk.block _ (by omega)).trans h.r0, ?_, (hk.block _ (by omega)).trans h.rb⟩
  have r := setCell_row (i := 2) (v := .string (str z')) (setCell_row (i := 1) (v := .int .u64 (y' : Int)) (setCell_row (i := 0) (v := .int .i64 x') h.r1))
  simp at r
  exact r
theorem Lk2.drew (h : Lk2 w W b n0 t0 n1 t1 x y z) : Lk2 w W.drew b n0 t0 n1 t1 x y z := ⟨h.hb.drew, h.size, h.r0, h.r1, h.rb⟩
end
set_option maxHeartbeats 1000000 in
theorem better_any (n0 : Nat) (t0 : List UInt8) (n1 : Nat) (t1 : List UInt8) (b c : Nat) (w : World) (_ : 2 ≤ c) (_ : c ≤ maxLen) (h : w.heap[b]? = some (.cells #[.int .i64 0, .int .u64 (n0 : Int), .string (str t0), .int .i64 1, .int .u64 (n1 : Int), .string (str t1)] 126 (0, 0))) :
    Calls Tryz.prog 69 #[.slice (some ⟨b, 0, none⟩) 2 c] w fun e w' => e = .returned (.agg #[.int .i64 (bestOf n0 t0 n1 t1).1, .int .u64 ((bestOf n0 t0 n1 t1).2.1 : Int), .string (str (bestOf n0 t0 n1 t1).2.2)]) ∧ Below w.heap.size w w' := by
  obtain ⟨W, hW⟩ : ∃ W, W = (w.alloc (.cells #[.int .i64 0, .int .u64 0, .string { data := #[] }] 126)).alloc (.cells #[.int .i64 0, .int .u64 0, .string { data := #[] }] 126) := ⟨_, rfl⟩
  have hbl : Below w.heap.size w W := by rw [hW]; exact ((Below.refl _ _).alloc (Nat.le_refl _) _).alloc (by simp) _
  have hL : Lk2 w W b n0 t0 n1 t1 0 0 [] := by
    refine ⟨hbl, by rw [hW]; simp, ?_, ?_, (hbl.block b (Array.getElem?_eq_some_iff.1 h).1).trans h⟩
    · rw [hW]; exact (heap_alloc_old (w.alloc _) _ (by simp)).trans (heap_alloc_new w _)
    · rw [hW]; exact row_here (w.alloc _) _ (by simp)
  have HBL := Lib.hid (Array.getElem?_eq_some_iff.1 h).1
  have HLW := Lib.hid hL
  have HW := Lib.hid hW
  obtain ⟨k0, k1, k2, k3, k4, k5, d0, d1, d2, z0, z1, z2, o0, o1, o2, y0, y1, y2⟩ := hL.facts
  clear hbl hL hW h
  by_cases h0 : 0 < n0
  · by_cases h1 : n0 < n1
    · have e : bestOf n0 t0 n1 t1 = (1, n1, t1) := by unfold bestOf; rw [if_pos h1]
      rw [e]
      clear e
      go_enter Tryz.func69, Tryz.ntmps69
      go_wp2
      refine wp_scope_rounds 5 ?_
      go_wp2
      rw [← HW.out]
      go_step3
      go_wp2
      refine wp_loop_rounds 3 ?_
      rw [rounds_succ]
      go_wp2
      go_big_region
      go_wp2
      go_step3
      try simp only [go_sem]
      refine ⟨_, rfl, ?_⟩
      go_wp2
      have HLV := Lib.hid (HLW.out.set HBL.out 0 n0 t0)
      clear k0 k1 k2 k3 k4 k5 d0 d1 d2 z0 z1 z2 o0 o1 o2 y0 y1 y2
      generalize (((World.setCell _ _ _).setCell _ _).setCell _ _).drew = V at HLV ⊢
      obtain ⟨k0, k1, k2, k3, k4, k5, d0, d1, d2, z0, z1, z2, o0, o1, o2, y0, y1, y2⟩ := HLV.out.facts
      go_step3
      try simp only [go_sem]
      refine ⟨_, rfl, ?_⟩
      go_wp2
      refine wp_loop_rounds 3 ?_
      rw [rounds_succ]
      go_wp2
      go_big_region
      go_wp2
      rw [rounds_succ]
      go_wp2
      go_big_region
      go_wp2
      go_step3
      try simp only [go_sem]
      refine ⟨_, rfl, ?_⟩
      go_wp2
      have HLU := Lib.hid (HLV.out.set HBL.out 1 n1 t1)
      clear k0 k1 k2 k3 k4 k5 d0 d1 d2 z0 z1 z2 o0 o1 o2 y0 y1 y2
      generalize (((World.setCell _ _ _).setCell _ _).setCell _ _).drew = U at HLU ⊢
      obtain ⟨k0, k1, k2, k3, k4, k5, d0, d1, d2, z0, z1, z2, o0, o1, o2, y0, y1, y2⟩ := HLU.out.facts
      go_step3
      try simp only [go_sem]
      refine ⟨_, rfl, ?_⟩
      go_wp2
      refine wp_loop_rounds 3 ?_
      rw [rounds_succ]
      go_wp2
      go_big_region
      go_wp2
      rw [rounds_succ]
      go_wp2
      rw [lands_ret]
      refine bodyPost_ret (v := .agg #[.int .i64 1, .int .u64 ((n1 : Nat) : Int), .string (str t1)]) (by simp [results, Tryz.results69, go_sem, o0, o1, o2]) rfl ⟨rfl, ?_⟩
      first
        | exact (((HLU.out.hb.setCell (by simp) _).setCell (by simp) _).setCell (by simp) _).drew.drew
        | exact (((HLU.out.hb.setCell (by simp) _).setCell (by simp) _).setCell (by simp) _).drew.drew.drew
        | exact (((HLU.out.hb.setCell (by simp) _).setCell (by simp) _).setCell (by simp) _).drew
    · have e : bestOf n0 t0 n1 t1 = (0, n0, t0) := by unfold bestOf; rw [if_neg h1, if_pos h0]
      rw [e]
      clear e
      go_enter Tryz.func69, Tryz.ntmps69
      go_wp2
      refine wp_scope_rounds 5 ?_
      go_wp2
      rw [← HW.out]
      go_step3
      go_wp2
      refine wp_loop_rounds 3 ?_
      rw [rounds_succ]
      go_wp2
      go_big_region
      go_wp2
      go_step3
      try simp only [go_sem]
      refine ⟨_, rfl, ?_⟩
      go_wp2
      have HLV := Lib.hid (HLW.out.set HBL.out 0 n0 t0)
      clear k0 k1 k2 k3 k4 k5 d0 d1 d2 z0 z1 z2 o0 o1 o2 y0 y1 y2
      generalize (((World.setCell _ _ _).setCell _ _).setCell _ _).drew = V at HLV ⊢
      obtain ⟨k0, k1, k2, k3, k4, k5, d0, d1, d2, z0, z1, z2, o0, o1, o2, y0, y1, y2⟩ := HLV.out.facts
      go_step3
      try simp only [go_sem]
      refine ⟨_, rfl, ?_⟩
      go_wp2
      refine wp_loop_rounds 3 ?_
      rw [rounds_succ]
      go_wp2
      go_big_region
      go_wp2
      rw [rounds_succ]
      go_wp2
      go_big_region
      go_wp2
      rw [rounds_succ]
      go_wp2
      rw [lands_ret]
      refine bodyPost_ret (v := .agg #[.int .i64 0, .int .u64 ((n0 : Nat) : Int), .string (str t0)]) (by simp [results, Tryz.results69, go_sem, o0, o1, o2]) rfl ⟨rfl, ?_⟩
      first
        | exact (((HLV.out.hb.setCell (by simp) _).setCell (by simp) _).setCell (by simp) _).drew.drew
        | exact (((HLV.out.hb.setCell (by simp) _).setCell (by simp) _).setCell (by simp) _).drew.drew.drew
        | exact (((HLV.out.hb.setCell (by simp) _).setCell (by simp) _).setCell (by simp) _).drew
  · by_cases h1 : 0 < n1
    · have e : bestOf n0 t0 n1 t1 = (1, n1, t1) := by unfold bestOf; rw [if_pos (by omega)]
      rw [e]
      clear e
      go_enter Tryz.func69, Tryz.ntmps69
      go_wp2
      refine wp_scope_rounds 5 ?_
      go_wp2
      rw [← HW.out]
      go_step3
      go_wp2
      refine wp_loop_rounds 3 ?_
      rw [rounds_succ]
      go_wp2
      go_big_region
      go_wp2
      rw [rounds_succ]
      go_wp2
      go_big_region
      go_wp2
      go_step3
      try simp only [go_sem]
      refine ⟨_, rfl, ?_⟩
      go_wp2
      have HLV := Lib.hid (HLW.out.set HBL.out 1 n1 t1)
      clear k0 k1 k2 k3 k4 k5 d0 d1 d2 z0 z1 z2 o0 o1 o2 y0 y1 y2
      generalize (((World.setCell _ _ _).setCell _ _).setCell _ _).drew = V at HLV ⊢
      obtain ⟨k0, k1, k2, k3, k4, k5, d0, d1, d2, z0, z1, z2, o0, o1, o2, y0, y1, y2⟩ := HLV.out.facts
      go_step3
      try simp only [go_sem]
      refine ⟨_, rfl, ?_⟩
      go_wp2
      refine wp_loop_rounds 3 ?_
      rw [rounds_succ]
      go_wp2
      go_big_region
      go_wp2
      rw [rounds_succ]
      go_wp2
      rw [lands_ret]
      refine bodyPost_ret (v := .agg #[.int .i64 1, .int .u64 ((n1 : Nat) : Int), .string (str t1)]) (by simp [results, Tryz.results69, go_sem, o0, o1, o2]) rfl ⟨rfl, ?_⟩
      first
        | exact (((HLV.out.hb.setCell (by simp) _).setCell (by simp) _).setCell (by simp) _).drew.drew
        | exact (((HLV.out.hb.setCell (by simp) _).setCell (by simp) _).setCell (by simp) _).drew.drew.drew
        | exact (((HLV.out.hb.setCell (by simp) _).setCell (by simp) _).setCell (by simp) _).drew
    · have e : bestOf n0 t0 n1 t1 = (0, 0, []) := by unfold bestOf; rw [if_neg (by omega), if_neg h0]
      rw [e]
      clear e
      go_enter Tryz.func69, Tryz.ntmps69
      go_wp2
      refine wp_scope_rounds 5 ?_
      go_wp2
      rw [← HW.out]
      go_step3
      go_wp2
      refine wp_loop_rounds 3 ?_
      rw [rounds_succ]
      go_wp2
      go_big_region
      go_wp2
      rw [rounds_succ]
      go_wp2
      go_big_region
      go_wp2
      rw [rounds_succ]
      go_wp2
      rw [lands_ret]
      refine bodyPost_ret (v := .agg #[.int .i64 0, .int .u64 ((0 : Nat) : Int), .string (str [])]) (by simp [results, Tryz.results69, go_sem, o0, o1, o2]) rfl ⟨rfl, ?_⟩
      first
        | exact (((HLW.out.hb.setCell (by simp) _).setCell (by simp) _).setCell (by simp) _).drew.drew
        | exact (((HLW.out.hb.setCell (by simp) _).setCell (by simp) _).setCell (by simp) _).drew.drew.drew
        | exact (((HLW.out.hb.setCell (by simp) _).setCell (by simp) _).setCell (by simp) _).drew

end Go.Proofs.YtpalmobmabkadaaGreatDoor
