/- Calls of a device as arguments of a law, read as data. The reference device in memory, and its calls that only look. The reference device: what is put. -/
import Derived.Test.YtddnjlnhnnpgiaaSegsZ
import Derived.Deep.Fields
import Derived.ChangeSame
import Derived.Test.YtddnjlnhnnpgiaaDevmZ
namespace Go.Proofs.Ytddnjlnhnnpgiaa
set_option maxRecDepth 20000
open Go.ChangeShapes Go.WideShapes Go.ChangeAt Go.RowKit
open Go.Deep (oneCellFields open_slice hone_of)

section
variable {H : Type} {enc : TypeId × Value → H} {P : Program} {W : World} {r : Reach} {b0 : Nat} {t e : TypeId} {v : Value} {d : DataW H} {p : List MemPlace}

/-- One cell that reads as a slice of numbers. -/
theorem cell_nums {k : IntKind} {fuel : Nat} {y : DataW H × List MemPlace} (ht : P.underlying t = some (.slice e)) (he : P.underlying e = some (.int k)) (hc : P.cellsOf e = 1) (h : DataW.trod enc P W 0 (fun _ => true) true fuel t [v] = some y) :
    ∃ (A : Option Addr) (n c : Nat) (zs : List Int), v = .slice A n c ∧ Rd W W.heap.size 1 A n c (zs.map (Value.int k)) ∧ ∀ z ∈ zs, (Lit.int k z).wf = true := by
  rcases open_ints ht he hc h with ⟨hcs, _⟩ | ⟨x, l, c', zs, hcs, _, hl, hm, hz, _, hcell, hwz⟩
  · cases hcs
    exact ⟨_, _, _, [], rfl, Rd.nil_, fun _ hx => by cases hx⟩
  · cases hcs
    simp only [if_true] at hz
    refine ⟨_, _, _, zs.take l, rfl, ⟨hl, hm, by simp; omega, fun hn => ?_⟩, fun z hx => hwz z (List.mem_of_mem_take hx)⟩
    obtain ⟨b, off, spot⟩ := x
    have hc0 := hcell 0 (by omega)
    have hspot : spot = none := by simpa [Addr.add] using World.cell?_spot hc0
    subst hspot
    refine ⟨b, off, rfl, ?_, fun j u hu => ?_⟩
    · have := World.block_lt_of_cell? W _ hc0
      simpa [addOff] using this
    · have hj : j < (zs.take l).length := by
        have := (List.getElem?_eq_some_iff.1 hu).1
        simpa using this
      have hj' : j < l ∧ j < zs.length := by rw [List.length_take] at hj; omega
      rw [← addOff, hcell j hj'.2]
      simp only [List.getElem?_map, List.getElem?_take, if_pos hj'.1, List.getElem?_eq_getElem hj'.2, Option.map_some, Option.some.injEq] at hu
      subst hu
      simp [List.getD, hj'.2]
theorem cell_bytes {fuel : Nat} {y : DataW H × List MemPlace} (ht : P.underlying t = some (.slice e)) (he : P.underlying e = some (.int .u8)) (hc : P.cellsOf e = 1) (h : DataW.trod enc P W 0 (fun _ => true) true fuel t [v] = some y) :
    ∃ (A : Option Addr) (n c : Nat) (l : List UInt8), v = .slice A n c ∧ Rd W W.heap.size 1 A n c (u8s l) := by
  obtain ⟨A, n, c, zs, rfl, hr, hw⟩ := cell_nums ht he hc h
  refine ⟨A, n, c, zs.map (fun z => UInt8.ofNat z.toNat), rfl, ?_⟩
  have : u8s (zs.map (fun z => UInt8.ofNat z.toNat)) = zs.map (Value.int .u8) := by
    simp only [u8s, List.map_map]
    refine List.map_congr_left fun z hz => ?_
    have h1 := hw z hz
    simp only [Lit.wf] at h1
    simp only [Function.comp, u8, UInt8.toNat_ofNat']
    refine congrArg _ ?_
    simp [IntKind.min, IntKind.max, IntKind.signed, IntKind.bits] at h1
    omega
  rw [this]
  exact hr

/-- What a call of a device is, as data. -/
structure Opd where
  kind : Int
  at_ : Int
  n : Int
  A : Option Addr
  bn : Nat
  bc : Nat
  b : List UInt8
  A2 : Option Addr
  kn : Nat
  kc : Nat
  keep : List Int
def Opd.cells (o : Opd) : Array Value := #[.int .i64 o.kind, .int .i64 o.at_, .int .i64 o.n, .slice o.A o.bn o.bc, .slice o.A2 o.kn o.kc]
/-- It reads so in a world. -/
def Opd.Reads (o : Opd) (W : World) : Prop := Rd W W.heap.size 1 o.A o.bn o.bc (u8s o.b) ∧ Rd W W.heap.size 1 o.A2 o.kn o.kc (o.keep.map (Value.int .i64)) ∧ (Lit.int .i64 o.kind).wf = true ∧ (Lit.int .i64 o.at_).wf = true ∧ (Lit.int .i64 o.n).wf = true ∧ ∀ z ∈ o.keep, (Lit.int .i64 z).wf = true

/-- Five cells that read as a call. -/
theorem op_of_cells {f0 f1 f2 f3 f4 : Field} {e1 e2 : TypeId} {n : Nat} {v0 v1 v2 v3 v4 : Value} {y0 y1 y2 y3 y4 : DataW H × List MemPlace} (h0 : P.underlying f0.type = some (.int .i64)) (h1 : P.underlying f1.type = some (.int .i64)) (h2 : P.underlying f2.type = some (.int .i64))
    (h3 : P.underlying f3.type = some (.slice e1)) (he1 : P.underlying e1 = some (.int .u8)) (hc1 : P.cellsOf e1 = 1) (h4 : P.underlying f4.type = some (.slice e2)) (he2 : P.underlying e2 = some (.int .i64)) (hc2 : P.cellsOf e2 = 1)
    (g0 : DataW.trod enc P W 0 (fun _ => true) true n f0.type [v0] = some y0) (g1 : DataW.trod enc P W 0 (fun _ => true) true n f1.type [v1] = some y1) (g2 : DataW.trod enc P W 0 (fun _ => true) true n f2.type [v2] = some y2)
    (g3 : DataW.trod enc P W 0 (fun _ => true) true n f3.type [v3] = some y3) (g4 : DataW.trod enc P W 0 (fun _ => true) true n f4.type [v4] = some y4) : ∃ o : Opd, #[v0, v1, v2, v3, v4] = o.cells ∧ o.Reads W := by
  obtain ⟨a, ha, _, hwa⟩ := DataW.trod_int h0 g0
  obtain ⟨b, hb, _, hwb⟩ := DataW.trod_int h1 g1
  obtain ⟨c, hc, _, hwc⟩ := DataW.trod_int h2 g2
  cases ha
  cases hb
  cases hc
  obtain ⟨A, bn, bc, l, rfl, hl⟩ := cell_bytes h3 he1 hc1 g3
  obtain ⟨A2, kn, kc, ks, rfl, hk, hwk⟩ := cell_nums h4 he2 hc2 g4
  exact ⟨⟨a, b, c, A, bn, bc, l, A2, kn, kc, ks⟩, rfl, hl, hk, hwa, hwb, hwc, hwk⟩

theorem dec_op {f0 f1 f2 f3 f4 : Field} {e1 e2 : TypeId} (hs : P.underlying t = some (.struct #[f0, f1, f2, f3, f4])) (hone : oneCellFields P #[f0, f1, f2, f3, f4] = true) (hC : P.cellsOf t = 5)
    (h0 : P.underlying f0.type = some (.int .i64)) (h1 : P.underlying f1.type = some (.int .i64)) (h2 : P.underlying f2.type = some (.int .i64))
    (h3 : P.underlying f3.type = some (.slice e1)) (he1 : P.underlying e1 = some (.int .u8)) (hc1 : P.cellsOf e1 = 1) (h4 : P.underlying f4.type = some (.slice e2)) (he2 : P.underlying e2 = some (.int .i64)) (hc2 : P.cellsOf e2 = 1)
    (hok : Value.okWide P W r b0 t v) (h : DataW.Trod enc P W 0 (fun _ => true) true t v d p) : ∃ o : Opd, v = .agg o.cells ∧ o.Reads W := by
  obtain ⟨cs, rfl, hsz⟩ := okWide_struct hs hok
  have hsz5 := hsz.trans hC
  obtain ⟨l⟩ := cs
  obtain ⟨fuel, hf⟩ := h
  obtain ⟨ys, n, _, _, _, hyl, hg⟩ := DataW.trod_struct hs hf
  match l, hsz5 with
  | [c0, c1, c2, c3, c4], _ =>
    match ys, hyl with
    | [y0, y1, y2, y3, y4], _ =>
      have g0 := hg 0 f0 rfl
      have g1 := hg 1 f1 rfl
      have g2 := hg 2 f2 rfl
      have g3 := hg 3 f3 rfl
      have g4 := hg 4 f4 rfl
      obtain ⟨o0, k0⟩ := hone_of hone 0 f0 rfl
      obtain ⟨o1, k1⟩ := hone_of hone 1 f1 rfl
      obtain ⟨o2, k2⟩ := hone_of hone 2 f2 rfl
      obtain ⟨o3, k3⟩ := hone_of hone 3 f3 rfl
      obtain ⟨o4, k4⟩ := hone_of hone 4 f4 rfl
      rw [o0, k0] at g0
      rw [o1, k1] at g1
      rw [o2, k2] at g2
      rw [o3, k3] at g3
      rw [o4, k4] at g4
      obtain ⟨o, ho, hr⟩ := op_of_cells h0 h1 h2 h3 he1 hc1 h4 he2 hc2 (v0 := c0) (v1 := c1) (v2 := c2) (v3 := c3) (v4 := c4) g0 g1 g2 g3 g4
      exact ⟨o, by rw [← ho], hr⟩
end

end Go.Proofs.Ytddnjlnhnnpgiaa

namespace Go.Proofs.Ytddnjlnhnnpgiaa
set_option maxRecDepth 20000
open Go.RowKit

/-- What a reference device is. -/
structure Rv where
  n : Nat
  safe : List (Int × List UInt8)
  loose : List (Int × List UInt8)
  down : Bool
  fuse : Int
  done : Nat
def rch (p : Int × List UInt8) : List Value := [.int .i64 p.1, .string (str p.2)]
def rchs (l : List (Int × List UInt8)) : List Value := l.flatMap rch
theorem rchs_snoc (l : List (Int × List UInt8)) (p : Int × List UInt8) : rchs (l ++ [p]) = rchs l ++ rch p := by simp [rchs]
theorem rchs_len (l : List (Int × List UInt8)) : (rchs l).length = l.length * 2 := by
  induction l with
  | nil => rfl
  | cons p l ih => simp only [rchs, List.flatMap_cons, List.length_append, List.length_cons] at ih ⊢; simp only [rch, List.length_cons, List.length_nil]; omega
theorem rchs_get (l : List (Int × List UInt8)) (i : Nat) (p : Int × List UInt8) (hi : l[i]? = some p) : (rchs l)[2 * i]? = some (.int .i64 p.1) ∧ (rchs l)[2 * i + 1]? = some (.string (str p.2)) := by
  induction l generalizing i with
  | nil => simp at hi
  | cons q l ih =>
    have e : rchs (q :: l) = .int .i64 q.1 :: .string (str q.2) :: rchs l := rfl
    rw [e]
    cases i with
    | zero =>
      simp only [List.getElem?_cons_zero, Option.some.injEq] at hi
      subst hi
      exact ⟨rfl, rfl⟩
    | succ i =>
      rw [show 2 * (i + 1) = (2 * i + 1) + 1 from by omega]
      simp only [List.getElem?_cons_succ] at hi ⊢
      exact ih i hi
theorem rchs_one (l : List (Int × List UInt8)) : ∀ u ∈ rchs l, u.oneCell' = true := by
  intro u hu
  simp only [rchs, List.mem_flatMap, rch, List.mem_cons, List.not_mem_nil, or_false] at hu
  obtain ⟨p, _, rfl | rfl⟩ := hu
  · rfl
  · rfl
def rrow (r : Rv) (vs vl : Value) : Array Value := #[.int .i64 r.n, vs, vl, .bool r.down, .int .i64 r.fuse, .int .i64 r.done]
structure Rv.Ok (r : Rv) : Prop where
  n : r.n ≤ 65536
  safe : ∀ p ∈ r.safe, p.2.length = 64
  loose : ∀ p ∈ r.loose, p.2.length = 64
  fuse : -1 ≤ r.fuse ∧ r.fuse ≤ 9223372036854775807
/-- A reference device in memory; its own blocks lie at B and above. -/
structure Rdev (w : World) (B q : Nat) (vs vl : Value) (r : Rv) : Prop where
  row : w.heap[q]? = some (.cells (rrow r vs vl) 77 (0, 0))
  safe : w.ownsRow B 99 2 vs r.safe.length (rchs r.safe)
  loose : w.ownsRow B 99 2 vl r.loose.length (rchs r.loose)
  qs : ∀ k, vs.ownBlock = some k → k ≠ q
  ql : ∀ k, vl.ownBlock = some k → k ≠ q
  sl : ∀ k, vs.ownBlock = some k → vl.ownBlock ≠ some k
  hq : B ≤ q
  ok : r.Ok
section
variable {w w' : World} {B q : Nat} {vs vl : Value} {r : Rv}
theorem Rdev.c0 (h : Rdev w B q vs vl r) : w.cell? ⟨q, 0, none⟩ = some (.int .i64 (r.n : Int)) := cell_of_row w q 0 _ _ _ h.row
theorem Rdev.c1 (h : Rdev w B q vs vl r) : w.cell? ⟨q, 1, none⟩ = some vs := cell_of_row w q 1 _ _ _ h.row
theorem Rdev.c2 (h : Rdev w B q vs vl r) : w.cell? ⟨q, 2, none⟩ = some vl := cell_of_row w q 2 _ _ _ h.row
theorem Rdev.c3 (h : Rdev w B q vs vl r) : w.cell? ⟨q, 3, none⟩ = some (.bool r.down) := cell_of_row w q 3 _ _ _ h.row
theorem Rdev.c4 (h : Rdev w B q vs vl r) : w.cell? ⟨q, 4, none⟩ = some (.int .i64 r.fuse) := cell_of_row w q 4 _ _ _ h.row
theorem Rdev.c5 (h : Rdev w B q vs vl r) : w.cell? ⟨q, 5, none⟩ = some (.int .i64 (r.done : Int)) := cell_of_row w q 5 _ _ _ h.row
theorem Rdev.free (h : Rdev w B q vs vl r) (i : Nat) : w.frozen? ⟨q, i, none⟩ = false := frozen_of_row w q i _ _ h.row
theorem Rdev.lt (h : Rdev w B q vs vl r) : q < w.heap.size := (Array.getElem?_eq_some_iff.1 h.row).1
/-- The blocks that are its own. -/
def Rfoot (q : Nat) (vs vl : Value) (i : Nat) : Prop := i = q ∨ vs.ownBlock = some i ∨ vl.ownBlock = some i
theorem Rdev.foot_lt (h : Rdev w B q vs vl r) {i : Nat} (hi : Rfoot q vs vl i) : B ≤ i ∧ i < w.heap.size := by
  rcases hi with rfl | hi | hi
  · exact ⟨h.hq, h.lt⟩
  · exact h.safe.lt i hi
  · exact h.loose.lt i hi
theorem ownsRow_kp {F : Nat → Prop} {base sz n : Nat} {e : TypeId} {v : Value} {xs : List Value} (h : w.ownsRow base e sz v n xs) (kp : Keeps F w w') (hF : ∀ i, v.ownBlock = some i → ¬ F i) : w'.ownsRow base e sz v n xs := by
  obtain ⟨hl, h2⟩ := h
  rcases h2 with h2 | ⟨q, cap, cur, hv, hb, hq, r⟩
  · exact ⟨hl, .inl h2⟩
  · exact ⟨hl, .inr ⟨q, cap, cur, hv, hb, (kp.block q (Array.getElem?_eq_some_iff.1 hq).1 (hF q (by rw [hv]; rfl))).trans hq, r⟩⟩
theorem Rdev.keeps (h : Rdev w B q vs vl r) {F : Nat → Prop} (kp : Keeps F w w') (hF : ∀ i, F i → ¬ Rfoot q vs vl i) : Rdev w' B q vs vl r :=
  ⟨(kp.block q h.lt (fun hf => hF q hf (.inl rfl))).trans h.row, ownsRow_kp h.safe kp (fun i hi hf => hF i hf (.inr (.inl hi))), ownsRow_kp h.loose kp (fun i hi hf => hF i hf (.inr (.inr hi))), h.qs, h.ql, h.sl, h.hq, h.ok⟩
theorem Rdev.below (h : Rdev w B q vs vl r) (hb : Below w.heap.size w w') : Rdev w' B q vs vl r := h.keeps (F := fun _ => False) (Keeps.of_below hb) (fun _ hi => hi.elim)
theorem Rdev.new (h : Rdev w B q vs vl r) (hb : w.grownBy w' none) : Rdev w' B q vs vl r := h.keeps (F := fun _ => False) ((Keeps.refl _ _).grown hb (fun k e => by cases e)) (fun i hi => hi.elim)
/-- Only its own row turns. -/
theorem Rdev.set {r1 : Rv} (h : Rdev w B q vs vl r) (hrow : w'.heap[q]? = some (.cells (rrow r1 vs vl) 77 (0, 0))) (hg : w.grownBy w' (some q)) (hS : r1.safe = r.safe) (hL : r1.loose = r.loose) (ho : r1.Ok) : Rdev w' B q vs vl r1 := by
  refine ⟨hrow, ?_, ?_, h.qs, h.ql, h.sl, h.hq, ho⟩
  · rw [hS]; exact ownsRow_kp h.safe (Keeps.one hg) (fun i hi hf => h.qs i hi hf)
  · rw [hL]; exact ownsRow_kp h.loose (Keeps.one hg) (fun i hi hf => h.ql i hi hf)
/-- A row of one's own as a slice that reads. -/
theorem owns_slice {base n : Nat} {e : TypeId} {v : Value} {l : List (Int × List UInt8)} (h : w.ownsRow base e 2 v n (rchs l)) : ∃ A c, v = .slice A n c ∧ Rd w w.heap.size 2 A n c (rchs l) := by
  obtain ⟨hl, h2⟩ := h
  rcases h2 with ⟨rfl, rfl⟩ | ⟨g, cap, cur, rfl, hb, hg, hc, hm, hcs, htake⟩
  · refine ⟨none, 0, rfl, Nat.le_refl _, Nat.zero_le _, hl, fun h => absurd h (by omega)⟩
  · refine ⟨some ⟨g, 0, none⟩, cap, rfl, hc, hm, hl, fun _ => ⟨g, 0, rfl, (Array.getElem?_eq_some_iff.1 hg).1, fun j u hu => ?_⟩⟩
    have := World.ownsRow.cells (w := w) (base := base) (e := e) (size := 2) (v := .slice (some ⟨g, 0, none⟩) n cap) (n := n) ⟨hl, .inr ⟨g, cap, cur, rfl, hb, hg, hc, hm, hcs, htake⟩⟩ (g := g) rfl j u hu
    rwa [addOff] at this
end

/-! ### calls that only look -/
theorem rneed_any (n : Int) (w : World) (h0 : 0 ≤ n) (hn : n ≤ 4611686018427387904) : Calls Try.prog 60 #[.int .i64 n] w fun e w' => e = .returned (.int .i64 ((n + 63) / 64)) ∧ w = w' := by
  by_cases h1 : n < 1
  · obtain rfl : n = 0 := by omega
    go_enter Try.func60, Try.ntmps60
    go_wp2
    go_ret
    exact ⟨rfl, rfl⟩
  · have d1 : decide (n < 1) = false := by simpa using h1
    have e : (n + 63) / 64 = (n - 1) / 64 + 1 := by omega
    rw [e]
    have h2 : 1 ≤ n := by omega
    clear e h1 h0
    go_enter Try.func60, Try.ntmps60
    go_wp2
    go_ret
    exact ⟨rfl, rfl⟩

theorem rnoughts_any (w : World) : Calls Try.prog 61 #[] w fun e w' => e = .returned (.string (str Z)) ∧ Below w.heap.size w w' := by
  have hmake : ∀ w, (Instr.makeSlice 38 (.int .i64 64) (.int .i64 64)).run Try.prog w = .ok (.slice (some ⟨w.heap.size, 0, none⟩) 64 64) (w.alloc (.cells (u8s Z).toArray 5)) := fun _ => by kernel_rfl
  go_enter Try.func61, Try.ntmps61
  go_wp2_with (first
    | (refine wpL_str rfl (.tmp 1) _ _ rfl Try.underlying38 Try.underlying5 Try.underlying9 rfl (Rd.lit w (B := w.heap.size + 1) (u8s Z).toArray 5 (by kernel_rfl) (by unfold maxLen; omega) (Nat.lt_succ_self _)) ?_)
    | fail)
  go_ret
  exact ⟨rfl, (Below.refl _ _).alloc (Nat.le_refl _) _⟩

def rfound (l : List (Int × List UInt8)) (x : Int) : Value := .tuple #[.string (str ((lastOf l x).getD [])), .bool (lastOf l x).isSome]
theorem lastOf_take (l : List (Int × List UInt8)) (x : Int) (m : Nat) (p : Int × List UInt8) (h : l[m]? = some p) : lastOf (l.take (m + 1)) x = if x = p.1 then some p.2 else lastOf (l.take m) x := by
  obtain ⟨hl, rfl⟩ := List.getElem?_eq_some_iff.1 h
  rw [List.take_succ_eq_append_getElem hl, lastOf_snoc]
set_option maxRecDepth 8000 in
theorem rfind_any (A : Option Addr) (n c : Nat) (l : List (Int × List UInt8)) (x : Int) (w : World) (hr : Rd w w.heap.size 2 A n c (rchs l)) (hn : n ≤ 1000000000) :
    Calls Try.prog 66 #[.slice A n c, .int .i64 x] w fun e w' => e = .returned (rfound l x) ∧ w = w' := by
  have hln : l.length = n := by have := hr.2.2.1; rw [rchs_len] at this; omega
  have hni : (n : Int) ≤ 1000000000 := by omega
  have HL := Lib.hid hln
  have HR := Lib.hid hr
  clear hln hr
  go_enter Try.func66, Try.ntmps66
  go_wp2
  go_loopw [6] (fun ir wr => ∃ m : Nat, m ≤ n ∧ ir = .int .i64 ((m : Int) - 1) ∧ lastOf l x = lastOf (l.take m) x ∧ wr = w) (fun ir _ => (intOf ir + 1).toNat)
  case atStart => exact ⟨n, Nat.le_refl _, by go_num, by rw [List.take_of_length_le (by have := HL.out; omega)], rfl⟩
  case round =>
    obtain ⟨m, hm, rfl, hlast, rfl⟩ := hrel
    cases m with
    | zero =>
      have hz : lastOf l x = none := by rw [hlast]; rfl
      have HZ := Lib.hid hz
      clear hz hlast
      go_wp2
      go_ret2
      refine ⟨?_, rfl⟩
      unfold rfound
      rw [HZ.out]
      rfl
    | succ m =>
      obtain ⟨p, hp⟩ : ∃ p, l[m]? = some p := ⟨_, List.getElem?_eq_getElem (by have := HL.out; omega)⟩
      obtain ⟨h1, h2⟩ := rchs_get l m p hp
      obtain ⟨b, o, rfl, hb, hc⟩ := HR.out.2.2.2 (by omega)
      have k1 : wr.cell? ⟨b, o + m * 2, none⟩ = some (.int .i64 p.1) := by rw [Nat.mul_comm m 2]; exact hc _ _ h1
      have k2 : wr.cell? ⟨b, o + m * 2 + 1, none⟩ = some (.string (str p.2)) := by rw [Nat.mul_comm m 2]; exact hc _ _ h2
      have hst := lastOf_take l x m p hp
      have e1 : ((m + 1 : Nat) : Int) - 1 = (m : Int) := by omega
      rw [e1]
      have hlt : m < n := by omega
      have hmi : (m : Int) ≤ 1000000000 := by omega
      have HST := Lib.hid hst
      have HLA := Lib.hid hlast
      clear hst hlast hc h1 h2 hp
      by_cases hx : p.1 = x
      · have hx2 : lastOf l x = some p.2 := by rw [HLA.out, HST.out, if_pos hx.symm]
        have hbx : ((p.1 == x) : Bool) = true := by simpa using hx
        have HX := Lib.hid hx2
        clear hx2 HST HLA hx
        go_wp2
        go_ret2
        refine ⟨?_, rfl⟩
        unfold rfound
        rw [HX.out]
        rfl
      · have hx2 : lastOf l x = lastOf (l.take m) x := by rw [HLA.out, HST.out, if_neg (fun e => hx e.symm)]
        have hbx : ((p.1 == x) : Bool) = false := by simpa using hx
        have HX := Lib.hid hx2
        clear hx2 HST HLA hx
        go_wp2
        go_roundw
        case rel => exact ⟨m, by omega, by go_num, HX.out, trivial⟩
        case measure => simp [intOf]


/-- What is safe of a sector; what is read of it. -/
def Rv.safeOf (r : Rv) (x : Int) : List UInt8 := (lastOf r.safe x).getD Z
def Rv.sector (r : Rv) (x : Int) : List UInt8 := (lastOf r.loose x).getD (r.safeOf x)
theorem lastOf_mem_ : ∀ (l : List (Int × List UInt8)) (f : Says) (x : Int) (s : List UInt8), l.foldl (fun f p => fun y => if y = p.1 then some p.2 else f y) f x = some s → (∃ p ∈ l, p.2 = s) ∨ f x = some s := by
  intro l
  induction l with
  | nil => intro f x s h; exact .inr h
  | cons p l ih =>
    intro f x s h
    rcases ih _ x s h with ⟨q, hq, e⟩ | h1
    · exact .inl ⟨q, List.mem_cons_of_mem _ hq, e⟩
    · by_cases hx : x = p.1
      · simp only [if_pos hx, Option.some.injEq] at h1
        exact .inl ⟨p, List.mem_cons_self, h1⟩
      · simp only [if_neg hx] at h1
        exact .inr h1
theorem lastOf_mem (l : List (Int × List UInt8)) (x : Int) (s : List UInt8) (h : lastOf l x = some s) : ∃ p ∈ l, p.2 = s := by
  rcases lastOf_mem_ l _ x s h with h | h
  · exact h
  · cases h
theorem Rv.safeOf_len {r : Rv} (h : r.Ok) (x : Int) : (r.safeOf x).length = 64 := by
  unfold Rv.safeOf
  cases hl : lastOf r.safe x with
  | none => rfl
  | some s =>
    obtain ⟨p, hp, e⟩ := lastOf_mem _ _ _ hl
    rw [Option.getD_some, ← e]
    exact h.safe p hp
theorem Rv.sector_len {r : Rv} (h : r.Ok) (x : Int) : (r.sector x).length = 64 := by
  unfold Rv.sector
  cases hl : lastOf r.loose x with
  | none => exact Rv.safeOf_len h x
  | some s =>
    obtain ⟨p, hp, e⟩ := lastOf_mem _ _ _ hl
    rw [Option.getD_some, ← e]
    exact h.loose p hp
set_option maxRecDepth 8000 in
theorem rsafe_any {w : World} {B q : Nat} {vs vl : Value} {r : Rv} (h : Rdev w B q vs vl r) (hn : r.safe.length ≤ 1000000000) (x : Int) :
    Calls Try.prog 44 #[.pointer (some ⟨q, 0, none⟩), .int .i64 x] w fun e w' => e = .returned (.string (str (r.safeOf x))) ∧ Below w.heap.size w w' := by
  have c1 := h.c1
  obtain ⟨A, c, rfl, hr⟩ := owns_slice h.safe
  have HF := Lib.hid (rfind_any A r.safe.length c r.safe x w hr hn)
  clear hr h hn
  cases hl : lastOf r.safe x with
  | none =>
    have hv : r.safeOf x = Z := by unfold Rv.safeOf; rw [hl]; rfl
    have hfd : rfound r.safe x = .tuple #[.string (str []), .bool false] := by unfold rfound; rw [hl]; rfl
    rw [hv]
    have HFD := Lib.hid hfd
    clear hv hfd hl
    go_enter Try.func44, Try.ntmps44
    go_wp2_with (first
      | (go_at_call 66; refine HF.out.mono ?_; rintro e w1 ⟨rfl, rfl⟩; rw [HFD.out])
      | (go_at_call 61; refine (rnoughts_any _).mono ?_; rintro e w2 ⟨rfl, hb2⟩)
      | fail)
    go_ret
    exact ⟨rfl, hb2⟩
  | some s =>
    have hv : r.safeOf x = s := by unfold Rv.safeOf; rw [hl]; rfl
    have hfd : rfound r.safe x = .tuple #[.string (str s), .bool true] := by unfold rfound; rw [hl]; rfl
    rw [hv]
    have HFD := Lib.hid hfd
    clear hv hfd hl
    go_enter Try.func44, Try.ntmps44
    go_wp2_with (first
      | (go_at_call 66; refine HF.out.mono ?_; rintro e w1 ⟨rfl, rfl⟩; rw [HFD.out])
      | fail)
    go_ret
    exact ⟨rfl, Below.refl _ _⟩
set_option maxRecDepth 8000 in
theorem rsector_any {w : World} {B q : Nat} {vs vl : Value} {r : Rv} (h : Rdev w B q vs vl r) (hn : r.safe.length ≤ 1000000000) (hl : r.loose.length ≤ 1000000000) (x : Int) :
    Calls Try.prog 51 #[.pointer (some ⟨q, 0, none⟩), .int .i64 x] w fun e w' => e = .returned (.string (str (r.sector x))) ∧ Below w.heap.size w w' := by
  have c2 := h.c2
  have HS := Lib.hid (rsafe_any h hn x)
  obtain ⟨A, c, rfl, hr⟩ := owns_slice h.loose
  have HF := Lib.hid (rfind_any A r.loose.length c r.loose x w hr hl)
  clear hr h hn hl
  cases hl : lastOf r.loose x with
  | none =>
    have hv : r.sector x = r.safeOf x := by unfold Rv.sector; rw [hl]; rfl
    have hfd : rfound r.loose x = .tuple #[.string (str []), .bool false] := by unfold rfound; rw [hl]; rfl
    rw [hv]
    have HFD := Lib.hid hfd
    clear hv hfd hl
    go_enter Try.func51, Try.ntmps51
    go_wp2_with (first
      | (go_at_call 66; refine HF.out.mono ?_; rintro e w1 ⟨rfl, rfl⟩; rw [HFD.out])
      | (go_at_call 44; refine HS.out.mono ?_; rintro e w2 ⟨rfl, hb2⟩)
      | fail)
    go_ret
    exact ⟨rfl, hb2⟩
  | some s =>
    have hv : r.sector x = s := by unfold Rv.sector; rw [hl]; rfl
    have hfd : rfound r.loose x = .tuple #[.string (str s), .bool true] := by unfold rfound; rw [hl]; rfl
    rw [hv]
    have HFD := Lib.hid hfd
    clear hv hfd hl
    go_enter Try.func51, Try.ntmps51
    go_wp2_with (first
      | (go_at_call 66; refine HF.out.mono ?_; rintro e w1 ⟨rfl, rfl⟩; rw [HFD.out])
      | fail)
    go_ret
    exact ⟨rfl, Below.refl _ _⟩

def Rv.blow (r : Rv) : Rv := { r with done := r.done + 1, down := r.down || decide (r.fuse = 0), fuse := if 0 ≤ r.fuse then r.fuse - 1 else r.fuse }
theorem Rv.Ok.blow {r : Rv} (h : r.Ok) : r.blow.Ok := ⟨h.n, h.safe, h.loose, by have := h.fuse; show -1 ≤ (if 0 ≤ r.fuse then r.fuse - 1 else r.fuse) ∧ (if 0 ≤ r.fuse then r.fuse - 1 else r.fuse) ≤ _; split <;> omega⟩
set_option maxRecDepth 8000 in
theorem rblown_any {w : World} {B q : Nat} {vs vl : Value} {r : Rv} (h : Rdev w B q vs vl r) (hd : r.done ≤ 1000000000) :
    Calls Try.prog 62 #[.pointer (some ⟨q, 0, none⟩)] w fun e w' => e = .returned (.bool r.blow.down) ∧ Rdev w' B q vs vl r.blow ∧ w.grownBy w' (some q) := by
  have c3 := h.c3
  have c4 := h.c4
  have c5 := h.c5
  have f3 := h.free 3
  have f4 := h.free 4
  have f5 := h.free 5
  have hf := h.ok.fuse
  have hdi : (r.done : Int) ≤ 1000000000 := by omega
  have hd0 : (0 : Int) ≤ (r.done : Int) := by omega
  have r5 := set_row h.row 5 (.int .i64 ((r.done : Int) + 1))
  by_cases h0 : r.fuse = 0
  · have r3 := set_row r5 3 (.bool true)
    have r4 := set_row r3 4 (.int .i64 (-1))
    have hfin : Rdev (((w.setCell ⟨q, 5, none⟩ (.int .i64 ((r.done : Int) + 1))).setCell ⟨q, 3, none⟩ (.bool true)).setCell ⟨q, 4, none⟩ (.int .i64 (-1))) B q vs vl r.blow := by
      refine h.set ?_ (grownBy_tr (grownBy_tr (setCell_grows w q 5 _) (setCell_grows _ q 3 _)) (setCell_grows _ q 4 _)) rfl rfl h.ok.blow
      rw [r4]
      unfold rrow Rv.blow
      simp [h0]
    have hb : r.blow.down = true := by unfold Rv.blow; simp [h0]
    rw [hb]
    rw [h0] at c4
    have HF := Lib.hid hfin
    have HG := Lib.hid (grownBy_tr (grownBy_tr (setCell_grows w q 5 (.int .i64 ((r.done : Int) + 1))) (setCell_grows _ q 3 (.bool true))) (setCell_grows _ q 4 (.int .i64 (-1))))
    clear r5 r3 r4 hfin hb h0 hf hd h
    go_enter Try.func62, Try.ntmps62
    go_wp2
    go_ret
    exact ⟨rfl, HF.out, HG.out⟩
  · have b0 : ((r.fuse == 0) : Bool) = false := by simpa using h0
    by_cases h1 : 0 ≤ r.fuse
    · have r4 := set_row r5 4 (.int .i64 (r.fuse - 1))
      have hfin : Rdev ((w.setCell ⟨q, 5, none⟩ (.int .i64 ((r.done : Int) + 1))).setCell ⟨q, 4, none⟩ (.int .i64 (r.fuse - 1))) B q vs vl r.blow := by
        refine h.set ?_ (grownBy_tr (setCell_grows w q 5 _) (setCell_grows _ q 4 _)) rfl rfl h.ok.blow
        rw [r4]
        unfold rrow Rv.blow
        simp [h0, h1]
      have hb : r.blow.down = r.down := by unfold Rv.blow; simp [h0]
      rw [hb]
      have d1 : decide (0 ≤ r.fuse) = true := by simpa using h1
      have HF := Lib.hid hfin
      have HG := Lib.hid (grownBy_tr (setCell_grows w q 5 (.int .i64 ((r.done : Int) + 1))) (setCell_grows _ q 4 (.int .i64 (r.fuse - 1))))
      clear r5 r4 hfin hb h0 hd h
      go_enter Try.func62, Try.ntmps62
      go_wp2
      go_ret
      exact ⟨rfl, HF.out, HG.out⟩
    · have hfin : Rdev (w.setCell ⟨q, 5, none⟩ (.int .i64 ((r.done : Int) + 1))) B q vs vl r.blow := by
        refine h.set ?_ (setCell_grows w q 5 _) rfl rfl h.ok.blow
        rw [r5]
        unfold rrow Rv.blow
        simp [h0, h1]
      have hb : r.blow.down = r.down := by unfold Rv.blow; simp [h0]
      rw [hb]
      have d1 : decide (0 ≤ r.fuse) = false := by simpa using h1
      have HF := Lib.hid hfin
      have HG := Lib.hid (setCell_grows w q 5 (.int .i64 ((r.done : Int) + 1)))
      clear r5 hfin hb h0 hd h
      go_enter Try.func62, Try.ntmps62
      go_wp2
      go_ret
      exact ⟨rfl, HF.out, HG.out⟩

def Rv.new (n : Nat) : Rv := ⟨n, [], [], false, -1, 0⟩
set_option maxRecDepth 8000 in
theorem rnew_good (n : Nat) (w : World) (h1 : 1 ≤ n) (hn : n ≤ 65536) :
    Calls Try.prog 8 #[.int .i64 (n : Int)] w fun e w' => e = .returned (.tuple #[.pointer (some ⟨w.heap.size, 0, none⟩), .bool true]) ∧ Rdev w' w.heap.size w.heap.size (.slice none 0 0) (.slice none 0 0) (Rv.new n) ∧ Below w.heap.size w w' := by
  have d1 : decide ((n : Int) < 1) = false := by simp; omega
  have d2 : decide ((65536 : Int) < (n : Int)) = false := by simp; omega
  have hg := heap_alloc_new w (.cells (rrow (Rv.new n) (.slice none 0 0) (.slice none 0 0)) 77)
  have hfin : Rdev (w.alloc (.cells (rrow (Rv.new n) (.slice none 0 0) (.slice none 0 0)) 77)) w.heap.size w.heap.size (.slice none 0 0) (.slice none 0 0) (Rv.new n) :=
    ⟨hg, World.ownsRow_nil _ _ _ _, World.ownsRow_nil _ _ _ _, (fun k e => by cases e), (fun k e => by cases e), (fun k e => by cases e), Nat.le_refl _, ⟨hn, (fun p hp => by cases hp), (fun p hp => by cases hp), by show (-1 : Int) ≤ -1 ∧ (-1 : Int) ≤ _; omega⟩⟩
  have HF := Lib.hid hfin
  clear hg hfin h1 hn
  go_enter Try.func8, Try.ntmps8
  go_wp2
  go_ret2
  exact ⟨rfl, HF.out, (Below.refl _ _).alloc (Nat.le_refl _) _⟩

end Go.Proofs.Ytddnjlnhnnpgiaa

namespace Go.Proofs.Ytddnjlnhnnpgiaa
set_option maxRecDepth 20000
open Go.RowKit

theorem E_rch : Elem Try.prog 75 99 (.agg #[.int .i64 0, .string ⟨#[]⟩]) 2 24 := Elem.mk_ Try.underlying75 (by kernel_rfl) rfl (by decide)
theorem rd_rch {w : World} {g : Nat} {e : TypeId} {p : Int × List UInt8} (h : w.heap[g]? = some (.cells #[.int .i64 p.1, .string (str p.2)] e (0, 0))) : Rd w w.heap.size 2 (some ⟨g, 0, none⟩) 1 1 (rch p) :=
  ⟨Nat.le_refl _, by unfold maxLen; omega, rfl, fun _ => ⟨g, 0, rfl, (Array.getElem?_eq_some_iff.1 h).1, fun j u hu => by
    rw [cell_of_row w g (0 + j) _ e (0, 0) h, Nat.zero_add]
    simpa [rch] using hu⟩⟩
theorem rch_one (p : Int × List UInt8) : ∀ u ∈ rch p, u.oneCell' = true := by
  have := rchs_one [p]
  simpa [rchs] using this
theorem rch_src (w : World) (e : TypeId) (p : Int × List UInt8) : Src Try.prog 2 75 (.slice (some ⟨w.heap.size, 0, none⟩) 1 1) 1 (rch p) (w.alloc (.cells #[.int .i64 p.1, .string (str p.2)] e)) :=
  (rd_rch (heap_alloc_new w _)).src Try.underlying75 (rch_one p)
def Rv.kept (r : Rv) (x : Int) : List (Int × List UInt8) := r.safe.filter (fun p => decide (p.1 ≠ x))
def Rv.put (r : Rv) (x : Int) (s : List UInt8) : Rv := { r with safe := r.kept x ++ [(x, s)] }
theorem Rv.kept_le (r : Rv) (x : Int) : (r.kept x).length ≤ r.safe.length := List.length_filter_le _ _
theorem Rv.Ok.put {r : Rv} (h : r.Ok) (x : Int) (s : List UInt8) (hs : s.length = 64) : (r.put x s).Ok := ⟨h.n, (fun p hp => by
  rcases List.mem_append.1 hp with hp | hp
  · exact h.safe p (List.mem_filter.1 hp).1
  · obtain rfl := List.mem_singleton.1 hp; exact hs), h.loose, h.fuse⟩
def keepTo (l : List (Int × List UInt8)) (x : Int) (m : Nat) : List (Int × List UInt8) := (l.take m).filter (fun p => decide (p.1 ≠ x))
theorem keepTo_step (l : List (Int × List UInt8)) (x : Int) (m : Nat) (p : Int × List UInt8) (h : l[m]? = some p) : keepTo l x (m + 1) = if p.1 = x then keepTo l x m else keepTo l x m ++ [p] := by
  obtain ⟨hl, rfl⟩ := List.getElem?_eq_some_iff.1 h
  unfold keepTo
  rw [List.take_succ_eq_append_getElem hl, List.filter_append]
  by_cases hx : (l[m]).1 = x <;> simp [hx]
theorem keepTo_le (l : List (Int × List UInt8)) (x : Int) (m : Nat) : (keepTo l x m).length ≤ l.length := Nat.le_trans (List.length_filter_le _ _) (by rw [List.length_take]; omega)

set_option maxHeartbeats 4000000 in
set_option maxRecDepth 8000 in
theorem rput_any {w : World} {B q : Nat} {vs vl : Value} {r : Rv} (h : Rdev w B q vs vl r) (hn : r.safe.length ≤ 1000000000) (x : Int) (s : List UInt8) (hs : s.length = 64) :
    Calls Try.prog 43 #[.pointer (some ⟨q, 0, none⟩), .int .i64 x, .string (str s)] w fun e w' => e = .returned (.tuple #[]) ∧ ∃ vs', Rdev w' B q vs' vl (r.put x s) ∧ Keeps (fun i => i = q) w w' ∧ ∀ k, vs'.ownBlock = some k → w.heap.size ≤ k := by
  obtain ⟨A, c, rfl, hr⟩ := owns_slice h.safe
  obtain ⟨n, hnl⟩ : ∃ n, n = r.safe.length := ⟨_, rfl⟩
  rw [← hnl] at hr
  have hql := h.lt
  have hc1 : w.cell? ⟨q, 1, none⟩ = some (.slice A n c) := by rw [hnl]; exact h.c1
  have HC1 := Lib.hid hc1
  have hni : (n : Int) ≤ 1000000000 := by omega
  have HH := Lib.hid h
  have HR := Lib.hid hr
  have HN := Lib.hid hn
  have HNL := Lib.hid hnl
  have HS := Lib.hid hs
  clear h hr hn hs hc1 hnl
  go_enter Try.func43, Try.ntmps43
  go_wp2
  go_loopw [6, 7] (fun vr ir wr => ∃ m : Nat, m ≤ n ∧ ir = .int .i64 (m : Int) ∧ wr.ownsRow w.heap.size 99 2 vr (keepTo r.safe x m).length (rchs (keepTo r.safe x m)) ∧ Below w.heap.size w wr) (fun _ ir _ => n - (intOf ir).toNat)
  case atStart => exact ⟨0, Nat.zero_le _, rfl, World.ownsRow_nil _ _ _ _, Below.refl _ _⟩
  case round =>
    obtain ⟨m, hm, rfl, hown, hb⟩ := hrel
    have c1 : wr.cell? ⟨q, 1, none⟩ = some (.slice A n c) := (hb.cell (p := ⟨q, 1, none⟩) hql).trans HC1.out
    have hkl := keepTo_le r.safe x m
    have hmi : (m : Int) ≤ 1000000000 := by omega
    by_cases hlt : m < n
    · obtain ⟨p, hp⟩ : ∃ p, r.safe[m]? = some p := ⟨_, List.getElem?_eq_getElem (by have := HNL.out; omega)⟩
      obtain ⟨h1, h2⟩ := rchs_get r.safe m p hp
      have hrr := HR.out.below hb
      obtain ⟨b, o, rfl, hbb, hcc⟩ := hrr.2.2.2 (by omega)
      have k1 : wr.cell? ⟨b, o + m * 2, none⟩ = some (.int .i64 p.1) := by rw [Nat.mul_comm m 2]; exact hcc _ _ h1
      have k2 : wr.cell? ⟨b, o + m * 2 + 1, none⟩ = some (.string (str p.2)) := by rw [Nat.mul_comm m 2]; exact hcc _ _ h2
      have hst := keepTo_step r.safe x m p hp
      have hlti : (m : Int) < (n : Int) := by omega
      by_cases hx : p.1 = x
      · rw [if_pos hx] at hst
        have hbx : ((p.1 != x) : Bool) = false := by simpa using hx
        have HST := Lib.hid hst
        have HO := Lib.hid hown
        have HB := Lib.hid hb
        clear hst hx hown hb hrr hcc h1 h2 hp
        go_wp2
        go_roundw
        case rel => exact ⟨m + 1, by omega, by go_num, by rw [HST.out]; exact HO.out, HB.out⟩
        case measure => simp [intOf]; omega
      · rw [if_neg hx] at hst
        have hbx : ((p.1 != x) : Bool) = true := by simpa using hx
        have HST := Lib.hid hst
        have HO := Lib.hid hown
        have HB := Lib.hid hb
        have HKL := Lib.hid hkl
        clear hst hx hown hb hrr hcc h1 h2 hp hkl
        go_wp2_with (first
          | (at_builtin; refine wpL_app (m := 1) (y := .slice (some ⟨wr.heap.size, 0, none⟩) 1 1) rfl (.tmp 27) (.tmp 35) _ _ rfl E_rch rfl rfl (HO.out.alloc _) (rch_src wr _ p) (by have := HKL.out; have := HN.out; unfold maxLen; omega) (by have := HKL.out; have := HN.out; omega) (Nat.le_trans HB.out.size (by simp)) ?_; intro v2 w2 hown2 hg2 hat2)
          | fail)
        have hg2' : (wr.alloc (.cells #[.int .i64 p.1, .string (str p.2)] 99)).grownBy w2 u6.ownBlock := hg2
        have hb2 : Below w.heap.size w w2 := (HB.out.alloc HB.out.size _).grown hg2' (Nat.le_trans HB.out.size (by simp)) (fun k e => (HO.out.lt k e).1)
        go_roundw
        case rel => exact ⟨m + 1, by omega, by go_num, by rw [HST.out, rchs_snoc, List.length_append]; exact hown2, hb2⟩
        case measure => simp [intOf]; omega
    · obtain rfl : m = n := by omega
      have HO := Lib.hid hown
      have HB := Lib.hid hb
      have HKL := Lib.hid hkl
      clear hown hb hkl
      go_wp2_with (first
          | (at_builtin; refine wpL_app (m := 1) (y := .slice (some ⟨wr.heap.size, 0, none⟩) 1 1) rfl (.tmp 38) (.tmp 42) _ _ rfl E_rch rfl rfl (HO.out.alloc _) (rch_src wr _ (x, s)) (by have := HKL.out; have := HN.out; unfold maxLen; omega) (by have := HKL.out; have := HN.out; omega) (Nat.le_trans HB.out.size (by simp)) ?_; intro v2 w2 hown2 hg2 hat2
             have hg2' : (wr.alloc (.cells #[.int .i64 x, .string (str s)] 99)).grownBy w2 u6.ownBlock := hg2
             have hb2 : Below w.heap.size w w2 := (HB.out.alloc HB.out.size _).grown hg2' (Nat.le_trans HB.out.size (by simp)) (fun k e => (HO.out.lt k e).1)
             obtain ⟨A3, c3, rfl⟩ := ownsRow_form hown2
             have hrow2 := (hb2.block q hql).trans HH.out.row
             have e1 : w2.cell? ⟨q, 1, none⟩ = some (.slice A m c) := (hb2.cell (p := ⟨q, 1, none⟩) hql).trans HC1.out
             have f1 := frozen_of_row w2 q 1 _ _ hrow2
             have HB2 := Lib.hid hb2
             have HRW := Lib.hid hrow2
             have HOW := Lib.hid hown2
             clear hb2 hrow2 hg2 hg2' hat2 hown2)
          | fail)
      have hkt : keepTo r.safe x m = r.kept x := by unfold keepTo Rv.kept; rw [List.take_of_length_le (by have := HNL.out; omega)]
      have hown2 := HOW.out
      rw [hkt] at hown2
      have hgq := setCell_grows w2 q 1 (.slice A3 ((keepTo r.safe x m).length + 1) c3)
      have hvl := hown2.lt
      have hr3 := set_row HRW.out 1 (.slice A3 ((keepTo r.safe x m).length + 1) c3)
      have hKq : Keeps (fun i => i = q) w (w2.setCell ⟨q, 1, none⟩ (.slice A3 ((keepTo r.safe x m).length + 1) c3)) := (Keeps.of_below HB2.out).grown hgq (fun k e => .inl (Option.some.inj e).symm)
      rw [hkt] at hgq hr3 hKq
      have hfin : Rdev (w2.setCell ⟨q, 1, none⟩ (.slice A3 ((r.kept x).length + 1) c3)) B q (.slice A3 ((r.kept x).length + 1) c3) vl (r.put x s) := by
        refine ⟨hr3, ?_, ownsRow_kp HH.out.loose hKq (fun i hi => HH.out.ql i hi), ?_, HH.out.ql, ?_, HH.out.hq, HH.out.ok.put x s HS.out⟩
        · have e : (r.put x s).safe.length = (r.kept x).length + 1 := by unfold Rv.put; simp
          have e2 : rchs (r.put x s).safe = rchs (r.kept x) ++ rch (x, s) := rchs_snoc _ _
          rw [e, e2]
          refine ownsRow_low (hown2.kept hgq ?_) (Nat.le_trans HH.out.hq (Nat.le_of_lt hql))
          cases hk : Value.ownBlock (.slice A3 ((r.kept x).length + 1) c3) with
          | none => exact .inl rfl
          | some k => exact .inr (fun e => by have := (hvl k hk).1; have := Option.some.inj e; omega)
        · intro k hk e
          have := (hvl k hk).1
          omega
        · intro k hk e
          have h1 := (hvl k hk).1
          have h2 := (HH.out.loose.lt k e).2
          omega
      rw [hkt]
      go_returns
      exact ⟨rfl, _, hfin, hKq, fun k hk => (hvl k hk).1⟩

end Go.Proofs.Ytddnjlnhnnpgiaa
