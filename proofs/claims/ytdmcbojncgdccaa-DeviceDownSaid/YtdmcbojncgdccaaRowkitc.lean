/- Calls of a device as arguments of a law, read as data. -/
import Derived.Test.YtdmcbojncgdccaaRowkit
import Derived.Deep.Fields
import Derived.ChangeSame
namespace Go.Proofs.Ytdmcbojncgdccaa
open Go.ChangeShapes Go.WideShapes Go.ChangeAt Go.RowKit
open Go.Deep (oneCellFields open_slice hone_of)

section
variable {H : Type} {enc : TypeId × Value → H} {P : Program} {W : World} {r : Reach} {b0 : Nat} {t e : TypeId} {v : Value} {d : DataW H} {p : List MemPlace}

/-- One cell that reads as a slice of numbers. -/
theorem cell_nums {k : IntKind} {fuel : Nat} {y : DataW H × List MemPlace} (ht : P.underlying t = some (.slice e)) (he : P.underlying e = some (.int k)) (hc : P.cellsOf e = 1) (h : DataW.trod enc P W 0 (fun _ => true) true fuel t [v] = some y) :
    ∃ (A : Option Addr) (n c : Nat) (zs : List Int), v = .slice A n c ∧ Rd W W.heap.size 1 A n c (zs.map (Value.int k)) ∧ ∀ z ∈ zs, (Lit.int k z).wf = true := by
  rcases open_ints ht he hc h with ⟨hcs, _⟩ | ⟨x, l, c', zs, hcs, _, hl, hm, hz, _, hcell, hwz⟩
  · cases hcs
    exact ⟨_, _, _, [], rfl, Rd.nil_, fun _ hx => by cases hx⟩
  · cases hcs
    simp only [if_true] at hz
    refine ⟨_, _, _, zs.take l, rfl, ⟨hl, hm, by simp; omega, fun hn => ?_⟩, fun z hx => hwz z (List.mem_of_mem_take hx)⟩
    obtain ⟨b, off, spot⟩ := x
    have hc0 := hcell 0 (by omega)
    have hspot : spot = none := by simpa [Addr.add] using World.cell?_spot hc0
    subst hspot
    refine ⟨b, off, rfl, ?_, fun j u hu => ?_⟩
    · have := World.block_lt_of_cell? W _ hc0
      simpa [addOff] using this
    · have hj : j < (zs.take l).length := by
        have := (List.getElem?_eq_some_iff.1 hu).1
        simpa using this
      have hj' : j < l ∧ j < zs.length := by rw [List.length_take] at hj; omega
      rw [← addOff, hcell j hj'.2]
      simp only [List.getElem?_map, List.getElem?_take, if_pos hj'.1, List.getElem?_eq_getElem hj'.2, Option.map_some, Option.some.injEq] at hu
      subst hu
      simp [List.getD, hj'.2]
theorem cell_bytes {fuel : Nat} {y : DataW H × List MemPlace} (ht : P.underlying t = some (.slice e)) (he : P.underlying e = some (.int .u8)) (hc : P.cellsOf e = 1) (h : DataW.trod enc P W 0 (fun _ => true) true fuel t [v] = some y) :
    ∃ (A : Option Addr) (n c : Nat) (l : List UInt8), v = .slice A n c ∧ Rd W W.heap.size 1 A n c (u8s l) := by
  obtain ⟨A, n, c, zs, rfl, hr, hw⟩ := cell_nums ht he hc h
  refine ⟨A, n, c, zs.map (fun z => UInt8.ofNat z.toNat), rfl, ?_⟩
  have : u8s (zs.map (fun z => UInt8.ofNat z.toNat)) = zs.map (Value.int .u8) := by
    simp only [u8s, List.map_map]
    refine List.map_congr_left fun z hz => ?_
    have h1 := hw z hz
    simp only [Lit.wf] at h1
    simp only [Function.comp, u8, UInt8.toNat_ofNat']
    refine congrArg _ ?_
    simp [IntKind.min, IntKind.max, IntKind.signed, IntKind.bits] at h1
    omega
  rw [this]
  exact hr

/-- What a call of a device is, as data. -/
structure Opd where
  kind : Int
  at_ : Int
  n : Int
  A : Option Addr
  bn : Nat
  bc : Nat
  b : List UInt8
  A2 : Option Addr
  kn : Nat
  kc : Nat
  keep : List Int
def Opd.cells (o : Opd) : Array Value := #[.int .i64 o.kind, .int .i64 o.at_, .int .i64 o.n, .slice o.A o.bn o.bc, .slice o.A2 o.kn o.kc]
/-- It reads so in a world. -/
def Opd.Reads (o : Opd) (W : World) : Prop := Rd W W.heap.size 1 o.A o.bn o.bc (u8s o.b) ∧ Rd W W.heap.size 1 o.A2 o.kn o.kc (o.keep.map (Value.int .i64)) ∧ (Lit.int .i64 o.kind).wf = true ∧ (Lit.int .i64 o.at_).wf = true ∧ (Lit.int .i64 o.n).wf = true ∧ ∀ z ∈ o.keep, (Lit.int .i64 z).wf = true

/-- Five cells that read as a call. -/
theorem op_of_cells {f0 f1 f2 f3 f4 : Field} {e1 e2 : TypeId} {n : Nat} {v0 v1 v2 v3 v4 : Value} {y0 y1 y2 y3 y4 : DataW H × List MemPlace} (h0 : P.underlying f0.type = some (.int .i64)) (h1 : P.underlying f1.type = some (.int .i64)) (h2 : P.underlying f2.type = some (.int .i64))
    (h3 : P.underlying f3.type = some (.slice e1)) (he1 : P.underlying e1 = some (.int .u8)) (hc1 : P.cellsOf e1 = 1) (h4 : P.underlying f4.type = some (.slice e2)) (he2 : P.underlying e2 = some (.int .i64)) (hc2 : P.cellsOf e2 = 1)
    (g0 : DataW.trod enc P W 0 (fun _ => true) true n f0.type [v0] = some y0) (g1 : DataW.trod enc P W 0 (fun _ => true) true n f1.type [v1] = some y1) (g2 : DataW.trod enc P W 0 (fun _ => true) true n f2.type [v2] = some y2)
    (g3 : DataW.trod enc P W 0 (fun _ => true) true n f3.type [v3] = some y3) (g4 : DataW.trod enc P W 0 (fun _ => true) true n f4.type [v4] = some y4) : ∃ o : Opd, #[v0, v1, v2, v3, v4] = o.cells ∧ o.Reads W := by
  obtain ⟨a, ha, _, hwa⟩ := DataW.trod_int h0 g0
  obtain ⟨b, hb, _, hwb⟩ := DataW.trod_int h1 g1
  obtain ⟨c, hc, _, hwc⟩ := DataW.trod_int h2 g2
  cases ha
  cases hb
  cases hc
  obtain ⟨A, bn, bc, l, rfl, hl⟩ := cell_bytes h3 he1 hc1 g3
  obtain ⟨A2, kn, kc, ks, rfl, hk, hwk⟩ := cell_nums h4 he2 hc2 g4
  exact ⟨⟨a, b, c, A, bn, bc, l, A2, kn, kc, ks⟩, rfl, hl, hk, hwa, hwb, hwc, hwk⟩

theorem dec_op {f0 f1 f2 f3 f4 : Field} {e1 e2 : TypeId} (hs : P.underlying t = some (.struct #[f0, f1, f2, f3, f4])) (hone : oneCellFields P #[f0, f1, f2, f3, f4] = true) (hC : P.cellsOf t = 5)
    (h0 : P.underlying f0.type = some (.int .i64)) (h1 : P.underlying f1.type = some (.int .i64)) (h2 : P.underlying f2.type = some (.int .i64))
    (h3 : P.underlying f3.type = some (.slice e1)) (he1 : P.underlying e1 = some (.int .u8)) (hc1 : P.cellsOf e1 = 1) (h4 : P.underlying f4.type = some (.slice e2)) (he2 : P.underlying e2 = some (.int .i64)) (hc2 : P.cellsOf e2 = 1)
    (hok : Value.okWide P W r b0 t v) (h : DataW.Trod enc P W 0 (fun _ => true) true t v d p) : ∃ o : Opd, v = .agg o.cells ∧ o.Reads W := by
  obtain ⟨cs, rfl, hsz⟩ := okWide_struct hs hok
  have hsz5 := hsz.trans hC
  obtain ⟨l⟩ := cs
  obtain ⟨fuel, hf⟩ := h
  obtain ⟨ys, n, _, _, _, hyl, hg⟩ := DataW.trod_struct hs hf
  match l, hsz5 with
  | [c0, c1, c2, c3, c4], _ =>
    match ys, hyl with
    | [y0, y1, y2, y3, y4], _ =>
      have g0 := hg 0 f0 rfl
      have g1 := hg 1 f1 rfl
      have g2 := hg 2 f2 rfl
      have g3 := hg 3 f3 rfl
      have g4 := hg 4 f4 rfl
      obtain ⟨o0, k0⟩ := hone_of hone 0 f0 rfl
      obtain ⟨o1, k1⟩ := hone_of hone 1 f1 rfl
      obtain ⟨o2, k2⟩ := hone_of hone 2 f2 rfl
      obtain ⟨o3, k3⟩ := hone_of hone 3 f3 rfl
      obtain ⟨o4, k4⟩ := hone_of hone 4 f4 rfl
      rw [o0, k0] at g0
      rw [o1, k1] at g1
      rw [o2, k2] at g2
      rw [o3, k3] at g3
      rw [o4, k4] at g4
      obtain ⟨o, ho, hr⟩ := op_of_cells h0 h1 h2 h3 he1 hc1 h4 he2 hc2 (v0 := c0) (v1 := c1) (v2 := c2) (v3 := c3) (v4 := c4) g0 g1 g2 g3 g4
      exact ⟨o, by rw [← ho], hr⟩
end

end Go.Proofs.Ytdmcbojncgdccaa
