/- The data of keelsonlaw08.Op. -/
import Derived.Test.YtddnjlnhnnpgiaaSlc
import Derived.Test.YtddnjlnhnnpgiaaTwrbZ
namespace Go.Proofs.Ytddnjlnhnnpgiaa
set_option maxRecDepth 20000
open Go.ChangeShapes Go.WideShapes Go.ChangeAt Go.RowKit

structure Opx where
  kd : Int
  x : Int
  n : Int
  bA : Option Addr
  bn : Nat
  bc : Nat
  b : List UInt8
  keepA : Option Addr
  keepn : Nat
  keepc : Nat
  keep : List Int
def Opx.cells (o : Opx) : Array Value := #[.int .i64 o.kd, .int .i64 o.x, .int .i64 o.n, .slice o.bA o.bn o.bc, .slice o.keepA o.keepn o.keepc]
def Opx.Reads (o : Opx) (W : World) : Prop := (Lit.int .i64 o.kd).wf = true ∧ (Lit.int .i64 o.x).wf = true ∧ (Lit.int .i64 o.n).wf = true ∧ Rd W W.heap.size 1 o.bA o.bn o.bc (u8s o.b) ∧ Rd W W.heap.size 1 o.keepA o.keepn o.keepc (o.keep.map (Value.int .i64)) ∧ (∀ z ∈ o.keep, (Lit.int .i64 z).wf = true)
def Opx.zero : Opx := ⟨0, 0, 0, none, 0, 0, [], none, 0, 0, []⟩
theorem Opx.zero_reads (W : World) : Opx.zero.Reads W := ⟨by decide, by decide, by decide, Rd.nil_, Rd.nil_, fun _ h => by cases h⟩
theorem Opx.size (o : Opx) : o.cells.size = 5 := by simp [Opx.cells]
theorem Opx.below {o : Opx} {W W' : World} (h : o.Reads W) (hb : Below W.heap.size W W') : o.Reads W' := by
  obtain ⟨h0, h1, h2, h3, h4, h5⟩ := h
  exact ⟨h0, h1, h2, (h3.below hb).more hb.size, (h4.below hb).more hb.size, h5⟩
def Opx.lay : Lay Opx 5 := ⟨Opx.cells, Opx.size, Opx.Reads, fun _ _ _ h hb => Opx.below h hb, Opx.zero, Opx.zero_reads⟩
section
variable {H : Type} {enc : TypeId × Value → H} {W : World} {r : Reach} {b0 : Nat} {v : Value} {d : DataW H} {p : List MemPlace}
theorem Opx.of_cells {n : Nat} {cs : List Value} {y : DataW H × List MemPlace} (hl : cs.length = 5) (h : DataW.trod enc Try.prog W 0 (fun _ => true) true n 41 cs = some y) : ∃ o : Opx, cs = o.cells.toList ∧ o.Reads W := by
  obtain ⟨g0, g1, g2, g3, g4, hs, hat, t0, t1, t2, t3, t4⟩ : ∃ g0 g1 g2 g3 g4 : Field, Try.prog.underlying 41 = some (.struct #[g0, g1, g2, g3, g4]) ∧ fieldsAtK Try.prog #[g0, g1, g2, g3, g4] [(0, 1), (1, 1), (2, 1), (3, 1), (4, 1)] = true ∧ g0.type = 3 ∧ g1.type = 3 ∧ g2.type = 3 ∧ g3.type = 38 ∧ g4.type = 39 := ⟨_, _, _, _, _, Try.underlying41, by kernel_rfl, rfl, rfl, rfl, rfl, rfl⟩
  obtain ⟨ys, n', _, _, _, hyl, hg⟩ := DataW.trod_struct hs h
  match cs, hl with
  | [c0, c1, c2, c3, c4], _ =>
    match ys, hyl with
    | [y0, y1, y2, y3, y4], _ =>
      have k0 := hg 0 g0 rfl
      obtain ⟨o0, m0⟩ := fatK hat 0 g0 (0, 1) rfl rfl
      rw [o0, m0, t0] at k0
      have k1 := hg 1 g1 rfl
      obtain ⟨o1, m1⟩ := fatK hat 1 g1 (1, 1) rfl rfl
      rw [o1, m1, t1] at k1
      have k2 := hg 2 g2 rfl
      obtain ⟨o2, m2⟩ := fatK hat 2 g2 (2, 1) rfl rfl
      rw [o2, m2, t2] at k2
      have k3 := hg 3 g3 rfl
      obtain ⟨o3, m3⟩ := fatK hat 3 g3 (3, 1) rfl rfl
      rw [o3, m3, t3] at k3
      have k4 := hg 4 g4 rfl
      obtain ⟨o4, m4⟩ := fatK hat 4 g4 (4, 1) rfl rfl
      rw [o4, m4, t4] at k4
      obtain ⟨a0, ha0, _, hw0⟩ := DataW.trod_int Try.underlying3 k0
      cases ha0
      obtain ⟨a1, ha1, _, hw1⟩ := DataW.trod_int Try.underlying3 k1
      cases ha1
      obtain ⟨a2, ha2, _, hw2⟩ := DataW.trod_int Try.underlying3 k2
      cases ha2
      obtain ⟨A3, n3, x3, l3, e3, r3⟩ := cell_bytes (v := c3) Try.underlying38 Try.underlying5 (by kernel_rfl) k3
      subst e3
      obtain ⟨A4, n4, x4, l4, e4, r4, q4⟩ := cell_nums (v := c4) Try.underlying39 Try.underlying3 (by kernel_rfl) k4
      subst e4
      exact ⟨⟨a0, a1, a2, A3, n3, x3, l3, A4, n4, x4, l4⟩, rfl, hw0, hw1, hw2, r3, r4, q4⟩
theorem Opx.dec (hok : Value.okWide Try.prog W r b0 45 v) (h : DataW.Trod enc Try.prog W 0 (fun _ => true) true 45 v d p) : ∃ (A : Option Addr) (n c : Nat) (os : List Opx), v = .slice A n c ∧ Slc Opx.lay W A n c os :=
  dec_slc Try.underlying45 (by kernel_rfl) (by decide) (fun _ _ _ hl h => Opx.of_cells hl h) hok h
theorem Opx.decv (hok : Value.okWide Try.prog W r b0 41 v) (h : DataW.Trod enc Try.prog W 0 (fun _ => true) true 41 v d p) : ∃ o : Opx, v = .agg o.cells ∧ o.Reads W := by
  obtain ⟨cs, rfl, hsz⟩ := okWide_struct Try.underlying41 hok
  obtain ⟨l⟩ := cs
  obtain ⟨fuel, hf⟩ := h
  obtain ⟨o, ho, hr⟩ := Opx.of_cells (cs := l) (hsz.trans (by kernel_rfl)) hf
  exact ⟨o, by rw [ho], hr⟩
end
structure Opt where
  kind : Int
  textA : Option Addr
  textn : Nat
  textc : Nat
  text : List UInt8
  d : Opx
def Opt.cells (o : Opt) : Array Value := #[.int .i64 o.kind, .slice o.textA o.textn o.textc] ++ o.d.cells
def Opt.Reads (o : Opt) (W : World) : Prop := (Lit.int .i64 o.kind).wf = true ∧ Rd W W.heap.size 1 o.textA o.textn o.textc (u8s o.text) ∧ o.d.Reads W
def Opt.zero : Opt := ⟨0, none, 0, 0, [], Opx.zero⟩
theorem Opt.zero_reads (W : World) : Opt.zero.Reads W := ⟨by decide, Rd.nil_, Opx.zero_reads W⟩
theorem Opt.size (o : Opt) : o.cells.size = 7 := by simp [Opt.cells, Opx.size]
theorem Opt.below {o : Opt} {W W' : World} (h : o.Reads W) (hb : Below W.heap.size W W') : o.Reads W' := by
  obtain ⟨h0, h1, h2⟩ := h
  exact ⟨h0, (h1.below hb).more hb.size, Opx.below h2 hb⟩
def Opt.lay : Lay Opt 7 := ⟨Opt.cells, Opt.size, Opt.Reads, fun _ _ _ h hb => Opt.below h hb, Opt.zero, Opt.zero_reads⟩
section
variable {H : Type} {enc : TypeId × Value → H} {W : World} {r : Reach} {b0 : Nat} {v : Value} {d : DataW H} {p : List MemPlace}
theorem Opt.of_cells {n : Nat} {cs : List Value} {y : DataW H × List MemPlace} (hl : cs.length = 7) (h : DataW.trod enc Try.prog W 0 (fun _ => true) true n 43 cs = some y) : ∃ o : Opt, cs = o.cells.toList ∧ o.Reads W := by
  obtain ⟨g0, g1, g2, hs, hat, t0, t1, t2⟩ : ∃ g0 g1 g2 : Field, Try.prog.underlying 43 = some (.struct #[g0, g1, g2]) ∧ fieldsAtK Try.prog #[g0, g1, g2] [(0, 1), (1, 1), (2, 5)] = true ∧ g0.type = 3 ∧ g1.type = 38 ∧ g2.type = 41 := ⟨_, _, _, Try.underlying43, by kernel_rfl, rfl, rfl, rfl⟩
  obtain ⟨ys, n', _, _, _, hyl, hg⟩ := DataW.trod_struct hs h
  match cs, hl with
  | [c0, c1, c2, c3, c4, c5, c6], _ =>
    match ys, hyl with
    | [y0, y1, y2], _ =>
      have k0 := hg 0 g0 rfl
      obtain ⟨o0, m0⟩ := fatK hat 0 g0 (0, 1) rfl rfl
      rw [o0, m0, t0] at k0
      have k1 := hg 1 g1 rfl
      obtain ⟨o1, m1⟩ := fatK hat 1 g1 (1, 1) rfl rfl
      rw [o1, m1, t1] at k1
      have k2 := hg 2 g2 rfl
      obtain ⟨o2, m2⟩ := fatK hat 2 g2 (2, 5) rfl rfl
      rw [o2, m2, t2] at k2
      obtain ⟨a0, ha0, _, hw0⟩ := DataW.trod_int Try.underlying3 k0
      cases ha0
      obtain ⟨A1, n1, x1, l1, e1, r1⟩ := cell_bytes (v := c1) Try.underlying38 Try.underlying5 (by kernel_rfl) k1
      subst e1
      obtain ⟨u2, e2, r2⟩ := Opx.of_cells rfl k2
      refine ⟨⟨a0, A1, n1, x1, l1, u2⟩, ?_, hw0, r1, r2⟩
      simp [Opt.cells] at *
      simp_all
theorem Opt.dec (hok : Value.okWide Try.prog W r b0 22 v) (h : DataW.Trod enc Try.prog W 0 (fun _ => true) true 22 v d p) : ∃ (A : Option Addr) (n c : Nat) (os : List Opt), v = .slice A n c ∧ Slc Opt.lay W A n c os :=
  dec_slc Try.underlying22 (by kernel_rfl) (by decide) (fun _ _ _ hl h => Opt.of_cells hl h) hok h
theorem Opt.decv (hok : Value.okWide Try.prog W r b0 43 v) (h : DataW.Trod enc Try.prog W 0 (fun _ => true) true 43 v d p) : ∃ o : Opt, v = .agg o.cells ∧ o.Reads W := by
  obtain ⟨cs, rfl, hsz⟩ := okWide_struct Try.underlying43 hok
  obtain ⟨l⟩ := cs
  obtain ⟨fuel, hf⟩ := h
  obtain ⟨o, ho, hr⟩ := Opt.of_cells (cs := l) (hsz.trans (by kernel_rfl)) hf
  exact ⟨o, by rw [ho], hr⟩
end
/-- The call of a device that it holds. -/
def Opt.opd (o : Opt) : Opd := ⟨o.d.kd, o.d.x, o.d.n, o.d.bA, o.d.bn, o.d.bc, o.d.b, o.d.keepA, o.d.keepn, o.d.keepc, o.d.keep⟩
theorem Opt.opd_reads {o : Opt} {w : World} (h : o.Reads w) : o.opd.Reads w := by
  obtain ⟨_, _, h1, h2, h3, h4, h5, h6⟩ := h
  exact ⟨h4, h5, h1, h2, h3, h6⟩
theorem Opt.opd_cells (o : Opt) : o.opd.cells = o.d.cells := rfl
end Go.Proofs.Ytddnjlnhnnpgiaa
