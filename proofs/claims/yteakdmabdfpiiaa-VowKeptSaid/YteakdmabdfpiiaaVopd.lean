/- The calls of a vow as data. -/
import Derived.Test.YteakdmabdfpiiaaSlc
namespace Go.Proofs.Yteakdmabdfpiiaa
set_option maxRecDepth 20000
open Go.ChangeShapes Go.WideShapes Go.ChangeAt Go.RowKit

structure Vop where
  kind : Int
  term : Int
  node : Int
  fuse : Int
  keepA : Option Addr
  keepn : Nat
  keepc : Nat
  keep : List Int
def Vop.cells (o : Vop) : Array Value := #[.int .i64 o.kind, .int .u64 o.term, .int .i64 o.node, .int .i64 o.fuse, .slice o.keepA o.keepn o.keepc]
def Vop.Reads (o : Vop) (W : World) : Prop := (Lit.int .i64 o.kind).wf = true ∧ (Lit.int .u64 o.term).wf = true ∧ (Lit.int .i64 o.node).wf = true ∧ (Lit.int .i64 o.fuse).wf = true ∧ Rd W W.heap.size 1 o.keepA o.keepn o.keepc (o.keep.map (Value.int .i64)) ∧ (∀ z ∈ o.keep, (Lit.int .i64 z).wf = true)
def Vop.zero : Vop := ⟨0, 0, 0, 0, none, 0, 0, []⟩
theorem Vop.zero_reads (W : World) : Vop.zero.Reads W := ⟨by decide, by decide, by decide, by decide, Rd.nil_, fun _ h => by cases h⟩
theorem Vop.size (o : Vop) : o.cells.size = 5 := by simp [Vop.cells]
theorem Vop.below {o : Vop} {W W' : World} (h : o.Reads W) (hb : Below W.heap.size W W') : o.Reads W' := by
  obtain ⟨h0, h1, h2, h3, h4, h5⟩ := h
  exact ⟨h0, h1, h2, h3, (h4.below hb).more hb.size, h5⟩
def Vop.lay : Lay Vop 5 := ⟨Vop.cells, Vop.size, Vop.Reads, fun _ _ _ h hb => Vop.below h hb, Vop.zero, Vop.zero_reads⟩
section
variable {H : Type} {enc : TypeId × Value → H} {W : World} {r : Reach} {b0 : Nat} {v : Value} {d : DataW H} {p : List MemPlace}
theorem Vop.of_cells {n : Nat} {cs : List Value} {y : DataW H × List MemPlace} (hl : cs.length = 5) (h : DataW.trod enc Try.prog W 0 (fun _ => true) true n 76 cs = some y) : ∃ o : Vop, cs = o.cells.toList ∧ o.Reads W := by
  obtain ⟨g0, g1, g2, g3, g4, hs, hat, t0, t1, t2, t3, t4⟩ : ∃ g0 g1 g2 g3 g4 : Field, Try.prog.underlying 76 = some (.struct #[g0, g1, g2, g3, g4]) ∧ fieldsAtK Try.prog #[g0, g1, g2, g3, g4] [(0, 1), (1, 1), (2, 1), (3, 1), (4, 1)] = true ∧ g0.type = 3 ∧ g1.type = 60 ∧ g2.type = 3 ∧ g3.type = 3 ∧ g4.type = 39 := ⟨_, _, _, _, _, Try.underlying76, by kernel_rfl, rfl, rfl, rfl, rfl, rfl⟩
  obtain ⟨ys, n', _, _, _, hyl, hg⟩ := DataW.trod_struct hs h
  match cs, hl with
  | [c0, c1, c2, c3, c4], _ =>
    match ys, hyl with
    | [y0, y1, y2, y3, y4], _ =>
      have k0 := hg 0 g0 rfl
      obtain ⟨o0, m0⟩ := fatK hat 0 g0 (0, 1) rfl rfl
      rw [o0, m0, t0] at k0
      have k1 := hg 1 g1 rfl
      obtain ⟨o1, m1⟩ := fatK hat 1 g1 (1, 1) rfl rfl
      rw [o1, m1, t1] at k1
      have k2 := hg 2 g2 rfl
      obtain ⟨o2, m2⟩ := fatK hat 2 g2 (2, 1) rfl rfl
      rw [o2, m2, t2] at k2
      have k3 := hg 3 g3 rfl
      obtain ⟨o3, m3⟩ := fatK hat 3 g3 (3, 1) rfl rfl
      rw [o3, m3, t3] at k3
      have k4 := hg 4 g4 rfl
      obtain ⟨o4, m4⟩ := fatK hat 4 g4 (4, 1) rfl rfl
      rw [o4, m4, t4] at k4
      obtain ⟨a0, ha0, _, hw0⟩ := DataW.trod_int Try.underlying3 k0
      cases ha0
      obtain ⟨a1, ha1, _, hw1⟩ := DataW.trod_int Try.underlying60 k1
      cases ha1
      obtain ⟨a2, ha2, _, hw2⟩ := DataW.trod_int Try.underlying3 k2
      cases ha2
      obtain ⟨a3, ha3, _, hw3⟩ := DataW.trod_int Try.underlying3 k3
      cases ha3
      obtain ⟨A4, n4, x4, l4, e4, r4, q4⟩ := cell_nums (v := c4) Try.underlying39 Try.underlying3 (by kernel_rfl) k4
      subst e4
      exact ⟨⟨a0, a1, a2, a3, A4, n4, x4, l4⟩, rfl, hw0, hw1, hw2, hw3, r4, q4⟩
theorem Vop.dec (hok : Value.okWide Try.prog W r b0 69 v) (h : DataW.Trod enc Try.prog W 0 (fun _ => true) true 69 v d p) : ∃ (A : Option Addr) (n c : Nat) (os : List Vop), v = .slice A n c ∧ Slc Vop.lay W A n c os :=
  dec_slc Try.underlying69 (by kernel_rfl) (by decide) (fun _ _ _ hl h => Vop.of_cells hl h) hok h
theorem Vop.decv (hok : Value.okWide Try.prog W r b0 76 v) (h : DataW.Trod enc Try.prog W 0 (fun _ => true) true 76 v d p) : ∃ o : Vop, v = .agg o.cells ∧ o.Reads W := by
  obtain ⟨cs, rfl, hsz⟩ := okWide_struct Try.underlying76 hok
  obtain ⟨l⟩ := cs
  obtain ⟨fuel, hf⟩ := h
  obtain ⟨o, ho, hr⟩ := Vop.of_cells (cs := l) (hsz.trans (by kernel_rfl)) hf
  exact ⟨o, by rw [ho], hr⟩
end

end Go.Proofs.Yteakdmabdfpiiaa
