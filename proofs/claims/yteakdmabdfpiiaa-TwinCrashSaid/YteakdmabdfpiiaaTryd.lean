/- The tries of a twin as data. -/
import Derived.Test.YteakdmabdfpiiaaSlc
namespace Go.Proofs.Yteakdmabdfpiiaa
set_option maxRecDepth 20000
open Go.ChangeShapes Go.WideShapes Go.ChangeAt Go.RowKit

structure Try_ where
  textA : Option Addr
  textn : Nat
  textc : Nat
  text : List UInt8
  fuse : Int
  keepA : Option Addr
  keepn : Nat
  keepc : Nat
  keep : List Int
def Try_.cells (o : Try_) : Array Value := #[.slice o.textA o.textn o.textc, .int .u8 o.fuse, .slice o.keepA o.keepn o.keepc]
def Try_.Reads (o : Try_) (W : World) : Prop := Rd W W.heap.size 1 o.textA o.textn o.textc (u8s o.text) ∧ (Lit.int .u8 o.fuse).wf = true ∧ Rd W W.heap.size 1 o.keepA o.keepn o.keepc (o.keep.map (Value.int .i64)) ∧ (∀ z ∈ o.keep, (Lit.int .i64 z).wf = true)
def Try_.zero : Try_ := ⟨none, 0, 0, [], 0, none, 0, 0, []⟩
theorem Try_.zero_reads (W : World) : Try_.zero.Reads W := ⟨Rd.nil_, by decide, Rd.nil_, fun _ h => by cases h⟩
theorem Try_.size (o : Try_) : o.cells.size = 3 := by simp [Try_.cells]
theorem Try_.below {o : Try_} {W W' : World} (h : o.Reads W) (hb : Below W.heap.size W W') : o.Reads W' := by
  obtain ⟨h0, h1, h2, h3⟩ := h
  exact ⟨(h0.below hb).more hb.size, h1, (h2.below hb).more hb.size, h3⟩
def Try_.lay : Lay Try_ 3 := ⟨Try_.cells, Try_.size, Try_.Reads, fun _ _ _ h hb => Try_.below h hb, Try_.zero, Try_.zero_reads⟩
section
variable {H : Type} {enc : TypeId × Value → H} {W : World} {r : Reach} {b0 : Nat} {v : Value} {d : DataW H} {p : List MemPlace}
theorem Try_.of_cells {n : Nat} {cs : List Value} {y : DataW H × List MemPlace} (hl : cs.length = 3) (h : DataW.trod enc Try.prog W 0 (fun _ => true) true n 55 cs = some y) : ∃ o : Try_, cs = o.cells.toList ∧ o.Reads W := by
  obtain ⟨g0, g1, g2, hs, hat, t0, t1, t2⟩ : ∃ g0 g1 g2 : Field, Try.prog.underlying 55 = some (.struct #[g0, g1, g2]) ∧ fieldsAtK Try.prog #[g0, g1, g2] [(0, 1), (1, 1), (2, 1)] = true ∧ g0.type = 38 ∧ g1.type = 5 ∧ g2.type = 39 := ⟨_, _, _, Try.underlying55, by kernel_rfl, rfl, rfl, rfl⟩
  obtain ⟨ys, n', _, _, _, hyl, hg⟩ := DataW.trod_struct hs h
  match cs, hl with
  | [c0, c1, c2], _ =>
    match ys, hyl with
    | [y0, y1, y2], _ =>
      have k0 := hg 0 g0 rfl
      obtain ⟨o0, m0⟩ := fatK hat 0 g0 (0, 1) rfl rfl
      rw [o0, m0, t0] at k0
      have k1 := hg 1 g1 rfl
      obtain ⟨o1, m1⟩ := fatK hat 1 g1 (1, 1) rfl rfl
      rw [o1, m1, t1] at k1
      have k2 := hg 2 g2 rfl
      obtain ⟨o2, m2⟩ := fatK hat 2 g2 (2, 1) rfl rfl
      rw [o2, m2, t2] at k2
      obtain ⟨A0, n0, x0, l0, e0, r0⟩ := cell_bytes (v := c0) Try.underlying38 Try.underlying5 (by kernel_rfl) k0
      subst e0
      obtain ⟨a1, ha1, _, hw1⟩ := DataW.trod_int Try.underlying5 k1
      cases ha1
      obtain ⟨A2, n2, x2, l2, e2, r2, q2⟩ := cell_nums (v := c2) Try.underlying39 Try.underlying3 (by kernel_rfl) k2
      subst e2
      exact ⟨⟨A0, n0, x0, l0, a1, A2, n2, x2, l2⟩, rfl, r0, hw1, r2, q2⟩
theorem Try_.dec (hok : Value.okWide Try.prog W r b0 53 v) (h : DataW.Trod enc Try.prog W 0 (fun _ => true) true 53 v d p) : ∃ (A : Option Addr) (n c : Nat) (os : List Try_), v = .slice A n c ∧ Slc Try_.lay W A n c os :=
  dec_slc Try.underlying53 (by kernel_rfl) (by decide) (fun _ _ _ hl h => Try_.of_cells hl h) hok h
end

end Go.Proofs.Yteakdmabdfpiiaa
