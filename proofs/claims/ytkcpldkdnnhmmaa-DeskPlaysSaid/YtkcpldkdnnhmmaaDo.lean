/- A call of the law's, read as data. -/
import Derived.Test.YtkcpldkdnnhmmaaSlc
import Derived.Test.YtkcpldkdnnhmmaaRowkit
namespace Go.Proofs.Ytkcpldkdnnhmmaa
set_option maxRecDepth 20000
open Go.ChangeShapes Go.WideShapes Go.ChangeAt Go.RowKit

/-- A call: what it is, of whom, an index or a round, blocks, a node, marks. -/
structure O25 where
  kd : Int
  cl : Nat
  rq : Nat
  x : Nat
  fr : Nat
  ct : Nat
  nd : Int
  mL : Nat
  mB : Nat
def O25.cells (o : O25) : Array Value := #[.int .i64 o.kd, .int .u64 (o.cl : Int), .int .u64 (o.rq : Int), .int .u64 (o.x : Int), .int .u32 (o.fr : Int), .int .u32 (o.ct : Int), .int .i64 o.nd, .int .u64 (o.mL : Int), .int .u64 (o.mB : Int)]
theorem O25.size (o : O25) : o.cells.size = 9 := rfl
def O25.Reads (o : O25) (_ : World) : Prop := o.x < 18446744073709551616 ∧ o.mL < 18446744073709551616 ∧ o.mB < 18446744073709551616
section
variable {H : Type} {enc : TypeId × Value → H} {P : Program} {W : World} {r : Reach} {b0 : Nat} {v : Value} {d : DataW H} {p : List MemPlace}
theorem okWide_struct' {t : TypeId} {fs : Array Field} (ht : P.underlying t = some (.struct fs)) (h : Value.okWide P W r b0 t v) : ∃ cs, v = .agg cs ∧ cs.size = P.cellsOf t := by
  simp only [Value.okWide, ht] at h
  obtain ⟨cs, h1, h2, _⟩ := h
  exact ⟨cs, h1, h2⟩
theorem ints2_of_cells {t : TypeId} {f0 f1 : Field} {k0 k1 : IntKind} {n : Nat} {cs : List Value} {y : DataW H × List MemPlace} (hs : P.underlying t = some (.struct #[f0, f1])) (hat : fieldsAtK P #[f0, f1] [(0, 1), (1, 1)] = true) (h0 : P.underlying f0.type = some (.int k0)) (h1 : P.underlying f1.type = some (.int k1)) (hl : cs.length = 2)
    (h : DataW.trod enc P W 0 (fun _ => true) true n t cs = some y) : ∃ a b, cs = [.int k0 a, .int k1 b] ∧ (Lit.int k0 a).wf = true ∧ (Lit.int k1 b).wf = true := by
  obtain ⟨ys, n', _, _, _, hyl, hg⟩ := DataW.trod_struct hs h
  match ys, hyl with
  | [y0, y1], _ =>
    have g0 := hg 0 f0 rfl
    obtain ⟨o0, m0⟩ := fatK hat 0 f0 (0, 1) rfl rfl
    rw [o0, m0] at g0
    have g1 := hg 1 f1 rfl
    obtain ⟨o1, m1⟩ := fatK hat 1 f1 (1, 1) rfl rfl
    rw [o1, m1] at g1
    obtain ⟨a, ea, _, wa⟩ := DataW.trod_int h0 g0
    obtain ⟨b, eb, _, wb⟩ := DataW.trod_int h1 g1
    refine ⟨a, b, ?_, wa, wb⟩
    match cs, hl with
    | [u0, u1], _ =>
      simp only [List.drop_zero, List.take_succ_cons, List.take_zero, List.drop_succ_cons, List.cons.injEq, and_true] at ea eb
      rw [ea, eb]
theorem u64_wf {a : Int} (h : (Lit.int .u64 a).wf = true) : ∃ n : Nat, a = (n : Int) ∧ n < 18446744073709551616 := by
  simp [Lit.wf, IntKind.min, IntKind.max, IntKind.signed, IntKind.bits] at h
  exact ⟨a.toNat, by omega, by omega⟩
theorem u32_wf {a : Int} (h : (Lit.int .u32 a).wf = true) : ∃ n : Nat, a = (n : Int) := by
  simp [Lit.wf, IntKind.min, IntKind.max, IntKind.signed, IntKind.bits] at h
  exact ⟨a.toNat, by omega⟩
theorem O25.of_cells {n : Nat} {cs : List Value} {y : DataW H × List MemPlace} (hl : cs.length = 9) (h : DataW.trod enc Try.prog W 0 (fun _ => true) true n 36 cs = some y) : ∃ o : O25, cs = o.cells.toList ∧ o.Reads W := by
  obtain ⟨g0, g1, g2, g3, g4, g5, g6, hs, hat, t0, t1, t2, t3, t4, t5, t6⟩ : ∃ g0 g1 g2 g3 g4 g5 g6 : Field, Try.prog.underlying 36 = some (.struct #[g0, g1, g2, g3, g4, g5, g6]) ∧ fieldsAtK Try.prog #[g0, g1, g2, g3, g4, g5, g6] [(0, 1), (1, 1), (2, 1), (3, 1), (4, 2), (6, 1), (7, 2)] = true ∧ g0.type = 3 ∧ g1.type = 29 ∧ g2.type = 29 ∧ g3.type = 29 ∧ g4.type = 32 ∧ g5.type = 3 ∧ g6.type = 34 :=
    ⟨_, _, _, _, _, _, _, Try.underlying36, by kernel_rfl, rfl, rfl, rfl, rfl, rfl, rfl, rfl⟩
  obtain ⟨ys, n', _, _, _, hyl, hg⟩ := DataW.trod_struct hs h
  match ys, hyl with
  | [y0, y1, y2, y3, y4, y5, y6], _ =>
    have k0 := hg 0 g0 rfl
    obtain ⟨o0, m0⟩ := fatK hat 0 g0 (0, 1) rfl rfl
    rw [o0, m0, t0] at k0
    have k1 := hg 1 g1 rfl
    obtain ⟨o1, m1⟩ := fatK hat 1 g1 (1, 1) rfl rfl
    rw [o1, m1, t1] at k1
    have k2 := hg 2 g2 rfl
    obtain ⟨o2, m2⟩ := fatK hat 2 g2 (2, 1) rfl rfl
    rw [o2, m2, t2] at k2
    have k3 := hg 3 g3 rfl
    obtain ⟨o3, m3⟩ := fatK hat 3 g3 (3, 1) rfl rfl
    rw [o3, m3, t3] at k3
    have k4 := hg 4 g4 rfl
    obtain ⟨o4, m4⟩ := fatK hat 4 g4 (4, 2) rfl rfl
    rw [o4, m4, t4] at k4
    have k5 := hg 5 g5 rfl
    obtain ⟨o5, m5⟩ := fatK hat 5 g5 (6, 1) rfl rfl
    rw [o5, m5, t5] at k5
    have k6 := hg 6 g6 rfl
    obtain ⟨o6, m6⟩ := fatK hat 6 g6 (7, 2) rfl rfl
    rw [o6, m6, t6] at k6
    clear hg hat
    obtain ⟨a0, e0, _, w0⟩ := DataW.trod_int Try.underlying3 k0
    obtain ⟨a1, e1, _, w1⟩ := DataW.trod_int Try.underlying29 k1
    obtain ⟨a2, e2, _, w2⟩ := DataW.trod_int Try.underlying29 k2
    obtain ⟨a3, e3, _, w3⟩ := DataW.trod_int Try.underlying29 k3
    obtain ⟨a4, b4, e4, w4, v4⟩ := ints2_of_cells Try.underlying32 (by kernel_rfl) Try.underlying30 Try.underlying30 (by rw [List.length_take, List.length_drop]; omega) k4
    obtain ⟨a5, e5, _, w5⟩ := DataW.trod_int Try.underlying3 k5
    obtain ⟨a6, b6, e6, w6, v6⟩ := ints2_of_cells Try.underlying34 (by kernel_rfl) Try.underlying29 Try.underlying29 (by rw [List.length_take, List.length_drop]; omega) k6
    obtain ⟨a1, rfl, _⟩ := u64_wf w1
    obtain ⟨a2, rfl, _⟩ := u64_wf w2
    obtain ⟨a3, rfl, r3⟩ := u64_wf w3
    obtain ⟨a4, rfl⟩ := u32_wf w4
    obtain ⟨b4, rfl⟩ := u32_wf v4
    obtain ⟨a6, rfl, r6⟩ := u64_wf w6
    obtain ⟨b6, rfl, s6⟩ := u64_wf v6
    refine ⟨⟨a0, a1, a2, a3, a4, b4, a5, a6, b6⟩, ?_, r3, r6, s6⟩
    match cs, hl with
    | [u0, u1, u2, u3, u4, u5, u6, u7, u8], _ =>
      simp only [List.drop_zero, List.take_succ_cons, List.take_zero, List.drop_succ_cons, List.cons.injEq, and_true] at e0 e1 e2 e3 e4 e5 e6
      obtain ⟨e4, e4'⟩ := e4
      obtain ⟨e6, e6'⟩ := e6
      unfold O25.cells
      rw [e0, e1, e2, e3, e4, e4', e5, e6, e6']
def O25.zero : O25 := ⟨0, 0, 0, 0, 0, 0, 0, 0, 0⟩
theorem O25.zero_reads (W : World) : O25.zero.Reads W := ⟨by decide, by decide, by decide⟩
def O25.lay : Lay O25 9 := ⟨O25.cells, O25.size, O25.Reads, fun _ _ _ h _ => h, O25.zero, O25.zero_reads⟩
theorem O25.dec (hok : Value.okWide Try.prog W r b0 22 v) (h : DataW.Trod enc Try.prog W 0 (fun _ => true) true 22 v d p) : ∃ (A : Option Addr) (n c : Nat) (os : List O25), v = .slice A n c ∧ Slc O25.lay W A n c os :=
  dec_slc Try.underlying22 (by kernel_rfl) (by decide) (fun _ _ _ hl h => O25.of_cells hl h) hok h
theorem O25.decv (hok : Value.okWide Try.prog W r b0 36 v) (h : DataW.Trod enc Try.prog W 0 (fun _ => true) true 36 v d p) : ∃ o : O25, v = .agg o.cells ∧ o.Reads W := by
  obtain ⟨cs, rfl, h2⟩ := okWide_struct' Try.underlying36 hok
  have hsz : cs.size = 9 := h2.trans (by kernel_rfl)
  obtain ⟨fuel, hf⟩ := h
  obtain ⟨o, ho, hr⟩ := O25.of_cells (cs := cs.toList) (by rw [Array.length_toList]; exact hsz) hf
  exact ⟨o, by rw [show cs = o.cells from Array.ext' ho], hr⟩
end
end Go.Proofs.Ytkcpldkdnnhmmaa
