/- Items, calls and pairs as arguments of a law, read as data. -/
import Derived.Test.YtlpckhjmbfeegaaCl
namespace Go.Proofs.Ytlpckhjmbfeegaa
set_option maxRecDepth 20000
open Go.ChangeShapes Go.WideShapes Go.ChangeAt Go.RowKit
open Go.Deep (oneCellFields open_slice hone_of)

theorem It.size (o : It) : o.cells.size = 3 := rfl
def It.lay : Lay It 3 := ⟨It.cells, It.size, fun _ _ => True, fun _ _ _ h _ => h, itNil, fun _ => trivial⟩
theorem flat_its (l : List It) : It.lay.flat l = its l := rfl
section
variable {H : Type} {enc : TypeId × Value → H} {P : Program} {W : World} {r : Reach} {b0 : Nat} {t e : TypeId} {v : Value} {d : DataW H} {p : List MemPlace} {α : Type} {K : Nat} {L : Lay α K}
theorem u64_wf {a : Int} (h : (Lit.int .u64 a).wf = true) : ∃ n : Nat, a = (n : Int) ∧ n < 18446744073709551616 := by
  simp [Lit.wf, IntKind.min, IntKind.max, IntKind.signed, IntKind.bits] at h
  exact ⟨a.toNat, by omega, by omega⟩
theorem u8_wf {a : Int} (h : (Lit.int .u8 a).wf = true) : ∃ n : Nat, a = (n : Int) ∧ n < 256 := by
  simp [Lit.wf, IntKind.min, IntKind.max, IntKind.signed, IntKind.bits] at h
  exact ⟨a.toNat, by omega, by omega⟩
theorem dec_u64 (ht : P.underlying t = some (.int .u64)) (hok : Value.okWide P W r b0 t v) (h : DataW.Trod enc P W 0 (fun _ => true) true t v d p) : ∃ n : Nat, v = .int .u64 (n : Int) ∧ n < 18446744073709551616 := by
  obtain ⟨a, rfl, hw⟩ := dec_int ht hok h
  obtain ⟨n, rfl, hn⟩ := u64_wf hw
  exact ⟨n, rfl, hn⟩
theorem okWide_struct' {fs : Array Field} (ht : P.underlying t = some (.struct fs)) (h : Value.okWide P W r b0 t v) : ∃ cs, v = .agg cs ∧ cs.size = P.cellsOf t := by
  simp only [Value.okWide, ht] at h
  obtain ⟨cs, h1, h2, _⟩ := h
  exact ⟨cs, h1, h2⟩
/-- A slice of structs that is a cell of another one. -/
theorem slc_of_cells {fuel : Nat} {cs : List Value} {y : DataW H × List MemPlace} (ht : P.underlying t = some (.slice e)) (hC : P.cellsOf e = K) (hK : 0 < K)
    (hof : ∀ n cs y, cs.length = K → DataW.trod enc P W 0 (fun _ => true) true n e cs = some y → ∃ o, cs = (L.cells o).toList ∧ L.reads o W)
    (hf : DataW.trod enc P W 0 (fun _ => true) true fuel t cs = some y) : ∃ (A : Option Addr) (n c : Nat) (os : List α), cs = [.slice A n c] ∧ Slc L W A n c os := by
  rcases open_slice ht hf with ⟨hcs, _⟩ | ⟨x, n, c, m, k, D, Pl, hcs, _, hl, hm, hmm, _, hi⟩
  · subst hcs
    refine ⟨_, _, _, [], rfl, ⟨?_, rfl, fun _ h => by cases h⟩⟩
    exact ⟨Nat.le_refl _, Nat.zero_le _, by rw [L.flat_len]; rfl, fun h => absurd h (Nat.lt_irrefl _)⟩
  · subst hcs
    simp only [if_true] at hmm
    rw [hC] at hi
    have each : ∀ i, ∃ o : α, (i < n → ∀ c u, (L.cells o)[c]? = some u → W.cell? (x.add (i * K + c)) = some u) ∧ L.reads o W := by
      intro i
      by_cases hin : i < n
      · obtain ⟨cs', hc, ht'⟩ := hi i (by omega)
        obtain ⟨_, hcl, hat⟩ := World.cells?_some hc
        obtain ⟨o, ho, hr⟩ := hof _ _ _ hcl ht'
        refine ⟨o, fun _ c u hu => ?_, hr⟩
        have hc10 : c < K := by have := (Array.getElem?_eq_some_iff.1 hu).1; rwa [L.size] at this
        have a := hat c hc10
        rw [← Go.Deep.add_add, a, ho]
        rwa [Array.getElem?_toList]
      · exact ⟨L.zero, fun h => absurd h hin, L.zeroReads W⟩
    obtain ⟨g, hg⟩ := Classical.axiomOfChoice each
    refine ⟨_, n, c, (List.range n).map g, rfl, ⟨hl, hm, by rw [L.flat_len]; simp, fun hn => ?_⟩, by simp, fun o ho => by obtain ⟨i, _, rfl⟩ := List.mem_map.1 ho; exact (hg i).2⟩
    obtain ⟨u0, hu0⟩ : ∃ u', (L.cells (g 0))[0]? = some u' := ⟨_, Array.getElem?_eq_getElem (by rw [L.size]; exact hK)⟩
    have hc0 := (hg 0).1 (by omega) 0 _ hu0
    obtain ⟨b, off, spot⟩ := x
    have hspot : spot = none := by simpa [Addr.add] using World.cell?_spot hc0
    subst hspot
    refine ⟨b, off, rfl, ?_, fun j u hu => ?_⟩
    · have := World.block_lt_of_cell? W _ hc0
      simpa [addOff] using this
    · obtain ⟨i, c', hi', hc', rfl, hu'⟩ := L.flat_range g n j u hu
      have := (hg i).1 hi' c' u hu'
      rwa [addOff] at this
end
section
variable {H : Type} {enc : TypeId × Value → H} {W : World} {r : Reach} {b0 : Nat} {v : Value} {d : DataW H} {p : List MemPlace}
theorem It.of_cells {n : Nat} {cs : List Value} {y : DataW H × List MemPlace} (hl : cs.length = 3) (h : DataW.trod enc Try.prog W 0 (fun _ => true) true n 47 cs = some y) : ∃ o : It, cs = o.cells.toList ∧ True := by
  obtain ⟨g0, g1, g2, hs, hat, t0, t1, t2⟩ : ∃ g0 g1 g2 : Field, Try.prog.underlying 47 = some (.struct #[g0, g1, g2]) ∧ fieldsAtK Try.prog #[g0, g1, g2] [(0, 1), (1, 1), (2, 1)] = true ∧ g0.type = 22 ∧ g1.type = 3 ∧ g2.type = 9 :=
    ⟨_, _, _, Try.underlying47, by kernel_rfl, rfl, rfl, rfl⟩
  obtain ⟨ys, n', _, _, _, hyl, hg⟩ := DataW.trod_struct hs h
  match ys, hyl with
  | [y0, y1, y2], _ =>
    have k0 := hg 0 g0 rfl
    obtain ⟨o0, m0⟩ := fatK hat 0 g0 (0, 1) rfl rfl
    rw [o0, m0, t0] at k0
    have k1 := hg 1 g1 rfl
    obtain ⟨o1, m1⟩ := fatK hat 1 g1 (1, 1) rfl rfl
    rw [o1, m1, t1] at k1
    have k2 := hg 2 g2 rfl
    obtain ⟨o2, m2⟩ := fatK hat 2 g2 (2, 1) rfl rfl
    rw [o2, m2, t2] at k2
    obtain ⟨a0, e0, _, w0⟩ := DataW.trod_int Try.underlying22 k0
    obtain ⟨a1, e1, _, w1⟩ := DataW.trod_int Try.underlying3 k1
    obtain ⟨s, e2, _, _⟩ := DataW.trod_string Try.underlying9 k2
    obtain ⟨a0, rfl, _⟩ := u64_wf w0
    have hstr : s = str s.data.toList := by simp [str]
    refine ⟨⟨a0, a1, s.data.toList⟩, ?_, trivial⟩
    match cs, hl with
    | [u0, u1, u2], _ =>
      simp only [List.drop_zero, List.take_succ_cons, List.take_zero, List.drop_succ_cons, List.cons.injEq, and_true] at e0 e1 e2
      unfold It.cells
      rw [e0, e1, e2, ← hstr]
theorem It.dec (hok : Value.okWide Try.prog W r b0 31 v) (h : DataW.Trod enc Try.prog W 0 (fun _ => true) true 31 v d p) : ∃ (A : Option Addr) (n c : Nat) (os : List It), v = .slice A n c ∧ Slc It.lay W A n c os :=
  dec_slc Try.underlying31 (by kernel_rfl) (by decide) (fun _ _ _ hl h => It.of_cells hl h) hok h
theorem It.decv (hok : Value.okWide Try.prog W r b0 47 v) (h : DataW.Trod enc Try.prog W 0 (fun _ => true) true 47 v d p) : ∃ o : It, v = .agg o.cells ∧ True := by
  obtain ⟨cs, rfl, h2⟩ := okWide_struct' Try.underlying47 hok
  have hsz : cs.size = 3 := h2.trans (by kernel_rfl)
  obtain ⟨fuel, hf⟩ := h
  obtain ⟨o, ho, hr⟩ := It.of_cells (cs := cs.toList) (by rw [Array.length_toList]; exact hsz) hf
  exact ⟨o, by rw [show cs = o.cells from Array.ext' ho], hr⟩
end
/-- A call: what it is, of which item, of which term, items. -/
structure O29 where
  kd : Int
  pv : Nat
  tm : Nat
  A : Option Addr
  n : Nat
  c : Nat
  l : List It
def O29.cells (o : O29) : Array Value := #[.int .i64 o.kd, .int .u64 (o.pv : Int), .int .u64 (o.tm : Int), .slice o.A o.n o.c]
theorem O29.size (o : O29) : o.cells.size = 4 := rfl
def O29.Reads (o : O29) (w : World) : Prop := o.pv < 18446744073709551616 ∧ o.tm < 18446744073709551616 ∧ Rd w w.heap.size 3 o.A o.n o.c (its o.l) ∧ o.l.length = o.n
theorem O29.Reads.below {o : O29} {w w' : World} (h : o.Reads w) (hb : Below w.heap.size w w') : o.Reads w' := ⟨h.1, h.2.1, (h.2.2.1.below hb).more hb.size, h.2.2.2⟩
def O29.zero : O29 := ⟨0, 0, 0, none, 0, 0, []⟩
theorem O29.zero_reads (W : World) : O29.zero.Reads W := ⟨by decide, by decide, Rd.nil_, rfl⟩
def O29.lay : Lay O29 4 := ⟨O29.cells, O29.size, O29.Reads, fun _ _ _ h hb => h.below hb, O29.zero, O29.zero_reads⟩
section
variable {H : Type} {enc : TypeId × Value → H} {W : World} {r : Reach} {b0 : Nat} {v : Value} {d : DataW H} {p : List MemPlace}
theorem O29.of_cells {n : Nat} {cs : List Value} {y : DataW H × List MemPlace} (hl : cs.length = 4) (h : DataW.trod enc Try.prog W 0 (fun _ => true) true n 33 cs = some y) : ∃ o : O29, cs = o.cells.toList ∧ o.Reads W := by
  obtain ⟨g0, g1, g2, g3, hs, hat, t0, t1, t2, t3⟩ : ∃ g0 g1 g2 g3 : Field, Try.prog.underlying 33 = some (.struct #[g0, g1, g2, g3]) ∧ fieldsAtK Try.prog #[g0, g1, g2, g3] [(0, 1), (1, 1), (2, 1), (3, 1)] = true ∧ g0.type = 3 ∧ g1.type = 22 ∧ g2.type = 22 ∧ g3.type = 31 :=
    ⟨_, _, _, _, Try.underlying33, by kernel_rfl, rfl, rfl, rfl, rfl⟩
  obtain ⟨ys, n', _, _, _, hyl, hg⟩ := DataW.trod_struct hs h
  match ys, hyl with
  | [y0, y1, y2, y3], _ =>
    have k0 := hg 0 g0 rfl
    obtain ⟨o0, m0⟩ := fatK hat 0 g0 (0, 1) rfl rfl
    rw [o0, m0, t0] at k0
    have k1 := hg 1 g1 rfl
    obtain ⟨o1, m1⟩ := fatK hat 1 g1 (1, 1) rfl rfl
    rw [o1, m1, t1] at k1
    have k2 := hg 2 g2 rfl
    obtain ⟨o2, m2⟩ := fatK hat 2 g2 (2, 1) rfl rfl
    rw [o2, m2, t2] at k2
    have k3 := hg 3 g3 rfl
    obtain ⟨o3, m3⟩ := fatK hat 3 g3 (3, 1) rfl rfl
    rw [o3, m3, t3] at k3
    obtain ⟨a0, e0, _, _⟩ := DataW.trod_int Try.underlying3 k0
    obtain ⟨a1, e1, _, w1⟩ := DataW.trod_int Try.underlying22 k1
    obtain ⟨a2, e2, _, w2⟩ := DataW.trod_int Try.underlying22 k2
    obtain ⟨A, m, c, l, e3, hsl⟩ := slc_of_cells (L := It.lay) Try.underlying31 (by kernel_rfl) (by decide) (fun _ _ _ hl h => It.of_cells hl h) k3
    obtain ⟨a1, rfl, q1⟩ := u64_wf w1
    obtain ⟨a2, rfl, q2⟩ := u64_wf w2
    refine ⟨⟨a0, a1, a2, A, m, c, l⟩, ?_, q1, q2, hsl.rd, hsl.len⟩
    match cs, hl with
    | [u0, u1, u2, u3], _ =>
      simp only [List.drop_zero, List.take_succ_cons, List.take_zero, List.drop_succ_cons, List.cons.injEq, and_true] at e0 e1 e2 e3
      unfold O29.cells
      rw [e0, e1, e2, e3]
theorem O29.dec (hok : Value.okWide Try.prog W r b0 23 v) (h : DataW.Trod enc Try.prog W 0 (fun _ => true) true 23 v d p) : ∃ (A : Option Addr) (n c : Nat) (os : List O29), v = .slice A n c ∧ Slc O29.lay W A n c os :=
  dec_slc Try.underlying23 (by kernel_rfl) (by decide) (fun _ _ _ hl h => O29.of_cells hl h) hok h
end
end Go.Proofs.Ytlpckhjmbfeegaa
