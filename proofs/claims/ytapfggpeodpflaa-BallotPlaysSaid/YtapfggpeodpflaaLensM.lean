/- Looks and entries as arguments of a law, read as data. math/bits.Len64, and names for worlds behind boxes. -/
import Derived.Test.YtapfggpeodpflaaRowkitM
import Derived.Deep.Fields
import Derived.ChangeSame
import Derived.Lib.BitFns
import Derived.Lib.ItoaNum
import Derived.Laws.Bits64b
import Derived.Lib.Walk
import Derived.Lib.Small
namespace Go.Proofs.Ytapfggpeodpflaa
open Go.ChangeShapes Go.WideShapes Go.ChangeAt Go.RowKit
open Go.Deep (oneCellFields open_slice hone_of)

/-- What a look is, as data. -/
structure Lk where
  cl : Nat
  rq : Nat
  fr : Nat
  ct : Nat
theorem Lk.ext_iff' (a b : Lk) : a = b ↔ a.cl = b.cl ∧ a.rq = b.rq ∧ a.fr = b.fr ∧ a.ct = b.ct := by
  obtain ⟨a1, a2, a3, a4⟩ := a
  obtain ⟨b1, b2, b3, b4⟩ := b
  simp
instance : DecidableEq Lk := fun a b => decidable_of_iff _ (Lk.ext_iff' a b).symm
def Lk.zero : Lk := ⟨0, 0, 0, 0⟩
def Lk.cells (l : Lk) : List Value := [.int .u64 (l.cl : Int), .int .u64 (l.rq : Int), .int .u32 (l.fr : Int), .int .u32 (l.ct : Int)]
def Lk.Ok (l : Lk) : Prop := l.cl < 18446744073709551616 ∧ l.rq < 18446744073709551616 ∧ l.fr < 4294967296 ∧ l.ct < 4294967296
def lks (l : List Lk) : List Value := l.flatMap Lk.cells
theorem lks_len (ls : List Lk) : (lks ls).length = ls.length * 4 := by
  induction ls with
  | nil => rfl
  | cons o os ih =>
    show (o.cells ++ lks os).length = _
    rw [List.length_append, ih]
    show 4 + os.length * 4 = (os.length + 1) * 4
    omega
theorem lks_app (a b : List Lk) : lks (a ++ b) = lks a ++ lks b := by simp [lks]
theorem lks_get (os : List Lk) (i : Nat) (o : Lk) (hi : os[i]? = some o) (j : Nat) (u : Value) (hj : o.cells[j]? = some u) : (lks os)[i * 4 + j]? = some u := by
  induction os generalizing i with
  | nil => simp at hi
  | cons p os ih =>
    have e : lks (p :: os) = p.cells ++ lks os := rfl
    have hl : p.cells.length = 4 := rfl
    rw [e]
    cases i with
    | zero =>
      simp only [List.getElem?_cons_zero, Option.some.injEq] at hi
      subst hi
      have hj2 := (List.getElem?_eq_some_iff.1 hj).1
      rw [Nat.zero_mul, Nat.zero_add, List.getElem?_append_left hj2]
      exact hj
    | succ i =>
      simp only [List.getElem?_cons_succ] at hi
      rw [List.getElem?_append_right (by omega), hl, show (i + 1) * 4 + j - 4 = i * 4 + j from by omega]
      exact ih i hi
theorem lks_range (g : Nat → Lk) (n j : Nat) (u : Value) (h : (lks ((List.range n).map g))[j]? = some u) : ∃ i c, i < n ∧ c < 4 ∧ j = i * 4 + c ∧ (g i).cells[c]? = some u := by
  have hl : j < n * 4 := by
    have := (List.getElem?_eq_some_iff.1 h).1
    rwa [lks_len, List.length_map, List.length_range] at this
  refine ⟨j / 4, j % 4, by omega, Nat.mod_lt _ (by decide), by omega, ?_⟩
  have hi : ((List.range n).map g)[j / 4]? = some (g (j / 4)) := by
    rw [List.getElem?_map, List.getElem?_range (by omega)]
    rfl
  have hc : ∃ u', (g (j / 4)).cells[j % 4]? = some u' := ⟨_, List.getElem?_eq_getElem (by show j % 4 < 4; exact Nat.mod_lt _ (by decide))⟩
  obtain ⟨u', hu'⟩ := hc
  have := lks_get _ _ _ hi _ _ hu'
  rw [show j / 4 * 4 + j % 4 = j from by omega, h] at this
  cases this
  exact hu'

/-- What an entry is, as data. -/
structure En where
  ix : Nat
  tm : Nat
  st : Nat
  kd : Int
  cl : Nat
  rq : Nat
  fr : Nat
  ct : Nat
  da : List UInt8
  A : Option Addr
  bn : Nat
  bc : Nat
  ls : List Lk
def En.look (e : En) : Lk := ⟨e.cl, e.rq, e.fr, e.ct⟩
def En.cells (e : En) : Array Value := #[.int .u64 (e.ix : Int), .int .u64 (e.tm : Int), .int .u64 (e.st : Int), .int .i64 e.kd, .int .u64 (e.cl : Int), .int .u64 (e.rq : Int), .int .u32 (e.fr : Int), .int .u32 (e.ct : Int), .string (str e.da), .slice e.A e.bn e.bc]
structure En.Reads (e : En) (w : World) : Prop where
  ix : e.ix < 18446744073709551616
  tm : e.tm < 18446744073709551616
  st : e.st < 18446744073709551616
  kd : (Lit.int .i64 e.kd).wf = true
  look : e.look.Ok
  da : e.da.length ≤ maxLen
  rd : Rd w w.heap.size 4 e.A e.bn e.bc (lks e.ls)
  len : e.ls.length = e.bn
  oks : ∀ l ∈ e.ls, l.Ok
theorem En.Reads.below {w w' : World} {e : En} (h : e.Reads w) (hb : Below w.heap.size w w') : e.Reads w' :=
  ⟨h.ix, h.tm, h.st, h.kd, h.look, h.da, (h.rd.below hb).more hb.size, h.len, h.oks⟩

/-- The fields' offsets and sizes. -/
def fieldsAt (P : Program) (fs : Array Field) (l : List (Nat × Nat)) : Bool := (List.range fs.size).all fun i => match fs[i]?, l[i]? with
  | some f, some oc => f.offset == oc.1 && P.cellsOf f.type == oc.2
  | _, _ => false
theorem fat_of {P : Program} {fs : Array Field} {l : List (Nat × Nat)} (h : fieldsAt P fs l = true) (i : Nat) (f : Field) (oc : Nat × Nat) (hi : fs[i]? = some f) (hl : l[i]? = some oc) : f.offset = oc.1 ∧ P.cellsOf f.type = oc.2 := by
  have hlt : i < fs.size := (Array.getElem?_eq_some_iff.1 hi).1
  have := List.all_eq_true.1 h i (List.mem_range.2 hlt)
  simp only [hi, hl, Bool.and_eq_true, beq_iff_eq] at this
  exact this
/-- t is the type of looks. -/
def LookT (P : Program) (t : TypeId) : Prop := ∃ g0 g1 g2 s0 s1 : Field, P.underlying t = some (.struct #[g0, g1, g2]) ∧ fieldsAt P #[g0, g1, g2] [(0, 1), (1, 1), (2, 2)] = true ∧ P.cellsOf t = 4 ∧ P.underlying g0.type = some (.int .u64) ∧ P.underlying g1.type = some (.int .u64) ∧
  P.underlying g2.type = some (.struct #[s0, s1]) ∧ fieldsAt P #[s0, s1] [(0, 1), (1, 1)] = true ∧ P.underlying s0.type = some (.int .u32) ∧ P.underlying s1.type = some (.int .u32)
/-- t is the type of entries. -/
def EntryT (P : Program) (t : TypeId) : Prop := ∃ (g0 g1 g2 g3 g4 g5 g6 g7 g8 s0 s1 : Field) (e : TypeId), P.underlying t = some (.struct #[g0, g1, g2, g3, g4, g5, g6, g7, g8]) ∧ fieldsAt P #[g0, g1, g2, g3, g4, g5, g6, g7, g8] [(0, 1), (1, 1), (2, 1), (3, 1), (4, 1), (5, 1), (6, 2), (8, 1), (9, 1)] = true ∧ P.cellsOf t = 10 ∧
  P.underlying g0.type = some (.int .u64) ∧ P.underlying g1.type = some (.int .u64) ∧ P.underlying g2.type = some (.int .u64) ∧ P.underlying g3.type = some (.int .i64) ∧ P.underlying g4.type = some (.int .u64) ∧ P.underlying g5.type = some (.int .u64) ∧
  P.underlying g6.type = some (.struct #[s0, s1]) ∧ fieldsAt P #[s0, s1] [(0, 1), (1, 1)] = true ∧ P.underlying s0.type = some (.int .u32) ∧ P.underlying s1.type = some (.int .u32) ∧ P.underlying g7.type = some .string ∧ P.underlying g8.type = some (.slice e) ∧ LookT P e

section
variable {H : Type} {enc : TypeId × Value → H} {P : Program} {W : World} {r : Reach} {b0 : Nat} {t e : TypeId} {v : Value} {d : DataW H} {p : List MemPlace}
theorem wf_u64 {a : Int} (h : (Lit.int .u64 a).wf = true) : ∃ n : Nat, a = (n : Int) ∧ n < 18446744073709551616 := by
  simp [Lit.wf, IntKind.min, IntKind.max, IntKind.signed, IntKind.bits] at h
  exact ⟨a.toNat, by omega, by omega⟩
theorem wf_u32 {a : Int} (h : (Lit.int .u32 a).wf = true) : ∃ n : Nat, a = (n : Int) ∧ n < 4294967296 := by
  simp [Lit.wf, IntKind.min, IntKind.max, IntKind.signed, IntKind.bits] at h
  exact ⟨a.toNat, by omega, by omega⟩
theorem span_of_cells {s0 s1 : Field} {n : Nat} {cs : List Value} {y : DataW H × List MemPlace} (hs : P.underlying t = some (.struct #[s0, s1])) (hat : fieldsAt P #[s0, s1] [(0, 1), (1, 1)] = true) (hl : cs.length = 2) (h0 : P.underlying s0.type = some (.int .u32)) (h1 : P.underlying s1.type = some (.int .u32))
    (h : DataW.trod enc P W 0 (fun _ => true) true n t cs = some y) : ∃ a b : Nat, cs = [.int .u32 (a : Int), .int .u32 (b : Int)] ∧ a < 4294967296 ∧ b < 4294967296 := by
  obtain ⟨ys, n', _, _, _, hyl, hg⟩ := DataW.trod_struct hs h
  match cs, hl with
  | [c0, c1], _ =>
    match ys, hyl with
    | [y0, y1], _ =>
      have g0 := hg 0 s0 rfl
      have g1 := hg 1 s1 rfl
      obtain ⟨o0, k0⟩ := fat_of hat 0 s0 (0, 1) rfl rfl
      obtain ⟨o1, k1⟩ := fat_of hat 1 s1 (1, 1) rfl rfl
      rw [o0, k0] at g0
      rw [o1, k1] at g1
      obtain ⟨a, ha, _, hwa⟩ := DataW.trod_int h0 g0
      obtain ⟨b, hb, _, hwb⟩ := DataW.trod_int h1 g1
      cases ha
      cases hb
      obtain ⟨a, rfl, ha⟩ := wf_u32 hwa
      obtain ⟨b, rfl, hb⟩ := wf_u32 hwb
      exact ⟨a, b, rfl, ha, hb⟩
theorem look_of_cells {n : Nat} {cs : List Value} {y : DataW H × List MemPlace} (ht : LookT P t) (hl : cs.length = 4) (h : DataW.trod enc P W 0 (fun _ => true) true n t cs = some y) : ∃ l : Lk, cs = l.cells ∧ l.Ok := by
  obtain ⟨g0, g1, g2, s0, s1, hs, hat, _, h0, h1, h2, hat2, hs0, hs1⟩ := ht
  obtain ⟨ys, n', _, _, _, hyl, hg⟩ := DataW.trod_struct hs h
  match cs, hl with
  | [c0, c1, c2, c3], _ =>
    match ys, hyl with
    | [y0, y1, y2], _ =>
      have k0 := hg 0 g0 rfl
      have k1 := hg 1 g1 rfl
      have k2 := hg 2 g2 rfl
      obtain ⟨o0, m0⟩ := fat_of hat 0 g0 (0, 1) rfl rfl
      obtain ⟨o1, m1⟩ := fat_of hat 1 g1 (1, 1) rfl rfl
      obtain ⟨o2, m2⟩ := fat_of hat 2 g2 (2, 2) rfl rfl
      rw [o0, m0] at k0
      rw [o1, m1] at k1
      rw [o2, m2] at k2
      obtain ⟨a, ha, _, hwa⟩ := DataW.trod_int h0 k0
      obtain ⟨b, hb, _, hwb⟩ := DataW.trod_int h1 k1
      obtain ⟨c, f, hc, hc1, hc2⟩ := span_of_cells h2 hat2 rfl hs0 hs1 k2
      cases ha
      cases hb
      cases hc
      obtain ⟨a, rfl, ha⟩ := wf_u64 hwa
      obtain ⟨b, rfl, hb⟩ := wf_u64 hwb
      exact ⟨⟨a, b, c, f⟩, rfl, ha, hb, hc1, hc2⟩
/-- One cell that reads as a slice of looks. -/
theorem cell_looks {n : Nat} {y : DataW H × List MemPlace} (ht : P.underlying t = some (.slice e)) (he : LookT P e) (h : DataW.trod enc P W 0 (fun _ => true) true n t [v] = some y) :
    ∃ (A : Option Addr) (n c : Nat) (ls : List Lk), v = .slice A n c ∧ Rd W W.heap.size 4 A n c (lks ls) ∧ ls.length = n ∧ ∀ l ∈ ls, l.Ok := by
  have hC : P.cellsOf e = 4 := by obtain ⟨_, _, _, _, _, _, _, h, _⟩ := he; exact h
  rcases open_slice ht h with ⟨hcs, _⟩ | ⟨x, l, c', m, k, D, Pl, hcs, _, hl, hm, hmm, _, hi⟩
  · cases hcs
    exact ⟨_, _, _, [], rfl, Rd.nil_, rfl, fun _ h => by cases h⟩
  · cases hcs
    simp only [if_true] at hmm
    rw [hC] at hi
    have each : ∀ i, ∃ o : Lk, (i < l → ∀ c u, o.cells[c]? = some u → W.cell? (x.add (i * 4 + c)) = some u) ∧ o.Ok := by
      intro i
      by_cases hin : i < l
      · obtain ⟨cs', hc, ht'⟩ := hi i (by omega)
        obtain ⟨_, hcl, hat⟩ := World.cells?_some hc
        obtain ⟨o, ho, hok⟩ := look_of_cells he hcl ht'
        refine ⟨o, fun _ c u hu => ?_, hok⟩
        have hc4 : c < 4 := (List.getElem?_eq_some_iff.1 hu).1
        have a := hat c hc4
        rw [← Go.Deep.add_add, a, ho]
        exact hu
      · exact ⟨Lk.zero, fun h => absurd h hin, by decide, by decide, by decide, by decide⟩
    obtain ⟨g, hg⟩ := Classical.axiomOfChoice each
    refine ⟨_, l, c', (List.range l).map g, rfl, ⟨hl, hm, by rw [lks_len]; simp, fun hn => ?_⟩, by simp, fun o ho => by obtain ⟨i, _, rfl⟩ := List.mem_map.1 ho; exact (hg i).2⟩
    have hc0 := (hg 0).1 (by omega) 0 _ (show (g 0).cells[0]? = some (.int .u64 ((g 0).cl : Int)) from rfl)
    obtain ⟨b, off, spot⟩ := x
    have hspot : spot = none := by simpa [Addr.add] using World.cell?_spot hc0
    subst hspot
    refine ⟨b, off, rfl, ?_, fun j u hu => ?_⟩
    · have := World.block_lt_of_cell? W _ hc0
      simpa [addOff] using this
    · obtain ⟨i, c', hi', hc', rfl, hu'⟩ := lks_range g l j u hu
      have := (hg i).1 hi' c' u hu'
      rwa [addOff] at this
/-- Ten cells that read as an entry. -/
theorem entry_of_cells {n : Nat} {cs : List Value} {y : DataW H × List MemPlace} (ht : EntryT P t) (hl : cs.length = 10) (h : DataW.trod enc P W 0 (fun _ => true) true n t cs = some y) : ∃ e : En, cs = e.cells.toList ∧ e.Reads W := by
  obtain ⟨g0, g1, g2, g3, g4, g5, g6, g7, g8, s0, s1, te, hs, hat, _, h0, h1, h2, h3, h4, h5, h6, hat2, hs0, hs1, h7, h8, hte⟩ := ht
  obtain ⟨ys, n', _, _, _, hyl, hg⟩ := DataW.trod_struct hs h
  match cs, hl with
  | [c0, c1, c2, c3, c4, c5, c6, c7, c8, c9], _ =>
    match ys, hyl with
    | [y0, y1, y2, y3, y4, y5, y6, y7, y8], _ =>
      have k0 := hg 0 g0 rfl
      have k1 := hg 1 g1 rfl
      have k2 := hg 2 g2 rfl
      have k3 := hg 3 g3 rfl
      have k4 := hg 4 g4 rfl
      have k5 := hg 5 g5 rfl
      have k6 := hg 6 g6 rfl
      have k7 := hg 7 g7 rfl
      have k8 := hg 8 g8 rfl
      obtain ⟨o0, m0⟩ := fat_of hat 0 g0 (0, 1) rfl rfl
      obtain ⟨o1, m1⟩ := fat_of hat 1 g1 (1, 1) rfl rfl
      obtain ⟨o2, m2⟩ := fat_of hat 2 g2 (2, 1) rfl rfl
      obtain ⟨o3, m3⟩ := fat_of hat 3 g3 (3, 1) rfl rfl
      obtain ⟨o4, m4⟩ := fat_of hat 4 g4 (4, 1) rfl rfl
      obtain ⟨o5, m5⟩ := fat_of hat 5 g5 (5, 1) rfl rfl
      obtain ⟨o6, m6⟩ := fat_of hat 6 g6 (6, 2) rfl rfl
      obtain ⟨o7, m7⟩ := fat_of hat 7 g7 (8, 1) rfl rfl
      obtain ⟨o8, m8⟩ := fat_of hat 8 g8 (9, 1) rfl rfl
      rw [o0, m0] at k0
      rw [o1, m1] at k1
      rw [o2, m2] at k2
      rw [o3, m3] at k3
      rw [o4, m4] at k4
      rw [o5, m5] at k5
      rw [o6, m6] at k6
      rw [o7, m7] at k7
      rw [o8, m8] at k8
      obtain ⟨a0, e0, _, w0⟩ := DataW.trod_int h0 k0
      obtain ⟨a1, e1, _, w1⟩ := DataW.trod_int h1 k1
      obtain ⟨a2, e2, _, w2⟩ := DataW.trod_int h2 k2
      obtain ⟨a3, e3, _, w3⟩ := DataW.trod_int h3 k3
      obtain ⟨a4, e4, _, w4⟩ := DataW.trod_int h4 k4
      obtain ⟨a5, e5, _, w5⟩ := DataW.trod_int h5 k5
      obtain ⟨f, c, e6, hf, hc⟩ := span_of_cells h6 hat2 rfl hs0 hs1 k6
      obtain ⟨s, e7, _, hsz⟩ := DataW.trod_string h7 k7
      obtain ⟨A, bn, bc, ls, e8, hrd, hln, hok⟩ := cell_looks h8 hte k8
      cases e0
      cases e1
      cases e2
      cases e3
      cases e4
      cases e5
      cases e6
      cases e7
      subst e8
      obtain ⟨a0, rfl, q0⟩ := wf_u64 w0
      obtain ⟨a1, rfl, q1⟩ := wf_u64 w1
      obtain ⟨a2, rfl, q2⟩ := wf_u64 w2
      obtain ⟨a4, rfl, q4⟩ := wf_u64 w4
      obtain ⟨a5, rfl, q5⟩ := wf_u64 w5
      have hstr : s = str s.data.toList := by simp [str]
      refine ⟨⟨a0, a1, a2, a3, a4, a5, f, c, s.data.toList, A, bn, bc, ls⟩, ?_, q0, q1, q2, w3, ⟨q4, q5, hf, hc⟩, by simpa using hsz, hrd, hln, hok⟩
      unfold En.cells
      rw [← hstr]
theorem dec_entry (ht : EntryT P t) (hok : Value.okWide P W r b0 t v) (h : DataW.Trod enc P W 0 (fun _ => true) true t v d p) : ∃ e : En, v = .agg e.cells ∧ e.Reads W := by
  have hs : ∃ fs, P.underlying t = some (.struct fs) := by obtain ⟨_, _, _, _, _, _, _, _, _, _, _, _, h, _⟩ := ht; exact ⟨_, h⟩
  have hC : P.cellsOf t = 10 := by obtain ⟨_, _, _, _, _, _, _, _, _, _, _, _, _, _, h, _⟩ := ht; exact h
  obtain ⟨fs, hs⟩ := hs
  obtain ⟨cs, rfl, hsz⟩ := okWide_struct hs hok
  obtain ⟨fuel, hf⟩ := h
  obtain ⟨e, he, hr⟩ := entry_of_cells ht (show cs.toList.length = 10 by rw [Array.length_toList]; exact hsz.trans hC) hf
  exact ⟨e, by rw [show cs = e.cells from by apply Array.ext'; exact he], hr⟩
end
theorem lookT : LookT Try.prog 78 := ⟨_, _, _, _, _, Try.underlying78, by kernel_rfl, by kernel_rfl, by kernel_rfl, by kernel_rfl, Try.underlying52, by kernel_rfl, by kernel_rfl, by kernel_rfl⟩
theorem entryT : EntryT Try.prog 55 := ⟨_, _, _, _, _, _, _, _, _, _, _, _, Try.underlying55, by kernel_rfl, by kernel_rfl, by kernel_rfl, by kernel_rfl, by kernel_rfl, by kernel_rfl, by kernel_rfl, by kernel_rfl, Try.underlying52, by kernel_rfl, by kernel_rfl, by kernel_rfl, by kernel_rfl, Try.underlying53, lookT⟩

end Go.Proofs.Ytapfggpeodpflaa

namespace Go.Proofs.Ytapfggpeodpflaa
open Go.RowKit

section
variable {N : Nat} {W wd : World}
theorem kept (h : Below N W wd) {b o : Nat} {u : Value} (hc : W.cell? ⟨b, o, none⟩ = some u) (hb : b < N := by first | omega | (simp <;> omega)) : wd.cell? ⟨b, o, none⟩ = some u := (h.cell (p := ⟨b, o, none⟩) hb).trans hc
theorem row_here (w : World) (o : Obj) {n : Nat} (hn : n = w.heap.size) : (w.alloc o).heap[n]? = some o := by subst hn; exact heap_alloc_new w o
theorem row_old {w : World} {o' : Obj} (o : Obj) {n : Nat} (h : w.heap[n]? = some o') : (w.alloc o).heap[n]? = some o' := (heap_alloc_old w o (Array.getElem?_eq_some_iff.1 h).1).trans h
theorem row_new {w Y : World} {o o' : Obj} {b : Nat} (hY : Y = w.alloc o) (h : w.heap[b]? = some o') : Y.heap[b]? = some o' := by rw [hY]; exact row_old o h
theorem cellz (h : Below N W wd) {b j : Nat} {cs : Array Value} {t : TypeId} {fr : Nat × Nat} {u : Value} (hr : W.heap[b]? = some (.cells cs t fr)) (hj : cs[j]? = some u) (hb : b < N := by first | omega | (simp <;> omega)) : wd.cell? ⟨b, j, none⟩ = some u := by
  rw [cell_of_row wd b j cs t fr ((h.block b hb).trans hr)]
  exact hj
theorem frozenz (h : Below N W wd) {b : Nat} (j : Nat) {cs : Array Value} {t : TypeId} (hr : W.heap[b]? = some (.cells cs t (0, 0))) (hb : b < N := by first | omega | (simp <;> omega)) : wd.frozen? ⟨b, j, none⟩ = false :=
  frozen_of_row wd b j cs t ((h.block b hb).trans hr)
theorem unalloc {o : Obj} (h : Below N (W.alloc o) wd) (hN : N ≤ W.heap.size) : Below N W wd := ((Below.refl W.heap.size W).alloc (Nat.le_refl _) o).mono hN |>.trans h
end
theorem unal {w w' : World} {o : Obj} (h : Below (w.alloc o).heap.size (w.alloc o) w') : Below w.heap.size w w' := unalloc (h.mono (by simp)) (Nat.le_refl _)
theorem cell_old {w : World} {b j : Nat} {u : Value} (o : Obj) (h : w.cell? ⟨b, j, none⟩ = some u) : (w.alloc o).cell? ⟨b, j, none⟩ = some u :=
  (((Below.refl w.heap.size w).alloc (Nat.le_refl _) o).cell (p := ⟨b, j, none⟩) (World.block_lt_of_cell? w _ h)).trans h
/-- Two and three new blocks. -/
theorem boxes1 (w : World) (p : Array Value) (s : TypeId) : ∃ W, W = w.alloc (.cells p s) ∧ W.heap.size = w.heap.size + 1 ∧ W.heap[w.heap.size]? = some (.cells p s (0, 0)) ∧ Below w.heap.size w W :=
  ⟨_, rfl, by simp, (by first | exact row_here _ _ (by simp) | exact row_old _ (row_here _ _ (by simp)) | exact row_old _ (row_old _ (row_here _ _ (by simp))) | exact row_old _ (row_old _ (row_old _ (row_here _ _ (by simp))))), (Below.refl _ _).alloc (Nat.le_refl _) _⟩
theorem boxes2 (w : World) (p q : Array Value) (s t : TypeId) : ∃ W, W = (w.alloc (.cells p s)).alloc (.cells q t) ∧ W.heap.size = w.heap.size + 2 ∧ W.heap[w.heap.size]? = some (.cells p s (0, 0)) ∧ W.heap[w.heap.size + 1]? = some (.cells q t (0, 0)) ∧ Below w.heap.size w W :=
  ⟨_, rfl, by simp, (by first | exact row_here _ _ (by simp) | exact row_old _ (row_here _ _ (by simp)) | exact row_old _ (row_old _ (row_here _ _ (by simp))) | exact row_old _ (row_old _ (row_old _ (row_here _ _ (by simp))))), (by first | exact row_here _ _ (by simp) | exact row_old _ (row_here _ _ (by simp)) | exact row_old _ (row_old _ (row_here _ _ (by simp))) | exact row_old _ (row_old _ (row_old _ (row_here _ _ (by simp))))), ((Below.refl _ _).alloc (Nat.le_refl _) _).alloc (by simp) _⟩
theorem boxes3 (w : World) (p q r : Array Value) (s t u : TypeId) : ∃ W, W = ((w.alloc (.cells p s)).alloc (.cells q t)).alloc (.cells r u) ∧ W.heap.size = w.heap.size + 3 ∧ W.heap[w.heap.size]? = some (.cells p s (0, 0)) ∧ W.heap[w.heap.size + 1]? = some (.cells q t (0, 0)) ∧ W.heap[w.heap.size + 2]? = some (.cells r u (0, 0)) ∧ Below w.heap.size w W :=
  ⟨_, rfl, by simp, (by first | exact row_here _ _ (by simp) | exact row_old _ (row_here _ _ (by simp)) | exact row_old _ (row_old _ (row_here _ _ (by simp))) | exact row_old _ (row_old _ (row_old _ (row_here _ _ (by simp))))), (by first | exact row_here _ _ (by simp) | exact row_old _ (row_here _ _ (by simp)) | exact row_old _ (row_old _ (row_here _ _ (by simp))) | exact row_old _ (row_old _ (row_old _ (row_here _ _ (by simp))))), (by first | exact row_here _ _ (by simp) | exact row_old _ (row_here _ _ (by simp)) | exact row_old _ (row_old _ (row_here _ _ (by simp))) | exact row_old _ (row_old _ (row_old _ (row_here _ _ (by simp))))), (((Below.refl _ _).alloc (Nat.le_refl _) _).alloc (by simp) _).alloc (by simp; omega) _⟩
theorem ret_u64 {a b : Int} (h : a = b) : Ending.returned (.int .u64 a) = .returned (.int .u64 b) := by rw [h]
theorem ret_bool {a b : Bool} (h : a = b) : Ending.returned (.bool a) = .returned (.bool b) := by rw [h]
theorem u64w (x : Int) (h : 0 ≤ x) (h2 : x < 18446744073709551616) : IntKind.u64.wrap x = x := by
  simp only [IntKind.wrap_u64]; omega


end Go.Proofs.Ytapfggpeodpflaa
