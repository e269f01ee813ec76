/- Slices of structs as arguments of a law, read as data, whatever the structs are. -/
import Derived.Test.YtlpckhjmbfeegaaRowkitb
namespace Go.Proofs.Ytlpckhjmbfeegaa
set_option maxRecDepth 20000
open Go.ChangeShapes Go.WideShapes Go.ChangeAt Go.RowKit
open Go.Deep (oneCellFields open_slice hone_of)

def fieldsAtK (P : Program) (fs : Array Field) (l : List (Nat × Nat)) : Bool := (List.range fs.size).all fun i => match fs[i]?, l[i]? with
  | some f, some oc => f.offset == oc.1 && P.cellsOf f.type == oc.2
  | _, _ => false
theorem fatK {P : Program} {fs : Array Field} {l : List (Nat × Nat)} (h : fieldsAtK P fs l = true) (i : Nat) (f : Field) (oc : Nat × Nat) (hi : fs[i]? = some f) (hl : l[i]? = some oc) : f.offset = oc.1 ∧ P.cellsOf f.type = oc.2 := by
  have hlt : i < fs.size := (Array.getElem?_eq_some_iff.1 hi).1
  have := List.all_eq_true.1 h i (List.mem_range.2 hlt)
  simp only [hi, hl, Bool.and_eq_true, beq_iff_eq] at this
  exact this
/-- How data of a struct lie in K cells. -/
structure Lay (α : Type) (K : Nat) where
  cells : α → Array Value
  size : ∀ o, (cells o).size = K
  reads : α → World → Prop
  below : ∀ o w w', reads o w → Below w.heap.size w w' → reads o w'
  zero : α
  zeroReads : ∀ w, reads zero w
section
variable {α : Type} {K : Nat} (L : Lay α K)
def Lay.flat (os : List α) : List Value := os.flatMap (fun o => (L.cells o).toList)
theorem Lay.cons (o : α) (os : List α) : L.flat (o :: os) = (L.cells o).toList ++ L.flat os := rfl
theorem Lay.flat_len (os : List α) : (L.flat os).length = os.length * K := by
  induction os with
  | nil => rw [List.length_nil, Nat.zero_mul]; rfl
  | cons o os ih => rw [L.cons, List.length_append, ih, Array.length_toList, L.size, List.length_cons, Nat.succ_mul, Nat.add_comm]
theorem Lay.flat_get (os : List α) (i : Nat) (o : α) (hi : os[i]? = some o) (j : Nat) (u : Value) (hj : (L.cells o)[j]? = some u) : (L.flat os)[i * K + j]? = some u := by
  induction os generalizing i with
  | nil => simp at hi
  | cons p os ih =>
    have hl : (L.cells p).toList.length = K := by rw [Array.length_toList, L.size]
    rw [L.cons]
    cases i with
    | zero =>
      simp only [List.getElem?_cons_zero, Option.some.injEq] at hi
      subst hi
      have hj2 : j < (L.cells p).toList.length := by have := (Array.getElem?_eq_some_iff.1 hj).1; simpa using this
      rw [Nat.zero_mul, Nat.zero_add, List.getElem?_append_left hj2, Array.getElem?_toList, hj]
    | succ i =>
      rw [List.getElem?_cons_succ] at hi
      rw [List.getElem?_append_right (by rw [hl, Nat.succ_mul]; omega), hl, show (i + 1) * K + j - K = i * K + j by rw [Nat.succ_mul]; omega]
      exact ih i hi
theorem Lay.flat_range (g : Nat → α) (n j : Nat) (u : Value) (h : (L.flat ((List.range n).map g))[j]? = some u) : ∃ i c, i < n ∧ c < K ∧ j = i * K + c ∧ (L.cells (g i))[c]? = some u := by
  have hl : j < n * K := by
    have := (List.getElem?_eq_some_iff.1 h).1
    rwa [L.flat_len, List.length_map, List.length_range] at this
  have hK : 0 < K := by rcases Nat.eq_zero_or_pos K with h0 | h0; · rw [h0] at hl; omega
                        · exact h0
  have hi0 : j / K < n := Nat.div_lt_of_lt_mul (by rw [Nat.mul_comm]; exact hl)
  have hdm : j / K * K + j % K = j := by rw [Nat.mul_comm]; exact Nat.div_add_mod j K
  refine ⟨j / K, j % K, hi0, Nat.mod_lt _ hK, hdm.symm, ?_⟩
  have hi : ((List.range n).map g)[j / K]? = some (g (j / K)) := by
    rw [List.getElem?_map, List.getElem?_range hi0]
    rfl
  obtain ⟨u', hu'⟩ : ∃ u', (L.cells (g (j / K)))[j % K]? = some u' := ⟨_, Array.getElem?_eq_getElem (by rw [L.size]; exact Nat.mod_lt _ hK)⟩
  have := L.flat_get _ _ _ hi _ _ hu'
  rw [hdm, h] at this
  cases this
  exact hu'
/-- A slice of such structs. -/
structure Slc (w : World) (A : Option Addr) (n c : Nat) (os : List α) : Prop where
  rd : Rd w w.heap.size K A n c (L.flat os)
  len : os.length = n
  reads : ∀ o ∈ os, L.reads o w
variable {L}
theorem Slc.below {w w' : World} {A : Option Addr} {n c : Nat} {os : List α} (h : Slc L w A n c os) (hb : Below w.heap.size w w') : Slc L w' A n c os :=
  ⟨(h.rd.below hb).more hb.size, h.len, fun o ho => L.below o w w' (h.reads o ho) hb⟩
theorem Slc.at_ {w : World} {A : Option Addr} {n c : Nat} {os : List α} (h : Slc L w A n c os) (hn : 0 < n) : ∃ b off, A = some ⟨b, off, none⟩ ∧ b < w.heap.size ∧ ∀ i o, os[i]? = some o → ∀ j u, (L.cells o)[j]? = some u → w.cell? ⟨b, off + (i * K + j), none⟩ = some u := by
  obtain ⟨b, off, hA, hb, hc⟩ := h.rd.2.2.2 hn
  exact ⟨b, off, hA, hb, fun i o hi j u hu => hc _ _ (L.flat_get os i o hi j u hu)⟩
end
section
variable {H : Type} {enc : TypeId × Value → H} {P : Program} {W : World} {r : Reach} {b0 : Nat} {t e : TypeId} {v : Value} {d : DataW H} {p : List MemPlace} {α : Type} {K : Nat} {L : Lay α K}
theorem dec_slc (ht : P.underlying t = some (.slice e)) (hC : P.cellsOf e = K) (hK : 0 < K) (hof : ∀ n cs y, cs.length = K → DataW.trod enc P W 0 (fun _ => true) true n e cs = some y → ∃ o, cs = (L.cells o).toList ∧ L.reads o W)
    (hok : Value.okWide P W r b0 t v) (h : DataW.Trod enc P W 0 (fun _ => true) true t v d p) : ∃ (A : Option Addr) (n c : Nat) (os : List α), v = .slice A n c ∧ Slc L W A n c os := by
  obtain ⟨A, n, c, rfl⟩ := okWide_slice ht hok
  obtain ⟨fuel, hf⟩ := h
  rcases open_slice ht hf with ⟨hcs, _⟩ | ⟨x, l, c', m, k, D, Pl, hcs, _, hl, hm, hmm, _, hi⟩
  · simp [Value.cells] at hcs
    obtain ⟨rfl, rfl, rfl⟩ := hcs
    refine ⟨_, _, _, [], rfl, ⟨?_, rfl, fun _ h => by cases h⟩⟩
    exact ⟨Nat.le_refl _, Nat.zero_le _, by rw [L.flat_len]; rfl, fun h => absurd h (Nat.lt_irrefl _)⟩
  · simp [Value.cells] at hcs
    obtain ⟨rfl, rfl, rfl⟩ := hcs
    simp only [if_true] at hmm
    rw [hC] at hi
    have each : ∀ i, ∃ o : α, (i < n → ∀ c u, (L.cells o)[c]? = some u → W.cell? (x.add (i * K + c)) = some u) ∧ L.reads o W := by
      intro i
      by_cases hin : i < n
      · obtain ⟨cs', hc, ht'⟩ := hi i (by omega)
        obtain ⟨_, hcl, hat⟩ := World.cells?_some hc
        obtain ⟨o, ho, hr⟩ := hof _ _ _ hcl ht'
        refine ⟨o, fun _ c u hu => ?_, hr⟩
        have hc10 : c < K := by have := (Array.getElem?_eq_some_iff.1 hu).1; rwa [L.size] at this
        have a := hat c hc10
        rw [← Go.Deep.add_add, a, ho]
        rwa [Array.getElem?_toList]
      · exact ⟨L.zero, fun h => absurd h hin, L.zeroReads W⟩
    obtain ⟨g, hg⟩ := Classical.axiomOfChoice each
    refine ⟨_, n, c, (List.range n).map g, rfl, ⟨hl, hm, by rw [L.flat_len]; simp, fun hn => ?_⟩, by simp, fun o ho => by obtain ⟨i, _, rfl⟩ := List.mem_map.1 ho; exact (hg i).2⟩
    obtain ⟨u0, hu0⟩ : ∃ u', (L.cells (g 0))[0]? = some u' := ⟨_, Array.getElem?_eq_getElem (by rw [L.size]; exact hK)⟩
    have hc0 := (hg 0).1 (by omega) 0 _ hu0
    obtain ⟨b, off, spot⟩ := x
    have hspot : spot = none := by simpa [Addr.add] using World.cell?_spot hc0
    subst hspot
    refine ⟨b, off, rfl, ?_, fun j u hu => ?_⟩
    · have := World.block_lt_of_cell? W _ hc0
      simpa [addOff] using this
    · obtain ⟨i, c', hi', hc', rfl, hu'⟩ := L.flat_range g n j u hu
      have := (hg i).1 hi' c' u hu'
      rwa [addOff] at this
end
end Go.Proofs.Ytlpckhjmbfeegaa
