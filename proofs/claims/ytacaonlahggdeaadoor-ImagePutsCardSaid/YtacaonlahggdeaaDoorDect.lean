/- A table that comes in, and pairs of numbers, read as data. -/
import Derived.Test.YtacaonlahggdeaaDoorAsks
import Derived.Test.YtacaonlahggdeaaDoorRowkit
namespace Go.Proofs.YtacaonlahggdeaaDoor
open Go.ChangeShapes Go.WideShapes Go.ChangeAt Go.RowKit

section
variable {H : Type} {enc : TypeId × Value → H} {P : Program} {W : World} {r : Reach} {b0 : Nat} {ty ct : TypeId} {v : Value} {d : DataW H} {p : List MemPlace}
theorem okWide_array {n : Nat} {e : TypeId} (ht : P.underlying ty = some (.array n e)) (h : Value.okWide P W r b0 ty v) : ∃ cs, v = .agg cs ∧ cs.size = P.cellsOf ty := by
  simp only [Value.okWide, ht] at h
  obtain ⟨cs, h1, h2, _⟩ := h
  exact ⟨cs, h1, h2⟩
theorem wf_nat (k : IntKind) (z : Int) (h : (Lit.int k z).wf = true) (hk : k.min = 0) : 0 ≤ z ∧ z ≤ k.max := by
  simp only [Lit.wf, Bool.and_eq_true, decide_eq_true_eq] at h
  rw [hk] at h
  exact h
theorem dec_table (hT : TabT P ty ct) (hC : P.cellsOf ty = 16) (hc : P.cellsOf ct = 2) (h1 : ∀ f ∈ (P.fieldsOf ct).toList, P.cellsOf f.type = 1) (hok : Value.okWide P W r b0 ty v) (h : DataW.Trod enc P W 0 (fun _ => true) true ty v d p) : ∃ T, v = tbv T ∧ Tok T := by
  obtain ⟨cs, rfl, hsz⟩ := okWide_array hT.und hok
  rw [hC] at hsz
  obtain ⟨fuel, hf⟩ := h
  obtain ⟨f0, f1, hfs, n0, n1, u0, o0, u1, o1⟩ := hT.flds
  have c0 := h1 f0 (by rw [hfs]; simp)
  have c1 := h1 f1 (by rw [hfs]; simp)
  have hund : P.underlying ct = some (.struct #[f0, f1]) := by rw [hT.cund]; congr 2; exact Array.ext' hfs
  obtain ⟨xs, m, _, _, _, hlen, hel⟩ := DataW.trod_array hT.und hf
  have each : ∀ i, ∃ q : Nat × Nat, i < 8 → cs[i * 2]? = some (.int .u64 (q.1 : Int)) ∧ cs[i * 2 + 1]? = some (.int .u16 (q.2 : Int)) ∧ Cl.ok q := by
    intro i
    by_cases hi : i < 8
    · have hx := hel i hi
      rw [hc, List.getElem?_eq_getElem (by omega)] at hx
      obtain ⟨y0, y1, n', _, _, g0, g1⟩ := trod_struct2 hund hx
      rw [o0, c0, List.drop_zero] at g0
      rw [o1, c1] at g1
      obtain ⟨a, ea, _, wa⟩ := DataW.trod_int u0 g0
      obtain ⟨b, eb, _, wb⟩ := DataW.trod_int u1 g1
      have k0 : cs[i * 2]? = some (.int .u64 a) := by
        have h2 : (List.take 1 (List.take 2 (List.drop (i * 2) (Value.agg cs).cells.toList)))[0]? = some (.int .u64 a) := by rw [ea]; rfl
        rw [List.getElem?_take_of_lt (by decide), List.getElem?_take_of_lt (by decide), List.getElem?_drop] at h2
        simpa [Value.cells] using h2
      have k1 : cs[i * 2 + 1]? = some (.int .u16 b) := by
        have h2 : (List.take 1 (List.drop 1 (List.take 2 (List.drop (i * 2) (Value.agg cs).cells.toList))))[0]? = some (.int .u16 b) := by rw [eb]; rfl
        rw [List.getElem?_take_of_lt (by decide), List.getElem?_drop, List.getElem?_take_of_lt (by decide), List.getElem?_drop] at h2
        simpa [Value.cells] using h2
      have ra := wf_nat .u64 a wa rfl
      have rb := wf_nat .u16 b wb rfl
      have ra2 : a ≤ 18446744073709551615 := ra.2
      have rb2 : b ≤ 65535 := rb.2
      refine ⟨(a.toNat, b.toNat), fun _ => ⟨?_, ?_, ?_⟩⟩
      · rw [k0]; simp only [Int.toNat_of_nonneg ra.1]
      · rw [k1]; simp only [Int.toNat_of_nonneg rb.1]
      · exact ⟨by show a.toNat < _; omega, by show b.toNat < _; omega⟩
    · exact ⟨(0, 0), fun h => absurd h hi⟩
  obtain ⟨g, hg⟩ := Classical.axiomOfChoice each
  refine ⟨(List.range 8).map g, ?_, by simp, fun q hq => ?_⟩
  · unfold tbv
    congr 1
    apply Array.ext'
    apply List.ext_getElem?
    intro j
    by_cases hj : j < 16
    · have hp := tcells_get ((List.range 8).map g) (j / 2) (g (j / 2)) (by simp [show j / 2 < 8 by omega])
      have hq := hg (j / 2) (by omega)
      rcases Nat.mod_two_eq_zero_or_one j with hm | hm
      · rw [show j / 2 * 2 = j by omega] at hp hq
        rw [Array.getElem?_toList, hq.1, hp.1]
      · rw [show j / 2 * 2 + 1 = j by omega] at hp hq
        rw [Array.getElem?_toList, hq.2.1, hp.2]
    · rw [List.getElem?_eq_none (by rw [Array.length_toList]; omega), List.getElem?_eq_none (by rw [tcells_len]; simp; omega)]
  · obtain ⟨i, hi, rfl⟩ := List.mem_map.1 hq
    exact (hg i (List.mem_range.1 hi)).2.2
theorem dec_u64 (ht : P.underlying ty = some (.int .u64)) (hok : Value.okWide P W r b0 ty v) (h : DataW.Trod enc P W 0 (fun _ => true) true ty v d p) : ∃ n : Nat, v = .int .u64 (n : Int) ∧ n < 18446744073709551616 := by
  obtain ⟨n, rfl, hw⟩ := dec_int ht hok h
  have := wf_nat .u64 n hw rfl
  have h2 : n ≤ 18446744073709551615 := this.2
  exact ⟨n.toNat, by simp only [Int.toNat_of_nonneg this.1], by omega⟩
end
theorem cl_one : ∀ f ∈ (Tryd.prog.fieldsOf 27).toList, Tryd.prog.cellsOf f.type = 1 := by
  unfold Program.fieldsOf
  rw [Tryd.underlying27]
  intro f hf
  simp only [List.mem_cons, List.not_mem_nil, or_false] at hf
  rcases hf with rfl | rfl <;> kernel_rfl

end Go.Proofs.YtacaonlahggdeaaDoor
