/- An image that comes in, read as data. -/
import Derived.Test.YtgejmeankppmhaaDoorDectM
import Derived.Test.YtgejmeankppmhaaDoorImvM
import Derived.Test.YtgejmeankppmhaaDoorMintsM
namespace Go.Proofs.YtgejmeankppmhaaDoor
open Go.ChangeShapes Go.WideShapes Go.ChangeAt Go.RowKit

section
variable {H : Type} {enc : TypeId × Value → H} {P : Program} {W : World} {r : Reach} {b0 : Nat} {ty ct mt tt : TypeId} {v : Value} {d : DataW H} {p : List MemPlace}
theorem dec_tab (hT : TabT P ty ct) (hc : P.cellsOf ct = 2) (h1 : ∀ f ∈ (P.fieldsOf ct).toList, P.cellsOf f.type = 1) {cs : Array Value} (hsz : cs.size = 16) (h : DataW.Trod enc P W 0 (fun _ => true) true ty (.agg cs) d p) : ∃ T, Value.agg cs = tbv T ∧ Tok T := by
  obtain ⟨fuel, hf⟩ := h
  obtain ⟨f0, f1, hfs, n0, n1, u0, o0, u1, o1⟩ := hT.flds
  have c0 := h1 f0 (by rw [hfs]; simp)
  have c1 := h1 f1 (by rw [hfs]; simp)
  have hund : P.underlying ct = some (.struct #[f0, f1]) := by rw [hT.cund]; congr 2; exact Array.ext' hfs
  obtain ⟨xs, m, _, _, _, hlen, hel⟩ := DataW.trod_array hT.und hf
  have each : ∀ i, ∃ q : Nat × Nat, i < 8 → cs[i * 2]? = some (.int .u64 (q.1 : Int)) ∧ cs[i * 2 + 1]? = some (.int .u16 (q.2 : Int)) ∧ Cl.ok q := by
    intro i
    by_cases hi : i < 8
    · have hx := hel i hi
      rw [hc, List.getElem?_eq_getElem (by omega)] at hx
      obtain ⟨y0, y1, n', _, _, g0, g1⟩ := trod_struct2 hund hx
      rw [o0, c0, List.drop_zero] at g0
      rw [o1, c1] at g1
      obtain ⟨a, ea, _, wa⟩ := DataW.trod_int u0 g0
      obtain ⟨b, eb, _, wb⟩ := DataW.trod_int u1 g1
      have k0 : cs[i * 2]? = some (.int .u64 a) := by
        have h2 : (List.take 1 (List.take 2 (List.drop (i * 2) (Value.agg cs).cells.toList)))[0]? = some (.int .u64 a) := by rw [ea]; rfl
        rw [List.getElem?_take_of_lt (by decide), List.getElem?_take_of_lt (by decide), List.getElem?_drop] at h2
        simpa [Value.cells] using h2
      have k1 : cs[i * 2 + 1]? = some (.int .u16 b) := by
        have h2 : (List.take 1 (List.drop 1 (List.take 2 (List.drop (i * 2) (Value.agg cs).cells.toList))))[0]? = some (.int .u16 b) := by rw [eb]; rfl
        rw [List.getElem?_take_of_lt (by decide), List.getElem?_drop, List.getElem?_take_of_lt (by decide), List.getElem?_drop] at h2
        simpa [Value.cells] using h2
      have ra := wf_nat .u64 a wa rfl
      have rb := wf_nat .u16 b wb rfl
      have ra2 : a ≤ 18446744073709551615 := ra.2
      have rb2 : b ≤ 65535 := rb.2
      refine ⟨(a.toNat, b.toNat), fun _ => ⟨?_, ?_, ?_⟩⟩
      · rw [k0]; simp only [Int.toNat_of_nonneg ra.1]
      · rw [k1]; simp only [Int.toNat_of_nonneg rb.1]
      · exact ⟨by show a.toNat < _; omega, by show b.toNat < _; omega⟩
    · exact ⟨(0, 0), fun h => absurd h hi⟩
  obtain ⟨g, hg⟩ := Classical.axiomOfChoice each
  refine ⟨(List.range 8).map g, ?_, by simp, fun q hq => ?_⟩
  · unfold tbv
    congr 1
    apply Array.ext'
    apply List.ext_getElem?
    intro j
    by_cases hj : j < 16
    · have hp := tcells_get ((List.range 8).map g) (j / 2) (g (j / 2)) (by simp [show j / 2 < 8 by omega])
      have hq := hg (j / 2) (by omega)
      rcases Nat.mod_two_eq_zero_or_one j with hm | hm
      · rw [show j / 2 * 2 = j by omega] at hp hq
        rw [Array.getElem?_toList, hq.1, hp.1]
      · rw [show j / 2 * 2 + 1 = j by omega] at hp hq
        rw [Array.getElem?_toList, hq.2.1, hp.2]
    · rw [List.getElem?_eq_none (by rw [Array.length_toList]; omega), List.getElem?_eq_none (by rw [tcells_len]; simp; omega)]
  · obtain ⟨i, hi, rfl⟩ := List.mem_map.1 hq
    exact (hg i (List.mem_range.1 hi)).2.2
theorem okWide_struct' {fs : Array Field} (ht : P.underlying ty = some (.struct fs)) (h : Value.okWide P W r b0 ty v) : ∃ cs, v = .agg cs ∧ cs.size = P.cellsOf ty := by
  simp only [Value.okWide, ht] at h
  obtain ⟨cs, h1, h2, _⟩ := h
  exact ⟨cs, h1, h2⟩
theorem trod_marks (h : ImT P ty mt tt ct) (hm1 : ∀ f ∈ (P.fieldsOf mt).toList, P.cellsOf f.type = 1) {fuel : Nat} {cs : List Value} {x : DataW H × List MemPlace} (hl : cs.length = 2) (hx : DataW.trod enc P W 0 (fun _ => true) true fuel mt cs = some x) :
    ∃ a b : Nat, cs = [.int .u64 (a : Int), .int .u64 (b : Int)] ∧ a < 18446744073709551616 ∧ b < 18446744073709551616 := by
  obtain ⟨f0, f1, hf, n0, n1, u0, o0, u1, o1⟩ := h.mflds
  have c0 := hm1 f0 (by rw [hf]; simp)
  have c1 := hm1 f1 (by rw [hf]; simp)
  have hund : P.underlying mt = some (.struct #[f0, f1]) := by rw [h.mund]; congr 2; exact Array.ext' hf
  obtain ⟨y0, y1, n, _, _, g0, g1⟩ := trod_struct2 hund hx
  rw [o0, c0, List.drop_zero] at g0
  rw [o1, c1] at g1
  obtain ⟨a, ea, _, wa⟩ := DataW.trod_int u0 g0
  obtain ⟨b, eb, _, wb⟩ := DataW.trod_int u1 g1
  have ra := wf_nat .u64 a wa rfl
  have rb := wf_nat .u64 b wb rfl
  have ra2 : a ≤ 18446744073709551615 := ra.2
  have rb2 : b ≤ 18446744073709551615 := rb.2
  refine ⟨a.toNat, b.toNat, ?_, by omega, by omega⟩
  match cs, hl with
  | [x, y], _ =>
    simp only [List.take_succ_cons, List.take_zero, List.drop_succ_cons, List.drop_zero, List.cons.injEq, and_true] at ea eb
    rw [ea, eb]
    simp only [Int.toNat_of_nonneg ra.1, Int.toNat_of_nonneg rb.1]
theorem dec_image (h : ImT P ty mt tt ct) (hC : P.cellsOf ty = 19) (hCm : P.cellsOf mt = 2) (hCt : P.cellsOf tt = 16) (hc : P.cellsOf ct = 2) (h1 : ∀ f ∈ (P.fieldsOf ct).toList, P.cellsOf f.type = 1) (hm1 : ∀ f ∈ (P.fieldsOf mt).toList, P.cellsOf f.type = 1)
    (hs1 : ∀ f, (P.fieldsOf ty)[1]? = some f → P.cellsOf f.type = 1) (hok : Value.okWide P W r b0 ty v) (hd : DataW.Trod enc P W 0 (fun _ => true) true ty v d p) : ∃ i : Im, v = imv i ∧ i.ok := by
  obtain ⟨cs, rfl, hsz⟩ := okWide_struct' h.und hok
  rw [hC] at hsz
  obtain ⟨fuel, hf⟩ := hd
  obtain ⟨f0, f1, f2, hfs, n0, n1, n2, t0, o0, u1, o1, t2, o2⟩ := h.flds
  have hfa : P.fieldsOf ty = #[f0, f1, f2] := Array.ext' hfs
  have c1 : P.cellsOf f1.type = 1 := hs1 f1 (by rw [hfa]; rfl)
  have hund : P.underlying ty = some (.struct #[f0, f1, f2]) := by rw [h.und, hfa]
  obtain ⟨xs, n, _, _, _, hlen, hel⟩ := DataW.trod_struct hund hf
  have hxl : xs.length = 3 := by simpa using hlen
  have g0 := hel 0 f0 rfl
  have g1 := hel 1 f1 rfl
  have g2 := hel 2 f2 rfl
  rw [t0, o0, hCm, List.drop_zero, List.getElem?_eq_getElem (by omega)] at g0
  rw [o1, c1, List.getElem?_eq_getElem (by omega)] at g1
  rw [t2, o2, hCt, List.getElem?_eq_getElem (by omega)] at g2
  have hcl : (Value.agg cs).cells.toList.length = 19 := by simpa [Value.cells] using hsz
  generalize hL : (Value.agg cs).cells.toList = L at *
  have hLc : cs.toList = L := hL
  obtain ⟨a, b, em, ha, hb⟩ := trod_marks h hm1 (by rw [List.length_take]; omega) g0
  obtain ⟨s, es, _, hss⟩ := DataW.trod_string u1 g1
  have ht16 : ((L.drop 3).take 16).toArray.size = 16 := by simp; omega
  have hx2 : 2 < xs.length := by omega
  have g2' : DataW.trod enc P W 0 (fun _ => true) true n tt (Value.agg ((L.drop 3).take 16).toArray).cells.toList = some ((xs[2]'hx2).1, (xs[2]'hx2).2) := g2
  obtain ⟨T, eT, hT⟩ := dec_tab (enc := enc) (W := W) h.tab hc h1 ht16 (show DataW.Trod enc P W 0 (fun _ => true) true tt (.agg ((L.drop 3).take 16).toArray) (xs[2]'hx2).1 (xs[2]'hx2).2 from ⟨n, g2'⟩)
  have eT2 : (L.drop 3).take 16 = tcells T := by
    have : ((L.drop 3).take 16).toArray = (tcells T).toArray := by unfold tbv at eT; exact Value.agg.inj eT
    simpa using this
  have hstr : s = str s.data.toList := by simp [str]
  refine ⟨⟨a, b, s.data.toList, T⟩, ?_, ha, hb, hT⟩
  unfold imv
  congr 1
  apply Array.ext'
  rw [hLc, List.toList_toArray]
  have h3 : L = L.take 2 ++ ((L.drop 2).take 1 ++ (L.drop 3).take 16) := by
    have e1 : (L.drop 3).take 16 = L.drop 3 := List.take_of_length_le (by rw [List.length_drop]; omega)
    rw [e1, show L.drop 3 = (L.drop 2).drop 1 by rw [List.drop_drop], List.take_append_drop, List.take_append_drop]
  rw [h3, em, es, eT2]
  show _ = Value.int .u64 (a : Int) :: .int .u64 (b : Int) :: .string (str s.data.toList) :: tcells T
  rw [← hstr]
  rfl
end
theorem marks_one : ∀ f ∈ (Tryd.prog.fieldsOf 25).toList, Tryd.prog.cellsOf f.type = 1 := by
  unfold Program.fieldsOf
  rw [Tryd.underlying25]
  intro f hf
  simp only [List.mem_cons, List.not_mem_nil, or_false] at hf
  rcases hf with rfl | rfl <;> kernel_rfl
theorem image_str : ∀ f, (Tryd.prog.fieldsOf 32)[1]? = some f → Tryd.prog.cellsOf f.type = 1 := by
  unfold Program.fieldsOf
  rw [Tryd.underlying32]
  intro f hf
  obtain rfl : _ = f := Option.some.inj hf
  exact (show Tryd.prog.cellsOf 9 = 1 by kernel_rfl)

end Go.Proofs.YtgejmeankppmhaaDoor
