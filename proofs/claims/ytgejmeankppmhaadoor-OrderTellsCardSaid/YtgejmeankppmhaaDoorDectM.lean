/- An image as the document's. A table that comes in, and pairs of numbers, read as data. -/
import Derived.Test.YtgejmeankppmhaaDoorIgrM
import Derived.Test.YtgejmeankppmhaaDoorIgaM
import Derived.Test.YtgejmeankppmhaaDoorAsksM
import Derived.Test.YtgejmeankppmhaaDoorRowkitM
namespace Go.Proofs.YtgejmeankppmhaaDoor
open Go.RowKit
set_option maxRecDepth 20000

set_option maxHeartbeats 2000000 in
theorem iplain_any (i : Im) (w : World) (hok : i.ok) :
    Calls Tryd.prog 11 #[imv i] w fun e w' => e = .returned (imv i) ∧ Below w.heap.size w w' := by
  have hpl := fun W => plain_any i.T W hok.2.2
  have hT8 := Lib.hid hok.2.2.1
  have HP := Lib.hid hpl
  have h08 : I0.T.length = 8 := rfl
  clear hpl hok
  go_enter Tryd.func11, Tryd.ntmps11
  go_wp2_with (first
    | (refine wpL_rbox (cs := icells i) rfl (.tmp 0) rfl rfl ?_; intro W0 b hN; obtain ⟨hb, hr, hl1, hz⟩ := hN)
    | (refine imB.wpNew (o := ⟨some 2, _, _, _, _, _⟩) rfl rfl ?_; intro W b2 hN; obtain ⟨hb2, hr2, hl2, hz2⟩ := hN
       have HR := Lib.hid (row_below hr.out hl2)
       have HB := Lib.hid (hl1.trans (hl2.mono hl1.size))
       have hbW : b < W.heap.size := by have := hz.out; have := hl2.size; omega
       have hb2W : b2 < W.heap.size := by have := hz2.out; omega
       have hbb : b < b2 := by have := hz.out; have := hb2.out; omega
       have hb2w : w.heap.size ≤ b2 := by have := hb2.out; have := hl1.size; omega
       clear hr hl1 hz hb hl2 hz2 hb2)
    | fail)
  refine wp_low b2 [([0, 1, 2, 3, 4, 5], 6), ([7], 8)] [] (by kernel_rfl) (by kernel_rfl) (fun d _ _ _ _ h => by cases d <;> exact h) (Nat.le_of_lt hb2W) fun wd hbd => ?_
  intro q hq
  have d0 := fun z => icell0 (below_row (hq z) HR.out hbb)
  have d1 := fun z => icell1 (below_row (hq z) HR.out hbb)
  have d2 := fun z => icell2 (below_row (hq z) HR.out hbb)
  simp only [pickI, Option.toList_some, List.cons_append, List.nil_append, List.getElem?_toArray, List.getElem?_cons_succ, List.getElem?_cons_zero]
  try go_frame
  go_big_quiet_step (fail)
  go_big_quiet_step (fail)
  go_big_quiet_step (fail)
  go_big_quiet_step (fail)
  go_big_quiet_step (fail)
  refine imA.wpQloadT (by rfl) (.tmp 7) rfl rfl (fun W hW => by obtain ⟨z, rfl⟩ := hW; exact below_row (hq z) HR.out hbb) hT8.out ?_
  try go_frame
  refine wpQuiet_nil ?_
  clear hq q d0 d1 d2
  refine seg_op (by simp only [List.getElem?_toArray, List.getElem?_cons_succ, List.getElem?_cons_zero]; rfl) fun K hK => ?_
  go_simp
  refine (HP.out _).mono ?_
  rintro e v0 ⟨rfl, bv0⟩
  have zv0 := hbd.trans (bv0.mono hbd.size)
  refine hK.out _ _ (seg_keep (zv0.mono (Nat.le_of_lt hb2W)) ?_)
  clear hK K
  intro q hq
  have d0 := fun z => icell0 (below_row (hq z) HR.out hbb)
  have d1 := fun z => icell1 (below_row (hq z) HR.out hbb)
  have d2 := fun z => icell2 (below_row (hq z) HR.out hbb)
  simp only [pickI, Option.toList_some, List.cons_append, List.nil_append, List.getElem?_toArray, List.getElem?_cons_succ, List.getElem?_cons_zero]
  try go_frame
  refine wpQ_build (by rfl) _ _ #[(0, .agg #[.int .u64 (i.L : Int), .int .u64 (i.B : Int)]), (1, .string (str i.l)), (2, tbv i.T)] rfl (by simp only [List.map_toArray, List.map_cons, List.map_nil]; rfl) (imv i) (fun W => buildB i hT8.out W) ?_
  try go_frame
  refine wpQuiet_nil ?_
  clear hq q d0 d1 d2
  refine seg_op (by simp only [List.getElem?_toArray, List.getElem?_cons_succ, List.getElem?_cons_zero]; rfl) fun K hK => ?_
  rw [if_pos (by rfl)]
  refine imB.opStore (.tmp 2) (.tmp 10) rfl rfl rfl (below_row zv0 hr2.out hb2W) h08 hT8.out ?_
  intro W9 hr9 hg9 hz9
  have hfin : Below w.heap.size w W9 := (HB.out.trans (zv0.mono HB.out.size)).grown hg9 (HB.out.trans (zv0.mono HB.out.size)).size (fun k e => by cases e; exact hb2w)
  have HF := Lib.hid hfin
  have zs9 : Below b2 W W9 := (zv0.mono (Nat.le_of_lt hb2W)).grown hg9 (Nat.le_trans (Nat.le_of_lt hb2W) zv0.size) (fun k e => by cases e; exact Nat.le_refl _)
  clear hfin hg9 hz9
  refine hK.out _ _ (seg_keep zs9 ?_)
  clear hK K
  intro q hq
  refine wpQuiet_nil ?_
  clear hq q
  go_wp2
  refine bodyPost_ret (results_cell_row rfl _ _ b2 51 _ (0, 0) _ rfl hr9.out imB.und rfl (by rw [imB.size]; simp [icells_19 hT8.out])) rfl ⟨rfl, HF.out⟩

end Go.Proofs.YtgejmeankppmhaaDoor

namespace Go.Proofs.YtgejmeankppmhaaDoor
open Go.ChangeShapes Go.WideShapes Go.ChangeAt Go.RowKit

section
variable {H : Type} {enc : TypeId × Value → H} {P : Program} {W : World} {r : Reach} {b0 : Nat} {ty ct : TypeId} {v : Value} {d : DataW H} {p : List MemPlace}
theorem okWide_array {n : Nat} {e : TypeId} (ht : P.underlying ty = some (.array n e)) (h : Value.okWide P W r b0 ty v) : ∃ cs, v = .agg cs ∧ cs.size = P.cellsOf ty := by
  simp only [Value.okWide, ht] at h
  obtain ⟨cs, h1, h2, _⟩ := h
  exact ⟨cs, h1, h2⟩
theorem wf_nat (k : IntKind) (z : Int) (h : (Lit.int k z).wf = true) (hk : k.min = 0) : 0 ≤ z ∧ z ≤ k.max := by
  simp only [Lit.wf, Bool.and_eq_true, decide_eq_true_eq] at h
  rw [hk] at h
  exact h
theorem dec_table (hT : TabT P ty ct) (hC : P.cellsOf ty = 16) (hc : P.cellsOf ct = 2) (h1 : ∀ f ∈ (P.fieldsOf ct).toList, P.cellsOf f.type = 1) (hok : Value.okWide P W r b0 ty v) (h : DataW.Trod enc P W 0 (fun _ => true) true ty v d p) : ∃ T, v = tbv T ∧ Tok T := by
  obtain ⟨cs, rfl, hsz⟩ := okWide_array hT.und hok
  rw [hC] at hsz
  obtain ⟨fuel, hf⟩ := h
  obtain ⟨f0, f1, hfs, n0, n1, u0, o0, u1, o1⟩ := hT.flds
  have c0 := h1 f0 (by rw [hfs]; simp)
  have c1 := h1 f1 (by rw [hfs]; simp)
  have hund : P.underlying ct = some (.struct #[f0, f1]) := by rw [hT.cund]; congr 2; exact Array.ext' hfs
  obtain ⟨xs, m, _, _, _, hlen, hel⟩ := DataW.trod_array hT.und hf
  have each : ∀ i, ∃ q : Nat × Nat, i < 8 → cs[i * 2]? = some (.int .u64 (q.1 : Int)) ∧ cs[i * 2 + 1]? = some (.int .u16 (q.2 : Int)) ∧ Cl.ok q := by
    intro i
    by_cases hi : i < 8
    · have hx := hel i hi
      rw [hc, List.getElem?_eq_getElem (by omega)] at hx
      obtain ⟨y0, y1, n', _, _, g0, g1⟩ := trod_struct2 hund hx
      rw [o0, c0, List.drop_zero] at g0
      rw [o1, c1] at g1
      obtain ⟨a, ea, _, wa⟩ := DataW.trod_int u0 g0
      obtain ⟨b, eb, _, wb⟩ := DataW.trod_int u1 g1
      have k0 : cs[i * 2]? = some (.int .u64 a) := by
        have h2 : (List.take 1 (List.take 2 (List.drop (i * 2) (Value.agg cs).cells.toList)))[0]? = some (.int .u64 a) := by rw [ea]; rfl
        rw [List.getElem?_take_of_lt (by decide), List.getElem?_take_of_lt (by decide), List.getElem?_drop] at h2
        simpa [Value.cells] using h2
      have k1 : cs[i * 2 + 1]? = some (.int .u16 b) := by
        have h2 : (List.take 1 (List.drop 1 (List.take 2 (List.drop (i * 2) (Value.agg cs).cells.toList))))[0]? = some (.int .u16 b) := by rw [eb]; rfl
        rw [List.getElem?_take_of_lt (by decide), List.getElem?_drop, List.getElem?_take_of_lt (by decide), List.getElem?_drop] at h2
        simpa [Value.cells] using h2
      have ra := wf_nat .u64 a wa rfl
      have rb := wf_nat .u16 b wb rfl
      have ra2 : a ≤ 18446744073709551615 := ra.2
      have rb2 : b ≤ 65535 := rb.2
      refine ⟨(a.toNat, b.toNat), fun _ => ⟨?_, ?_, ?_⟩⟩
      · rw [k0]; simp only [Int.toNat_of_nonneg ra.1]
      · rw [k1]; simp only [Int.toNat_of_nonneg rb.1]
      · exact ⟨by show a.toNat < _; omega, by show b.toNat < _; omega⟩
    · exact ⟨(0, 0), fun h => absurd h hi⟩
  obtain ⟨g, hg⟩ := Classical.axiomOfChoice each
  refine ⟨(List.range 8).map g, ?_, by simp, fun q hq => ?_⟩
  · unfold tbv
    congr 1
    apply Array.ext'
    apply List.ext_getElem?
    intro j
    by_cases hj : j < 16
    · have hp := tcells_get ((List.range 8).map g) (j / 2) (g (j / 2)) (by simp [show j / 2 < 8 by omega])
      have hq := hg (j / 2) (by omega)
      rcases Nat.mod_two_eq_zero_or_one j with hm | hm
      · rw [show j / 2 * 2 = j by omega] at hp hq
        rw [Array.getElem?_toList, hq.1, hp.1]
      · rw [show j / 2 * 2 + 1 = j by omega] at hp hq
        rw [Array.getElem?_toList, hq.2.1, hp.2]
    · rw [List.getElem?_eq_none (by rw [Array.length_toList]; omega), List.getElem?_eq_none (by rw [tcells_len]; simp; omega)]
  · obtain ⟨i, hi, rfl⟩ := List.mem_map.1 hq
    exact (hg i (List.mem_range.1 hi)).2.2
theorem dec_u64 (ht : P.underlying ty = some (.int .u64)) (hok : Value.okWide P W r b0 ty v) (h : DataW.Trod enc P W 0 (fun _ => true) true ty v d p) : ∃ n : Nat, v = .int .u64 (n : Int) ∧ n < 18446744073709551616 := by
  obtain ⟨n, rfl, hw⟩ := dec_int ht hok h
  have := wf_nat .u64 n hw rfl
  have h2 : n ≤ 18446744073709551615 := this.2
  exact ⟨n.toNat, by simp only [Int.toNat_of_nonneg this.1], by omega⟩
end
theorem cl_one : ∀ f ∈ (Tryd.prog.fieldsOf 28).toList, Tryd.prog.cellsOf f.type = 1 := by
  unfold Program.fieldsOf
  rw [Tryd.underlying28]
  intro f hf
  simp only [List.mem_cons, List.not_mem_nil, or_false] at hf
  rcases hf with rfl | rfl <;> kernel_rfl

end Go.Proofs.YtgejmeankppmhaaDoor
