/- An image as the document's. -/
import Derived.Test.YtacaonlahggdeaaDoorImw
import Derived.Test.YtacaonlahggdeaaDoorPlain
namespace Go.Proofs.YtacaonlahggdeaaDoor
open Go.RowKit
set_option maxRecDepth 20000

set_option maxHeartbeats 2000000 in
theorem iplain_any (i : Im) (w : World) (hok : i.ok) :
    Calls Tryd.prog 7 #[imv i] w fun e w' => e = .returned (imv i) ∧ Below w.heap.size w w' := by
  have hpl := fun W => plain_any i.T W hok.2.2
  have hT8 := Lib.hid hok.2.2.1
  have HP := Lib.hid hpl
  have h08 : I0.T.length = 8 := rfl
  clear hpl hok
  go_enter Tryd.func7, Tryd.ntmps7
  go_wp2_with (first
    | (refine wpL_rbox (cs := icells i) rfl (.tmp 0) rfl rfl ?_; intro W0 b hN; obtain ⟨hb, hr, hl1, hz⟩ := hN)
    | (refine imB.wpNew (o := ⟨some 2, _, _, _, _, _⟩) rfl rfl ?_; intro W b2 hN; obtain ⟨hb2, hr2, hl2, hz2⟩ := hN
       have HR := Lib.hid (row_below hr.out hl2)
       have HB := Lib.hid (hl1.trans (hl2.mono hl1.size))
       have hbW : b < W.heap.size := by have := hz.out; have := hl2.size; omega
       have hb2W : b2 < W.heap.size := by have := hz2.out; omega
       have hbb : b < b2 := by have := hz.out; have := hb2.out; omega
       have hb2w : w.heap.size ≤ b2 := by have := hb2.out; have := hl1.size; omega
       clear hr hl1 hz hb hl2 hz2 hb2)
    | fail)
  refine wp_low b2 [([0, 1, 2, 3, 4, 5], 6), ([7], 8)] [] (by kernel_rfl) (by kernel_rfl) (fun d _ _ _ _ h => by cases d <;> exact h) (Nat.le_of_lt hb2W) fun wd hbd => ?_
  intro q hq
  have d0 := fun z => icell0 (below_row (hq z) HR.out hbb)
  have d1 := fun z => icell1 (below_row (hq z) HR.out hbb)
  have d2 := fun z => icell2 (below_row (hq z) HR.out hbb)
  simp only [pickI, Option.toList_some, List.cons_append, List.nil_append, List.getElem?_toArray, List.getElem?_cons_succ, List.getElem?_cons_zero]
  try go_frame
  go_big_quiet_step (fail)
  go_big_quiet_step (fail)
  go_big_quiet_step (fail)
  go_big_quiet_step (fail)
  go_big_quiet_step (fail)
  refine imA.wpQloadT (by rfl) (.tmp 7) rfl rfl (fun W hW => by obtain ⟨z, rfl⟩ := hW; exact below_row (hq z) HR.out hbb) hT8.out ?_
  try go_frame
  refine wpQuiet_nil ?_
  clear hq q d0 d1 d2
  refine seg_op (by simp only [List.getElem?_toArray, List.getElem?_cons_succ, List.getElem?_cons_zero]; rfl) fun K hK => ?_
  go_simp
  refine (HP.out _).mono ?_
  rintro e v0 ⟨rfl, bv0⟩
  have zv0 := hbd.trans (bv0.mono hbd.size)
  refine hK.out _ _ (seg_keep (zv0.mono (Nat.le_of_lt hb2W)) ?_)
  clear hK K
  intro q hq
  have d0 := fun z => icell0 (below_row (hq z) HR.out hbb)
  have d1 := fun z => icell1 (below_row (hq z) HR.out hbb)
  have d2 := fun z => icell2 (below_row (hq z) HR.out hbb)
  simp only [pickI, Option.toList_some, List.cons_append, List.nil_append, List.getElem?_toArray, List.getElem?_cons_succ, List.getElem?_cons_zero]
  try go_frame
  refine wpQ_build (by rfl) _ _ #[(0, .agg #[.int .u64 (i.L : Int), .int .u64 (i.B : Int)]), (1, .string (str i.l)), (2, tbv i.T)] rfl (by simp only [List.map_toArray, List.map_cons, List.map_nil]; rfl) (imv i) (fun W => buildB i hT8.out W) ?_
  try go_frame
  refine wpQuiet_nil ?_
  clear hq q d0 d1 d2
  refine seg_op (by simp only [List.getElem?_toArray, List.getElem?_cons_succ, List.getElem?_cons_zero]; rfl) fun K hK => ?_
  rw [if_pos (by rfl)]
  refine imB.opStore (.tmp 2) (.tmp 10) rfl rfl rfl (below_row zv0 hr2.out hb2W) h08 hT8.out ?_
  intro W9 hr9 hg9 hz9
  have hfin : Below w.heap.size w W9 := (HB.out.trans (zv0.mono HB.out.size)).grown hg9 (HB.out.trans (zv0.mono HB.out.size)).size (fun k e => by cases e; exact hb2w)
  have HF := Lib.hid hfin
  have zs9 : Below b2 W W9 := (zv0.mono (Nat.le_of_lt hb2W)).grown hg9 (Nat.le_trans (Nat.le_of_lt hb2W) zv0.size) (fun k e => by cases e; exact Nat.le_refl _)
  clear hfin hg9 hz9
  refine hK.out _ _ (seg_keep zs9 ?_)
  clear hK K
  intro q hq
  refine wpQuiet_nil ?_
  clear hq q
  go_wp2
  refine bodyPost_ret (results_cell_row rfl _ _ b2 39 _ (0, 0) _ rfl hr9.out imB.und rfl (by rw [imB.size]; simp [icells_19 hT8.out])) rfl ⟨rfl, HF.out⟩

end Go.Proofs.YtacaonlahggdeaaDoor
