/- done.Add. -/
import Derived.Test.YtgejmeankppmhaaDoorAsksM
namespace Go.Proofs.YtgejmeankppmhaaDoor
open Go.RowKit
set_option maxRecDepth 20000

def addT (T : List Cl) (c r : Nat) : List Cl := if at8 T c (fun p => !oldN p.1 r) then T.set (c - 1) (withN (T.getD (c - 1) (0, 0)) r) else T
theorem addT_ok {T : List Cl} (hT : Tok T) (c r : Nat) (hr : r < 18446744073709551616) : Tok (addT T c r) := by
  unfold addT
  split
  · next h =>
    simp only [at8, Bool.and_eq_true, Bool.not_eq_true'] at h
    refine ⟨by rw [List.length_set]; exact hT.1, fun p hp => ?_⟩
    rcases List.mem_or_eq_of_mem_set hp with hp | rfl
    · exact hT.2 p hp
    · exact withN_ok (hT.get _) hr h.2
  · exact hT
theorem TabT.opStore {P : Program} {w : World} {ty ct : TypeId} {o : Oper} {a : Act} {Q : Exit → Act → World → Prop} {K : Act → World → Prop} (h : TabT P ty ct) (x y : Operand) (ho : o.op = .store ty x y) {g : Nat} {e : TypeId} {S T : List Cl} (hx : a.eval x = .pointer (some ⟨g, 0, none⟩)) (hy : a.eval y = tbv T) (hr : w.heap[g]? = some (.cells (tcells S).toArray e (0, 0))) (hS : S.length = 8) (hT : T.length = 8)
    (hk : ∀ W : World, Hid (W.heap[g]? = some (.cells (tcells T).toArray e (0, 0))) → w.grownBy W (some g) → Hid (W.heap.size = w.heap.size) → K (a.put o.dst undef) W) : o.wp P a w K Q := by
  have hrun := h.stores hr hS hT
  unfold Oper.wp
  simp only [execOp, ho, hx, hy, Sem.run_bind, hrun, Result.andThen_ok, Sem.run_pure]
  exact hk _ (Lib.hid (setRow_heap w g _ _ e _ hr)) ⟨rfl, rfl, rfl, by simp, fun k _ hk => setRow_other w g k _ (fun e => hk (by rw [e]))⟩ (Lib.hid (by simp))
theorem put_cl {w : World} {g k : Nat} {T : List Cl} {e : TypeId} (hr : w.heap[g]? = some (.cells (tcells T).toArray e (0, 0))) (p : Cl) :
    ((w.setCell ⟨g, k * 2, none⟩ (.int .u64 (p.1 : Int))).setCell ⟨g, k * 2 + 1, none⟩ (.int .u16 (p.2 : Int))).heap[g]? = some (.cells (tcells (T.set k p)).toArray e (0, 0)) := by
  rw [heap_setCell_same _ g _ _ _ _ (heap_setCell_same w g _ _ _ _ hr)]
  rw [← tcells_set]
  simp

set_option maxHeartbeats 2000000 in
theorem add8_no (T : List Cl) (c r : Nat) (w : World) (hT : Tok T) (hb : at8 T c (fun p => !oldN p.1 r) = false) :
    Calls Tryd.prog 27 #[tbv T, .int .u64 (c : Int), .int .u64 (r : Int)] w fun e w' => e = .returned (.tuple #[tbv T, .bool false]) ∧ Below w.heap.size w w' := by
  have hh := fun W g hc hg => asks_add T c r g W hT hc hg
  rw [hb] at hh
  have HT := Lib.hid hT.1
  have HH := Lib.hid hh
  clear hh hT hb
  go_enter Tryd.func27, Tryd.ntmps27
  go_wp2_with (first
    | (refine wpL_tbox rfl (.tmp 0) rfl rfl ?_; intro W0 b3 hN; obtain ⟨hb3, hr3, hl3, hz3⟩ := hN)
    | (refine tabA.wpNew (o := ⟨some 6, _, _, _, _, _⟩) rfl rfl ?_; intro W1 b6 hN; obtain ⟨hb6, hr6, hl6, hz6⟩ := hN
       have h3 := Lib.hid (row_below (row_old _ hr3.out) hl6)
       have h5 := Lib.hid (row_below (heap_alloc_new W0 _) hl6)
       have hu6 := unal hl6
       have e5 : W0.heap.size + 1 = b6 := by rw [hb6.out]; simp
       have E5 := Lib.hid e5; clear e5
       have lt3 : b3 < b6 := by have := E5.out; have := hz3.out; omega
       have lt5 : W0.heap.size < b6 := by have := E5.out; omega)
    | (refine tabA.wpLoad (o := ⟨some 9, _, _, _, _, _⟩) rfl (.tmp 3) rfl rfl h3.out HT.out ?_)
    | (refine tabA.wpNew (o := ⟨some 8, _, _, _, _, _⟩) rfl rfl ?_; intro W2 b8 hN; obtain ⟨hb8, hr8, hl8, hz8⟩ := hN
       have h3' := Lib.hid (row_below h3.out hl8)
       have h5' := Lib.hid (row_below h5.out hl8)
       have h6' := Lib.hid (row_below hr6.out hl8)
       have lt6 : b6 < b8 := by have := hb8.out; have := hz6.out; omega)
    | (refine tabA.wpStore rfl (.tmp 8) (.tmp 9) rfl rfl rfl hr8.out rfl HT.out ?_; intro W3 hr38 hg38 hz38
       have h33 := Lib.hid (row_far h3'.out hg38 (fun e => by have := Option.some.inj e; omega))
       have h35 := Lib.hid (row_far h5'.out hg38 (fun e => by have := Option.some.inj e; omega))
       have h36 := Lib.hid (row_far h6'.out hg38 (fun e => by have := Option.some.inj e; omega)))
    | (refine tabA.wpLoad (o := ⟨some 10, _, _, _, _, _⟩) rfl (.tmp 3) rfl rfl h33.out HT.out ?_)
    | (go_at_call 47; refine (HH.out _ _ (cell_of_row _ _ 0 _ _ _ h35.out) (by have := (Array.getElem?_eq_some_iff.1 h35.out).1; exact this)).mono ?_; rintro e w4 ⟨rfl, hb4⟩
       have h43 := Lib.hid (row_below h33.out hb4)
       have h45 := Lib.hid (row_below h35.out hb4)
       have h46 := Lib.hid (row_below h36.out hb4)
       have h48 := Lib.hid (row_below hr38.out hb4)
       have hlow : Below w.heap.size w w4 := (((hl3.trans (hu6.mono hl3.size)).trans (hl8.mono (Nat.le_trans hl3.size hu6.size))).grown hg38 (Nat.le_trans hl3.size (Nat.le_trans hu6.size hl8.size)) (fun k e => by cases e; have := hl3.size; omega)).trans (hb4.mono (by have := hl3.size; have := hu6.size; have := hl8.size; have := hz38.out; omega)))
    | fail)
  refine wp_segs [([0, 1, 2, 3], 4)] [5] (fun x => x.heap[b3]? = some (.cells (tcells T).toArray 30 (0, 0)) ∧ x.heap[b8]? = some (.cells (tcells T).toArray 30 (0, 0))) (by kernel_rfl) (by kernel_rfl) (fun d _ _ _ _ h => by cases d <;> exact h) ⟨h43.out, h48.out⟩ ?_
  intro f hf
  simp only [pickI, Option.toList_some, List.cons_append, List.nil_append, List.getElem?_toArray, List.getElem?_cons_succ, List.getElem?_cons_zero]
  refine wpQ_load rfl _ (.tmp 8) rfl rfl (fun W hW => tabA.loads (by obtain ⟨z, rfl⟩ := hW; exact (hf z).2) HT.out) ?_
  go_frame
  refine wpQ_load rfl _ (.tmp 8) rfl rfl (fun W hW => tabA.loads (by obtain ⟨z, rfl⟩ := hW; exact (hf z).2) HT.out) ?_
  go_frame
  refine wpQ_load rfl _ (.tmp 3) rfl rfl (fun W hW => tabA.loads (by obtain ⟨z, rfl⟩ := hW; exact (hf z).1) HT.out) ?_
  go_frame
  refine tabA.wpQneq rfl (.tmp 24) (.tmp 25) _ rfl rfl rfl HT.out HT.out (b := false) (by simp) ?_
  go_frame
  refine wpQuiet_nil ?_
  clear hf f
  refine seg_op (by simp only [List.getElem?_toArray, List.getElem?_cons_succ, List.getElem?_cons_zero]; rfl) fun K hK => ?_
  rw [if_pos (by rfl)]
  refine tabA.opStore (.tmp 6) (.tmp 23) rfl rfl rfl (show w4.drew.heap[b6]? = _ from h46.out) rfl HT.out ?_
  intro W9 hr9 hg9 hz9
  have r93 := row_far (show w4.drew.heap[b3]? = _ from h43.out) hg9 (fun e => by have := Option.some.inj e; omega)
  have r98 := row_far (show w4.drew.heap[b8]? = _ from h48.out) hg9 (fun e => by have := Option.some.inj e; omega)
  refine hK.out _ _ (seg_keep ⟨r93, r98⟩ ?_)
  clear hK K r93 r98
  intro f hf
  simp only [pickI, Option.toList_some, List.cons_append, List.nil_append, List.getElem?_toArray, List.getElem?_cons_succ, List.getElem?_cons_zero]
  go_frame
  go_big_quiet_step (fail)
  refine wpQuiet_nil ?_
  clear hf f
  have hlow9 : Below w.heap.size w W9 := (hlow.drew).grown hg9 (Nat.le_trans hlow.size (Nat.le_refl _)) (fun k e => by cases e; have := hl3.size; have := E5.out; omega)
  have HR9 := Lib.hid hr9
  have HL9 := Lib.hid hlow9
  clear hr9 hlow9 hg9
  go_wp2
  refine bodyPost_ret (results_cell_tmp (fn := Tryd.f27) rfl _ b6 30 _ (0, 0) _ rfl HR9.out Tryd.underlying30 rfl (by rw [tabA.size]; simp [tcells_len, HT.out])) rfl ⟨rfl, HL9.out⟩

set_option maxHeartbeats 2000000 in
theorem add8_yes (T : List Cl) (c r : Nat) (w : World) (hT : Tok T) (hr : r < 18446744073709551616) (hb : at8 T c (fun p => !oldN p.1 r) = true) :
    Calls Tryd.prog 27 #[tbv T, .int .u64 (c : Int), .int .u64 (r : Int)] w fun e w' => e = .returned (.tuple #[tbv (T.set (c - 1) (withN (T.getD (c - 1) (0, 0)) r)), .bool (!decide (T.set (c - 1) (withN (T.getD (c - 1) (0, 0)) r) = T))]) ∧ Below w.heap.size w w' := by
  have hh := fun W g hc hg => asks_add T c r g W hT hc hg
  rw [hb] at hh
  have h8 : (1 ≤ c ∧ c ≤ 8) ∧ oldN (T.getD (c - 1) (0, 0)).1 r = false := by simpa [at8] using hb
  obtain ⟨h8, ho⟩ := h8
  have hi := hT.at_ h8
  have hok := hT.get (c - 1)
  obtain ⟨h1, h2⟩ := h8
  generalize T.getD (c - 1) (0, 0) = p at *
  have hw := fun W => with_any p r W hok hr ho
  have HW := Lib.hid hw
  obtain ⟨S, hS⟩ : ∃ S, S = T.set (c - 1) (withN p r) := ⟨_, rfl⟩
  have hput := fun (w : World) (g : Nat) (e : TypeId) (hr : w.heap[g]? = some (.cells (tcells T).toArray e (0, 0))) => put_cl (k := c - 1) hr (withN p r)
  rw [← hS] at hput ⊢
  have hSl : S.length = 8 := by rw [hS, List.length_set]; exact hT.1
  generalize withN p r = q at *
  have heq : (!decide (S = T)) = !decide (S = T) := rfl
  generalize hB : (!decide (S = T)) = B at heq ⊢
  obtain ⟨g0, g1⟩ := tcells_get T _ _ hi
  have G0 := Lib.hid g0
  have G1 := Lib.hid g1
  have HEQ := Lib.hid hB.symm
  have HT := Lib.hid hT.1
  have HH := Lib.hid hh
  have HPUT := Lib.hid hput
  have HS := Lib.hid hSl
  clear hh hT hb heq hB hi hw hput hS hSl g0 g1 hok ho hr
  unfold clv at HW
  go_enter Tryd.func27, Tryd.ntmps27
  go_wp2_with (first
    | (refine wpL_tbox rfl (.tmp 0) rfl rfl ?_; intro W0 b3 hN; obtain ⟨hb3, hr3, hl3, hz3⟩ := hN)
    | (refine tabA.wpNew (o := ⟨some 6, _, _, _, _, _⟩) rfl rfl ?_; intro W1 b6 hN; obtain ⟨hb6, hr6, hl6, hz6⟩ := hN
       have h3 := Lib.hid (row_below (row_old _ hr3.out) hl6)
       have h5 := Lib.hid (row_below (heap_alloc_new W0 _) hl6)
       have hu6 := unal hl6
       have e5 : W0.heap.size + 1 = b6 := by rw [hb6.out]; simp
       have E5 := Lib.hid e5; clear e5
       have lt3 : b3 < b6 := by have := E5.out; have := hz3.out; omega
       have lt5 : W0.heap.size < b6 := by have := E5.out; omega)
    | (refine tabA.wpLoad (o := ⟨some 9, _, _, _, _, _⟩) rfl (.tmp 3) rfl rfl h3.out HT.out ?_)
    | (refine tabA.wpNew (o := ⟨some 8, _, _, _, _, _⟩) rfl rfl ?_; intro W2 b8 hN; obtain ⟨hb8, hr8, hl8, hz8⟩ := hN
       have h3' := Lib.hid (row_below h3.out hl8)
       have h5' := Lib.hid (row_below h5.out hl8)
       have h6' := Lib.hid (row_below hr6.out hl8)
       have lt6 : b6 < b8 := by have := hb8.out; have := hz6.out; omega)
    | (refine tabA.wpStore rfl (.tmp 8) (.tmp 9) rfl rfl rfl hr8.out rfl HT.out ?_; intro W3 hr38 hg38 hz38
       have h33 := Lib.hid (row_far h3'.out hg38 (fun e => by have := Option.some.inj e; omega))
       have h35 := Lib.hid (row_far h5'.out hg38 (fun e => by have := Option.some.inj e; omega))
       have h36 := Lib.hid (row_far h6'.out hg38 (fun e => by have := Option.some.inj e; omega)))
    | (refine tabA.wpLoad (o := ⟨some 10, _, _, _, _, _⟩) rfl (.tmp 3) rfl rfl h33.out HT.out ?_)
    | (go_at_call 47; refine (HH.out _ _ (cell_of_row _ _ 0 _ _ _ h35.out) (by have := (Array.getElem?_eq_some_iff.1 h35.out).1; exact this)).mono ?_; rintro e w4 ⟨rfl, hb4⟩
       have h43 := Lib.hid (row_below h33.out hb4)
       have h45 := Lib.hid (row_below h35.out hb4)
       have h46 := Lib.hid (row_below h36.out hb4)
       have h48 := Lib.hid (row_below hr38.out hb4)
       have hlow : Below w.heap.size w w4 := (((hl3.trans (hu6.mono hl3.size)).trans (hl8.mono (Nat.le_trans hl3.size hu6.size))).grown hg38 (Nat.le_trans hl3.size (Nat.le_trans hu6.size hl8.size)) (fun k e => by cases e; have := hl3.size; omega)).trans (hb4.mono (by have := hl3.size; have := hu6.size; have := hl8.size; have := hz38.out; omega)))
    | fail)
  refine wp_low b8 [([0, 1, 2, 3, 4, 5, 6], 7), ([8], 9)] [] (by kernel_rfl) (by kernel_rfl) (fun d _ _ _ _ h => by cases d <;> exact h) (Nat.le_of_lt (Array.getElem?_eq_some_iff.1 h48.out).1) fun wd hbd => ?_
  have w3 := h43.out
  have w5 := h45.out
  have w6 := row_below h46.out hbd
  have w8 := row_below h48.out hbd
  intro f hf
  have d0 : ∀ z, (f z).cell? ⟨b3, (c - 1) * 2, none⟩ = some (.int .u64 (p.1 : Int)) := fun z => cellz (hf z) w3 (by simpa using G0.out)
  have d1 : ∀ z, (f z).cell? ⟨b3, (c - 1) * 2 + 1, none⟩ = some (.int .u16 (p.2 : Int)) := fun z => cellz (hf z) w3 (by simpa using G1.out)
  have d5 := fun z => cellz (j := 0) (hf z) w5 rfl
  have W3 := Lib.hid (row_below h43.out hbd)
  have W5 := Lib.hid w5
  have W6 := Lib.hid w6
  have W8 := Lib.hid w8
  clear w3 w5 w6 w8
  simp only [pickI, Option.toList_some, List.cons_append, List.nil_append, List.getElem?_toArray, List.getElem?_cons_succ, List.getElem?_cons_zero]
  repeat (go_big_quiet_step (fail))
  refine wpQuiet_nil ?_
  clear d0 d1 d5 hf f
  refine seg_op (by simp only [List.getElem?_toArray, List.getElem?_cons_succ, List.getElem?_cons_zero]; rfl) fun K hK => ?_
  go_simp
  refine (HW.out _).mono ?_
  rintro e w7 ⟨rfl, hb7⟩
  have v3 := Lib.hid (row_below W3.out hb7)
  have v6 := Lib.hid (row_below W6.out hb7)
  have v8 := Lib.hid (row_below W8.out hb7)
  have hle4 : b8 ≤ w4.heap.size := Nat.le_of_lt (Array.getElem?_eq_some_iff.1 h48.out).1
  have hlewd : b8 ≤ wd.heap.size := Nat.le_of_lt (Array.getElem?_eq_some_iff.1 W8.out).1
  refine hK.out _ _ (seg_keep ((hbd.mono hle4).trans (hb7.mono hlewd)) ?_)
  clear hK K
  intro f hf
  simp only [pickI, Option.toList_some, List.cons_append, List.nil_append, List.getElem?_toArray, List.getElem?_cons_succ, List.getElem?_cons_zero]
  repeat (go_big_quiet_step (fail))
  refine wpQuiet_nil ?_
  clear hf f
  have k0 : w7.cell? ⟨b8, (c - 1) * 2, none⟩ = some (.int .u64 (p.1 : Int)) := by rw [cell_of_row w7 b8 _ _ _ _ v8.out]; simpa using G0.out
  have k1 : w7.cell? ⟨b8, (c - 1) * 2 + 1, none⟩ = some (.int .u16 (p.2 : Int)) := by rw [cell_of_row w7 b8 _ _ _ _ v8.out]; simpa using G1.out
  have z0 := frozen_of_row w7 b8 ((c - 1) * 2) _ _ v8.out
  have z1 := frozen_of_row w7 b8 ((c - 1) * 2 + 1) _ _ v8.out
  refine seg_op (by simp only [List.getElem?_toArray, List.getElem?_cons_succ, List.getElem?_cons_zero]; rfl) fun K hK => ?_
  go_simp
  have r8 := Lib.hid (HPUT.out w7 b8 _ v8.out)
  have hg8 : w7.grownBy ((w7.setCell ⟨b8, (c - 1) * 2, none⟩ (.int .u64 (q.1 : Int))).setCell ⟨b8, (c - 1) * 2 + 1, none⟩ (.int .u16 (q.2 : Int))) (some b8) := setCell_by (w' := w7.setCell ⟨b8, (c - 1) * 2, none⟩ (.int .u64 (q.1 : Int))) (p := ⟨b8, (c - 1) * 2 + 1, none⟩) (setCell_by (w' := w7) (p := ⟨b8, (c - 1) * 2, none⟩) (World.grownBy.refl w7 (some b8)) rfl (.int .u64 (q.1 : Int))) rfl (.int .u16 (q.2 : Int))
  have r3 := Lib.hid (row_far v3.out hg8 (fun e => by have := Option.some.inj e; omega))
  have r6 := Lib.hid (row_far v6.out hg8 (fun e => by have := Option.some.inj e; omega))
  have hl7 : Below w.heap.size w w7 := (hlow.trans (hbd.mono hlow.size)).trans (hb7.mono (Nat.le_trans hlow.size hbd.size))
  have hl9 := hl7.grown hg8 hl7.size (fun k e => by cases e; have := hl3.size; have := E5.out; omega)
  have hbb : Below b8 w4 ((w7.setCell ⟨b8, (c - 1) * 2, none⟩ (.int .u64 (q.1 : Int))).setCell ⟨b8, (c - 1) * 2 + 1, none⟩ (.int .u16 (q.2 : Int))) := ((hbd.mono hle4).trans (hb7.mono hlewd)).grown hg8 (Nat.le_of_lt (Array.getElem?_eq_some_iff.1 v8.out).1) (fun k e => by cases e; exact Nat.le_refl _)
  refine hK.out _ _ (seg_keep hbb ?_)
  clear hK K hg8 k0 k1 z0 z1 hbb
  generalize (w7.setCell ⟨b8, (c - 1) * 2, none⟩ (.int .u64 (q.1 : Int))).setCell ⟨b8, (c - 1) * 2 + 1, none⟩ (.int .u16 (q.2 : Int)) = w9 at *
  intro f hf
  refine wpQuiet_nil ?_
  clear hf f
  go_wp2_with (fail)
  refine wp_segs [([0, 1, 2, 3], 4)] [5] (fun x => x.heap[b3]? = some (.cells (tcells T).toArray 30 (0, 0)) ∧ x.heap[b8]? = some (.cells (tcells S).toArray 30 (0, 0))) (by kernel_rfl) (by kernel_rfl) (fun d _ _ _ _ h => by cases d <;> exact h) ⟨r3.out, r8.out⟩ ?_
  intro f hf
  simp only [pickI, Option.toList_some, List.cons_append, List.nil_append, List.getElem?_toArray, List.getElem?_cons_succ, List.getElem?_cons_zero]
  refine wpQ_load rfl _ (.tmp 8) rfl rfl (fun W hW => tabA.loads (by obtain ⟨z, rfl⟩ := hW; exact (hf z).2) HS.out) ?_
  go_frame
  refine wpQ_load rfl _ (.tmp 8) rfl rfl (fun W hW => tabA.loads (by obtain ⟨z, rfl⟩ := hW; exact (hf z).2) HS.out) ?_
  go_frame
  refine wpQ_load rfl _ (.tmp 3) rfl rfl (fun W hW => tabA.loads (by obtain ⟨z, rfl⟩ := hW; exact (hf z).1) HT.out) ?_
  go_frame
  refine tabA.wpQneq rfl (.tmp 24) (.tmp 25) _ rfl rfl rfl HS.out HT.out (b := B) HEQ.out ?_
  go_frame
  refine wpQuiet_nil ?_
  clear hf f
  refine seg_op (by simp only [List.getElem?_toArray, List.getElem?_cons_succ, List.getElem?_cons_zero]; rfl) fun K hK => ?_
  rw [if_pos (by rfl)]
  refine tabA.opStore (.tmp 6) (.tmp 23) rfl rfl rfl (show w9.drew.heap[b6]? = _ from r6.out) rfl HS.out ?_
  intro W9 hr9 hg9 hz9
  have r93 := row_far (show w9.drew.heap[b3]? = _ from r3.out) hg9 (fun e => by have := Option.some.inj e; omega)
  have r98 := row_far (show w9.drew.heap[b8]? = _ from r8.out) hg9 (fun e => by have := Option.some.inj e; omega)
  refine hK.out _ _ (seg_keep ⟨r93, r98⟩ ?_)
  clear hK K r93 r98
  intro f hf
  simp only [pickI, Option.toList_some, List.cons_append, List.nil_append, List.getElem?_toArray, List.getElem?_cons_succ, List.getElem?_cons_zero]
  go_frame
  go_big_quiet_step (fail)
  refine wpQuiet_nil ?_
  clear hf f
  have hlow9 : Below w.heap.size w W9 := (hl9.drew).grown hg9 (Nat.le_trans hl9.size (Nat.le_refl _)) (fun k e => by cases e; have := hl3.size; have := E5.out; omega)
  have HR9 := Lib.hid hr9
  have HL9 := Lib.hid hlow9
  clear hr9 hlow9 hg9
  go_wp2
  refine bodyPost_ret (results_cell_tmp (fn := Tryd.f27) rfl _ b6 30 _ (0, 0) _ rfl HR9.out Tryd.underlying30 rfl (by rw [tabA.size]; simp [tcells_len, HS.out])) rfl ⟨rfl, HL9.out⟩

/-- Whatever is remembered, of whomever. -/
theorem add8_any (T : List Cl) (c r : Nat) (w : World) (hT : Tok T) (hr : r < 18446744073709551616) :
    Calls Tryd.prog 27 #[tbv T, .int .u64 (c : Int), .int .u64 (r : Int)] w fun e w' => e = .returned (.tuple #[tbv (addT T c r), .bool (!decide (addT T c r = T))]) ∧ Below w.heap.size w w' := by
  unfold addT
  cases hb : at8 T c (fun p => !oldN p.1 r)
  · refine (add8_no T c r w hT hb).mono ?_
    rintro e w' ⟨rfl, h⟩
    exact ⟨by simp, h⟩
  · simpa using add8_yes T c r w hT hr hb

end Go.Proofs.YtgejmeankppmhaaDoor
