/- A text is read as an image, the document's own. -/
import Derived.Test.YtacaonlahggdeaaDoorIgr
import Derived.Test.YtacaonlahggdeaaDoorIgb
import Derived.Test.YtacaonlahggdeaaDoorTreadr
namespace Go.Proofs.YtacaonlahggdeaaDoor
open Go.RowKit
set_option maxRecDepth 20000

section
variable {P : Program} {w : World} {ty mt tt ct : TypeId} {ops : Array Oper} {rest : List Oper} {o : Oper} {a : Act} {Q : Exit → Act → World → Prop}
theorem ImT.storesT (h : ImT P ty mt tt ct) {g : Nat} {e : TypeId} {i : Im} {T' : List Cl} (hr : w.heap[g]? = some (.cells (icells i).toArray e (0, 0))) (hi : i.T.length = 8) (hT : T'.length = 8) : (Instr.storeAt tt (.pointer (some ⟨g, 3, none⟩)) (tbv T')).run P w = .ok () (w.setRow g (icells ⟨i.L, i.B, i.l, T'⟩).toArray) := by
  have hst := run_storeCells_at P g 3 e (tcells T') 0 (icells i).toArray w hr (by simp [icells_19 hi, tcells_len, hT]) (tcells_one T')
  have hrow : ((icells i).toArray.toList.take 3 ++ tcells T' ++ (icells i).toArray.toList.drop (3 + (tcells T').length)).toArray = (icells ⟨i.L, i.B, i.l, T'⟩).toArray := by
    congr 1
    have hl := tcells_len i.T
    rw [List.toList_toArray, List.drop_of_length_le (by rw [icells_19 hi, tcells_len, hT]; exact Nat.le_refl _), List.append_nil]
    rfl
  rw [hrow] at hst
  have hl := tcells_len T'
  cases hq : P.info? tt with
  | none => have := h.tab.size; rw [hq] at this; cases this
  | some it =>
    have hsz : it.size = 16 := by have := h.tab.size; rw [hq] at this; simpa using this
    have hc : (tbv T').cells = (tcells T').toArray := rfl
    simp only [Instr.storeAt, Instr.sureAddr, Sem.run_bind, Sem.run_pure, Result.andThen_ok]
    simp [storeVar, sizeOf, typeInfo, hq, hsz, hc, hl, hT, hst]
theorem ImT.wpStoreT (h : ImT P ty mt tt ct) (hgd : o.guard = none) (x y : Operand) (ho : o.op = .store tt x y) {g : Nat} {e : TypeId} {i : Im} {T' : List Cl} (hx : a.eval x = .pointer (some ⟨g, 3, none⟩)) (hy : a.eval y = tbv T') (hr : w.heap[g]? = some (.cells (icells i).toArray e (0, 0))) (hi : i.T.length = 8) (hT : T'.length = 8)
    (hk : ∀ W : World, Hid (W.heap[g]? = some (.cells (icells ⟨i.L, i.B, i.l, T'⟩).toArray e (0, 0))) → w.grownBy W (some g) → Hid (W.heap.size = w.heap.size) → wpList P ops Q rest (a.put o.dst undef) W) : wpList P ops Q (o :: rest) a w := by
  refine wpList_plain hgd fun K hK => ?_
  have hrun := h.storesT hr hi hT
  unfold Oper.wp
  simp only [execOp, ho, hx, hy, Sem.run_bind, hrun, Result.andThen_ok, Sem.run_pure]
  exact hK _ _ (hk _ (Lib.hid (setRow_heap w g _ _ e _ hr)) ⟨rfl, rfl, rfl, by simp, fun k _ hk => setRow_other w g k _ (fun e => hk (by rw [e]))⟩ (Lib.hid (by simp)))
end

theorem below_drewN {B : Nat} {w w1 : World} (h : Below B w w1) (n : Nat) : Below B w (w1.drewN n) := ⟨h.os, h.tape, h.output, h.size, h.block⟩
theorem icells_setL (i : Im) (x : Nat) : ((icells i).toArray.setIfInBounds 0 (.int .u64 (x : Int))) = (icells ⟨x, i.B, i.l, i.T⟩).toArray := by simp [icells]
theorem icells_setB (i : Im) (x : Nat) : ((icells i).toArray.setIfInBounds 1 (.int .u64 (x : Int))) = (icells ⟨i.L, x, i.l, i.T⟩).toArray := by simp [icells]
theorem icells_setl (i : Im) (x : List UInt8) : ((icells i).toArray.setIfInBounds 2 (.string (str x))) = (icells ⟨i.L, i.B, x, i.T⟩).toArray := by simp [icells]

set_option maxHeartbeats 2000000 in
theorem riread_any (s : List UInt8) (w : World) (hs : s.length ≤ 100000) :
    Calls Tryd.prog 15 #[.string (str s)] w fun e w' => e = .returned (.tuple #[imv (ird s).1, .int .i64 (ird s).2]) ∧ Below w.heap.size w w' := by
  have hop := fun A n c W (h : Rd W W.heap.size 1 A n c (u8s s)) (hn : n ≤ 500000) => ropen_any A n c s W h hn
  have hol := openOf_len s
  have h08 : I0.T.length = 8 := rfl
  have hird : ird s = if (openOf s).2 = 0 then irdB (openOf s).1 else (I0, (openOf s).2) := rfl
  have HO := Lib.hid hop
  have HS := Lib.hid hs
  clear hop hs
  generalize openOf s = ob at *
  obtain ⟨b, E⟩ := ob
  dsimp only at hird hol HO
  have hE : E = 0 ∨ E ≠ 0 := by omega
  rcases hE with rfl | hE
  · rw [if_pos rfl] at hird
    rw [hird]
    obtain ⟨st, hst⟩ : ∃ st : St, st = ⟨b, false⟩ := ⟨_, rfl⟩
    have hirdB := irdB_eq b
    rw [← hst] at hirdB
    have hok := irdS_ok st
    have hpar := irdS_parts st
    have hs4 := irdS_rest st
    have hll : (irdS st).1.l.length ≤ b.length := by rw [hst]; exact irdS_len b
    have hs0 : refSt b 0 false = st := by rw [hst]; rfl
    have p1 := hpar.1
    have p2 := hpar.2.1
    have p3 := hpar.2.2.1
    have p4 := hpar.2.2.2
    have c4 := fun B g n c a0 b0 A W h1 h2 h3 h4 h5 h6 => rtread_any B g n c a0 b0 ((st.num 8).2.num 8).2.text.2 A b W h1 h2 h3 h4 h5 h6
    rw [← hs4, ← p4] at c4
    generalize irdS st = ri at *
    obtain ⟨im, s4⟩ := ri
    dsimp only at hirdB hok hll p1 p2 p3 c4
    have HIT := Lib.hid hok.2.2.1
    have HGOOD := Lib.hid (fun W => rigood_any im W hok (by have := HS.out; omega))
    have HC4 := Lib.hid c4
    have HB := Lib.hid hirdB
    have HS0 := Lib.hid hs0
    have P1 := Lib.hid p1
    have P2 := Lib.hid p2
    have P3 := Lib.hid p3
    clear hpar hs4 hirdB hird hok c4 hst hs0 p1 p2 p3 p4
    go_enter Tryd.func15, Tryd.ntmps15
    go_wp2_with (first
      | (refine imB.wpNew (o := ⟨some 2, _, _, _, _, _⟩) rfl rfl ?_; intro W1 b2 hN; obtain ⟨hb2, hr2, hl2, hz2⟩ := hN)
      | (refine wpL_strb rfl (.tmp 9) _ _ rfl Tryd.underlying9 Tryd.underlying62 Tryd.underlying5 rfl (by have := HS.out; unfold maxLen; omega) ?_; intro W2 A2 cap2 hR2 _ hbl2)
      | fail)
    refine (HO.out _ _ _ _ hR2 (by have := HS.out; omega)).mono ?_
    rintro e w3 ⟨A3, n3, cc3, rfl, hn3, hR3, hb3⟩
    have HR2 := Lib.hid (row_below (row_below hr2.out hbl2) hb3)
    have HBL := Lib.hid ((hl2.trans (hbl2.mono hl2.size)).trans (hb3.mono (Nat.le_trans hl2.size hbl2.size)))
    have hb2w : w.heap.size ≤ b2 := Nat.le_of_eq hb2.out.symm
    have hb2l : b2 < w3.heap.size := (Array.getElem?_eq_some_iff.1 HR2.out).1
    have HR3 := Lib.hid hR3
    have hbn : b.length = n3 := hn3.symm
    have hn3x : n3 ≤ 1000000 := by have := HS.out; omega
    clear hR2 hbl2 hb3 hr2 hl2 hz2 hR3 HO hn3
    go_wp2_with (first
      | (refine imB.wpNew (o := ⟨some 7, _, _, _, _, _⟩) rfl rfl ?_; intro W5 b7 hN; obtain ⟨hb7, hr7, hl7, hz7⟩ := hN)
      | fail)
    obtain ⟨g, hg⟩ : ∃ g, g = w3.heap.size := ⟨_, rfl⟩
    rw [← hg]
    have hQ5 : RefR W5 g A3 n3 cc3 0 false := (hl7.block g (by simp [hg])).trans (by rw [hg]; exact heap_alloc_new w3 _)
    have hB5 : Below w3.heap.size w3 W5 := (below1 w3 _).trans (hl7.mono (by simp))
    have hb7g : g < b7 := by have := hb7.out; simp at this; omega
    have Q5 := Lib.hid hQ5
    have B5 := Lib.hid hB5
    have hgB : w3.heap.size ≤ g := by omega
    have hr7 := hr7
    have hb7w : w3.heap.size ≤ b7 := by omega
    clear hl7 hz7 hb7 hQ5 hB5 hg
    refine (rnum_any w3.heap.size g n3 cc3 0 false A3 b 8 _ Q5.out (HR3.out.below B5.out) hgB (Nat.zero_le _) hn3x (by decide) (by decide)).mono ?_
    rw [HS0.out]
    rintro e w6 ⟨a6, bb6, he, hQ6, ha6, hs6, hg6⟩
    rw [← P1.out] at he
    subst he
    have Q6 := Lib.hid hQ6
    have B6 := Lib.hid (B5.out.grown hg6 B5.out.size (fun k e => by cases e; exact hgB))
    have R6 := Lib.hid (row_far hr7.out hg6 (fun e => by have := Option.some.inj e; omega))
    have S6 := Lib.hid hs6
    have d0 : w6.cell? ⟨b7, 0, none⟩ = some (.int .u64 ((0 : Nat) : Int)) := icell0 R6.out
    have f0 := frozen_of_row w6 b7 0 _ _ R6.out
    have hp := heap_setCell_same w6 b7 0 _ _ (.int .u64 (im.L : Int)) R6.out
    rw [icells_setL] at hp
    have hgs : w6.grownBy (w6.setCell ⟨b7, 0, none⟩ (.int .u64 (im.L : Int))) (some b7) := setCell_by (w' := w6) (p := ⟨b7, 0, none⟩) (World.grownBy.refl w6 (some b7)) rfl _
    have R7 := Lib.hid hp
    have Q7 := Lib.hid (Q6.out.kept hgs (fun e => by have := Option.some.inj e; omega))
    have B7 := Lib.hid (B6.out.grown hgs B6.out.size (fun k e => by cases e; exact hb7w))
    clear hQ6 hg6 hs6 hp hgs hr7 Q5 B5
    go_wp2_with (fail)
    refine (rnum_any w3.heap.size g n3 cc3 a6 bb6 A3 b 8 _ Q7.out (HR3.out.below B7.out) hgB ha6 hn3x (by decide) (by decide)).mono ?_
    rw [S6.out]
    rintro e w8 ⟨a8, bb8, he, hQ8, ha8, hs8, hg8⟩
    rw [← P2.out] at he
    subst he
    have Q8 := Lib.hid hQ8
    have B8 := Lib.hid (B7.out.grown hg8 B7.out.size (fun k e => by cases e; exact hgB))
    have R8 := Lib.hid (row_far R7.out hg8 (fun e => by have := Option.some.inj e; omega))
    have S8 := Lib.hid hs8
    have d1 : w8.cell? ⟨b7, 1, none⟩ = some (.int .u64 ((0 : Nat) : Int)) := icell1 R8.out
    have f1 := frozen_of_row w8 b7 1 _ _ R8.out
    have hp := heap_setCell_same w8 b7 1 _ _ (.int .u64 (im.B : Int)) R8.out
    rw [icells_setB] at hp
    have hgs : w8.grownBy (w8.setCell ⟨b7, 1, none⟩ (.int .u64 (im.B : Int))) (some b7) := setCell_by (w' := w8) (p := ⟨b7, 1, none⟩) (World.grownBy.refl w8 (some b7)) rfl _
    have R9 := Lib.hid hp
    have Q9 := Lib.hid (Q8.out.kept hgs (fun e => by have := Option.some.inj e; omega))
    have B9 := Lib.hid (B8.out.grown hgs B8.out.size (fun k e => by cases e; exact hb7w))
    clear hQ8 hg8 hs8 hp hgs R6 Q6 B6 R7 Q7 B7 d0 f0
    go_wp2_with (fail)
    refine (rtext_all w3.heap.size g n3 cc3 a8 bb8 A3 b _ Q9.out (HR3.out.below B9.out) hgB ha8 hn3x).mono ?_
    rw [S8.out]
    rintro e w10 ⟨a10, bb10, he, hQ10, ha10, hs10, hg10⟩
    rw [← P3.out] at he
    subst he
    have Q10 := Lib.hid hQ10
    have B10 := Lib.hid (B9.out.grown hg10 B9.out.size (fun k e => by cases e; exact hgB))
    have R10 := Lib.hid (row_far R9.out hg10 (fun e => by have := Option.some.inj e; omega))
    have S10 := Lib.hid hs10
    have d2 : w10.cell? ⟨b7, 2, none⟩ = some (.string (str [])) := icell2 R10.out
    have f2 := frozen_of_row w10 b7 2 _ _ R10.out
    have hp := heap_setCell_same w10 b7 2 _ _ (.string (str im.l)) R10.out
    rw [icells_setl] at hp
    have hgs : w10.grownBy (w10.setCell ⟨b7, 2, none⟩ (.string (str im.l))) (some b7) := setCell_by (w' := w10) (p := ⟨b7, 2, none⟩) (World.grownBy.refl w10 (some b7)) rfl _
    have R11 := Lib.hid hp
    have Q11 := Lib.hid (Q10.out.kept hgs (fun e => by have := Option.some.inj e; omega))
    have B11 := Lib.hid (B10.out.grown hgs B10.out.size (fun k e => by cases e; exact hb7w))
    clear hQ10 hg10 hs10 hp hgs R8 Q8 B8 R9 Q9 B9 d1 f1
    go_wp2_with (fail)
    refine (HC4.out w3.heap.size g n3 cc3 a10 bb10 A3 _ Q11.out ha10 S10 (HR3.out.below B11.out) hgB hn3x).mono ?_
    rintro e w12 ⟨rfl, a12, bb12, hQ12, ha12, hs12, hg12⟩
    have Q12 := Lib.hid hQ12
    have B12 := Lib.hid (B11.out.grown hg12 B11.out.size (fun k e => by cases e; exact hgB))
    have R12 := Lib.hid (row_far R11.out hg12 (fun e => by have := Option.some.inj e; omega))
    have S12 := Lib.hid hs12
    have h08' : (⟨im.L, im.B, im.l, I0.T⟩ : Im).T.length = 8 := rfl
    clear hQ12 hg12 hs12 R10 Q10 B10 R11 Q11 B11 d2 f2 HC4
    go_wp2_with (first
      | (refine imB.wpStoreT rfl (.tmp 34) (.tmp 33) rfl rfl rfl R12.out h08' HIT.out ?_; intro w13 hr13 hg13 hz13
         have R13 : Hid (w13.heap[b7]? = some (.cells (icells im).toArray 39 (0, 0))) := hr13
         have Q13 := Lib.hid (Q12.out.kept hg13 (fun e => by have := Option.some.inj e; omega))
         have B13 := Lib.hid (B12.out.grown hg13 B12.out.size (fun k e => by cases e; exact hb7w))
         clear hr13 hg13 hz13)
      | (go_at_call 42; fail)
      | fail)
    have hend0 := rend_any g n3 cc3 a12 bb12 A3 b _ Q13.out hbn ha12 hn3x
    rw [S12.out] at hend0
    clear R12 Q12 B12
    have HR14 := Lib.hid (below_row B13.out HR2.out hb2l)
    have HF := Lib.hid (HBL.out.trans (B13.out.mono HBL.out.size))
    by_cases hend : s4.end_ = 0
    · have q1 : (s4.end_ != 0) = false := by rw [hend]; rfl
      by_cases hgo : igB im = true
      · have hres : irdB b = (im, 0) := by rw [HB.out, if_pos ⟨hend, hgo⟩]
        rw [hgo] at HGOOD
        have HRES := Lib.hid hres
        clear hres hend hgo HB
        refine hend0.mono ?_
        rintro e w14 ⟨rfl, kk, rfl⟩
        have R14 : Hid ((w13.drewN kk).heap[b7]? = some (.cells (icells im).toArray 39 (0, 0))) := R13
        have HR15 : Hid ((w13.drewN kk).heap[b2]? = some (.cells (icells I0).toArray 39 (0, 0))) := HR14
        have HF2 := Lib.hid (below_drewN HF.out kk)
        go_wp2_with (first
          | (refine imB.wpLoad (by rfl) (.tmp 7) rfl rfl R14.out HIT.out ?_)
          | (go_at_call 11; refine (HGOOD.out _).mono ?_; rintro e w15 ⟨rfl, hb15⟩
             have R14 := Lib.hid (row_below R14.out hb15)
             have HR15 := Lib.hid (row_below HR15.out hb15)
             have HF2 := Lib.hid (HF2.out.trans (hb15.mono HF2.out.size)))
          | (refine imB.wpStore rfl (.tmp 2) (.tmp 44) rfl rfl rfl HR15.out h08 HIT.out ?_; intro W9 hr9 hg9 hz9)
          | fail)
        refine bodyPost_ret (results_cell_tmp rfl _ b2 39 _ (0, 0) _ rfl hr9.out imB.und rfl (by rw [imB.size]; simp [icells_19 HIT.out])) rfl ⟨by rw [HRES.out]; rfl, HF2.out.grown hg9 HF2.out.size (fun k e => by cases e; exact hb2w)⟩
      · have hres : irdB b = (I0, 10) := by rw [HB.out, if_neg (fun h => hgo h.2)]
        have hgo' : igB im = false := by simpa using hgo
        rw [hgo'] at HGOOD
        have HRES := Lib.hid hres
        clear hres hend hgo hgo' HB
        refine hend0.mono ?_
        rintro e w14 ⟨rfl, kk, rfl⟩
        have R14 : Hid ((w13.drewN kk).heap[b7]? = some (.cells (icells im).toArray 39 (0, 0))) := R13
        have HR15 : Hid ((w13.drewN kk).heap[b2]? = some (.cells (icells I0).toArray 39 (0, 0))) := HR14
        have HF2 := Lib.hid (below_drewN HF.out kk)
        go_wp2_with (first
          | (refine imB.wpLoad (by rfl) (.tmp 7) rfl rfl R14.out HIT.out ?_)
          | (go_at_call 11; refine (HGOOD.out _).mono ?_; rintro e w15 ⟨rfl, hb15⟩
             have HR15 := Lib.hid (row_below HR15.out hb15)
             have HF2 := Lib.hid (HF2.out.trans (hb15.mono HF2.out.size)))
          | (refine imB.wpBuild (o := ⟨some 43, _, _, _, _, _⟩) rfl rfl ?_)
          | (refine imB.wpStore rfl (.tmp 2) (.tmp 43) rfl rfl rfl HR15.out h08 h08 ?_; intro W9 hr9 hg9 hz9)
          | fail)
        refine bodyPost_ret (results_cell_tmp rfl _ b2 39 _ (0, 0) _ rfl hr9.out imB.und rfl (by rw [imB.size]; simp [icells_19 h08])) rfl ⟨by rw [HRES.out]; rfl, HF2.out.grown hg9 HF2.out.size (fun k e => by cases e; exact hb2w)⟩
    · have q1 : (s4.end_ != 0) = true := by simp [hend]
      have hres : irdB b = (I0, 10) := by rw [HB.out, if_neg (fun h => hend h.1)]
      have HRES := Lib.hid hres
      clear hres hend HB
      refine hend0.mono ?_
      rintro e w14 ⟨rfl, kk, rfl⟩
      have HR15 : Hid ((w13.drewN kk).heap[b2]? = some (.cells (icells I0).toArray 39 (0, 0))) := HR14
      have HF2 := Lib.hid (below_drewN HF.out kk)
      go_wp2_with (first
        | (refine imB.wpBuild (o := ⟨some 43, _, _, _, _, _⟩) rfl rfl ?_)
        | (refine imB.wpStore rfl (.tmp 2) (.tmp 43) rfl rfl rfl HR15.out h08 h08 ?_; intro W9 hr9 hg9 hz9)
        | fail)
      refine bodyPost_ret (results_cell_tmp rfl _ b2 39 _ (0, 0) _ rfl hr9.out imB.und rfl (by rw [imB.size]; simp [icells_19 h08])) rfl ⟨by rw [HRES.out]; rfl, HF2.out.grown hg9 HF2.out.size (fun k e => by cases e; exact hb2w)⟩
  · have q1 : (E != 0) = true := by simp [hE]
    rw [if_neg hE] at hird
    rw [hird]
    clear hird hE
    go_enter Tryd.func15, Tryd.ntmps15
    go_wp2_with (first
      | (refine imB.wpNew (o := ⟨some 2, _, _, _, _, _⟩) rfl rfl ?_; intro W1 b2 hN; obtain ⟨hb2, hr2, hl2, hz2⟩ := hN)
      | (refine wpL_strb rfl (.tmp 9) _ _ rfl Tryd.underlying9 Tryd.underlying62 Tryd.underlying5 rfl (by have := HS.out; unfold maxLen; omega) ?_; intro W2 A2 cap2 hR2 _ hbl2)
      | fail)
    refine (HO.out _ _ _ _ hR2 (by have := HS.out; omega)).mono ?_
    rintro e w3 ⟨A3, n3, cc3, rfl, hn3, hR3, hb3⟩
    have HR2 := Lib.hid (row_below (row_below hr2.out hbl2) hb3)
    have HF := Lib.hid ((hl2.trans (hbl2.mono hl2.size)).trans (hb3.mono (Nat.le_trans hl2.size hbl2.size)))
    have hb2w : w.heap.size ≤ b2 := Nat.le_of_eq hb2.out.symm
    clear hR2 hbl2 hb3 hr2 hl2 hz2 HO
    go_wp2_with (first
      | (refine imB.wpBuild (o := ⟨some 16, _, _, _, _, _⟩) rfl rfl ?_)
      | (refine imB.wpStore rfl (.tmp 2) (.tmp 16) rfl rfl rfl HR2.out h08 h08 ?_; intro W9 hr9 hg9 hz9)
      | fail)
    refine bodyPost_ret (results_cell_tmp rfl _ b2 39 _ (0, 0) _ rfl hr9.out imB.und rfl (by rw [imB.size]; simp [icells_19 h08])) rfl ⟨rfl, HF.out.grown hg9 HF.out.size (fun k e => by cases e; exact hb2w)⟩

end Go.Proofs.YtacaonlahggdeaaDoor
