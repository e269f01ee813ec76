/- ImageTells: whether any image may be, its text, and any of its blocks, is the document's. -/
import Derived.Test.YtacaonlahggdeaaDoorLives15
import Derived.Test.YtacaonlahggdeaaDoorIgn
import Derived.Test.YtacaonlahggdeaaDoorIgp
import Derived.Test.YtacaonlahggdeaaDoorMtie
import Derived.Test.YtacaonlahggdeaaDoorCards
import Derived.Test.YtacaonlahggdeaaDoorTie
import Derived.Test.YtacaonlahggdeaaDoorDecim
namespace Go.Proofs.YtacaonlahggdeaaDoor
open Go.RowKit
set_option maxRecDepth 20000

set_option maxHeartbeats 4000000 in
theorem imageTells_at (i : Im) (n : Nat) (w : World) (hok : i.ok) (hn : n < 4294967296) (hT : Tab w) :
    Calls Tryd.prog 3 #[imv i, .int .u32 (n : Int)] w fun e w' => e = .returned (.bool true) ∧ Below w.heap.size w w' := by
  have hs : (str i.l).size = i.l.length := rfl
  by_cases hl : 2000 < i.l.length
  · have q1 : decide ((2000 : Int) < (i.l.length : Int)) = true := by simp; omega
    clear hok
    go_enter Tryd.func3, Tryd.ntmps3
    go_wp2_with (first
      | (refine wpL_rbox (cs := icells i) rfl (.tmp 0) rfl rfl ?_; intro W0 b hN; obtain ⟨hb, hr, hl1, hz⟩ := hN; have c2 := icell2 hr.out)
      | (go_at_call 6; refine (lives15 _ (hT.below hl1)).mono ?_; rintro e W1 ⟨rfl, hb1⟩; have HF := Lib.hid (hl1.trans (hb1.mono hl1.size)))
      | fail)
    go_ret
    exact ⟨rfl, HF.out⟩
  · have q1 : decide ((2000 : Int) < (i.l.length : Int)) = false := by simp; omega
    have hlen : i.l.length ≤ 100000 := by omega
    have HT8 := Lib.hid hok.2.2.1
    have h08 : I0.T.length = 8 := rfl
    have HP := Lib.hid (fun W => iplain_any i W hok)
    have HM := Lib.hid (fun W h => imake_any i W hok hlen h)
    have HMR := Lib.hid (fun W => rimake_any i W hok hlen)
    have HG := Lib.hid (fun W h => igood_any i W hok hlen h)
    have HGR := Lib.hid (fun W => rigood_any i W hok hlen)
    have HK := Lib.hid (fun W => iblock_any i n W hok.2.2.1 hn hlen)
    have HKR := Lib.hid (fun W => riblock_any i n W hn hlen)
    have HL := Lib.hid (fun W h => lives15 W h)
    generalize (imk i).1 = S at *
    generalize (imk i).2 = E at *
    generalize igB i = G at *
    generalize blk i n = K at *
    have qG : (G == G) = true := beq_self_eq_true _
    have qS : ((str S).toList == (str S).toList) = true := beq_self_eq_true _
    have qK : ((str K).toList == (str K).toList) = true := beq_self_eq_true _
    have qE : (E == E) = true := beq_self_eq_true _
    clear hok hn hlen hl
    go_enter Tryd.func3, Tryd.ntmps3
    go_wp2_with (first
      | (refine wpL_rbox (cs := icells i) rfl (.tmp 0) rfl rfl ?_; intro W0 b hN; obtain ⟨hb, hr, hl1, hz⟩ := hN; have c2 := icell2 hr.out)
      | (refine imA.wpLoad (by rfl) (.tmp 2) rfl rfl hr.out HT8.out ?_)
      | fail)
    clear c2
    refine (HP.out _).mono ?_
    rintro e w1 ⟨rfl, hb1⟩
    have HR1 := Lib.hid (row_below hr.out hb1)
    have HB1 := Lib.hid (hl1.trans (hb1.mono hl1.size))
    clear hr hl1 hz hb1 hb HP
    go_wp2_with (first
      | (refine imB.wpNew (o := ⟨some 5, _, _, _, _, _⟩) rfl rfl ?_; intro W2 b5 hN; obtain ⟨hb5, hr5, hl5, hz5⟩ := hN
         have HR2 := Lib.hid (row_below HR1.out hl5)
         have HB2 := Lib.hid (HB1.out.trans (hl5.mono HB1.out.size))
         have hne : b ≠ b5 := by have := (Array.getElem?_eq_some_iff.1 HR1.out).1; have := hb5.out; omega
         have h5w : w.heap.size ≤ b5 := by have := hb5.out; have := HB1.out.size; omega)
      | (refine imB.wpStore rfl (.tmp 5) (.tmp 16) rfl rfl rfl hr5.out h08 HT8.out ?_; intro W3 hr3 hg3 hz3
         have HR3 := Lib.hid (row_far HR2.out hg3 (fun e => hne (Option.some.inj e)))
         have HB3 := Lib.hid (HB2.out.grown hg3 HB2.out.size (fun k e => by cases e; exact h5w))
         clear hr5 hl5 hz5 hg3 hz3 hb5)
      | (refine imA.wpLoad (by rfl) (.tmp 2) rfl rfl HR3.out HT8.out ?_)
      | fail)
    refine (HM.out _ (hT.below HB3.out)).mono ?_
    rintro e w4 ⟨rfl, hb4⟩
    have HR4 := Lib.hid (row_below HR3.out hb4)
    have HS4 := Lib.hid (row_below hr3.out hb4)
    have HB4 := Lib.hid (HB3.out.trans (hb4.mono HB3.out.size))
    clear hb4 HR3 HB3 HR2 HB2 HR1 HB1 hr3 HM
    go_wp2_with (first
      | (refine imB.wpLoad (by rfl) (.tmp 5) rfl rfl HS4.out HT8.out ?_)
      | fail)
    refine (HMR.out _).mono ?_
    rintro e W ⟨rfl, hb5⟩
    have HR := Lib.hid (row_below HR4.out hb5)
    have HS := Lib.hid (row_below HS4.out hb5)
    have HB := Lib.hid (HB4.out.trans (hb5.mono HB4.out.size))
    have hbW : b < W.heap.size := (Array.getElem?_eq_some_iff.1 HR.out).1
    have hb5W : b5 < W.heap.size := (Array.getElem?_eq_some_iff.1 HS.out).1
    clear hb5 HR4 HS4 HB4 HMR
    go_wp2_with (fail)
    refine wp_low W.heap.size [([0, 2], 1), ([], 3), ([4, 5, 6, 7, 8, 9, 10, 11, 12, 13, 14, 15, 16, 17, 19, 20], 18), ([], 21), ([22, 23, 24], 25)] [26, 27] (by kernel_rfl) (by kernel_rfl) (fun d _ _ _ _ h => by cases d <;> exact h) (Nat.le_refl _) fun wd hbd => ?_
    intro q hq
    simp only [pickI, Option.toList_some, List.cons_append, List.nil_append, List.getElem?_toArray, List.getElem?_cons_succ, List.getElem?_cons_zero]
    try go_frame
    refine imA.wpQload (by rfl) (.tmp 2) rfl rfl (fun W hW => by obtain ⟨z, rfl⟩ := hW; exact below_row (hq z) HR.out hbW) HT8.out ?_
    try go_frame
    refine imB.wpQload (by rfl) (.tmp 5) rfl rfl (fun W hW => by obtain ⟨z, rfl⟩ := hW; exact below_row (hq z) HS.out hb5W) HT8.out ?_
    try go_frame
    refine wpQuiet_nil ?_
    clear hq q
    refine seg_op (by simp only [List.getElem?_toArray, List.getElem?_cons_succ, List.getElem?_cons_zero]; rfl) fun K hK => ?_
    go_simp
    refine (HG.out _ (hT.below (HB.out.trans (hbd.mono HB.out.size)))).mono ?_
    rintro e v0 ⟨rfl, bv0⟩
    have zv0 := hbd.trans (bv0.mono hbd.size)
    refine hK.out _ _ (seg_keep zv0 ?_)
    clear hK K
    intro q hq
    refine wpQuiet_nil ?_
    clear hq q
    refine seg_op (by simp only [List.getElem?_toArray, List.getElem?_cons_succ, List.getElem?_cons_zero]; rfl) fun K hK => ?_
    go_simp
    refine (HGR.out _).mono ?_
    rintro e v1 ⟨rfl, bv1⟩
    have zv1 := zv0.trans (bv1.mono zv0.size)
    refine hK.out _ _ (seg_keep zv1 ?_)
    clear hK K
    intro q hq
    simp only [pickI, Option.toList_some, List.cons_append, List.nil_append, List.getElem?_toArray, List.getElem?_cons_succ, List.getElem?_cons_zero]
    try go_frame
    go_big_quiet_step (fail)
    go_big_quiet_step (fail)
    go_big_quiet_step (fail)
    go_big_quiet_step (fail)
    go_big_quiet_step (fail)
    go_big_quiet_step (fail)
    go_big_quiet_step (fail)
    go_big_quiet_step (fail)
    go_big_quiet_step (fail)
    go_big_quiet_step (fail)
    go_big_quiet_step (fail)
    go_big_quiet_step (fail)
    refine imA.wpQload (by rfl) (.tmp 2) rfl rfl (fun W hW => by obtain ⟨z, rfl⟩ := hW; exact below_row (hq z) HR.out hbW) HT8.out ?_
    try go_frame
    go_big_quiet_step (fail)
    refine imB.wpQload (by rfl) (.tmp 5) rfl rfl (fun W hW => by obtain ⟨z, rfl⟩ := hW; exact below_row (hq z) HS.out hb5W) HT8.out ?_
    try go_frame
    go_big_quiet_step (fail)
    refine wpQuiet_nil ?_
    clear hq q
    refine seg_op (by simp only [List.getElem?_toArray, List.getElem?_cons_succ, List.getElem?_cons_zero]; rfl) fun K hK => ?_
    go_simp
    refine (HK.out _).mono ?_
    rintro e v2 ⟨rfl, bv2⟩
    have zv2 := zv1.trans (bv2.mono zv1.size)
    refine hK.out _ _ (seg_keep zv2 ?_)
    clear hK K
    intro q hq
    refine wpQuiet_nil ?_
    clear hq q
    refine seg_op (by simp only [List.getElem?_toArray, List.getElem?_cons_succ, List.getElem?_cons_zero]; rfl) fun K hK => ?_
    go_simp
    refine (HKR.out _).mono ?_
    rintro e v3 ⟨rfl, bv3⟩
    have zv3 := zv2.trans (bv3.mono zv2.size)
    refine hK.out _ _ (seg_keep zv3 ?_)
    clear hK K
    intro q hq
    simp only [pickI, Option.toList_some, List.cons_append, List.nil_append, List.getElem?_toArray, List.getElem?_cons_succ, List.getElem?_cons_zero]
    try go_frame
    go_big_quiet_step (fail)
    go_big_quiet_step (fail)
    go_big_quiet_step (fail)
    refine wpQuiet_nil ?_
    clear hq q
    refine seg_op (by simp only [List.getElem?_toArray, List.getElem?_cons_succ, List.getElem?_cons_zero]; rfl) fun K hK => ?_
    go_simp
    refine (HL.out _ (hT.below (HB.out.trans (zv3.mono HB.out.size)))).mono ?_
    rintro e v4 ⟨rfl, bv4⟩
    have zv4 := zv3.trans (bv4.mono zv3.size)
    refine hK.out _ _ (seg_keep zv4 ?_)
    clear hK K
    intro q hq
    simp only [pickI, Option.toList_some, List.cons_append, List.nil_append, List.getElem?_toArray, List.getElem?_cons_succ, List.getElem?_cons_zero]
    try go_frame
    go_big_quiet_step (fail)
    go_big_quiet_step (fail)
    refine wpQuiet_nil ?_
    clear hq q
    have hfin := HB.out.trans (zv4.mono HB.out.size)
    go_wp2
    go_ret
    exact ⟨rfl, hfin⟩

theorem imageTells_walk {w : World} (i : Im) (hi : i.ok) (x : Int) (hx : (Lit.int .u32 x).wf = true) (hT : Tab w) :
    Calls Tryd.prog 3 #[imv i, .int .u32 x] w fun e w' => e = .returned (.bool true) ∧ Below w.heap.size w w' := by
  have h := wf_nat .u32 x hx rfl
  have h2 : x ≤ 4294967295 := h.2
  obtain ⟨n, rfl⟩ : ∃ n : Nat, x = (n : Int) := ⟨x.toNat, by omega⟩
  exact imageTells_at i n w hi (by omega) hT
namespace imageTells
open Go.ChangeShapes Go.WideShapes Go.ChangeAt
set_option maxRecDepth 100000 in
theorem lifted (os : Os) (started : os.Started) (H : Type) (enc : TypeId × Value → H) :
    ReturnsInHanded {} Tryd.checked os 3 .any (fun w args => (Rows.imageTellsSpec.pre enc Tryd.prog Tryd.f3 [] false w args ∧ laidMetH Tryd.prog laidL w) ∧ sizedMet enc Tryd.prog Tryd.f3 (OpenSpec.ofChange Rows.imageTellsSpec) false w args)
      (Rows.imageTellsSpec.post enc Tryd.prog Tryd.f3 false true false false) := by
  refine returnsInHanded_of_change_and (C := Tryd.checked) (X := fun w _ => laidMetH Tryd.prog laidL w) (fun _ _ _ hh h => h.of_heap hh) own started (by kernel_rfl) Tryd.func3
    (ChangeSpec.witness_shaped (enc := enc) (C := Tryd.checked) (os := os) (X := fun w _ => laidMetH Tryd.prog laidL w) false (World.doorLaid Tryd.prog 400 os) #[.agg #[.int .u64 0, .int .u64 0, .string ⟨#[]⟩, .int .u64 0, .int .u16 0, .int .u64 0, .int .u16 0, .int .u64 0, .int .u16 0, .int .u64 0, .int .u16 0, .int .u64 0, .int .u16 0, .int .u64 0, .int .u16 0, .int .u64 0, .int .u16 0, .int .u64 0, .int .u16 0], .int .u32 0] 8 rfl (World.shaped_of_RefB (by kernel_rfl) (by kernel_rfl)) (by kernel_rfl) (by kernel_rfl) (by kernel_rfl) (door_met os _)) ?_
  intro W base args ds gs before hval0 hW _ _ hL _
  have hval : ∀ (j : Nat) t v, Tryd.f3.params[j]? = some t → args[j]? = some v → Value.okWide Tryd.prog W .any base t v := hval0
  have hW' := hW
  obtain ⟨p, q, hA0, hV, rfl, hfz, hnd⟩ := hW
  have hA : DataW.TrodAll enc Tryd.prog W 0 (fun _ => true) true Tryd.f3.params.toList args.toList ds p := hA0
  rw [Tryd.params3] at hA hval
  obtain ⟨v0, vs0, d0, ds0, p0, q0, hargs, rfl, rfl, h0, r0⟩ := trodAll_cons hA
  obtain ⟨v1, vs1, d1, ds1, p1, q1, rfl, rfl, rfl, h1, r1⟩ := trodAll_cons r0
  obtain ⟨rfl, rfl, rfl⟩ := trodAll_nil r1
  obtain rfl : args = #[v0, v1] := by cases args; simp_all
  obtain ⟨rfl, rfl⟩ := trodVars_none hV
  have k0 := h0
  have lt0 : ∀ x ∈ p0, x.block < W.heap.size := by obtain ⟨m, hm⟩ := k0; exact DataW.trod_lt m _ _ _ hm
  obtain ⟨o0, rfl, w0⟩ := dec_image imA (by kernel_rfl) (by kernel_rfl) (by kernel_rfl) (by kernel_rfl) cl_one marks_one image_str (hval 0 31 v0 rfl rfl) h0
  have k1 := h1
  have lt1 : ∀ x ∈ p1, x.block < W.heap.size := by obtain ⟨m, hm⟩ := k1; exact DataW.trod_lt m _ _ _ hm
  obtain ⟨x1, rfl, w1⟩ := dec_int Tryd.underlying32 (hval 1 32 v1 rfl rfl) h1
  clear hA0 hval0
  have hT := of_laid hL
  refine (imageTells_walk o0 w0 x1 w1 hT).mono fun e W' ⟨he, bel⟩ => ?_
  subst he
  exact ⟨_, rfl, _, _, _, [], _, [], hW', trodAll_mk1 (shut_bool Tryd.underlying4 _), (trodAll_cons_mk (Below.trod laidOut (by kernel_rfl) (of_decide_eq_true (by kernel_rfl)) k0 bel lt0) (trodAll_cons_mk (Below.trod laidOut (by kernel_rfl) (of_decide_eq_true (by kernel_rfl)) k1 bel lt1) trodAll_mk0)), rfl, bel.frame _, fun h => by cases h⟩

theorem over : Rows.imageTellsRow.holds Tryd.pinned (OpenSpec.ofChange Rows.imageTellsSpec) :=
  OpenClaim.holds_of_wide 3 Tryd.f3 rfl rfl rfl rfl rfl rfl rfl ⟨rfl, rfl, rfl, rfl, rfl⟩ rfl rfl rfl rfl rfl (by kernel_rfl) Tryd.func3 (by kernel_rfl)
    (of_decide_eq_true (by kernel_rfl)) (by unfold Func.isWrapper; first | (rw [if_pos (by decide +kernel)]; kernel_rfl) | (rw [if_neg (by decide +kernel)]; exact ⟨rfl, rfl⟩))
    (fun os started H enc _ => lifted os started H enc)
theorem row_tie : Rows.imageTellsRow.laidByTextAt .later Tryd.pinned [.data] true := imageTells_row_tie
/-- The given statement: the card. -/
theorem proved : Rows.ImageTellsCardSaid :=
  Claim7.holds_tied_plain_at .later [] [.data] true Rows.imageTellsCard.stood.harness false
    over (fun _ h => by cases h) (by kernel_rfl) (fun _ h => by cases h) row_tie rfl ⟨rfl, rfl⟩ (by kernel_rfl) rfl
    (fun f fn hf hfn => by
      obtain rfl : f = 3 := Option.some.inj ((show Tryd.prog.funcNamed Rows.imageTellsRow.func = some 3 by kernel_rfl).symm.trans hf) |>.symm
      obtain rfl : fn = Tryd.f3 := (Option.some.inj (Tryd.func3.symm.trans hfn)).symm
      exact ⟨by kernel_rfl, fun j t ht => by
        rw [Tryd.params3] at ht
        have hm : t ∈ [31, 32] := by simpa using Array.mem_of_getElem? ht
        have hall : ([31, 32].all fun u => !Tryd.prog.wantsStandIn u) = true := by kernel_rfl
        exact (show Tryd.prog.wantsStandIn t = false by simpa using List.all_eq_true.1 hall t hm)⟩)
    (by kernel_rfl)
end imageTells

end Go.Proofs.YtacaonlahggdeaaDoor
