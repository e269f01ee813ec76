/- DoneTells: whether requests were done, or are old, and the table with one more, is the document's. -/
import Derived.Test.YtlbjbkhnicbibaaLives14
import Derived.Test.YtlbjbkhnicbibaaPlain
import Derived.Test.YtlbjbkhnicbibaaTq
import Derived.Test.YtlbjbkhnicbibaaDect
namespace Go.Proofs.Ytlbjbkhnicbibaa
open Go.RowKit

set_option maxRecDepth 20000 in
set_option maxHeartbeats 4000000 in
theorem doneTells_at (T : List Cl) (c r : Nat) (w : World) (hT : Tok T) (hr : r < 18446744073709551616) :
    Calls Try.prog 3 #[tbv T, .int .u64 (c : Int), .int .u64 (r : Int)] w fun e w' => e = .returned (.bool true) ∧ Below w.heap.size w w' := by
  have cp := fun W => plain_any T W hT
  have ca := fun W => add8_any T c r W hT hr
  have cra := fun W => radd8_any T c r W hT hr
  have ch := fun W => has8_any T c r W hT hr
  have crh := fun W => rhas8_any T c r W hT
  have co := fun W => old8_any T c r W hT
  have cro := fun W => rold8_any T c r W hT
  have hU := addT_ok hT c r hr
  generalize addT T c r = U at *
  have cpu := fun W => plain_any U W hU
  generalize (!decide (U = T)) = B at *
  generalize (at8 T c fun p => hasN p r) = BH at *
  generalize (at8 T c fun p => oldN p.1 r) = BO at *
  have CP := Lib.hid cp
  have CA := Lib.hid ca
  have CRA := Lib.hid cra
  have CH := Lib.hid ch
  have CRH := Lib.hid crh
  have CO := Lib.hid co
  have CRO := Lib.hid cro
  have CPU := Lib.hid cpu
  have HT := Lib.hid hT.1
  have HU := Lib.hid hU.1
  have q1 : (BH == BH) = true := by simp
  have q2 : (BO == BO) = true := by simp
  have q3 : (B == B) = true := by simp
  clear cp ca cra ch crh co cro cpu hT hU
  go_enter Try.func3, Try.ntmps3
  go_wp2_with (first
    | (refine wpL_tbox rfl (.tmp 0) rfl rfl ?_; intro W0 b3 hN; obtain ⟨hb3, hr3, hl3, hz3⟩ := hN)
    | (refine tabA.wpLoad (o := ⟨some 12, _, _, _, _, _⟩) rfl (.tmp 3) rfl rfl hr3.out HT.out ?_)
    | fail)
  refine (CP.out _).mono ?_
  rintro e w1 ⟨rfl, hb1⟩
  have e3 := Lib.hid (row_below hr3.out hb1)
  have HB1 := Lib.hid (hl3.trans (hb1.mono hl3.size))
  clear hr3 hb1 hl3 hz3
  go_wp2_with (first
    | (refine tabB.wpNew (o := ⟨some 7, _, _, _, _, _⟩) rfl rfl ?_; intro W1 b7 hN; obtain ⟨hb7, hr7, hl7, hz7⟩ := hN
       have f3 := Lib.hid (row_below e3.out hl7))
    | (refine tabB.wpStore rfl (.tmp 7) (.tmp 13) rfl rfl rfl hr7.out rfl HT.out ?_; intro W2 hr72 hg2 hz2
       have g3 := Lib.hid (row_far f3.out hg2 (fun e => by have := Option.some.inj e; have := hb7.out; have := (Array.getElem?_eq_some_iff.1 e3.out).1; omega)))
    | (refine tabA.wpLoad (o := ⟨some 15, _, _, _, _, _⟩) rfl (.tmp 3) rfl rfl g3.out HT.out ?_)
    | fail)
  have HB2 := Lib.hid ((HB1.out.trans (hl7.mono HB1.out.size)).grown hg2 (Nat.le_trans HB1.out.size hl7.size) (fun k e => by cases e; have := hb7.out; have := HB1.out.size; omega))
  clear e3 f3 hr7 hg2 hz2 hl7 hz7 hb7 HB1
  refine (CA.out _).mono ?_
  rintro e w3 ⟨rfl, hb3'⟩
  have m3 := Lib.hid (row_below g3.out hb3')
  have m7 := Lib.hid (row_below hr72.out hb3')
  have HB3 := Lib.hid (HB2.out.trans (hb3'.mono HB2.out.size))
  clear g3 hr72 hb3' HB2
  go_wp2_with (first
    | (refine tabA.wpNew (o := ⟨some 8, _, _, _, _, _⟩) rfl rfl ?_; intro W3 b8 hN; obtain ⟨hb8, hr8, hl8, hz8⟩ := hN
       have n3 := Lib.hid (row_below m3.out hl8)
       have n7 := Lib.hid (row_below m7.out hl8))
    | (refine tabA.wpStore rfl (.tmp 8) (.tmp 19) rfl rfl rfl hr8.out rfl HU.out ?_; intro W4 hr84 hg4 hz4
       have o3 := Lib.hid (row_far n3.out hg4 (fun e => by have := Option.some.inj e; have := hb8.out; have := (Array.getElem?_eq_some_iff.1 m3.out).1; omega))
       have o7 := Lib.hid (row_far n7.out hg4 (fun e => by have := Option.some.inj e; have := hb8.out; have := (Array.getElem?_eq_some_iff.1 m7.out).1; omega)))
    | (refine tabB.wpLoad (o := ⟨some 22, _, _, _, _, _⟩) rfl (.tmp 7) rfl rfl o7.out HT.out ?_)
    | fail)
  have HB4 := Lib.hid ((HB3.out.trans (hl8.mono HB3.out.size)).grown hg4 (Nat.le_trans HB3.out.size hl8.size) (fun k e => by cases e; have := hb8.out; have := HB3.out.size; omega))
  clear m3 m7 n3 n7 hr8 hg4 hz4 hl8 hz8 hb8 HB3
  refine (CRA.out _).mono ?_
  rintro e w5 ⟨rfl, hb5⟩
  have p3 := Lib.hid (row_below o3.out hb5)
  have p7 := Lib.hid (row_below o7.out hb5)
  have p8 := Lib.hid (row_below hr84.out hb5)
  have HB5 := Lib.hid (HB4.out.trans (hb5.mono HB4.out.size))
  clear o3 o7 hr84 hb5 HB4
  go_wp2_with (first
    | (refine tabB.wpNew (o := ⟨some 10, _, _, _, _, _⟩) rfl rfl ?_; intro W5 b10 hN; obtain ⟨hb10, hr10, hl10, hz10⟩ := hN
       have s3 := Lib.hid (row_below p3.out hl10)
       have s7 := Lib.hid (row_below p7.out hl10)
       have s8 := Lib.hid (row_below p8.out hl10))
    | (refine tabB.wpStore rfl (.tmp 10) (.tmp 26) rfl rfl rfl hr10.out rfl HU.out ?_; intro w6 R10 hg6 hz6
       have R3 := Lib.hid (row_far s3.out hg6 (fun e => by have := Option.some.inj e; have := hb10.out; have := (Array.getElem?_eq_some_iff.1 p3.out).1; omega))
       have R7 := Lib.hid (row_far s7.out hg6 (fun e => by have := Option.some.inj e; have := hb10.out; have := (Array.getElem?_eq_some_iff.1 p7.out).1; omega))
       have R8 := Lib.hid (row_far s8.out hg6 (fun e => by have := Option.some.inj e; have := hb10.out; have := (Array.getElem?_eq_some_iff.1 p8.out).1; omega)))
    | fail)
  have HB6 := Lib.hid ((HB5.out.trans (hl10.mono HB5.out.size)).grown hg6 (Nat.le_trans HB5.out.size hl10.size) (fun k e => by cases e; have := hb10.out; have := HB5.out.size; omega))
  clear p3 p7 p8 s3 s7 s8 hr10 hg6 hz6 hl10 hz10 hb10 HB5
  have L3 := Lib.hid (Array.getElem?_eq_some_iff.1 R3.out).1
  have L7 := Lib.hid (Array.getElem?_eq_some_iff.1 R7.out).1
  have L8 := Lib.hid (Array.getElem?_eq_some_iff.1 R8.out).1
  have L10 := Lib.hid (Array.getElem?_eq_some_iff.1 R10.out).1
  refine wp_low w6.heap.size [([0, 1, 2, 4, 5, 6], 3), ([], 7), ([8, 9, 10, 11, 12, 14, 15, 16], 13), ([], 17), ([18, 19, 20, 21, 23], 22), ([24, 25, 26, 27, 28, 29, 30, 31], 32)] [33, 34] (by kernel_rfl) (by kernel_rfl) (fun d _ _ _ _ h => by cases d <;> exact h) (Nat.le_refl _) fun wd hbd => ?_
  intro q hq
  simp only [pickI, Option.toList_some, List.cons_append, List.nil_append, List.getElem?_toArray, List.getElem?_cons_succ, List.getElem?_cons_zero]
  refine tabA.wpQload (by rfl) (.tmp 3) rfl rfl (fun W hW => by obtain ⟨z, rfl⟩ := hW; exact ((hq z).block b3 L3.out).trans R3.out) HT.out ?_
  go_frame
  go_big_quiet_step (fail)
  go_big_quiet_step (fail)
  refine tabB.wpQload (by rfl) (.tmp 7) rfl rfl (fun W hW => by obtain ⟨z, rfl⟩ := hW; exact ((hq z).block b7 L7.out).trans R7.out) HT.out ?_
  go_frame
  go_big_quiet_step (fail)
  go_big_quiet_step (fail)
  refine wpQuiet_nil ?_
  clear hq q
  refine seg_op (by simp only [List.getElem?_toArray, List.getElem?_cons_succ, List.getElem?_cons_zero]; rfl) fun K hK => ?_
  go_simp
  refine (CH.out _).mono ?_
  rintro e v0 ⟨rfl, bv0⟩
  have zv0 := hbd.trans (bv0.mono hbd.size)
  refine hK.out _ _ (seg_keep zv0 ?_)
  clear hK K
  intro q hq
  refine wpQuiet_nil ?_
  clear hq q
  refine seg_op (by simp only [List.getElem?_toArray, List.getElem?_cons_succ, List.getElem?_cons_zero]; rfl) fun K hK => ?_
  go_simp
  refine (CRH.out _).mono ?_
  rintro e v1 ⟨rfl, bv1⟩
  have zv1 := zv0.trans (bv1.mono zv0.size)
  refine hK.out _ _ (seg_keep zv1 ?_)
  clear hK K
  intro q hq
  simp only [pickI, Option.toList_some, List.cons_append, List.nil_append, List.getElem?_toArray, List.getElem?_cons_succ, List.getElem?_cons_zero]
  go_big_quiet_step (fail)
  go_big_quiet_step (fail)
  refine tabA.wpQload (by rfl) (.tmp 3) rfl rfl (fun W hW => by obtain ⟨z, rfl⟩ := hW; exact ((hq z).block b3 L3.out).trans R3.out) HT.out ?_
  go_frame
  go_big_quiet_step (fail)
  go_big_quiet_step (fail)
  refine tabB.wpQload (by rfl) (.tmp 7) rfl rfl (fun W hW => by obtain ⟨z, rfl⟩ := hW; exact ((hq z).block b7 L7.out).trans R7.out) HT.out ?_
  go_frame
  go_big_quiet_step (fail)
  go_big_quiet_step (fail)
  refine wpQuiet_nil ?_
  clear hq q
  refine seg_op (by simp only [List.getElem?_toArray, List.getElem?_cons_succ, List.getElem?_cons_zero]; rfl) fun K hK => ?_
  go_simp
  refine (CO.out _).mono ?_
  rintro e v2 ⟨rfl, bv2⟩
  have zv2 := zv1.trans (bv2.mono zv1.size)
  refine hK.out _ _ (seg_keep zv2 ?_)
  clear hK K
  intro q hq
  refine wpQuiet_nil ?_
  clear hq q
  refine seg_op (by simp only [List.getElem?_toArray, List.getElem?_cons_succ, List.getElem?_cons_zero]; rfl) fun K hK => ?_
  go_simp
  refine (CRO.out _).mono ?_
  rintro e v3 ⟨rfl, bv3⟩
  have zv3 := zv2.trans (bv3.mono zv2.size)
  refine hK.out _ _ (seg_keep zv3 ?_)
  clear hK K
  intro q hq
  simp only [pickI, Option.toList_some, List.cons_append, List.nil_append, List.getElem?_toArray, List.getElem?_cons_succ, List.getElem?_cons_zero]
  go_big_quiet_step (fail)
  go_big_quiet_step (fail)
  go_big_quiet_step (fail)
  refine tabA.wpQload (by rfl) (.tmp 8) rfl rfl (fun W hW => by obtain ⟨z, rfl⟩ := hW; exact ((hq z).block b8 L8.out).trans R8.out) HU.out ?_
  go_frame
  refine tabB.wpQload (by rfl) (.tmp 10) rfl rfl (fun W hW => by obtain ⟨z, rfl⟩ := hW; exact ((hq z).block b10 L10.out).trans R10.out) HU.out ?_
  go_frame
  refine wpQuiet_nil ?_
  clear hq q
  refine seg_op (by simp only [List.getElem?_toArray, List.getElem?_cons_succ, List.getElem?_cons_zero]; rfl) fun K hK => ?_
  go_simp
  refine (CPU.out _).mono ?_
  rintro e v4 ⟨rfl, bv4⟩
  have zv4 := zv3.trans (bv4.mono zv3.size)
  refine hK.out _ _ (seg_keep zv4 ?_)
  clear hK K
  intro q hq
  simp only [pickI, Option.toList_some, List.cons_append, List.nil_append, List.getElem?_toArray, List.getElem?_cons_succ, List.getElem?_cons_zero]
  refine tabB.wpQeql (by rfl) (.tmp 50) (.tmp 51) _ rfl rfl rfl HU.out HU.out (b := true) (by simp) ?_
  go_frame
  go_big_quiet_step (fail)
  go_big_quiet_step (fail)
  go_big_quiet_step (fail)
  go_big_quiet_step (fail)
  go_big_quiet_step (fail)
  go_big_quiet_step (fail)
  go_big_quiet_step (fail)
  refine wpQuiet_nil ?_
  clear hq q
  refine seg_op (by simp only [List.getElem?_toArray, List.getElem?_cons_succ, List.getElem?_cons_zero]; rfl) fun K hK => ?_
  go_simp
  refine (lives14 _).mono ?_
  rintro e v5 ⟨rfl, bv5⟩
  have zv5 := zv4.trans (bv5.mono zv4.size)
  refine hK.out _ _ (seg_keep zv5 ?_)
  clear hK K
  intro q hq
  simp only [pickI, Option.toList_some, List.cons_append, List.nil_append, List.getElem?_toArray, List.getElem?_cons_succ, List.getElem?_cons_zero]
  go_big_quiet_step (fail)
  go_big_quiet_step (fail)
  refine wpQuiet_nil ?_
  clear hq q
  go_wp2
  go_ret
  exact ⟨rfl, HB6.out.trans (zv5.mono HB6.out.size)⟩
theorem doneTells_walk {w : World} (T : List Cl) (hT : Tok T) (c : Nat) (_ : c < 18446744073709551616) (r : Nat) (hr : r < 18446744073709551616) :
    Calls Try.prog 3 #[tbv T, .int .u64 (c : Int), .int .u64 (r : Int)] w fun e w' => e = .returned (.bool true) ∧ Below w.heap.size w w' := doneTells_at T c r w hT hr
namespace doneTells
open Go.ChangeShapes Go.WideShapes Go.ChangeAt
set_option maxRecDepth 100000 in
theorem lifted (os : Os) (started : os.Started) (H : Type) (enc : TypeId × Value → H) :
    ReturnsInHanded {} Try.checked os 3 .any (Rows.doneTellsSpec.pre6 enc Try.prog Try.f3 Rows.doneTellsRow.domain false) (Rows.doneTellsSpec.post enc Try.prog Try.f3 false true false false) := by
  refine returnsInHanded_of_change (C := Try.checked) own started (by kernel_rfl) Try.func3
    (ChangeSpec.witness6 (enc := enc) (C := Try.checked) false ⟨#[], #[.agg #[.int .u64 0, .int .u16 0, .int .u64 0, .int .u16 0, .int .u64 0, .int .u16 0, .int .u64 0, .int .u16 0, .int .u64 0, .int .u16 0, .int .u64 0, .int .u16 0, .int .u64 0, .int .u16 0, .int .u64 0, .int .u16 0], .int .u64 0, .int .u64 0], []⟩ 8 (by kernel_rfl) (by kernel_rfl) (by kernel_rfl) (by kernel_rfl)) ?_
  intro W base args ds gs before hval0 hW _ _
  have hval : ∀ (j : Nat) t v, Try.f3.params[j]? = some t → args[j]? = some v → Value.okWide Try.prog W .any base t v := hval0
  have hW' := hW
  obtain ⟨p, q, hA0, hV, rfl, hfz, hnd⟩ := hW
  have hA : DataW.TrodAll enc Try.prog W 0 (fun _ => true) true Try.f3.params.toList args.toList ds p := hA0
  rw [Try.params3] at hA hval
  obtain ⟨v0, vs0, d0, ds0, p0, q0, hargs, rfl, rfl, h0, r0⟩ := trodAll_cons hA
  obtain ⟨v1, vs1, d1, ds1, p1, q1, rfl, rfl, rfl, h1, r1⟩ := trodAll_cons r0
  obtain ⟨v2, vs2, d2, ds2, p2, q2, rfl, rfl, rfl, h2, r2⟩ := trodAll_cons r1
  obtain ⟨rfl, rfl, rfl⟩ := trodAll_nil r2
  obtain rfl : args = #[v0, v1, v2] := by cases args; simp_all
  obtain ⟨rfl, rfl⟩ := trodVars_none hV
  have k0 := h0
  have lt0 : ∀ x ∈ p0, x.block < W.heap.size := by obtain ⟨m, hm⟩ := k0; exact DataW.trod_lt m _ _ _ hm
  obtain ⟨o0, rfl, w0⟩ := dec_table tabA (by kernel_rfl) (by kernel_rfl) cl_one (hval 0 27 v0 rfl rfl) h0
  have k1 := h1
  have lt1 : ∀ x ∈ p1, x.block < W.heap.size := by obtain ⟨m, hm⟩ := k1; exact DataW.trod_lt m _ _ _ hm
  obtain ⟨x1, rfl, w1⟩ := dec_u64 Try.underlying22 (hval 1 22 v1 rfl rfl) h1
  have k2 := h2
  have lt2 : ∀ x ∈ p2, x.block < W.heap.size := by obtain ⟨m, hm⟩ := k2; exact DataW.trod_lt m _ _ _ hm
  obtain ⟨x2, rfl, w2⟩ := dec_u64 Try.underlying22 (hval 2 22 v2 rfl rfl) h2
  clear hA0 hval0
  refine (doneTells_walk o0 w0 x1 w1 x2 w2).mono fun e W' ⟨he, bel⟩ => ?_
  subst he
  exact ⟨_, rfl, _, _, _, [], _, [], hW', trodAll_mk1 (shut_bool Try.underlying4 _), (trodAll_cons_mk (Below.trod laidOut (by kernel_rfl) (of_decide_eq_true (by kernel_rfl)) k0 bel lt0) (trodAll_cons_mk (Below.trod laidOut (by kernel_rfl) (of_decide_eq_true (by kernel_rfl)) k1 bel lt1) (trodAll_cons_mk (Below.trod laidOut (by kernel_rfl) (of_decide_eq_true (by kernel_rfl)) k2 bel lt2) trodAll_mk0))), rfl, bel.frame _, fun h => by cases h⟩

theorem over : Rows.doneTellsRow.holds Try.pinned (OpenSpec.ofChange Rows.doneTellsSpec) :=
  OpenClaim.holds_of_wide 3 Try.f3 rfl rfl rfl rfl rfl rfl rfl ⟨rfl, rfl, rfl, rfl, rfl⟩ rfl rfl rfl rfl rfl (by kernel_rfl) Try.func3 (by kernel_rfl)
    (of_decide_eq_true (by kernel_rfl)) (by unfold Func.isWrapper; first | (rw [if_pos (by decide +kernel)]; kernel_rfl) | (rw [if_neg (by decide +kernel)]; exact ⟨rfl, rfl⟩))
    (fun os started H enc _ => lifted os started H enc)
/-- The given statement. -/
theorem proved : Rows.DoneTellsSaid := over
end doneTells

end Go.Proofs.Ytlbjbkhnicbibaa
