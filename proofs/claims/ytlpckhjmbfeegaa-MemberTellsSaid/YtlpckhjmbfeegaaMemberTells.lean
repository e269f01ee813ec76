/- MemberTells. -/
import Derived.Test.YtlpckhjmbfeegaaFf
import Derived.Test.YtlpckhjmbfeegaaCo
namespace Go.Proofs.Ytlpckhjmbfeegaa
open Go.RowKit
set_option maxRecDepth 20000
theorem turn_zero (o : Nat) (n : Int) (h : (Qu.turnO o n).2 = false) : (Qu.turnO o n).1 = 0 := by
  unfold Qu.turnO at *
  by_cases c : Qu.told o = true ∧ Qu.mayB o (Qu.flip1 o n) = true
  · rw [if_pos c] at h; cases h
  · rw [if_neg c]
set_option maxHeartbeats 4000000 in
theorem memberTells_walk {w : World} {x : It} (_ : True) (s : Nat) (hs : s < 18446744073709551616) (o : Nat) (ho : o < 18446744073709551616) (t : Nat) (_ : t < 18446744073709551616) (n : Int) (_ : (Lit.int .i64 n).wf = true) :
    Calls Try.prog 6 #[.agg x.cells, .int .u64 (s : Int), .int .u64 (o : Int), .int .u64 (t : Int), .int .i64 n] w fun e w' => e = .returned (.bool true) ∧ Below w.heap.size w w' := by
  have hO := fun W => of_any x W
  have hP := fun W => rof_any x W
  have hI := fun W => item_any s t W hs
  have hJ := fun W => ritem_any s t W
  have hT := fun W => Qu.turn_any s n W hs
  have hU := fun W => rturn_any s n W
  have HM := Lib.hid (fun W => Qu.may_any o s W ho hs)
  have HN := Lib.hid (fun W => rmay_any o s W ho hs)
  have HL := Lib.hid (fun W => lives30 W)
  have hz := turn_zero s n
  unfold Ofs at hO hP
  unfold Items at hI hJ
  clear hs ho
  generalize Qu.mayB o s = mb at *
  obtain ⟨⟨a1, b1⟩, ha⟩ : ∃ p, p = ofO x := ⟨_, rfl⟩
  rw [← ha] at hO hP
  obtain ⟨⟨⟨yt, yk, yx⟩, b2⟩, hy⟩ : ∃ p, p = itemO s t := ⟨_, rfl⟩
  rw [← hy] at hI hJ
  obtain ⟨⟨a3, b3⟩, h3⟩ : ∃ p, p = Qu.turnO s n := ⟨_, rfl⟩
  rw [← h3] at hT hU hz
  clear ha hy h3
  dsimp only at hO hP hI hJ hT hU hz
  obtain ⟨xt, xk, xx⟩ := x
  dsimp only [It.cells] at *
  have HO := Lib.hid hO
  have HP := Lib.hid hP
  have HI := Lib.hid hI
  have HJ := Lib.hid hJ
  have HT := Lib.hid hT
  have HU := Lib.hid hU
  clear hO hP hI hJ hT hU
  have hb0 : Below w.heap.size w (w.alloc (.cells #[.int .u64 (xt : Int), .int .i64 xk, .string (str xx)] 47)) := (Below.refl _ _).alloc (Nat.le_refl _) _
  have HB0 := Lib.hid hb0
  have HR0 := Lib.hid (heap_alloc_new w (.cells #[.int .u64 (xt : Int), .int .i64 xk, .string (str xx)] 47))
  clear hb0
  cases b3
  · have hz := hz rfl
    subst hz
    go_enter Try.func6, Try.ntmps6
    go_wp2_with (first
      | (go_at_call 27; refine (HO.out _).mono ?_; rintro e w1 ⟨rfl, hb1⟩
         have hr1 := row_below HR0.out hb1
         have y0 : w1.cell? ⟨w.heap.size, 0, none⟩ = some (.int .u64 (xt : Int)) := cell_of_row _ w.heap.size 0 _ _ _ hr1
         have y1 : w1.cell? ⟨w.heap.size, 1, none⟩ = some (.int .i64 xk) := cell_of_row _ w.heap.size 1 _ _ _ hr1
         have y2 : w1.cell? ⟨w.heap.size, 2, none⟩ = some (.string (str xx)) := cell_of_row _ w.heap.size 2 _ _ _ hr1
         have HB1 := Lib.hid (HB0.out.trans (hb1.mono HB0.out.size))
         clear hr1 hb1)
      | (go_at_call 28; refine (HP.out _).mono ?_; rintro e w2 ⟨rfl, hb2⟩
         have HB2 := Lib.hid (HB1.out.trans (hb2.mono HB1.out.size))
         clear hb2 y0 y1 y2)
      | (go_at_call 29; refine (HI.out _).mono ?_; rintro e w3 ⟨rfl, hb3⟩
         have HB3 := Lib.hid (HB2.out.trans (hb3.mono HB2.out.size))
         have HR3 := Lib.hid (heap_alloc_new w3 (.cells #[.int .u64 (yt : Int), .int .i64 yk, .string (str yx)] 47))
         have HB4 := Lib.hid (HB3.out.alloc HB3.out.size (.cells #[.int .u64 (yt : Int), .int .i64 yk, .string (str yx)] 47))
         clear hb3)
      | (go_at_call 30; refine (HJ.out _).mono ?_; rintro e w5 ⟨rfl, hb5⟩
         have HR5 := Lib.hid (row_below HR3.out hb5)
         have HB5 := Lib.hid (HB4.out.trans (hb5.mono HB4.out.size))
         have HR6 := Lib.hid (heap_alloc_new w5 (.cells #[.int .u64 (yt : Int), .int .i64 yk, .string (str yx)] 62))
         have HB6 := Lib.hid (HB5.out.alloc HB5.out.size (.cells #[.int .u64 (yt : Int), .int .i64 yk, .string (str yx)] 62))
         clear hb5)
      | (go_at_call 31; refine (HT.out _).mono ?_; rintro e w7 ⟨rfl, hb7⟩
         have hr7 := row_below (row_old (.cells #[.int .u64 (yt : Int), .int .i64 yk, .string (str yx)] 62) HR5.out) hb7
         have hq7 := row_below HR6.out hb7
         have HB7 := Lib.hid (HB6.out.trans (hb7.mono HB6.out.size))
         have z0 : w7.cell? ⟨w3.heap.size, 0, none⟩ = some (.int .u64 (yt : Int)) := cell_of_row _ w3.heap.size 0 _ _ _ hr7
         have z1 : w7.cell? ⟨w3.heap.size, 1, none⟩ = some (.int .i64 yk) := cell_of_row _ w3.heap.size 1 _ _ _ hr7
         have z2 : w7.cell? ⟨w3.heap.size, 2, none⟩ = some (.string (str yx)) := cell_of_row _ w3.heap.size 2 _ _ _ hr7
         have q0 : w7.cell? ⟨w5.heap.size, 0, none⟩ = some (.int .u64 (yt : Int)) := cell_of_row _ w5.heap.size 0 _ _ _ hq7
         have q1 : w7.cell? ⟨w5.heap.size, 1, none⟩ = some (.int .i64 yk) := cell_of_row _ w5.heap.size 1 _ _ _ hq7
         have q2 : w7.cell? ⟨w5.heap.size, 2, none⟩ = some (.string (str yx)) := cell_of_row _ w5.heap.size 2 _ _ _ hq7
         clear hb7 hr7 hq7)
      | (go_at_call 32; refine (HU.out _).mono ?_; rintro e w8 ⟨rfl, rfl⟩)
      | (go_at_call 33; (with_reducible refine (HM.out _).mono ?_); rintro e w9 ⟨rfl, rfl⟩)
      | (go_at_call 34; (with_reducible refine (HN.out _).mono ?_); rintro e wa ⟨rfl, rfl⟩)
      | (go_at_call 35; refine (HL.out _).mono ?_; rintro e wb ⟨rfl, hbb⟩)
      | fail)
    go_ret
    exact ⟨rfl, HB7.out.trans (hbb.mono HB7.out.size)⟩
  · clear hz
    go_enter Try.func6, Try.ntmps6
    go_wp2_with (first
      | (go_at_call 27; refine (HO.out _).mono ?_; rintro e w1 ⟨rfl, hb1⟩
         have hr1 := row_below HR0.out hb1
         have y0 : w1.cell? ⟨w.heap.size, 0, none⟩ = some (.int .u64 (xt : Int)) := cell_of_row _ w.heap.size 0 _ _ _ hr1
         have y1 : w1.cell? ⟨w.heap.size, 1, none⟩ = some (.int .i64 xk) := cell_of_row _ w.heap.size 1 _ _ _ hr1
         have y2 : w1.cell? ⟨w.heap.size, 2, none⟩ = some (.string (str xx)) := cell_of_row _ w.heap.size 2 _ _ _ hr1
         have HB1 := Lib.hid (HB0.out.trans (hb1.mono HB0.out.size))
         clear hr1 hb1)
      | (go_at_call 28; refine (HP.out _).mono ?_; rintro e w2 ⟨rfl, hb2⟩
         have HB2 := Lib.hid (HB1.out.trans (hb2.mono HB1.out.size))
         clear hb2 y0 y1 y2)
      | (go_at_call 29; refine (HI.out _).mono ?_; rintro e w3 ⟨rfl, hb3⟩
         have HB3 := Lib.hid (HB2.out.trans (hb3.mono HB2.out.size))
         have HR3 := Lib.hid (heap_alloc_new w3 (.cells #[.int .u64 (yt : Int), .int .i64 yk, .string (str yx)] 47))
         have HB4 := Lib.hid (HB3.out.alloc HB3.out.size (.cells #[.int .u64 (yt : Int), .int .i64 yk, .string (str yx)] 47))
         clear hb3)
      | (go_at_call 30; refine (HJ.out _).mono ?_; rintro e w5 ⟨rfl, hb5⟩
         have HR5 := Lib.hid (row_below HR3.out hb5)
         have HB5 := Lib.hid (HB4.out.trans (hb5.mono HB4.out.size))
         have HR6 := Lib.hid (heap_alloc_new w5 (.cells #[.int .u64 (yt : Int), .int .i64 yk, .string (str yx)] 62))
         have HB6 := Lib.hid (HB5.out.alloc HB5.out.size (.cells #[.int .u64 (yt : Int), .int .i64 yk, .string (str yx)] 62))
         clear hb5)
      | (go_at_call 31; refine (HT.out _).mono ?_; rintro e w7 ⟨rfl, hb7⟩
         have hr7 := row_below (row_old (.cells #[.int .u64 (yt : Int), .int .i64 yk, .string (str yx)] 62) HR5.out) hb7
         have hq7 := row_below HR6.out hb7
         have HB7 := Lib.hid (HB6.out.trans (hb7.mono HB6.out.size))
         have z0 : w7.cell? ⟨w3.heap.size, 0, none⟩ = some (.int .u64 (yt : Int)) := cell_of_row _ w3.heap.size 0 _ _ _ hr7
         have z1 : w7.cell? ⟨w3.heap.size, 1, none⟩ = some (.int .i64 yk) := cell_of_row _ w3.heap.size 1 _ _ _ hr7
         have z2 : w7.cell? ⟨w3.heap.size, 2, none⟩ = some (.string (str yx)) := cell_of_row _ w3.heap.size 2 _ _ _ hr7
         have q0 : w7.cell? ⟨w5.heap.size, 0, none⟩ = some (.int .u64 (yt : Int)) := cell_of_row _ w5.heap.size 0 _ _ _ hq7
         have q1 : w7.cell? ⟨w5.heap.size, 1, none⟩ = some (.int .i64 yk) := cell_of_row _ w5.heap.size 1 _ _ _ hq7
         have q2 : w7.cell? ⟨w5.heap.size, 2, none⟩ = some (.string (str yx)) := cell_of_row _ w5.heap.size 2 _ _ _ hq7
         clear hb7 hr7 hq7)
      | (go_at_call 32; refine (HU.out _).mono ?_; rintro e w8 ⟨rfl, rfl⟩)
      | (go_at_call 33; (with_reducible refine (HM.out _).mono ?_); rintro e w9 ⟨rfl, rfl⟩)
      | (go_at_call 34; (with_reducible refine (HN.out _).mono ?_); rintro e wa ⟨rfl, rfl⟩)
      | (go_at_call 35; refine (HL.out _).mono ?_; rintro e wb ⟨rfl, hbb⟩)
      | fail)
    go_ret
    exact ⟨rfl, HB7.out.trans (hbb.mono HB7.out.size)⟩
namespace memberTells
open Go.ChangeShapes Go.WideShapes Go.ChangeAt
set_option maxRecDepth 100000 in
theorem lifted (os : Os) (started : os.Started) (H : Type) (enc : TypeId × Value → H) :
    ReturnsInHanded {} Try.checked os 6 .any (Rows.memberTellsSpec.pre6 enc Try.prog Try.f6 Rows.memberTellsRow.domain false) (Rows.memberTellsSpec.post enc Try.prog Try.f6 false true false false) := by
  refine returnsInHanded_of_change (C := Try.checked) own started (by kernel_rfl) Try.func6
    (ChangeSpec.witness6 (enc := enc) (C := Try.checked) false ⟨#[], #[.agg #[.int .u64 0, .int .i64 0, .string ⟨#[]⟩], .int .u64 0, .int .u64 0, .int .u64 0, .int .i64 0], []⟩ 8 (by kernel_rfl) (by kernel_rfl) (by kernel_rfl) (by kernel_rfl)) ?_
  intro W base args ds gs before hval0 hW _ _
  have hval : ∀ (j : Nat) t v, Try.f6.params[j]? = some t → args[j]? = some v → Value.okWide Try.prog W .any base t v := hval0
  have hW' := hW
  obtain ⟨p, q, hA0, hV, rfl, hfz, hnd⟩ := hW
  have hA : DataW.TrodAll enc Try.prog W 0 (fun _ => true) true Try.f6.params.toList args.toList ds p := hA0
  rw [Try.params6] at hA hval
  obtain ⟨v0, vs0, d0, ds0, p0, q0, hargs, rfl, rfl, h0, r0⟩ := trodAll_cons hA
  obtain ⟨v1, vs1, d1, ds1, p1, q1, rfl, rfl, rfl, h1, r1⟩ := trodAll_cons r0
  obtain ⟨v2, vs2, d2, ds2, p2, q2, rfl, rfl, rfl, h2, r2⟩ := trodAll_cons r1
  obtain ⟨v3, vs3, d3, ds3, p3, q3, rfl, rfl, rfl, h3, r3⟩ := trodAll_cons r2
  obtain ⟨v4, vs4, d4, ds4, p4, q4, rfl, rfl, rfl, h4, r4⟩ := trodAll_cons r3
  obtain ⟨rfl, rfl, rfl⟩ := trodAll_nil r4
  obtain rfl : args = #[v0, v1, v2, v3, v4] := by cases args; simp_all
  obtain ⟨rfl, rfl⟩ := trodVars_none hV
  have k0 := h0
  have lt0 : ∀ x ∈ p0, x.block < W.heap.size := by obtain ⟨m, hm⟩ := k0; exact DataW.trod_lt m _ _ _ hm
  obtain ⟨o0, rfl, w0⟩ := It.decv (hval 0 47 v0 rfl rfl) h0
  have k1 := h1
  have lt1 : ∀ x ∈ p1, x.block < W.heap.size := by obtain ⟨m, hm⟩ := k1; exact DataW.trod_lt m _ _ _ hm
  obtain ⟨x1, rfl, w1⟩ := dec_u64 Try.underlying22 (hval 1 22 v1 rfl rfl) h1
  have k2 := h2
  have lt2 : ∀ x ∈ p2, x.block < W.heap.size := by obtain ⟨m, hm⟩ := k2; exact DataW.trod_lt m _ _ _ hm
  obtain ⟨x2, rfl, w2⟩ := dec_u64 Try.underlying22 (hval 2 22 v2 rfl rfl) h2
  have k3 := h3
  have lt3 : ∀ x ∈ p3, x.block < W.heap.size := by obtain ⟨m, hm⟩ := k3; exact DataW.trod_lt m _ _ _ hm
  obtain ⟨x3, rfl, w3⟩ := dec_u64 Try.underlying22 (hval 3 22 v3 rfl rfl) h3
  have k4 := h4
  have lt4 : ∀ x ∈ p4, x.block < W.heap.size := by obtain ⟨m, hm⟩ := k4; exact DataW.trod_lt m _ _ _ hm
  obtain ⟨x4, rfl, w4⟩ := dec_int Try.underlying3 (hval 4 3 v4 rfl rfl) h4
  clear hA0 hval0
  refine (memberTells_walk w0 x1 w1 x2 w2 x3 w3 x4 w4).mono fun e W' ⟨he, bel⟩ => ?_
  subst he
  exact ⟨_, rfl, _, _, _, [], _, [], hW', trodAll_mk1 (shut_bool Try.underlying4 _), (trodAll_cons_mk (Below.trod laidOut (by kernel_rfl) (of_decide_eq_true (by kernel_rfl)) k0 bel lt0) (trodAll_cons_mk (Below.trod laidOut (by kernel_rfl) (of_decide_eq_true (by kernel_rfl)) k1 bel lt1) (trodAll_cons_mk (Below.trod laidOut (by kernel_rfl) (of_decide_eq_true (by kernel_rfl)) k2 bel lt2) (trodAll_cons_mk (Below.trod laidOut (by kernel_rfl) (of_decide_eq_true (by kernel_rfl)) k3 bel lt3) (trodAll_cons_mk (Below.trod laidOut (by kernel_rfl) (of_decide_eq_true (by kernel_rfl)) k4 bel lt4) trodAll_mk0))))), rfl, bel.frame _, fun h => by cases h⟩

theorem over : Rows.memberTellsRow.holds Try.pinned (OpenSpec.ofChange Rows.memberTellsSpec) :=
  OpenClaim.holds_of_wide 6 Try.f6 rfl rfl rfl rfl rfl rfl rfl ⟨rfl, rfl, rfl, rfl, rfl⟩ rfl rfl rfl rfl rfl (by kernel_rfl) Try.func6 (by kernel_rfl)
    (of_decide_eq_true (by kernel_rfl)) (by unfold Func.isWrapper; first | (rw [if_pos (by decide +kernel)]; kernel_rfl) | (rw [if_neg (by decide +kernel)]; exact ⟨rfl, rfl⟩))
    (fun os started H enc _ => lifted os started H enc)
/-- The given statement. -/
theorem proved : Rows.MemberTellsSaid := over
end memberTells

end Go.Proofs.Ytlpckhjmbfeegaa
