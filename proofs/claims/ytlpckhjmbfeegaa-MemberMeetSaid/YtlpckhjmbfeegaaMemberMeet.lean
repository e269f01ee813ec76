/- MemberMeet. -/
import Derived.Test.YtlpckhjmbfeegaaFc
import Derived.Test.YtlpckhjmbfeegaaCo
namespace Go.Proofs.Ytlpckhjmbfeegaa
open Go.RowKit
set_option maxRecDepth 20000
set_option maxHeartbeats 2000000 in
theorem memberMeet_walk {w : World} (o : Nat) (ho : o < 18446744073709551616) (m : Nat) (hm : m < 18446744073709551616) (a : Nat) (ha : a < 18446744073709551616) (b : Nat) (hb : b < 18446744073709551616) (n : Int) (_ : (Lit.int .i64 n).wf = true) :
    Calls Try.prog 8 #[.int .u64 (o : Int), .int .u64 (m : Int), .int .u64 (a : Int), .int .u64 (b : Int), .int .i64 n] w fun e w' => e = .returned (.bool true) ∧ Below w.heap.size w w' := by
  have HM := Lib.hid (fun W => Qu.may_any o m W ho hm)
  have HJ := Lib.hid (fun W => Qu.maj_any a o W ha ho)
  have HK := Lib.hid (fun W => Qu.maj_any b m W hb hm)
  have HT := Lib.hid (fun W => Qu.turn_any o n W ho)
  have HF := Lib.hid (fun W => Qu.may_any o (Qu.flip1 o n) W ho (Qu.flip1_lt n ho))
  have HL := Lib.hid (fun W => lives30 W)
  have e1 := bits_and_u64_nat a b ha hb
  have e2 := Qu.or_run o m ho hm
  have e3 := bits_and_u64_nat (a &&& b) (o ||| m) (Qu.and_lt64 b ha) (Qu.or_lt64 ho hm)
  have hz := Qu.maj_near a b o m
  have htn : Qu.turnO o n = (0, false) ∨ (Qu.turnO o n = (Qu.flip1 o n, true) ∧ Qu.mayB o (Qu.flip1 o n) = true ∧ Qu.flip1 o n ≠ o) := by
    unfold Qu.turnO
    by_cases h : Qu.told o = true ∧ Qu.mayB o (Qu.flip1 o n) = true
    · rw [if_pos h]; exact .inr ⟨rfl, h.2, Qu.may_ne h.2⟩
    · rw [if_neg h]; exact .inl rfl
  clear ho hm ha hb
  generalize Qu.turnO o n = tn at *
  generalize Qu.flip1 o n = f at *
  generalize (a &&& b) &&& (o ||| m) = z at *
  generalize a &&& b = x at *
  generalize o ||| m = y at *
  generalize Qu.mayB o m = m1 at *
  generalize Qu.majB a o = j1 at *
  generalize Qu.majB b m = j2 at *
  have hq : (m1 = false ∨ m1 = true ∧ j1 = false) ∨ (m1 = true ∧ j1 = true ∧ j2 = false) ∨ (m1 = true ∧ j1 = true ∧ j2 = true ∧ z ≠ 0) := by
    cases m1
    · exact .inl (.inl rfl)
    · cases j1
      · exact .inl (.inr ⟨rfl, rfl⟩)
      · cases j2
        · exact .inr (.inl ⟨rfl, rfl, rfl⟩)
        · exact .inr (.inr ⟨rfl, rfl, rfl, hz rfl rfl rfl⟩)
  clear hz
  rcases hq with (rfl | ⟨rfl, rfl⟩) | ⟨rfl, rfl, rfl⟩ | ⟨rfl, rfl, rfl, hz0⟩
  all_goals
    rcases htn with rfl | ⟨rfl, hf, hne⟩
  · skip
    go_enter Try.func8, Try.ntmps8
    go_wp2_with (first
      | (go_at_call 40; (first | (with_reducible refine (HJ.out _).mono ?_) | (with_reducible refine (HK.out _).mono ?_)); rintro e w2 ⟨rfl, rfl⟩)
      | (go_at_call 33; (first | (with_reducible refine (HF.out _).mono ?_) | (with_reducible refine (HM.out _).mono ?_)); rintro e w1 ⟨rfl, rfl⟩)
      | (go_at_call 31; refine (HT.out _).mono ?_; rintro e w3 ⟨rfl, hb3⟩)
      | (go_at_call 35; refine (HL.out _).mono ?_; rintro e w4 ⟨rfl, hb4⟩)
      | fail)
    go_ret
    exact ⟨rfl, hb3.trans (hb4.mono hb3.size)⟩
  · skip
    have hne1 : ¬ (f : Int) = (o : Int) := by omega
    rw [hf] at HF
    go_enter Try.func8, Try.ntmps8
    go_wp2_with (first
      | (go_at_call 40; (first | (with_reducible refine (HJ.out _).mono ?_) | (with_reducible refine (HK.out _).mono ?_)); rintro e w2 ⟨rfl, rfl⟩)
      | (go_at_call 33; (first | (with_reducible refine (HF.out _).mono ?_) | (with_reducible refine (HM.out _).mono ?_)); rintro e w1 ⟨rfl, rfl⟩)
      | (go_at_call 31; refine (HT.out _).mono ?_; rintro e w3 ⟨rfl, hb3⟩)
      | (go_at_call 35; refine (HL.out _).mono ?_; rintro e w4 ⟨rfl, hb4⟩)
      | fail)
    go_ret
    refine ⟨?_, hb3.trans (hb4.mono hb3.size)⟩
    simp
    omega
  · skip
    go_enter Try.func8, Try.ntmps8
    go_wp2_with (first
      | (go_at_call 40; (first | (with_reducible refine (HJ.out _).mono ?_) | (with_reducible refine (HK.out _).mono ?_)); rintro e w2 ⟨rfl, rfl⟩)
      | (go_at_call 33; (first | (with_reducible refine (HF.out _).mono ?_) | (with_reducible refine (HM.out _).mono ?_)); rintro e w1 ⟨rfl, rfl⟩)
      | (go_at_call 31; refine (HT.out _).mono ?_; rintro e w3 ⟨rfl, hb3⟩)
      | (go_at_call 35; refine (HL.out _).mono ?_; rintro e w4 ⟨rfl, hb4⟩)
      | fail)
    go_ret
    exact ⟨rfl, hb3.trans (hb4.mono hb3.size)⟩
  · skip
    have hne1 : ¬ (f : Int) = (o : Int) := by omega
    rw [hf] at HF
    go_enter Try.func8, Try.ntmps8
    go_wp2_with (first
      | (go_at_call 40; (first | (with_reducible refine (HJ.out _).mono ?_) | (with_reducible refine (HK.out _).mono ?_)); rintro e w2 ⟨rfl, rfl⟩)
      | (go_at_call 33; (first | (with_reducible refine (HF.out _).mono ?_) | (with_reducible refine (HM.out _).mono ?_)); rintro e w1 ⟨rfl, rfl⟩)
      | (go_at_call 31; refine (HT.out _).mono ?_; rintro e w3 ⟨rfl, hb3⟩)
      | (go_at_call 35; refine (HL.out _).mono ?_; rintro e w4 ⟨rfl, hb4⟩)
      | fail)
    go_ret
    refine ⟨?_, hb3.trans (hb4.mono hb3.size)⟩
    simp
    omega
  · skip
    go_enter Try.func8, Try.ntmps8
    go_wp2_with (first
      | (go_at_call 40; (first | (with_reducible refine (HJ.out _).mono ?_) | (with_reducible refine (HK.out _).mono ?_)); rintro e w2 ⟨rfl, rfl⟩)
      | (go_at_call 33; (first | (with_reducible refine (HF.out _).mono ?_) | (with_reducible refine (HM.out _).mono ?_)); rintro e w1 ⟨rfl, rfl⟩)
      | (go_at_call 31; refine (HT.out _).mono ?_; rintro e w3 ⟨rfl, hb3⟩)
      | (go_at_call 35; refine (HL.out _).mono ?_; rintro e w4 ⟨rfl, hb4⟩)
      | fail)
    go_ret
    exact ⟨rfl, hb3.trans (hb4.mono hb3.size)⟩
  · skip
    have hne1 : ¬ (f : Int) = (o : Int) := by omega
    rw [hf] at HF
    go_enter Try.func8, Try.ntmps8
    go_wp2_with (first
      | (go_at_call 40; (first | (with_reducible refine (HJ.out _).mono ?_) | (with_reducible refine (HK.out _).mono ?_)); rintro e w2 ⟨rfl, rfl⟩)
      | (go_at_call 33; (first | (with_reducible refine (HF.out _).mono ?_) | (with_reducible refine (HM.out _).mono ?_)); rintro e w1 ⟨rfl, rfl⟩)
      | (go_at_call 31; refine (HT.out _).mono ?_; rintro e w3 ⟨rfl, hb3⟩)
      | (go_at_call 35; refine (HL.out _).mono ?_; rintro e w4 ⟨rfl, hb4⟩)
      | fail)
    go_ret
    refine ⟨?_, hb3.trans (hb4.mono hb3.size)⟩
    simp
    omega
  · skip
    have hz1 : ¬ (z : Int) = 0 := by omega
    go_enter Try.func8, Try.ntmps8
    go_wp2_with (first
      | (go_at_call 40; (first | (with_reducible refine (HJ.out _).mono ?_) | (with_reducible refine (HK.out _).mono ?_)); rintro e w2 ⟨rfl, rfl⟩)
      | (go_at_call 33; (first | (with_reducible refine (HF.out _).mono ?_) | (with_reducible refine (HM.out _).mono ?_)); rintro e w1 ⟨rfl, rfl⟩)
      | (go_at_call 31; refine (HT.out _).mono ?_; rintro e w3 ⟨rfl, hb3⟩)
      | (go_at_call 35; refine (HL.out _).mono ?_; rintro e w4 ⟨rfl, hb4⟩)
      | fail)
    go_ret
    exact ⟨rfl, hb3.trans (hb4.mono hb3.size)⟩
  · skip
    have hz1 : ¬ (z : Int) = 0 := by omega
    have hne1 : ¬ (f : Int) = (o : Int) := by omega
    rw [hf] at HF
    go_enter Try.func8, Try.ntmps8
    go_wp2_with (first
      | (go_at_call 40; (first | (with_reducible refine (HJ.out _).mono ?_) | (with_reducible refine (HK.out _).mono ?_)); rintro e w2 ⟨rfl, rfl⟩)
      | (go_at_call 33; (first | (with_reducible refine (HF.out _).mono ?_) | (with_reducible refine (HM.out _).mono ?_)); rintro e w1 ⟨rfl, rfl⟩)
      | (go_at_call 31; refine (HT.out _).mono ?_; rintro e w3 ⟨rfl, hb3⟩)
      | (go_at_call 35; refine (HL.out _).mono ?_; rintro e w4 ⟨rfl, hb4⟩)
      | fail)
    go_ret
    refine ⟨?_, hb3.trans (hb4.mono hb3.size)⟩
    simp
    omega
namespace memberMeet
open Go.ChangeShapes Go.WideShapes Go.ChangeAt
set_option maxRecDepth 100000 in
theorem lifted (os : Os) (started : os.Started) (H : Type) (enc : TypeId × Value → H) :
    ReturnsInHanded {} Try.checked os 8 .any (Rows.memberMeetSpec.pre6 enc Try.prog Try.f8 Rows.memberMeetRow.domain false) (Rows.memberMeetSpec.post enc Try.prog Try.f8 false true false false) := by
  refine returnsInHanded_of_change (C := Try.checked) own started (by kernel_rfl) Try.func8
    (ChangeSpec.witness6 (enc := enc) (C := Try.checked) false ⟨#[], #[.int .u64 0, .int .u64 0, .int .u64 0, .int .u64 0, .int .i64 0], []⟩ 8 (by kernel_rfl) (by kernel_rfl) (by kernel_rfl) (by kernel_rfl)) ?_
  intro W base args ds gs before hval0 hW _ _
  have hval : ∀ (j : Nat) t v, Try.f8.params[j]? = some t → args[j]? = some v → Value.okWide Try.prog W .any base t v := hval0
  have hW' := hW
  obtain ⟨p, q, hA0, hV, rfl, hfz, hnd⟩ := hW
  have hA : DataW.TrodAll enc Try.prog W 0 (fun _ => true) true Try.f8.params.toList args.toList ds p := hA0
  rw [Try.params8] at hA hval
  obtain ⟨v0, vs0, d0, ds0, p0, q0, hargs, rfl, rfl, h0, r0⟩ := trodAll_cons hA
  obtain ⟨v1, vs1, d1, ds1, p1, q1, rfl, rfl, rfl, h1, r1⟩ := trodAll_cons r0
  obtain ⟨v2, vs2, d2, ds2, p2, q2, rfl, rfl, rfl, h2, r2⟩ := trodAll_cons r1
  obtain ⟨v3, vs3, d3, ds3, p3, q3, rfl, rfl, rfl, h3, r3⟩ := trodAll_cons r2
  obtain ⟨v4, vs4, d4, ds4, p4, q4, rfl, rfl, rfl, h4, r4⟩ := trodAll_cons r3
  obtain ⟨rfl, rfl, rfl⟩ := trodAll_nil r4
  obtain rfl : args = #[v0, v1, v2, v3, v4] := by cases args; simp_all
  obtain ⟨rfl, rfl⟩ := trodVars_none hV
  have k0 := h0
  have lt0 : ∀ x ∈ p0, x.block < W.heap.size := by obtain ⟨m, hm⟩ := k0; exact DataW.trod_lt m _ _ _ hm
  obtain ⟨x0, rfl, w0⟩ := dec_u64 Try.underlying22 (hval 0 22 v0 rfl rfl) h0
  have k1 := h1
  have lt1 : ∀ x ∈ p1, x.block < W.heap.size := by obtain ⟨m, hm⟩ := k1; exact DataW.trod_lt m _ _ _ hm
  obtain ⟨x1, rfl, w1⟩ := dec_u64 Try.underlying22 (hval 1 22 v1 rfl rfl) h1
  have k2 := h2
  have lt2 : ∀ x ∈ p2, x.block < W.heap.size := by obtain ⟨m, hm⟩ := k2; exact DataW.trod_lt m _ _ _ hm
  obtain ⟨x2, rfl, w2⟩ := dec_u64 Try.underlying22 (hval 2 22 v2 rfl rfl) h2
  have k3 := h3
  have lt3 : ∀ x ∈ p3, x.block < W.heap.size := by obtain ⟨m, hm⟩ := k3; exact DataW.trod_lt m _ _ _ hm
  obtain ⟨x3, rfl, w3⟩ := dec_u64 Try.underlying22 (hval 3 22 v3 rfl rfl) h3
  have k4 := h4
  have lt4 : ∀ x ∈ p4, x.block < W.heap.size := by obtain ⟨m, hm⟩ := k4; exact DataW.trod_lt m _ _ _ hm
  obtain ⟨x4, rfl, w4⟩ := dec_int Try.underlying3 (hval 4 3 v4 rfl rfl) h4
  clear hA0 hval0
  refine (memberMeet_walk x0 w0 x1 w1 x2 w2 x3 w3 x4 w4).mono fun e W' ⟨he, bel⟩ => ?_
  subst he
  exact ⟨_, rfl, _, _, _, [], _, [], hW', trodAll_mk1 (shut_bool Try.underlying4 _), (trodAll_cons_mk (Below.trod laidOut (by kernel_rfl) (of_decide_eq_true (by kernel_rfl)) k0 bel lt0) (trodAll_cons_mk (Below.trod laidOut (by kernel_rfl) (of_decide_eq_true (by kernel_rfl)) k1 bel lt1) (trodAll_cons_mk (Below.trod laidOut (by kernel_rfl) (of_decide_eq_true (by kernel_rfl)) k2 bel lt2) (trodAll_cons_mk (Below.trod laidOut (by kernel_rfl) (of_decide_eq_true (by kernel_rfl)) k3 bel lt3) (trodAll_cons_mk (Below.trod laidOut (by kernel_rfl) (of_decide_eq_true (by kernel_rfl)) k4 bel lt4) trodAll_mk0))))), rfl, bel.frame _, fun h => by cases h⟩

theorem over : Rows.memberMeetRow.holds Try.pinned (OpenSpec.ofChange Rows.memberMeetSpec) :=
  OpenClaim.holds_of_wide 8 Try.f8 rfl rfl rfl rfl rfl rfl rfl ⟨rfl, rfl, rfl, rfl, rfl⟩ rfl rfl rfl rfl rfl (by kernel_rfl) Try.func8 (by kernel_rfl)
    (of_decide_eq_true (by kernel_rfl)) (by unfold Func.isWrapper; first | (rw [if_pos (by decide +kernel)]; kernel_rfl) | (rw [if_neg (by decide +kernel)]; exact ⟨rfl, rfl⟩))
    (fun os started H enc _ => lifted os started H enc)
/-- The given statement. -/
theorem proved : Rows.MemberMeetSaid := over
end memberMeet

end Go.Proofs.Ytlpckhjmbfeegaa
