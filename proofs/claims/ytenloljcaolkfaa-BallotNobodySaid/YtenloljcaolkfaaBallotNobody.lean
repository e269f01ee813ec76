/- BallotNobody: a ballot that no call made is never won. -/
import Derived.Test.YtenloljcaolkfaaBlives
import Derived.Test.YtenloljcaolkfaaRowkitb
namespace Go.Proofs.Ytenloljcaolkfaa
open Go.RowKit
set_option maxRecDepth 20000

/-- A ballot that no call made. -/
def IdleB (w : World) (d : Value) : Prop := d = .pointer none ∨ ∃ b, d = .pointer (some ⟨b, 0, none⟩) ∧ Bare w b
theorem IdleB.below {w w' : World} {d : Value} (h : IdleB w d) (hb : Below w.heap.size w w') : IdleB w' d := by
  rcases h with rfl | ⟨b, rfl, h⟩
  · exact .inl rfl
  · exact .inr ⟨b, rfl, h.below hb⟩
theorem bwon {w : World} {d : Value} (h : IdleB w d) : Calls Try.prog 14 #[d] w (TVal w (.bool false)) := by
  rcases h with rfl | ⟨b, rfl, h⟩
  · exact won_nil w
  · exact won_bare h
theorem bvot {w : World} {d : Value} (h : IdleB w d) : Calls Try.prog 12 #[d] w (TVal w (.int .u64 0)) := by
  rcases h with rfl | ⟨b, rfl, h⟩
  · exact voters_nil w
  · exact voters_bare h
theorem bterm {w : World} {d : Value} (h : IdleB w d) : Calls Try.prog 17 #[d] w (TVal w (.int .u64 0)) := by
  rcases h with rfl | ⟨b, rfl, h⟩
  · exact term_nil w
  · exact term_row h
theorem bbase {w : World} {d : Value} (h : IdleB w d) : Calls Try.prog 18 #[d] w (TVal w (.int .u64 0)) := by
  rcases h with rfl | ⟨b, rfl, h⟩
  · exact base_nil w
  · exact base_row h
theorem bmerge {w : World} {d : Value} (h : IdleB w d) (n : Int) : Calls Try.prog 13 #[d, .int .i64 n] w (TVal w (.slice none 0 0)) := by
  rcases h with rfl | ⟨b, rfl, h⟩
  · exact merge_lost none w (won_nil w) n
  · exact merge_lost _ w (won_bare h) n
set_option maxHeartbeats 4000000 in
theorem ballotNobody_walk {w : World} (nd : Int) (_ : (Lit.int .i64 nd).wf = true) (n : Int) (_ : (Lit.int .i64 n).wf = true) : Calls Try.prog 6 #[.int .i64 nd, .int .i64 n] w fun e w' => e = .returned (.bool true) ∧ Below w.heap.size w w' := by
  have HL := Lib.hid lives26
  obtain ⟨W, hW, hz, r1, r2, hb⟩ := Qu.boxes2 w #[.int .u64 0, .int .u64 0, .int .u64 0, .map none] #[.pointer none, .pointer (some ⟨w.heap.size, 0, none⟩)] 46 27
  have HZ := Lib.hid hz
  have HB := Lib.hid hb
  have R1 := Lib.hid r1
  have R2 := Lib.hid r2
  have HW := Lib.hid hW
  clear hz hb r1 r2 hW
  unfold TVal at HL
  go_enter Try.func6, Try.ntmps6
  go_wp2_with (fail)
  go_loopw [8, 15] (fun _ ir wr => ∃ i : Nat, i ≤ 2 ∧ ir = .int .i64 (i : Int) ∧ Hid (Below W.heap.size W wr)) (fun _ ir _ => 2 - (intOf ir).toNat)
  case atStart => exact ⟨0, by omega, rfl, Lib.hid (by have := HW.out; subst this; exact Below.refl _ _)⟩
  case round =>
    clear HW
    obtain ⟨i, hi, rfl, HBl⟩ := hrel
    by_cases hlt : i < 2
    · obtain ⟨d, hd, hid⟩ : ∃ d, wr.cell? ⟨w.heap.size + 1, 0 + i, none⟩ = some d ∧ IdleB wr d := by
        rcases (show i = 0 ∨ i = 1 by omega) with rfl | rfl
        · exact ⟨_, Qu.kept HBl.out (cell_of_row W _ 0 _ _ _ R2.out) (by have := HZ.out; omega), .inl rfl⟩
        · exact ⟨_, Qu.kept HBl.out (cell_of_row W _ 1 _ _ _ R2.out) (by have := HZ.out; omega), .inr ⟨_, rfl, (HBl.out.block _ (by have := HZ.out; omega)).trans R1.out⟩⟩
      rw [Nat.zero_add] at hd
      have HI := Lib.hid hid
      have d1 : decide ((i : Int) < 2) = true := by simp; omega
      have d2 : (i : Int) < 2 := by omega
      have HLT := Lib.hid hlt
      clear hid hlt
      go_wp2_with (first
        | (go_at_call 14; refine (bwon HI.out).mono ?_; rintro e w1 ⟨rfl, hb1⟩
           have HC1 := Lib.hid hb1
           clear hb1)
        | (go_at_call 12; refine (bvot (HI.out.below HC1.out)).mono ?_; rintro e w2 ⟨rfl, hb2⟩
           have HC2 := Lib.hid (HC1.out.trans (hb2.mono HC1.out.size))
           clear hb2)
        | (go_at_call 17; refine (bterm (HI.out.below HC2.out)).mono ?_; rintro e w3 ⟨rfl, hb3⟩
           have HC3 := Lib.hid (HC2.out.trans (hb3.mono HC2.out.size))
           clear hb3)
        | (go_at_call 18; refine (bbase (HI.out.below HC3.out)).mono ?_; rintro e w4 ⟨rfl, hb4⟩
           have HC4 := Lib.hid (HC3.out.trans (hb4.mono HC3.out.size))
           clear hb4)
        | (go_at_call 13; refine (bmerge (HI.out.below HC4.out) n).mono ?_; rintro e w5 ⟨rfl, hb5⟩
           have HC5 := Lib.hid (HC4.out.trans (hb5.mono HC4.out.size))
           clear hb5)
        | fail)
      go_roundw
      case rel => exact ⟨i + 1, by have := HLT.out; omega, by go_num, Lib.hid (HBl.out.trans (HC5.out.mono HBl.out.size))⟩
      case measure => have := HLT.out; simp [intOf]; omega
    · obtain rfl : i = 2 := by omega
      have HBR := Lib.hid (show Bare wr w.heap.size from (HBl.out.block _ (by have := HZ.out; omega)).trans R1.out)
      have HGN := Lib.hid (fun W => grant_nil nd (.slice none 0 0) W)
      unfold TVal at HGN
      go_wp2_with (first
        | (go_at_call 10; refine (HGN.out _).mono ?_; rintro e w6 ⟨rfl, hb6⟩
           have HC6 := Lib.hid (HBl.out.trans (hb6.mono HBl.out.size))
           have HBR6 := Lib.hid (HBR.out.below hb6)
           clear hb6 HGN)
        | (go_at_call 10; refine (grant_bare HBR6.out nd _).mono ?_; rintro e w7 ⟨rfl, hb7⟩
           have HC7 := Lib.hid (HC6.out.trans (hb7.mono HC6.out.size))
           clear hb7)
        | (go_at_call 8; refine (HL.out _).mono ?_; rintro e w8 ⟨rfl, hb8⟩)
        | fail)
      go_ret
      exact ⟨rfl, HB.out.trans ((HC7.out.trans (hb8.mono HC7.out.size)).mono HB.out.size)⟩
namespace ballotNobody
open Go.ChangeShapes Go.WideShapes Go.ChangeAt
set_option maxRecDepth 100000 in
theorem lifted (os : Os) (started : os.Started) (H : Type) (enc : TypeId × Value → H) :
    ReturnsInHanded {} Try.checked os 6 .any (Rows.ballotNobodySpec.pre6 enc Try.prog Try.f6 Rows.ballotNobodyRow.domain false) (Rows.ballotNobodySpec.post enc Try.prog Try.f6 false true false false) := by
  refine returnsInHanded_of_change (C := Try.checked) own started (by kernel_rfl) Try.func6
    (ChangeSpec.witness6 (enc := enc) (C := Try.checked) false ⟨#[], #[.int .i64 0, .int .i64 0], []⟩ 8 (by kernel_rfl) (by kernel_rfl) (by kernel_rfl) (by kernel_rfl)) ?_
  intro W base args ds gs before hval0 hW _ _
  have hval : ∀ (j : Nat) t v, Try.f6.params[j]? = some t → args[j]? = some v → Value.okWide Try.prog W .any base t v := hval0
  have hW' := hW
  obtain ⟨p, q, hA0, hV, rfl, hfz, hnd⟩ := hW
  have hA : DataW.TrodAll enc Try.prog W 0 (fun _ => true) true Try.f6.params.toList args.toList ds p := hA0
  rw [Try.params6] at hA hval
  obtain ⟨v0, vs0, d0, ds0, p0, q0, hargs, rfl, rfl, h0, r0⟩ := trodAll_cons hA
  obtain ⟨v1, vs1, d1, ds1, p1, q1, rfl, rfl, rfl, h1, r1⟩ := trodAll_cons r0
  obtain ⟨rfl, rfl, rfl⟩ := trodAll_nil r1
  obtain rfl : args = #[v0, v1] := by cases args; simp_all
  obtain ⟨rfl, rfl⟩ := trodVars_none hV
  have k0 := h0
  have lt0 : ∀ x ∈ p0, x.block < W.heap.size := by obtain ⟨m, hm⟩ := k0; exact DataW.trod_lt m _ _ _ hm
  obtain ⟨x0, rfl, w0⟩ := dec_int Try.underlying3 (hval 0 3 v0 rfl rfl) h0
  have k1 := h1
  have lt1 : ∀ x ∈ p1, x.block < W.heap.size := by obtain ⟨m, hm⟩ := k1; exact DataW.trod_lt m _ _ _ hm
  obtain ⟨x1, rfl, w1⟩ := dec_int Try.underlying3 (hval 1 3 v1 rfl rfl) h1
  clear hA0 hval0
  refine (ballotNobody_walk x0 w0 x1 w1).mono fun e W' ⟨he, bel⟩ => ?_
  subst he
  exact ⟨_, rfl, _, _, _, [], _, [], hW', trodAll_mk1 (shut_bool Try.underlying4 _), (trodAll_cons_mk (Below.trod laidOut (by kernel_rfl) (of_decide_eq_true (by kernel_rfl)) k0 bel lt0) (trodAll_cons_mk (Below.trod laidOut (by kernel_rfl) (of_decide_eq_true (by kernel_rfl)) k1 bel lt1) trodAll_mk0)), rfl, bel.frame _, fun h => by cases h⟩

theorem over : Rows.ballotNobodyRow.holds Try.pinned (OpenSpec.ofChange Rows.ballotNobodySpec) :=
  OpenClaim.holds_of_wide 6 Try.f6 rfl rfl rfl rfl rfl rfl rfl ⟨rfl, rfl, rfl, rfl, rfl⟩ rfl rfl rfl rfl rfl (by kernel_rfl) Try.func6 (by kernel_rfl)
    (of_decide_eq_true (by kernel_rfl)) (by unfold Func.isWrapper; first | (rw [if_pos (by decide +kernel)]; kernel_rfl) | (rw [if_neg (by decide +kernel)]; exact ⟨rfl, rfl⟩))
    (fun os started H enc _ => lifted os started H enc)
/-- The given statement. -/
theorem proved : Rows.BallotNobodySaid := over
end ballotNobody

end Go.Proofs.Ytenloljcaolkfaa
