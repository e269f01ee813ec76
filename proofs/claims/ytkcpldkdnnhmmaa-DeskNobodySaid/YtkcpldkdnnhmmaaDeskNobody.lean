/- DeskNobody: at a desk that no call made, or that is nil, nobody waits, and each call tells the document's error or nothing, for every call. -/
import Derived.Test.YtkcpldkdnnhmmaaDb
import Derived.Test.YtkcpldkdnnhmmaaDo
import Derived.Test.YtkcpldkdnnhmmaaRowkitb
namespace Go.Proofs.Ytkcpldkdnnhmmaa
open Go.RowKit
set_option maxRecDepth 20000

set_option maxHeartbeats 4000000 in
theorem deskNobody_walk {w : World} {o : O25} (_ : o.Reads w) : Calls Try.prog 6 #[.agg o.cells] w fun e w' => e = .returned (.bool true) ∧ Below w.heap.size w w' := by
  have HL := Lib.hid lives25
  obtain ⟨kd, cl, rq, x, fr, ct, nd, mL, mB⟩ := o
  unfold O25.cells
  dsimp only
  obtain ⟨W, hW, hz, r0, r1, r2, hb⟩ := Qu.boxes3 w #[.int .i64 kd, .int .u64 (cl : Int), .int .u64 (rq : Int), .int .u64 (x : Int), .int .u32 (fr : Int), .int .u32 (ct : Int), .int .i64 nd, .int .u64 (mL : Int), .int .u64 (mB : Int)] (bareD.cells (.slice none 0 0)).toArray #[.pointer none, .pointer (some ⟨w.heap.size + 1, 0, none⟩)] 36 58 24
  have HZ := Lib.hid hz
  have HB := Lib.hid hb
  have R0 := Lib.hid r0
  have R1 := Lib.hid r1
  have R2 := Lib.hid r2
  have HW := Lib.hid hW
  clear hz hb r0 r1 r2 hW
  go_enter Try.func6, Try.ntmps6
  go_wp2_with (fail)
  go_loopw [13] (fun ir wr => ∃ i : Nat, i ≤ 2 ∧ ir = .int .i64 (i : Int) ∧ Hid (Below W.heap.size W wr)) (fun ir _ => 2 - (intOf ir).toNat)
  case atStart => exact ⟨0, by omega, rfl, Lib.hid (by have := HW.out; subst this; exact Below.refl _ _)⟩
  case round =>
    clear HW
    obtain ⟨i, hi, rfl, HBl⟩ := hrel
    by_cases hlt : i < 2
    · obtain ⟨d, hd, hid⟩ : ∃ d, wr.cell? ⟨w.heap.size + 1 + 1, 0 + i, none⟩ = some d ∧ Idle wr d := by
        rcases (show i = 0 ∨ i = 1 by omega) with rfl | rfl
        · exact ⟨_, Qu.kept HBl.out (cell_of_row W _ 0 _ _ _ R2.out) (by have := HZ.out; omega), .inl rfl⟩
        · exact ⟨_, Qu.kept HBl.out (cell_of_row W _ 1 _ _ _ R2.out) (by have := HZ.out; omega), .inr ⟨_, rfl, (HBl.out.block _ (by have := HZ.out; omega)).trans R1.out⟩⟩
      rw [Nat.zero_add] at hd
      have HI := Lib.hid hid
      have d1 : decide ((i : Int) < 2) = true := by simp; omega
      have d2 : (i : Int) < 2 := by omega
      have q0 := Qu.kept HBl.out (cell_of_row W _ 0 _ _ _ R0.out) (by have := HZ.out; omega)
      have q1 := Qu.kept HBl.out (cell_of_row W _ 1 _ _ _ R0.out) (by have := HZ.out; omega)
      have q2 := Qu.kept HBl.out (cell_of_row W _ 2 _ _ _ R0.out) (by have := HZ.out; omega)
      have q3 := Qu.kept HBl.out (cell_of_row W _ 3 _ _ _ R0.out) (by have := HZ.out; omega)
      have q4 := Qu.kept HBl.out (cell_of_row W _ 4 _ _ _ R0.out) (by have := HZ.out; omega)
      have q5 := Qu.kept HBl.out (cell_of_row W _ 5 _ _ _ R0.out) (by have := HZ.out; omega)
      have q6 := Qu.kept HBl.out (cell_of_row W _ 6 _ _ _ R0.out) (by have := HZ.out; omega)
      have q7 := Qu.kept HBl.out (cell_of_row W _ 7 _ _ _ R0.out) (by have := HZ.out; omega)
      have q8 := Qu.kept HBl.out (cell_of_row W _ 8 _ _ _ R0.out) (by have := HZ.out; omega)
      have hlw : w.heap.size < wr.heap.size := World.block_lt_of_cell? wr _ q0
      have HLT := Lib.hid hlt
      clear hid hlt
      go_wp2_with (first
        | (go_at_call 18; refine (iread HI.out cl rq fr ct).mono ?_; rintro e w1 ⟨rfl, hb1⟩
           have HC1 := Lib.hid hb1
           clear hb1
           have p1_1 := Qu.kept HC1.out q1 hlw
           have p1_2 := Qu.kept HC1.out q2 hlw
           have p1_3 := Qu.kept HC1.out q3 hlw)
        | (go_at_call 17; refine (iwrite (HI.out.below HC1.out) cl rq x).mono ?_; rintro e w2 ⟨rfl, hb2⟩
           have HC2 := Lib.hid (HC1.out.trans (hb2.mono HC1.out.size))
           clear hb2
           have p2_6 := Qu.kept HC2.out q6 hlw
           have p2_3 := Qu.kept HC2.out q3 hlw)
        | (go_at_call 19; refine (ibegin (HI.out.below HC2.out)).mono ?_; rintro e w3 ⟨rfl, rfl⟩)
        | (go_at_call 20; refine (iheard (HI.out.below HC2.out) nd x).mono ?_; rintro e w3 ⟨rfl, rfl⟩
           have p3_7 := Qu.kept HC2.out q7 hlw
           have p3_8 := Qu.kept HC2.out q8 hlw)
        | (go_at_call 21; refine (iapplied (HI.out.below HC2.out) mL mB).mono ?_; rintro e w4 ⟨rfl, hb4⟩
           have HC4 := Lib.hid (HC2.out.trans (hb4.mono HC2.out.size))
           clear hb4)
        | (go_at_call 14; refine (iround (HI.out.below HC4.out)).mono ?_; rintro e w3 ⟨rfl, rfl⟩)
        | (go_at_call 15; refine (isure (HI.out.below HC4.out)).mono ?_; rintro e w5 ⟨rfl, hb5⟩
           have HC5 := Lib.hid (HC4.out.trans (hb5.mono HC4.out.size))
           clear hb5)
        | (go_at_call 13; refine (ilen (HI.out.below HC5.out)).mono ?_; rintro e w3 ⟨rfl, rfl⟩)
        | (go_at_call 12; refine (iall (HI.out.below HC5.out)).mono ?_; rintro e w6 ⟨A6, c6, rfl, hb6⟩
           have HC6 := Lib.hid (HC5.out.trans (hb6.mono HC5.out.size))
           clear hb6)
        | fail)
      go_roundw
      case rel => exact ⟨i + 1, by have := HLT.out; omega, by go_num, Lib.hid (HBl.out.trans (HC6.out.mono HBl.out.size))⟩
      case measure => have := HLT.out; simp [intOf]; omega
    · obtain rfl : i = 2 := by omega
      go_wp2_with (first
        | (go_at_call 7; refine (HL.out _).mono ?_; rintro e w1 ⟨rfl, hb1⟩)
        | fail)
      go_ret
      exact ⟨rfl, HB.out.trans ((HBl.out.trans (hb1.mono HBl.out.size)).mono HB.out.size)⟩
namespace deskNobody
open Go.ChangeShapes Go.WideShapes Go.ChangeAt
set_option maxRecDepth 100000 in
theorem lifted (os : Os) (started : os.Started) (H : Type) (enc : TypeId × Value → H) :
    ReturnsInHanded {} Try.checked os 6 .any (Rows.deskNobodySpec.pre6 enc Try.prog Try.f6 Rows.deskNobodyRow.domain false) (Rows.deskNobodySpec.post enc Try.prog Try.f6 false true false false) := by
  refine returnsInHanded_of_change (C := Try.checked) own started (by kernel_rfl) Try.func6
    (ChangeSpec.witness6 (enc := enc) (C := Try.checked) false ⟨#[], #[.agg #[.int .i64 0, .int .u64 0, .int .u64 0, .int .u64 0, .int .u32 0, .int .u32 0, .int .i64 0, .int .u64 0, .int .u64 0]], []⟩ 8 (by kernel_rfl) (by kernel_rfl) (by kernel_rfl) (by kernel_rfl)) ?_
  intro W base args ds gs before hval0 hW _ _
  have hval : ∀ (j : Nat) t v, Try.f6.params[j]? = some t → args[j]? = some v → Value.okWide Try.prog W .any base t v := hval0
  have hW' := hW
  obtain ⟨p, q, hA0, hV, rfl, hfz, hnd⟩ := hW
  have hA : DataW.TrodAll enc Try.prog W 0 (fun _ => true) true Try.f6.params.toList args.toList ds p := hA0
  rw [Try.params6] at hA hval
  obtain ⟨v0, vs0, d0, ds0, p0, q0, hargs, rfl, rfl, h0, r0⟩ := trodAll_cons hA
  obtain ⟨rfl, rfl, rfl⟩ := trodAll_nil r0
  obtain rfl : args = #[v0] := by cases args; simp_all
  obtain ⟨rfl, rfl⟩ := trodVars_none hV
  have k0 := h0
  have lt0 : ∀ x ∈ p0, x.block < W.heap.size := by obtain ⟨m, hm⟩ := k0; exact DataW.trod_lt m _ _ _ hm
  obtain ⟨o0, rfl, w0⟩ := O25.decv (hval 0 36 v0 rfl rfl) h0
  clear hA0 hval0
  refine (deskNobody_walk w0).mono fun e W' ⟨he, bel⟩ => ?_
  subst he
  exact ⟨_, rfl, _, _, _, [], _, [], hW', trodAll_mk1 (shut_bool Try.underlying4 _), (trodAll_cons_mk (Below.trod laidOut (by kernel_rfl) (of_decide_eq_true (by kernel_rfl)) k0 bel lt0) trodAll_mk0), rfl, bel.frame _, fun h => by cases h⟩

theorem over : Rows.deskNobodyRow.holds Try.pinned (OpenSpec.ofChange Rows.deskNobodySpec) :=
  OpenClaim.holds_of_wide 6 Try.f6 rfl rfl rfl rfl rfl rfl rfl ⟨rfl, rfl, rfl, rfl, rfl⟩ rfl rfl rfl rfl rfl (by kernel_rfl) Try.func6 (by kernel_rfl)
    (of_decide_eq_true (by kernel_rfl)) (by unfold Func.isWrapper; first | (rw [if_pos (by decide +kernel)]; kernel_rfl) | (rw [if_neg (by decide +kernel)]; exact ⟨rfl, rfl⟩))
    (fun os started H enc _ => lifted os started H enc)
/-- The given statement. -/
theorem proved : Rows.DeskNobodySaid := over
end deskNobody

end Go.Proofs.Ytkcpldkdnnhmmaa
