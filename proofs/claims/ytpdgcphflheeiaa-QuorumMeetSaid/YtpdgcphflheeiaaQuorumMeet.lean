/- QuorumMeet: two majorities of one set have a node in common, and so have those of two sets of which one has one node more, for every input. -/
import Derived.Test.YtpdgcphflheeiaaQl
import Derived.Test.YtpdgcphflheeiaaQw
namespace Go.Proofs.Ytpdgcphflheeiaa
open Go.RowKit
set_option maxRecDepth 20000

theorem with1_any (s : Nat) (n : Int) (W : World) (hs : s < 18446744073709551616) :
    Calls Try.prog 8 #[.int .u64 (s : Int), .slice (some ⟨W.heap.size, 0, none⟩) 1 1] (W.alloc (.cells #[.int .i64 n] 3)) fun e w' => e = .returned (.int .u64 ((with1 s n : Nat) : Int)) ∧ Below W.heap.size W w' := by
  have := with_any (w := W.alloc (.cells (is [n]).toArray 3)) (l := [n]) s hs (is_lit (cs := [n]) (by simp)) (by simp)
  exact this.mono fun e w' h => ⟨h.1, h.2 ▸ (Below.refl _ _).alloc (Nat.le_refl _) _⟩
theorem and_zero (a b o : Nat) (ha : a < 18446744073709551616) (hb : b < 18446744073709551616) (ho : o < 18446744073709551616) :
    bits .and .u64 (a : Int) (b : Int) = ((a &&& b : Nat) : Int) ∧ bits .and .u64 ((a &&& b : Nat) : Int) (o : Int) = ((a &&& b &&& o : Nat) : Int) :=
  ⟨bits_and_u64_nat a b ha hb, bits_and_u64_nat _ o (and_lt64 b ha) ho⟩
set_option maxHeartbeats 2000000 in
theorem quorumMeet_walk {w : World} (a b o : Nat) (ha : a < 18446744073709551616) (hb : b < 18446744073709551616) (ho : o < 18446744073709551616) (n : Int) :
    Calls Try.prog 5 #[.int .u64 (a : Int), .int .u64 (b : Int), .int .u64 (o : Int), .int .i64 n] w fun e w' => e = .returned (.bool true) ∧ Below w.heap.size w w' := by
  have HW := Lib.hid (fun W => with1_any o n W ho)
  have hm := with1_lt n ho
  have HA := Lib.hid (fun (W : World) => maj_any a o W ha ho)
  have HB := Lib.hid (fun (W : World) => maj_any b o W hb ho)
  have HM := Lib.hid (fun (W : World) => maj_any b (with1 o n) W hb hm)
  have HL := Lib.hid (fun W => lives20 W)
  have k1 := and_zero a b o ha hb ho
  have k2 := and_zero a b (with1 o n) ha hb hm
  have M1 := maj_meet a b o
  have M2 := maj_more a b o n
  obtain ⟨e1, e2⟩ := k1
  obtain ⟨_, e3⟩ := k2
  clear ha hb ho hm
  generalize with1 o n = m at *
  generalize majB a o = x at *
  generalize majB b o = y at *
  generalize majB b m = z at *
  generalize a &&& b = c at *
  generalize c &&& o = p at *
  generalize c &&& m = q at *
  have d1 : x = true → y = true → ((p : Int) == 0) = false := by
    intro h1 h2
    have := M1 h1 h2
    simp; omega
  have d2 : x = true → z = true → (((q : Int) == 0) = false ∧ (q == 0) = false ∧ ((q : Int) != 0) = true ∧ (!((q : Int) == 0)) = true ∧ ¬ q = 0 ∧ 0 < q) := by
    intro h1 h2
    have := M2 h1 h2
    refine ⟨by simp; omega, by simp; omega, by simp; omega, by simp; omega, this, by omega⟩
  clear M1 M2
  cases x with
  | false =>
    clear d1 d2
    go_enter Try.func5, Try.ntmps5
    go_wp2_with (first
      | (go_at_call 8; (with_reducible refine (HW.out _).mono ?_); rintro e w3 ⟨rfl, hb3⟩; have HB3 := Lib.hid hb3; clear hb3)
      | (go_at_call 15; (with_reducible refine (HA.out _).mono ?_); rintro e w4 ⟨rfl, rfl⟩)
      | (go_at_call 7; refine (HL.out _).mono ?_; rintro e w5 ⟨rfl, hb5⟩)
      | fail)
    go_ret
    exact ⟨rfl, HB3.out.trans (hb5.mono HB3.out.size)⟩
  | true =>
    cases y with
    | false =>
      cases z with
      | false =>
        clear d1 d2
        go_enter Try.func5, Try.ntmps5
        go_wp2_with (first
          | (go_at_call 8; (with_reducible refine (HW.out _).mono ?_); rintro e w3 ⟨rfl, hb3⟩; have HB3 := Lib.hid hb3; clear hb3)
          | (go_at_call 15; (with_reducible refine (HA.out _).mono ?_); rintro e w4 ⟨rfl, rfl⟩)
          | (go_at_call 15; (with_reducible refine (HB.out _).mono ?_); rintro e w4 ⟨rfl, rfl⟩)
          | (go_at_call 15; (with_reducible refine (HM.out _).mono ?_); rintro e w4 ⟨rfl, rfl⟩)
          | (go_at_call 7; refine (HL.out _).mono ?_; rintro e w5 ⟨rfl, hb5⟩)
          | fail)
        go_ret
        exact ⟨rfl, HB3.out.trans (hb5.mono HB3.out.size)⟩
      | true =>
        obtain ⟨d3, d5, d6, d7, d8, d9⟩ := d2 rfl rfl
        clear d1 d2
        go_enter Try.func5, Try.ntmps5
        go_wp2_with (first
          | (go_at_call 8; (with_reducible refine (HW.out _).mono ?_); rintro e w3 ⟨rfl, hb3⟩; have HB3 := Lib.hid hb3; clear hb3)
          | (go_at_call 15; (with_reducible refine (HA.out _).mono ?_); rintro e w4 ⟨rfl, rfl⟩)
          | (go_at_call 15; (with_reducible refine (HB.out _).mono ?_); rintro e w4 ⟨rfl, rfl⟩)
          | (go_at_call 15; (with_reducible refine (HM.out _).mono ?_); rintro e w4 ⟨rfl, rfl⟩)
          | (go_at_call 7; refine (HL.out _).mono ?_; rintro e w5 ⟨rfl, hb5⟩)
          | fail)
        go_ret
        exact ⟨rfl, HB3.out.trans (hb5.mono HB3.out.size)⟩
    | true =>
      have d4 := d1 rfl rfl
      cases z with
      | false =>
        clear d1 d2
        go_enter Try.func5, Try.ntmps5
        go_wp2_with (first
          | (go_at_call 8; (with_reducible refine (HW.out _).mono ?_); rintro e w3 ⟨rfl, hb3⟩; have HB3 := Lib.hid hb3; clear hb3)
          | (go_at_call 15; (with_reducible refine (HA.out _).mono ?_); rintro e w4 ⟨rfl, rfl⟩)
          | (go_at_call 15; (with_reducible refine (HB.out _).mono ?_); rintro e w4 ⟨rfl, rfl⟩)
          | (go_at_call 15; (with_reducible refine (HM.out _).mono ?_); rintro e w4 ⟨rfl, rfl⟩)
          | (go_at_call 7; refine (HL.out _).mono ?_; rintro e w5 ⟨rfl, hb5⟩)
          | fail)
        go_ret
        exact ⟨rfl, HB3.out.trans (hb5.mono HB3.out.size)⟩
      | true =>
        obtain ⟨d3, d5, d6, d7, d8, d9⟩ := d2 rfl rfl
        clear d1 d2
        go_enter Try.func5, Try.ntmps5
        go_wp2_with (first
          | (go_at_call 8; (with_reducible refine (HW.out _).mono ?_); rintro e w3 ⟨rfl, hb3⟩; have HB3 := Lib.hid hb3; clear hb3)
          | (go_at_call 15; (with_reducible refine (HA.out _).mono ?_); rintro e w4 ⟨rfl, rfl⟩)
          | (go_at_call 15; (with_reducible refine (HB.out _).mono ?_); rintro e w4 ⟨rfl, rfl⟩)
          | (go_at_call 15; (with_reducible refine (HM.out _).mono ?_); rintro e w4 ⟨rfl, rfl⟩)
          | (go_at_call 7; refine (HL.out _).mono ?_; rintro e w5 ⟨rfl, hb5⟩)
          | fail)
        go_ret
        exact ⟨rfl, HB3.out.trans (hb5.mono HB3.out.size)⟩
theorem quorumMeet_top {w : World} (a : Nat) (ha : a < 18446744073709551616) (b : Nat) (hb : b < 18446744073709551616) (o : Nat) (ho : o < 18446744073709551616) (n : Int) (_ : (Lit.int .i64 n).wf = true) :
    Calls Try.prog 5 #[.int .u64 (a : Int), .int .u64 (b : Int), .int .u64 (o : Int), .int .i64 n] w fun e w' => e = .returned (.bool true) ∧ Below w.heap.size w w' := quorumMeet_walk a b o ha hb ho n
namespace quorumMeet
open Go.ChangeShapes Go.WideShapes Go.ChangeAt
set_option maxRecDepth 100000 in
theorem lifted (os : Os) (started : os.Started) (H : Type) (enc : TypeId × Value → H) :
    ReturnsInHanded {} Try.checked os 5 .any (Rows.quorumMeetSpec.pre6 enc Try.prog Try.f5 Rows.quorumMeetRow.domain false) (Rows.quorumMeetSpec.post enc Try.prog Try.f5 false true false false) := by
  refine returnsInHanded_of_change (C := Try.checked) own started (by kernel_rfl) Try.func5
    (ChangeSpec.witness6 (enc := enc) (C := Try.checked) false ⟨#[], #[.int .u64 0, .int .u64 0, .int .u64 0, .int .i64 0], []⟩ 8 (by kernel_rfl) (by kernel_rfl) (by kernel_rfl) (by kernel_rfl)) ?_
  intro W base args ds gs before hval0 hW _ _
  have hval : ∀ (j : Nat) t v, Try.f5.params[j]? = some t → args[j]? = some v → Value.okWide Try.prog W .any base t v := hval0
  have hW' := hW
  obtain ⟨p, q, hA0, hV, rfl, hfz, hnd⟩ := hW
  have hA : DataW.TrodAll enc Try.prog W 0 (fun _ => true) true Try.f5.params.toList args.toList ds p := hA0
  rw [Try.params5] at hA hval
  obtain ⟨v0, vs0, d0, ds0, p0, q0, hargs, rfl, rfl, h0, r0⟩ := trodAll_cons hA
  obtain ⟨v1, vs1, d1, ds1, p1, q1, rfl, rfl, rfl, h1, r1⟩ := trodAll_cons r0
  obtain ⟨v2, vs2, d2, ds2, p2, q2, rfl, rfl, rfl, h2, r2⟩ := trodAll_cons r1
  obtain ⟨v3, vs3, d3, ds3, p3, q3, rfl, rfl, rfl, h3, r3⟩ := trodAll_cons r2
  obtain ⟨rfl, rfl, rfl⟩ := trodAll_nil r3
  obtain rfl : args = #[v0, v1, v2, v3] := by cases args; simp_all
  obtain ⟨rfl, rfl⟩ := trodVars_none hV
  have k0 := h0
  have lt0 : ∀ x ∈ p0, x.block < W.heap.size := by obtain ⟨m, hm⟩ := k0; exact DataW.trod_lt m _ _ _ hm
  obtain ⟨x0, rfl, w0⟩ := dec_u64 Try.underlying22 (hval 0 22 v0 rfl rfl) h0
  have k1 := h1
  have lt1 : ∀ x ∈ p1, x.block < W.heap.size := by obtain ⟨m, hm⟩ := k1; exact DataW.trod_lt m _ _ _ hm
  obtain ⟨x1, rfl, w1⟩ := dec_u64 Try.underlying22 (hval 1 22 v1 rfl rfl) h1
  have k2 := h2
  have lt2 : ∀ x ∈ p2, x.block < W.heap.size := by obtain ⟨m, hm⟩ := k2; exact DataW.trod_lt m _ _ _ hm
  obtain ⟨x2, rfl, w2⟩ := dec_u64 Try.underlying22 (hval 2 22 v2 rfl rfl) h2
  have k3 := h3
  have lt3 : ∀ x ∈ p3, x.block < W.heap.size := by obtain ⟨m, hm⟩ := k3; exact DataW.trod_lt m _ _ _ hm
  obtain ⟨x3, rfl, w3⟩ := dec_int Try.underlying3 (hval 3 3 v3 rfl rfl) h3
  clear hA0 hval0
  refine (quorumMeet_top x0 w0 x1 w1 x2 w2 x3 w3).mono fun e W' ⟨he, bel⟩ => ?_
  subst he
  exact ⟨_, rfl, _, _, _, [], _, [], hW', trodAll_mk1 (shut_bool Try.underlying4 _), (trodAll_cons_mk (Below.trod laidOut (by kernel_rfl) (of_decide_eq_true (by kernel_rfl)) k0 bel lt0) (trodAll_cons_mk (Below.trod laidOut (by kernel_rfl) (of_decide_eq_true (by kernel_rfl)) k1 bel lt1) (trodAll_cons_mk (Below.trod laidOut (by kernel_rfl) (of_decide_eq_true (by kernel_rfl)) k2 bel lt2) (trodAll_cons_mk (Below.trod laidOut (by kernel_rfl) (of_decide_eq_true (by kernel_rfl)) k3 bel lt3) trodAll_mk0)))), rfl, bel.frame _, fun h => by cases h⟩

theorem over : Rows.quorumMeetRow.holds Try.pinned (OpenSpec.ofChange Rows.quorumMeetSpec) :=
  OpenClaim.holds_of_wide 5 Try.f5 rfl rfl rfl rfl rfl rfl rfl ⟨rfl, rfl, rfl, rfl, rfl⟩ rfl rfl rfl rfl rfl (by kernel_rfl) Try.func5 (by kernel_rfl)
    (of_decide_eq_true (by kernel_rfl)) (by unfold Func.isWrapper; first | (rw [if_pos (by decide +kernel)]; kernel_rfl) | (rw [if_neg (by decide +kernel)]; exact ⟨rfl, rfl⟩))
    (fun os started H enc _ => lifted os started H enc)
/-- The given statement. -/
theorem proved : Rows.QuorumMeetSaid := over
end quorumMeet

end Go.Proofs.Ytpdgcphflheeiaa
