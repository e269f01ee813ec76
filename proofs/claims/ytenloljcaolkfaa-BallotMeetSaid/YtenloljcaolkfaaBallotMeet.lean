/- BallotMeet: two ballots of as many nodes that are won have a voter in common. -/
import Derived.Test.YtenloljcaolkfaaBp
import Derived.Test.YtenloljcaolkfaaRowkitb
namespace Go.Proofs.Ytenloljcaolkfaa
open Go.RowKit
set_option maxRecDepth 20000

set_option maxHeartbeats 8000000 in
theorem ballotMeet_walk {w : World} (N : Int) (_ : (Lit.int .i64 N).wf = true) (one : Int) (_ : (Lit.int .i64 one).wf = true) (other : Int) (_ : (Lit.int .i64 other).wf = true)
    (A : Option Addr) (n c : Nat) (l : List Int) (hl : Rd w w.heap.size 1 A n c (Qu.is l)) (_ : ∀ x ∈ l, (Lit.int .i64 x).wf = true) (A' : Option Addr) (n' c' : Nat) (l' : List Int) (hl' : Rd w w.heap.size 1 A' n' c' (Qu.is l')) (_ : ∀ x ∈ l', (Lit.int .i64 x).wf = true) :
    Calls Try.prog 5 #[.int .i64 N, .int .i64 one, .int .i64 other, .slice A n c, .slice A' n' c'] w fun e w' => e = .returned (.bool true) ∧ Below w.heap.size w w' := by
  have HV := Lib.hid lives26
  unfold TVal at HV
  have HL := Lib.hid hl
  have HL2 := Lib.hid hl'
  have hc1 := hl.2.1
  have hn1 := hl.1
  have hc2 := hl'.2.1
  have hn2 := hl'.1
  have hnn : (n : Int) ≤ 9223372036854775807 := by unfold maxLen at hc1; omega
  have hnn2 : (n' : Int) ≤ 9223372036854775807 := by unfold maxLen at hc2; omega
  clear hl hl' hc1 hn1 hc2 hn2
  by_cases h1 : 50 < n
  · have d1 : decide ((50 : Int) < (n : Int)) = true := by simp; omega
    have d1' : (50 : Int) < (n : Int) := by omega
    go_enter Try.func5, Try.ntmps5
    go_wp2_with (first
      | (go_at_call 8; refine (HV.out _).mono ?_; rintro e w8 ⟨rfl, hb8⟩)
      | fail)
    go_ret
    exact ⟨rfl, hb8⟩
  have d1 : decide ((50 : Int) < (n : Int)) = false := by simp; omega
  have d1' : ¬ (50 : Int) < (n : Int) := by omega
  by_cases h2 : 50 < n'
  · have d2 : decide ((50 : Int) < (n' : Int)) = true := by simp; omega
    have d2' : (50 : Int) < (n' : Int) := by omega
    go_enter Try.func5, Try.ntmps5
    go_wp2_with (first
      | (go_at_call 8; refine (HV.out _).mono ?_; rintro e w8 ⟨rfl, hb8⟩)
      | fail)
    go_ret
    exact ⟨rfl, hb8⟩
  have d2 : decide ((50 : Int) < (n' : Int)) = false := by simp; omega
  have d2' : ¬ (50 : Int) < (n' : Int) := by omega
  have HN1 : ∀ W : World, Calls Try.prog 9 #[.int .i64 N, .int .i64 one, .int .u64 1, .int .u64 0, .slice none 0 0] W (TNewO W N 1 0) := fun W => new_any (es := []) ⟨Rd.nil_, rfl, fun _ h => by cases h⟩ (fun _ h => by cases h) (by decide) N one 1 0 (by decide) (by decide)
  have HN2 : ∀ W : World, Calls Try.prog 9 #[.int .i64 N, .int .i64 other, .int .u64 2, .int .u64 0, .slice none 0 0] W (TNewO W N 2 0) := fun W => new_any (es := []) ⟨Rd.nil_, rfl, fun _ h => by cases h⟩ (fun _ h => by cases h) (by decide) N other 2 0 (by decide) (by decide)
  have HNA := Lib.hid HN1
  have HNB := Lib.hid HN2
  clear HN1 HN2
  go_enter Try.func5, Try.ntmps5
  go_wp2_with (first
    | (go_at_call 9
       refine (HNA.out _).mono ?_
       clear HNA
       rintro e w1 ⟨pa, oa, rfl, hpa, hna, hb1⟩
       have HPA := Lib.hid hpa
       have HA := Lib.hid hna
       have HB1 := Lib.hid hb1
       clear hpa hna hb1)
    | (go_at_call 9
       refine (HNB.out _).mono ?_
       clear HNB
       rintro e w2 ⟨pb, ob, rfl, hpb, hnb, hb2⟩
       have HMJ := Lib.hid (show MJ w w2 pa pb N oa ob from ⟨HB1.out.trans (hb2.mono HB1.out.size), HPA.out.below hb2, hpb, fun b x e => ⟨(HA.out b x e).1, (HA.out b x e).2.2.2⟩, fun b x e => ⟨(hnb b x e).1, Nat.le_trans HB1.out.size (hnb b x e).2.2.2⟩, fun b x b' x' e e' hm => by
         have h4 := (hnb b' x' e').2.2.2
         have h5 := HPA.out
         rw [e] at h5
         have h6 := h5.2.map.lt
         omega⟩)
       clear hpb hnb hb2 HB1 HPA HA)
    | fail)
  go_loopw [14, 34] (fun _ kv wr => ∃ (i : Nat) (oa' : Option (Nat × Bl)), i ≤ n ∧ kv = .int .i64 (i : Int) ∧ Hid (MJ w wr pa pb N oa' ob)) (fun _ kv _ => n - (intOf kv).toNat)
  case atStart => exact ⟨0, oa, Nat.zero_le _, rfl, HMJ⟩
  case round =>
    clear HMJ
    obtain ⟨i, oa', hi, rfl, HM⟩ := hrel
    by_cases hlt : i < n
    · obtain ⟨b1, o1, u, rfl, hb1, hu, hcu⟩ := HL.out.at_ hlt
      obtain ⟨x, hx⟩ : ∃ x, l[i]? = some x := by
        have := HL.out.len
        rw [Qu.is_len] at this
        exact ⟨_, List.getElem?_eq_getElem (by omega)⟩
      have hu2 : u = .int .i64 x := by
        unfold Qu.is at hu
        rw [List.getElem?_map, hx] at hu
        cases hu
        rfl
      subst hu2
      have k0 : wr.cell? ⟨b1, o1 + i, none⟩ = some (.int .i64 x) := (HM.out.bel.cell (p := ⟨b1, o1 + i, none⟩) hb1).trans hcu
      have HLT := Lib.hid hlt
      have hii : (i : Int) < (n : Int) := by omega
      clear hu hcu hb1 hlt
      go_wp2_with (first
        | (go_at_call 10
           refine (mj_grant HM.out x).mono ?_
           rintro e w3 ⟨r0, oa2, rfl, hM2⟩
           have HM2 := Lib.hid hM2
           clear hM2)
        | fail)
      go_roundw
      case rel => exact ⟨i + 1, oa2, HLT.out, by go_num, HM2⟩
      case measure => have := HLT.out; simp [intOf]; omega
    · obtain rfl : i = n := by omega
      go_wp2_with (fail)
      go_loopw [16, 44] (fun _ kv wr => ∃ (i : Nat) (ob' : Option (Nat × Bl)), i ≤ n' ∧ kv = .int .i64 (i : Int) ∧ Hid (MJ w wr pa pb N oa' ob')) (fun _ kv _ => n' - (intOf kv).toNat)
      case atStart => exact ⟨0, ob, Nat.zero_le _, rfl, HM⟩
      case round =>
        clear HM
        obtain ⟨j, ob', hj, rfl, HM⟩ := hrel
        by_cases hlt : j < n'
        · obtain ⟨b1, o1, u, rfl, hb1, hu, hcu⟩ := HL2.out.at_ hlt
          obtain ⟨x, hx⟩ : ∃ x, l'[j]? = some x := by
            have := HL2.out.len
            rw [Qu.is_len] at this
            exact ⟨_, List.getElem?_eq_getElem (by omega)⟩
          have hu2 : u = .int .i64 x := by
            unfold Qu.is at hu
            rw [List.getElem?_map, hx] at hu
            cases hu
            rfl
          subst hu2
          have k0 := (HM.out.bel.cell (p := ⟨b1, o1 + j, none⟩) hb1).trans hcu
          have HLT := Lib.hid hlt
          have hjj : (j : Int) < (n' : Int) := by omega
          clear hu hcu hb1 hlt
          go_wp2_with (first
            | (go_at_call 10
               refine (mj_grant HM.out.turn x).mono ?_
               rintro e w3 ⟨r0, ob2, rfl, hM2⟩
               have HM2 := Lib.hid hM2.turn
               clear hM2)
            | fail)
          go_roundw
          case rel => exact ⟨j + 1, ob2, HLT.out, by go_num, HM2⟩
          case measure => have := HLT.out; simp [intOf]; omega
        · obtain rfl : j = n' := by omega
          have HME := Lib.hid (fun h1 h2 => mj_meet HM.out h1 h2)
          have HVA := Lib.hid (votO_lt oa')
          have HVB := Lib.hid (votO_lt ob')
          have HWA := Lib.hid (fun w' (hb : Below wr.heap.size wr w') => bp_won (HM.out.below hb).a)
          have HWB := Lib.hid (fun w' (hb : Below wr.heap.size wr w') => bp_won (HM.out.below hb).b)
          have HOA := Lib.hid (fun w' (hb : Below wr.heap.size wr w') => bp_vot (HM.out.below hb).a)
          have HOB := Lib.hid (fun w' (hb : Below wr.heap.size wr w') => bp_vot (HM.out.below hb).b)
          have HBW := Lib.hid HM.out.bel
          unfold TVal at HWA HWB HOA HOB
          generalize wonO oa' = WA at *
          generalize wonO ob' = WB at *
          generalize votO oa' = VA at *
          generalize votO ob' = VB at *
          clear HM
          have e1 := bits_and_u64_nat VA VB HVA.out HVB.out
          cases WA
          · go_wp2_with (first
              | (go_at_call 14; refine (HWA.out _ (Below.refl _ _)).mono ?_; rintro e w4 ⟨rfl, hb4⟩)
              | (go_at_call 8; refine (HV.out _).mono ?_; rintro e w8 ⟨rfl, hb8⟩)
              | fail)
            go_ret
            exact ⟨rfl, HBW.out.trans ((hb4.trans (hb8.mono hb4.size)).mono HBW.out.size)⟩
          · cases WB
            · go_wp2_with (first
                | (go_at_call 14; refine (HWA.out _ (Below.refl _ _)).mono ?_; clear HWA; rintro e w4 ⟨rfl, hb4⟩)
                | (go_at_call 14; refine (HWB.out _ hb4).mono ?_; rintro e w5 ⟨rfl, hb5⟩; have HB5 := Lib.hid (hb4.trans (hb5.mono hb4.size)); clear hb5)
                | (go_at_call 8; refine (HV.out _).mono ?_; rintro e w8 ⟨rfl, hb8⟩)
                | fail)
              go_ret
              exact ⟨rfl, HBW.out.trans ((HB5.out.trans (hb8.mono HB5.out.size)).mono HBW.out.size)⟩
            · have hne := HME.out rfl rfl
              have hz : decide (((VA &&& VB : Nat) : Int) = 0) = false := by simp; omega
              have hz2 : ¬ ((VA &&& VB : Nat) : Int) = 0 := by omega
              have HZ2 := Lib.hid hz2
              clear hne
              go_wp2_with (first
                | (go_at_call 14; refine (HWA.out _ (Below.refl _ _)).mono ?_; clear HWA; rintro e w4 ⟨rfl, hb4⟩; have HB4 := Lib.hid hb4; clear hb4)
                | (go_at_call 14; refine (HWB.out _ HB4.out).mono ?_; clear HWB; rintro e w5 ⟨rfl, hb5⟩; have HB5 := Lib.hid (HB4.out.trans (hb5.mono HB4.out.size)); clear hb5)
                | (go_at_call 12; refine (HOA.out _ HB5.out).mono ?_; clear HOA; rintro e w6 ⟨rfl, hb6⟩; have HB6 := Lib.hid (HB5.out.trans (hb6.mono HB5.out.size)); clear hb6)
                | (go_at_call 12; refine (HOB.out _ HB6.out).mono ?_; clear HOB; rintro e w7 ⟨rfl, hb7⟩; have HB7 := Lib.hid (HB6.out.trans (hb7.mono HB6.out.size)); clear hb7)
                | (go_at_call 8; refine (HV.out _).mono ?_; rintro e w8 ⟨rfl, hb8⟩)
                | fail)
              go_ret
              exact ⟨ret_bool (bne_iff_ne.2 HZ2.out), HBW.out.trans ((HB7.out.trans (hb8.mono HB7.out.size)).mono HBW.out.size)⟩
namespace ballotMeet
open Go.ChangeShapes Go.WideShapes Go.ChangeAt
set_option maxRecDepth 100000 in
theorem lifted (os : Os) (started : os.Started) (H : Type) (enc : TypeId × Value → H) :
    ReturnsInHanded {} Try.checked os 5 .any (Rows.ballotMeetSpec.pre6 enc Try.prog Try.f5 Rows.ballotMeetRow.domain false) (Rows.ballotMeetSpec.post enc Try.prog Try.f5 false true false false) := by
  refine returnsInHanded_of_change (C := Try.checked) own started (by kernel_rfl) Try.func5
    (ChangeSpec.witness6 (enc := enc) (C := Try.checked) false ⟨#[], #[.int .i64 0, .int .i64 0, .int .i64 0, .slice none 0 0, .slice none 0 0], []⟩ 8 (by kernel_rfl) (by kernel_rfl) (by kernel_rfl) (by kernel_rfl)) ?_
  intro W base args ds gs before hval0 hW _ _
  have hval : ∀ (j : Nat) t v, Try.f5.params[j]? = some t → args[j]? = some v → Value.okWide Try.prog W .any base t v := hval0
  have hW' := hW
  obtain ⟨p, q, hA0, hV, rfl, hfz, hnd⟩ := hW
  have hA : DataW.TrodAll enc Try.prog W 0 (fun _ => true) true Try.f5.params.toList args.toList ds p := hA0
  rw [Try.params5] at hA hval
  obtain ⟨v0, vs0, d0, ds0, p0, q0, hargs, rfl, rfl, h0, r0⟩ := trodAll_cons hA
  obtain ⟨v1, vs1, d1, ds1, p1, q1, rfl, rfl, rfl, h1, r1⟩ := trodAll_cons r0
  obtain ⟨v2, vs2, d2, ds2, p2, q2, rfl, rfl, rfl, h2, r2⟩ := trodAll_cons r1
  obtain ⟨v3, vs3, d3, ds3, p3, q3, rfl, rfl, rfl, h3, r3⟩ := trodAll_cons r2
  obtain ⟨v4, vs4, d4, ds4, p4, q4, rfl, rfl, rfl, h4, r4⟩ := trodAll_cons r3
  obtain ⟨rfl, rfl, rfl⟩ := trodAll_nil r4
  obtain rfl : args = #[v0, v1, v2, v3, v4] := by cases args; simp_all
  obtain ⟨rfl, rfl⟩ := trodVars_none hV
  have k0 := h0
  have lt0 : ∀ x ∈ p0, x.block < W.heap.size := by obtain ⟨m, hm⟩ := k0; exact DataW.trod_lt m _ _ _ hm
  obtain ⟨x0, rfl, w0⟩ := dec_int Try.underlying3 (hval 0 3 v0 rfl rfl) h0
  have k1 := h1
  have lt1 : ∀ x ∈ p1, x.block < W.heap.size := by obtain ⟨m, hm⟩ := k1; exact DataW.trod_lt m _ _ _ hm
  obtain ⟨x1, rfl, w1⟩ := dec_int Try.underlying3 (hval 1 3 v1 rfl rfl) h1
  have k2 := h2
  have lt2 : ∀ x ∈ p2, x.block < W.heap.size := by obtain ⟨m, hm⟩ := k2; exact DataW.trod_lt m _ _ _ hm
  obtain ⟨x2, rfl, w2⟩ := dec_int Try.underlying3 (hval 2 3 v2 rfl rfl) h2
  have k3 := h3
  have lt3 : ∀ x ∈ p3, x.block < W.heap.size := by obtain ⟨m, hm⟩ := k3; exact DataW.trod_lt m _ _ _ hm
  obtain ⟨a3, n3, c3, l3, rfl, w3, b3⟩ := dec_nums (k := .i64) Try.underlying42 Try.underlying3 (by kernel_rfl) (hval 3 42 v3 rfl rfl) h3
  have k4 := h4
  have lt4 : ∀ x ∈ p4, x.block < W.heap.size := by obtain ⟨m, hm⟩ := k4; exact DataW.trod_lt m _ _ _ hm
  obtain ⟨a4, n4, c4, l4, rfl, w4, b4⟩ := dec_nums (k := .i64) Try.underlying42 Try.underlying3 (by kernel_rfl) (hval 4 42 v4 rfl rfl) h4
  clear hA0 hval0
  refine (ballotMeet_walk x0 w0 x1 w1 x2 w2 a3 n3 c3 l3 w3 b3 a4 n4 c4 l4 w4 b4).mono fun e W' ⟨he, bel⟩ => ?_
  subst he
  exact ⟨_, rfl, _, _, _, [], _, [], hW', trodAll_mk1 (shut_bool Try.underlying4 _), (trodAll_cons_mk (Below.trod laidOut (by kernel_rfl) (of_decide_eq_true (by kernel_rfl)) k0 bel lt0) (trodAll_cons_mk (Below.trod laidOut (by kernel_rfl) (of_decide_eq_true (by kernel_rfl)) k1 bel lt1) (trodAll_cons_mk (Below.trod laidOut (by kernel_rfl) (of_decide_eq_true (by kernel_rfl)) k2 bel lt2) (trodAll_cons_mk (Below.trod laidOut (by kernel_rfl) (of_decide_eq_true (by kernel_rfl)) k3 bel lt3) (trodAll_cons_mk (Below.trod laidOut (by kernel_rfl) (of_decide_eq_true (by kernel_rfl)) k4 bel lt4) trodAll_mk0))))), rfl, bel.frame _, fun h => by cases h⟩

theorem over : Rows.ballotMeetRow.holds Try.pinned (OpenSpec.ofChange Rows.ballotMeetSpec) :=
  OpenClaim.holds_of_wide 5 Try.f5 rfl rfl rfl rfl rfl rfl rfl ⟨rfl, rfl, rfl, rfl, rfl⟩ rfl rfl rfl rfl rfl (by kernel_rfl) Try.func5 (by kernel_rfl)
    (of_decide_eq_true (by kernel_rfl)) (by unfold Func.isWrapper; first | (rw [if_pos (by decide +kernel)]; kernel_rfl) | (rw [if_neg (by decide +kernel)]; exact ⟨rfl, rfl⟩))
    (fun os started H enc _ => lifted os started H enc)
/-- The given statement. -/
theorem proved : Rows.BallotMeetSaid := over
end ballotMeet

end Go.Proofs.Ytenloljcaolkfaa
