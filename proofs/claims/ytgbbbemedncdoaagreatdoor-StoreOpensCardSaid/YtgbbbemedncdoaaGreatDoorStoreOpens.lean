/- StoreOpens. -/
import Derived.Test.YtgbbbemedncdoaaGreatDoorMtieM
import Derived.Test.YtgbbbemedncdoaaGreatDoorCards
import Derived.Test.YtgbbbemedncdoaaGreatDoorTie
namespace Go.Proofs.YtgbbbemedncdoaaGreatDoor
open Go.RowKit
set_option maxRecDepth 20000

theorem sneed_is (n : Nat) : sNeed n = 2 * ((151 + 4 * n) / 48) + (2 * n + 8) := rfl
set_option maxHeartbeats 1000000 in
theorem sOpens_bad {w : World} (s : Int) (b : Int) (n : Nat) (hn : n < 4294967296) (hT : Tab w) (h : ¬ (1 ≤ n ∧ n ≤ 64)) :
    Calls Tryz.prog 6 #[.int .i64 s, .int .i64 b, .int .u32 (n : Int)] w fun e w' => e = .returned (.bool true) ∧ Below w.heap.size w w' := by
  have hN : Calls Tryz.prog 11 #[.int .i64 s] w fun e w' => ∃ G, e = .returned (.pointer G) ∧ Below w.heap.size w w' := by
    by_cases hs : 1 ≤ s ∧ s ≤ 65536
    · obtain ⟨k, rfl⟩ : ∃ k : Nat, s = (k : Int) := ⟨s.toNat, by omega⟩
      refine (dl_new k w (by omega) (by omega)).mono ?_
      rintro e w' ⟨g, rfl, hD⟩
      obtain ⟨_, _, _, hb⟩ := hD
      exact ⟨_, rfl, hb⟩
    · refine (new_bad s w hs).mono ?_
      rintro e w' ⟨rfl, rfl⟩
      exact ⟨_, rfl, Below.refl _ _⟩
  have HN := Lib.hid hN
  have HO := Lib.hid (fun G W => sop_may n h G b W)
  have hss := fun W => ssectors_any n W
  rw [if_neg h] at hss
  have HSS := Lib.hid hss
  have HLV := Lib.hid (fun (W : World) (hb : Below w.heap.size w W) => lives16 W (hT.below hb))
  have q : (decide ((1 : Int) ≤ (n : Int)) && decide ((n : Int) ≤ 64)) = false := by simp; omega
  have q0 : decide ((1 : Int) ≤ (n : Int)) = true → decide ((n : Int) ≤ 64) = false := by simp; omega
  clear hN hss hT
  go_enter Tryz.func6, Tryz.ntmps6
  go_wp2_with (first
    | (go_at_call 11; go_loud (refine HN.out.mono ?_); clear HN; rintro e w1 ⟨G, rfl, hb1⟩)
    | (go_at_call 10; go_loud (refine (HO.out G w1).mono ?_); clear HO; rintro e w2 ⟨rfl, rfl⟩)
    | (go_at_call 22; go_loud (refine (HSS.out _).mono ?_); rintro e w3 ⟨rfl, rfl⟩)
    | (go_at_call 9; go_loud (refine (HLV.out _ hb1).mono ?_); rintro e w4 ⟨rfl, hb4⟩)
    | fail)
  all_goals
    go_ret
    exact ⟨rfl, hb1.trans (hb4.mono hb1.size)⟩
set_option maxHeartbeats 1000000 in
theorem sOpens_good {w : World} (N : Nat) (hN1 : 1 ≤ N) (hN2 : N ≤ 65536) (b : Int) (n : Nat) (hT : Tab w) (h : 1 ≤ n ∧ n ≤ 64) (hb : 0 ≤ b ∧ b + sNeed n ≤ (N : Int)) :
    Calls Tryz.prog 6 #[.int .i64 (N : Int), .int .i64 b, .int .u32 (n : Int)] w fun e w' => e = .returned (.bool true) ∧ Below w.heap.size w w' := by
  have HN := Lib.hid (dl_new N w hN1 hN2)
  have HO := Lib.hid (fun W B g (hD : Dlx X0 w W B g 0 (Dv.new N)) => sopen_new hD b n h.1 h.2 hb.1 hb.2)
  have hss := fun W => ssectors_any n W
  rw [if_pos h] at hss
  have HSS := Lib.hid hss
  have HLV := Lib.hid (fun (W : World) (hb : Below w.heap.size w W) => lives16 W (hT.below hb))
  have q1 : decide ((1 : Int) ≤ (n : Int)) = true := by simp; omega
  have q2 : decide ((n : Int) ≤ 64) = true := by simp; omega
  have hne := sneed_is n
  have HNE := Lib.hid hne
  have HB := Lib.hid hb
  have HNN := Lib.hid hN2
  generalize sNeed n = need at *
  have hn2 := h.2
  clear hss hT h hb hne hN1 hN2
  go_enter Tryz.func6, Tryz.ntmps6
  go_upto_region 6 with (first
    | (go_at_call 11; go_loud (refine HN.out.mono ?_); clear HN; rintro e w1 ⟨g, rfl, hD⟩
       have HO1 := Lib.hid (HO.out w1 _ g (hD.dlx (X := X0) (Below.refl _ _) (fun _ h => h.elim)))
       clear HO hD)
    | (go_at_call 10; go_loud (refine HO1.out.mono ?_); clear HO1; rintro e w2 ⟨T, S, bn, bs, t, rfl, hS, hB2⟩)
    | fail)
  have en : 2 * ((96 + 4 * (n : Int) + 8 + 47) / 48) + 2 * (n : Int) + 8 = (need : Int) := by
    have := HNE.out
    omega
  rw [en]
  have hnb : need ≤ 65536 ∧ 0 < need := by have := HNE.out; omega
  have k1 : ((need : Int) == 0) = false := by simp; omega
  have k2 : decide (b < 0) = false := by have := HB.out.1; simp; omega
  have k3 : IntKind.i64.wrap ((N : Int) - (need : Int)) = (N : Int) - (need : Int) := by
    have := HB.out
    have := HNN.out
    simp [IntKind.wrap, IntKind.signed, IntKind.bits]
    omega
  have k4 : decide ((N : Int) - (need : Int) < b) = false := by have := HB.out.2; simp; omega
  clear en hnb hn2
  have hbw := hS.tlx.bel
  have HBW := Lib.hid hbw
  have HROW := Lib.hid hS.row
  clear hS hB2 hbw
  go_wp2_with (first
    | (go_at_call 22; go_loud (refine (HSS.out _).mono ?_); rintro e w3 ⟨rfl, rfl⟩)
    | (go_at_call 23; go_loud (refine (sblocks_any HROW.out).mono ?_); rintro e w5 ⟨rfl, rfl⟩)
    | (go_at_call 24; go_loud (refine (ssaved_any HROW.out).mono ?_); rintro e w6 ⟨rfl, rfl⟩)
    | (go_at_call 9; go_loud (refine (HLV.out _ HBW.out).mono ?_); rintro e w4 ⟨rfl, hb4⟩)
    | fail)
  go_ret
  exact ⟨rfl, HBW.out.trans (hb4.mono HBW.out.size)⟩
set_option maxHeartbeats 1000000 in
theorem sOpens_out {w : World} (N : Nat) (hN1 : 1 ≤ N) (hN2 : N ≤ 65536) (b : Int) (n : Nat) (hT : Tab w) (h : 1 ≤ n ∧ n ≤ 64) (hb : ¬ (0 ≤ b ∧ b + sNeed n ≤ (N : Int))) :
    Calls Tryz.prog 6 #[.int .i64 (N : Int), .int .i64 b, .int .u32 (n : Int)] w fun e w' => e = .returned (.bool true) ∧ Below w.heap.size w w' := by
  have HN := Lib.hid (dl_new N w hN1 hN2)
  have HO := Lib.hid (fun W B g (hD : Dlx X0 w W B g 0 (Dv.new N)) => sop_out hD rfl b n h hb)
  have hss := fun W => ssectors_any n W
  rw [if_pos h] at hss
  have HSS := Lib.hid hss
  have HLV := Lib.hid (fun (W : World) (hb : Below w.heap.size w W) => lives16 W (hT.below hb))
  have q1 : decide ((1 : Int) ≤ (n : Int)) = true := by simp; omega
  have q2 : decide ((n : Int) ≤ 64) = true := by simp; omega
  have hne := sneed_is n
  have HNE := Lib.hid hne
  have HB := Lib.hid hb
  have HNN := Lib.hid (And.intro hN1 hN2)
  generalize sNeed n = need at *
  have hn2 := h.2
  clear hss hT h hb hne hN1 hN2
  go_enter Tryz.func6, Tryz.ntmps6
  go_upto_region 6 with (first
    | (go_at_call 11; go_loud (refine HN.out.mono ?_); clear HN; rintro e w1 ⟨g, rfl, hD⟩
       have hdx := hD.dlx (X := X0) (Below.refl _ _) (fun _ h => h.elim)
       have HO1 := Lib.hid (HO.out w1 _ g hdx)
       have HB1 := Lib.hid hdx.bel
       clear HO hD hdx)
    | (go_at_call 10; go_loud (refine HO1.out.mono ?_); clear HO1; rintro e w2 ⟨rfl, hB2⟩)
    | fail)
  have en : 2 * ((96 + 4 * (n : Int) + 8 + 47) / 48) + 2 * (n : Int) + 8 = (need : Int) := by
    have := HNE.out
    omega
  rw [en]
  have hnb : need ≤ 65536 ∧ 0 < need := by have := HNE.out; omega
  have k1 : ((need : Int) == 0) = false := by simp; omega
  have k3 : IntKind.i64.wrap ((N : Int) - (need : Int)) = (N : Int) - (need : Int) := by
    have := HNN.out
    simp [IntKind.wrap, IntKind.signed, IntKind.bits]
    omega
  have hbw := HB1.out.trans (hB2.mono HB1.out.size)
  have HBW := Lib.hid hbw
  clear en hn2 hB2 hbw HB1
  by_cases hb0 : b < 0
  · have k2 : decide (b < 0) = true := by simpa using hb0
    clear hnb hb0
    go_wp2_with (first
      | (go_at_call 22; go_loud (refine (HSS.out _).mono ?_); rintro e w3 ⟨rfl, rfl⟩)
      | (go_at_call 9; go_loud (refine (HLV.out _ HBW.out).mono ?_); rintro e w4 ⟨rfl, hb4⟩)
      | fail)
    go_ret
    exact ⟨rfl, HBW.out.trans (hb4.mono HBW.out.size)⟩
  · have k2 : decide (b < 0) = false := by simpa using hb0
    have k4 : decide ((N : Int) - (need : Int) < b) = true := by have := HB.out; simp; omega
    clear hnb hb0
    go_wp2_with (first
      | (go_at_call 22; go_loud (refine (HSS.out _).mono ?_); rintro e w3 ⟨rfl, rfl⟩)
      | (go_at_call 9; go_loud (refine (HLV.out _ HBW.out).mono ?_); rintro e w4 ⟨rfl, hb4⟩)
      | fail)
    go_ret
    exact ⟨rfl, HBW.out.trans (hb4.mono HBW.out.size)⟩
set_option maxHeartbeats 1000000 in
theorem sOpens_nil {w : World} (s : Int) (hs : ¬ (1 ≤ s ∧ s ≤ 65536)) (b : Int) (n : Nat) (hT : Tab w) (h : 1 ≤ n ∧ n ≤ 64) :
    Calls Tryz.prog 6 #[.int .i64 s, .int .i64 b, .int .u32 (n : Int)] w fun e w' => e = .returned (.bool true) ∧ Below w.heap.size w w' := by
  have HN := Lib.hid (new_bad s w hs)
  have HO := Lib.hid (sop_nil n h b w)
  have hss := fun W => ssectors_any n W
  rw [if_pos h] at hss
  have HSS := Lib.hid hss
  have HLV := Lib.hid (lives16 w hT)
  have q1 : decide ((1 : Int) ≤ (n : Int)) = true := by simp; omega
  have q2 : decide ((n : Int) ≤ 64) = true := by simp; omega
  have hne := sneed_is n
  have HNE := Lib.hid hne
  generalize sNeed n = need at *
  have hn2 := h.2
  clear hss hT h hne hs
  go_enter Tryz.func6, Tryz.ntmps6
  go_upto_region 6 with (first
    | (go_at_call 11; go_loud (refine HN.out.mono ?_); clear HN; rintro e w1 ⟨rfl, rfl⟩)
    | (go_at_call 10; go_loud (refine HO.out.mono ?_); clear HO; rintro e w2 ⟨rfl, rfl⟩)
    | fail)
  have en : 2 * ((96 + 4 * (n : Int) + 8 + 47) / 48) + 2 * (n : Int) + 8 = (need : Int) := by
    have := HNE.out
    omega
  rw [en]
  have hnb : need ≤ 65536 ∧ 0 < need := by have := HNE.out; omega
  have k1 : ((need : Int) == 0) = false := by simp; omega
  clear en hnb hn2
  go_wp2_with (first
    | (go_at_call 22; go_loud (refine (HSS.out _).mono ?_); rintro e w3 ⟨rfl, rfl⟩)
    | (go_at_call 9; go_loud (refine HLV.out.mono ?_); rintro e w4 ⟨rfl, hb4⟩)
    | fail)
  go_ret
  exact ⟨rfl, hb4⟩
theorem storeOpens_walk {w : World} (s : Int) (_hs : (Lit.int .i64 s).wf = true) (b : Int) (_hb : (Lit.int .i64 b).wf = true) (x : Int) (hx : (Lit.int .u32 x).wf = true) (hT : Tab w) :
    Calls Tryz.prog 6 #[.int .i64 s, .int .i64 b, .int .u32 x] w fun e w' => e = .returned (.bool true) ∧ Below w.heap.size w w' := by
  obtain ⟨n, rfl, hn⟩ : ∃ n : Nat, x = (n : Int) ∧ n < 4294967296 := by
    simp [Lit.wf, IntKind.min, IntKind.max, IntKind.signed, IntKind.bits] at hx
    exact ⟨x.toNat, by omega, by omega⟩
  by_cases h : 1 ≤ n ∧ n ≤ 64
  · by_cases hs : 1 ≤ s ∧ s ≤ 65536
    · obtain ⟨N, rfl⟩ : ∃ k : Nat, s = (k : Int) := ⟨s.toNat, by omega⟩
      by_cases hb : 0 ≤ b ∧ b + sNeed n ≤ (N : Int)
      · exact sOpens_good N (by omega) (by omega) b n hT h hb
      · exact sOpens_out N (by omega) (by omega) b n hT h hb
    · exact sOpens_nil s hs b n hT h
  · exact sOpens_bad s b n hn hT h
namespace storeOpens
open Go.ChangeShapes Go.WideShapes Go.ChangeAt
set_option maxRecDepth 100000 in
theorem lifted (os : Os) (started : os.Started) (H : Type) (enc : TypeId × Value → H) :
    ReturnsInHanded {} Tryz.checked os 6 .any (fun w args => (Rows.storeOpensSpec.pre enc Tryz.prog Tryz.f6 [] false w args ∧ laidMetH Tryz.prog laidL w) ∧ sizedMet enc Tryz.prog Tryz.f6 (OpenSpec.ofChange Rows.storeOpensSpec) false w args)
      (Rows.storeOpensSpec.post enc Tryz.prog Tryz.f6 false true false false) := by
  refine returnsInHanded_of_change_and (C := Tryz.checked) (X := fun w _ => laidMetH Tryz.prog laidL w) (fun _ _ _ hh h => h.of_heap hh) own started (by kernel_rfl) Tryz.func6
    (ChangeSpec.witness_shaped (enc := enc) (C := Tryz.checked) (os := os) (X := fun w _ => laidMetH Tryz.prog laidL w) false (World.doorLaid Tryz.prog 400 os) #[.int .i64 0, .int .i64 0, .int .u32 0] 8 rfl (World.shaped_of_RefB (by kernel_rfl) (by kernel_rfl)) (by kernel_rfl) (by kernel_rfl) (by kernel_rfl) (door_met os _)) ?_
  intro W base args ds gs before hval0 hW _ _ hL _
  have hval : ∀ (j : Nat) t v, Tryz.f6.params[j]? = some t → args[j]? = some v → Value.okWide Tryz.prog W .any base t v := hval0
  have hW' := hW
  obtain ⟨p, q, hA0, hV, rfl, hfz, hnd⟩ := hW
  have hA : DataW.TrodAll enc Tryz.prog W 0 (fun _ => true) true Tryz.f6.params.toList args.toList ds p := hA0
  rw [Tryz.params6] at hA hval
  obtain ⟨v0, vs0, d0, ds0, p0, q0, hargs, rfl, rfl, h0, r0⟩ := trodAll_cons hA
  obtain ⟨v1, vs1, d1, ds1, p1, q1, rfl, rfl, rfl, h1, r1⟩ := trodAll_cons r0
  obtain ⟨v2, vs2, d2, ds2, p2, q2, rfl, rfl, rfl, h2, r2⟩ := trodAll_cons r1
  obtain ⟨rfl, rfl, rfl⟩ := trodAll_nil r2
  obtain rfl : args = #[v0, v1, v2] := by cases args; simp_all
  obtain ⟨rfl, rfl⟩ := trodVars_none hV
  have k0 := h0
  have lt0 : ∀ x ∈ p0, x.block < W.heap.size := by obtain ⟨m, hm⟩ := k0; exact DataW.trod_lt m _ _ _ hm
  obtain ⟨x0, rfl, w0⟩ := dec_int Tryz.underlying3 (hval 0 3 v0 rfl rfl) h0
  have k1 := h1
  have lt1 : ∀ x ∈ p1, x.block < W.heap.size := by obtain ⟨m, hm⟩ := k1; exact DataW.trod_lt m _ _ _ hm
  obtain ⟨x1, rfl, w1⟩ := dec_int Tryz.underlying3 (hval 1 3 v1 rfl rfl) h1
  have k2 := h2
  have lt2 : ∀ x ∈ p2, x.block < W.heap.size := by obtain ⟨m, hm⟩ := k2; exact DataW.trod_lt m _ _ _ hm
  obtain ⟨x2, rfl, w2⟩ := dec_int Tryz.underlying23 (hval 2 23 v2 rfl rfl) h2
  clear hA0 hval0
  have hT := of_laid hL
  refine (storeOpens_walk x0 w0 x1 w1 x2 w2 hT).mono fun e W' ⟨he, bel⟩ => ?_
  subst he
  exact ⟨_, rfl, _, _, _, [], _, [], hW', trodAll_mk1 (shut_bool Tryz.underlying4 _), (trodAll_cons_mk (Below.trod laidOut (by kernel_rfl) (of_decide_eq_true (by kernel_rfl)) k0 bel lt0) (trodAll_cons_mk (Below.trod laidOut (by kernel_rfl) (of_decide_eq_true (by kernel_rfl)) k1 bel lt1) (trodAll_cons_mk (Below.trod laidOut (by kernel_rfl) (of_decide_eq_true (by kernel_rfl)) k2 bel lt2) trodAll_mk0))), rfl, bel.frame _, fun h => by cases h⟩

theorem over : Rows.storeOpensRow.holds Tryz.pinned (OpenSpec.ofChange Rows.storeOpensSpec) :=
  OpenClaim.holds_of_wide 6 Tryz.f6 rfl rfl rfl rfl rfl rfl rfl ⟨rfl, rfl, rfl, rfl, rfl⟩ rfl rfl rfl rfl rfl (by kernel_rfl) Tryz.func6 (by kernel_rfl)
    (of_decide_eq_true (by kernel_rfl)) (by unfold Func.isWrapper; first | (rw [if_pos (by decide +kernel)]; kernel_rfl) | (rw [if_neg (by decide +kernel)]; exact ⟨rfl, rfl⟩))
    (fun os started H enc _ => lifted os started H enc)
theorem row_tie : Rows.storeOpensRow.laidByTextAt .later Tryz.pinned [.data] true := storeOpens_row_tie
/-- The given statement: the card. -/
theorem proved : Rows.StoreOpensCardSaid :=
  Claim7.holds_tied_plain_at .later [] [.data] true Rows.storeOpensCard.stood.harness true
    over (fun _ h => by cases h) (by kernel_rfl) (fun _ h => by cases h) row_tie rfl ⟨rfl, rfl⟩ (by kernel_rfl) rfl
    (fun f fn hf hfn => by
      obtain rfl : f = 6 := Option.some.inj ((show Tryz.prog.funcNamed Rows.storeOpensRow.func = some 6 by kernel_rfl).symm.trans hf) |>.symm
      obtain rfl : fn = Tryz.f6 := (Option.some.inj (Tryz.func6.symm.trans hfn)).symm
      exact ⟨by kernel_rfl, fun j t ht => by
        rw [Tryz.params6] at ht
        have hm : t ∈ [3, 3, 23] := by simpa using Array.mem_of_getElem? ht
        have hall : ([3, 3, 23].all fun u => !Tryz.prog.wantsStandIn u) = true := by kernel_rfl
        exact (show Tryz.prog.wantsStandIn t = false by simpa using List.all_eq_true.1 hall t hm)⟩)
    (by kernel_rfl)
end storeOpens

end Go.Proofs.YtgbbbemedncdoaaGreatDoor
