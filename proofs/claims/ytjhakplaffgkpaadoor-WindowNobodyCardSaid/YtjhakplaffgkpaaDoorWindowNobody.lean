/- In a window that no call made there are no nodes: whatever is asked of it, and of none at all, tells so. -/
import Derived.Test.YtjhakplaffgkpaaDoorWlvM
import Derived.Test.YtjhakplaffgkpaaDoorMtieM
import Derived.Test.YtjhakplaffgkpaaDoorCards
import Derived.Test.YtjhakplaffgkpaaDoorTie
namespace Go.Proofs.YtjhakplaffgkpaaDoor
open Go.RowKit
set_option maxRecDepth 20000

/-- A window that no call made. -/
def BareW (w : World) (g : Nat) : Prop := w.heap[g]? = some (.cells #[.int .u64 0, .int .u64 0, .map none] 52 (0, 0))
theorem bare_none (n : Int) (W : World) : Calls Tryd.prog 25 #[.int .u64 0, .int .i64 n] W fun e w' => e = .returned (.bool false) ∧ W = w' := by
  have h := Qu.has_any 0 n W (by decide)
  have e : Qu.inB 0 n = false := by unfold Qu.inB; simp
  rw [e] at h
  exact h
theorem back_bare {w : World} {g : Nat} (h : BareW w g) (node x : Int) : Calls Tryd.prog 11 #[.pointer (some ⟨g, 0, none⟩), .int .i64 node, .int .u64 x] w fun e w' => e = .returned (.int .i64 2) ∧ w = w' := by
  have c0 := cell_of_row w g 0 _ _ _ h
  clear h
  go_enter Tryd.func11, Tryd.ntmps11
  go_wp2_with (first
    | (go_at_call 25; (with_reducible refine (bare_none _ _).mono ?_); rintro e w3 ⟨rfl, rfl⟩)
    | fail)
  go_ret
  exact ⟨rfl, rfl⟩
theorem look_none (x : Nat) (hx : x < 18446744073709551616) (w : World) : (Instr.lookup 50 (.map none) (.int .u64 (x : Int)) false).run Tryd.prog w = .ok (.int .u64 0) w :=
  Maps.look_nil (k := 22) (e := 22) false (Maps.int_keyed Tryd.underlying22) Tryd.underlying50 (zw w) (Maps.keyOf_int_mk Tryd.underlying22 (key_wf hx))
theorem bwho_bare {w : World} {g : Nat} (h : BareW w g) (x : Nat) (hx : x < 18446744073709551616) : Calls Tryd.prog 13 #[.pointer (some ⟨g, 0, none⟩), .int .u64 (x : Int)] w fun e w' => e = .returned (.int .u64 0) ∧ w = w' := by
  have c2 := cell_of_row w g 2 _ _ _ h
  have hl := look_none x hx w
  clear h hx
  go_enter Tryd.func13, Tryd.ntmps13
  go_wp2
  go_ret
  exact ⟨rfl, rfl⟩
theorem blacks_bare {w : World} {g : Nat} (h : BareW w g) (node x : Int) : Calls Tryd.prog 18 #[.pointer (some ⟨g, 0, none⟩), .int .i64 node, .int .u64 x] w fun e w' => e = .returned (.slice none 0 0) ∧ w = w' := by
  have c0 := cell_of_row w g 0 _ _ _ h
  clear h
  go_enter Tryd.func18, Tryd.ntmps18
  go_wp2_with (first
    | (go_at_call 25; (with_reducible refine (bare_none _ _).mono ?_); rintro e w3 ⟨rfl, rfl⟩)
    | fail)
  go_ret
  exact ⟨rfl, rfl⟩
set_option maxHeartbeats 4000000 in
theorem windowNobody_walk {w : World} (node : Int) (_ : (Lit.int .i64 node).wf = true) (x : Int) (hxw : (Lit.int .u64 x).wf = true) (hT : Tab w) :
    Calls Tryd.prog 6 #[.int .i64 node, .int .u64 x] w fun e w' => e = .returned (.bool true) ∧ Below w.heap.size w w' := by
  have HL := Lib.hid (fun W (hb : Below w.heap.size w W) => lives21_any W (hT.below hb))
  obtain ⟨x, rfl, hx⟩ := wf_u64 hxw
  have HX := Lib.hid hx
  clear hT hxw hx
  go_enter Tryd.func6, Tryd.ntmps6
  go_wp2_with (first
    | (go_at_call 11; with_reducible refine (ack_nil _ _ _).mono ?_; rintro e w1 ⟨rfl, rfl⟩)
    | (go_at_call 13; with_reducible refine (who_nil _ _).mono ?_; rintro e w1 ⟨rfl, rfl⟩)
    | fail)
  obtain ⟨W, hW, hz, hr, hb⟩ := boxes1 w #[.int .u64 0, .int .u64 0, .map none] 52
  rw [← hW]
  have HR := Lib.hid (show BareW W w.heap.size from hr)
  have HB := Lib.hid hb
  have HG := Lib.hid hb.size
  clear hW hz hr hb
  refine (com_nil W).mono ?_
  rintro e W2 ⟨rfl, hb2⟩
  have HR2 := Lib.hid (show BareW W2 w.heap.size from row_below HR.out hb2)
  have hbb := HB.out.trans (hb2.mono HG.out)
  have HB2 := Lib.hid hbb
  have HLW := Lib.hid (HL.out W2 hbb)
  clear hbb hb2 HL
  go_wp2_with (first
    | (go_at_call 18; with_reducible refine (lacks_nil _ _ _).mono ?_; rintro e w1 ⟨rfl, rfl⟩)
    | (go_at_call 20; with_reducible refine (nodes_nil _).mono ?_; rintro e w1 ⟨rfl, rfl⟩)
    | (go_at_call 10; with_reducible refine (wnclone_nil _).mono ?_; rintro e w1 ⟨rfl, rfl⟩)
    | (go_at_call 11; with_reducible refine (back_bare HR2.out _ _).mono ?_; rintro e w1 ⟨rfl, rfl⟩)
    | (go_at_call 13; with_reducible refine (bwho_bare HR2.out _ HX.out).mono ?_; rintro e w1 ⟨rfl, rfl⟩)
    | (go_at_call 18; with_reducible refine (blacks_bare HR2.out _ _).mono ?_; rintro e w1 ⟨rfl, rfl⟩)
    | (go_at_call 7; refine HLW.out.mono ?_; rintro e w2 ⟨rfl, hb2⟩)
    | fail)
  go_ret
  exact ⟨rfl, HB2.out.trans (hb2.mono HB2.out.size)⟩
namespace windowNobody
open Go.ChangeShapes Go.WideShapes Go.ChangeAt
set_option maxRecDepth 100000 in
theorem lifted (os : Os) (started : os.Started) (H : Type) (enc : TypeId × Value → H) :
    ReturnsInHanded {} Tryd.checked os 6 .any (fun w args => (Rows.windowNobodySpec.pre enc Tryd.prog Tryd.f6 [] false w args ∧ laidMetH Tryd.prog laidL w) ∧ sizedMet enc Tryd.prog Tryd.f6 (OpenSpec.ofChange Rows.windowNobodySpec) false w args)
      (Rows.windowNobodySpec.post enc Tryd.prog Tryd.f6 false true false false) := by
  refine returnsInHanded_of_change_and (C := Tryd.checked) (X := fun w _ => laidMetH Tryd.prog laidL w) (fun _ _ _ hh h => h.of_heap hh) own started (by kernel_rfl) Tryd.func6
    (ChangeSpec.witness_shaped (enc := enc) (C := Tryd.checked) (os := os) (X := fun w _ => laidMetH Tryd.prog laidL w) false (World.doorLaid Tryd.prog 400 os) #[.int .i64 0, .int .u64 0] 8 rfl (World.shaped_of_RefB (by kernel_rfl) (by kernel_rfl)) (by kernel_rfl) (by kernel_rfl) (by kernel_rfl) (door_met os _)) ?_
  intro W base args ds gs before hval0 hW _ _ hL _
  have hval : ∀ (j : Nat) t v, Tryd.f6.params[j]? = some t → args[j]? = some v → Value.okWide Tryd.prog W .any base t v := hval0
  have hW' := hW
  obtain ⟨p, q, hA0, hV, rfl, hfz, hnd⟩ := hW
  have hA : DataW.TrodAll enc Tryd.prog W 0 (fun _ => true) true Tryd.f6.params.toList args.toList ds p := hA0
  rw [Tryd.params6] at hA hval
  obtain ⟨v0, vs0, d0, ds0, p0, q0, hargs, rfl, rfl, h0, r0⟩ := trodAll_cons hA
  obtain ⟨v1, vs1, d1, ds1, p1, q1, rfl, rfl, rfl, h1, r1⟩ := trodAll_cons r0
  obtain ⟨rfl, rfl, rfl⟩ := trodAll_nil r1
  obtain rfl : args = #[v0, v1] := by cases args; simp_all
  obtain ⟨rfl, rfl⟩ := trodVars_none hV
  have k0 := h0
  have lt0 : ∀ x ∈ p0, x.block < W.heap.size := by obtain ⟨m, hm⟩ := k0; exact DataW.trod_lt m _ _ _ hm
  obtain ⟨x0, rfl, w0⟩ := dec_int Tryd.underlying3 (hval 0 3 v0 rfl rfl) h0
  have k1 := h1
  have lt1 : ∀ x ∈ p1, x.block < W.heap.size := by obtain ⟨m, hm⟩ := k1; exact DataW.trod_lt m _ _ _ hm
  obtain ⟨x1, rfl, w1⟩ := dec_int Tryd.underlying22 (hval 1 22 v1 rfl rfl) h1
  clear hA0 hval0
  have hT := of_laid hL
  refine (windowNobody_walk x0 w0 x1 w1 hT).mono fun e W' ⟨he, bel⟩ => ?_
  subst he
  exact ⟨_, rfl, _, _, _, [], _, [], hW', trodAll_mk1 (shut_bool Tryd.underlying4 _), (trodAll_cons_mk (Below.trod laidOut (by kernel_rfl) (of_decide_eq_true (by kernel_rfl)) k0 bel lt0) (trodAll_cons_mk (Below.trod laidOut (by kernel_rfl) (of_decide_eq_true (by kernel_rfl)) k1 bel lt1) trodAll_mk0)), rfl, bel.frame _, fun h => by cases h⟩

theorem over : Rows.windowNobodyRow.holds Tryd.pinned (OpenSpec.ofChange Rows.windowNobodySpec) :=
  OpenClaim.holds_of_wide 6 Tryd.f6 rfl rfl rfl rfl rfl rfl rfl ⟨rfl, rfl, rfl, rfl, rfl⟩ rfl rfl rfl rfl rfl (by kernel_rfl) Tryd.func6 (by kernel_rfl)
    (of_decide_eq_true (by kernel_rfl)) (by unfold Func.isWrapper; first | (rw [if_pos (by decide +kernel)]; kernel_rfl) | (rw [if_neg (by decide +kernel)]; exact ⟨rfl, rfl⟩))
    (fun os started H enc _ => lifted os started H enc)
theorem row_tie : Rows.windowNobodyRow.laidByTextAt .later Tryd.pinned [.data] true := windowNobody_row_tie
/-- The given statement: the card. -/
theorem proved : Rows.WindowNobodyCardSaid :=
  Claim7.holds_tied_plain_at .later [] [.data] true Rows.windowNobodyCard.stood.harness true
    over (fun _ h => by cases h) (by kernel_rfl) (fun _ h => by cases h) row_tie rfl ⟨rfl, rfl⟩ (by kernel_rfl) rfl
    (fun f fn hf hfn => by
      obtain rfl : f = 6 := Option.some.inj ((show Tryd.prog.funcNamed Rows.windowNobodyRow.func = some 6 by kernel_rfl).symm.trans hf) |>.symm
      obtain rfl : fn = Tryd.f6 := (Option.some.inj (Tryd.func6.symm.trans hfn)).symm
      exact ⟨by kernel_rfl, fun j t ht => by
        rw [Tryd.params6] at ht
        have hm : t ∈ [3, 22] := by simpa using Array.mem_of_getElem? ht
        have hall : ([3, 22].all fun u => !Tryd.prog.wantsStandIn u) = true := by kernel_rfl
        exact (show Tryd.prog.wantsStandIn t = false by simpa using List.all_eq_true.1 hall t hm)⟩)
    (by kernel_rfl)
end windowNobody

end Go.Proofs.YtjhakplaffgkpaaDoor
