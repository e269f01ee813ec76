/- MarksStay: what is marked stays so, whatever is marked then, and what was marked without an error is, and nothing else is: the law answers true for all marks, lists of numbers and numbers. -/
import Derived.Test.YtijkagfppeeegaaDoorMset
import Derived.Test.YtijkagfppeeegaaDoorMtie
import Derived.Test.YtijkagfppeeegaaDoorCards
import Derived.Test.YtijkagfppeeegaaDoorTie
namespace Go.Proofs.YtijkagfppeeegaaDoor
open Go.RowKit

/-- Where the marks are not good, or the list is long, the law asks for the example alone. -/
theorem stay_early (L B n : Nat) (A : Option Addr) (k c : Nat) (w : World) (hL : L < 18446744073709551616) (hB : B < 18446744073709551616) (hT : Tab w) (h : gdB L B = false ∨ 200 < k) :
    Calls Tryd.prog 5 #[.agg #[.int .u64 (L : Int), .int .u64 (B : Int)], .slice A k c, .int .u64 (n : Int)] w fun e w' => e = .returned (.bool true) ∧ Below w.heap.size w w' := by
  have hg := fun W h => good_any L B W hL hB h
  obtain ⟨W, hW, hWs, r0, hwW⟩ := boxes1 w #[.int .u64 (L : Int), .int .u64 (B : Int)] 24
  cases hb : gdB L B
  · rw [hb] at hg
    go_enter Tryd.func5, Tryd.ntmps5
    go_wp2_with fail
    rw [← hW]
    refine (hg _ (hT.below hwW)).mono ?_
    rintro e w1 ⟨rfl, hb1⟩
    have hz := hwW.trans (hb1.mono hwW.size)
    go_wp2_with fail
    refine (lives4 _ (hT.below hz)).mono ?_
    rintro e w2 ⟨rfl, hb2⟩
    go_wp2
    go_ret
    exact ⟨rfl, hz.trans (hb2.mono hz.size)⟩
  · rw [hb] at hg
    have h2 : 200 < k := by
      rcases h with h | h
      · rw [hb] at h; cases h
      · exact h
    have d1 : decide (200 < k) = true := by simpa using h2
    go_enter Tryd.func5, Tryd.ntmps5
    go_wp2_with fail
    rw [← hW]
    refine (hg _ (hT.below hwW)).mono ?_
    rintro e w1 ⟨rfl, hb1⟩
    have hz := hwW.trans (hb1.mono hwW.size)
    go_wp2_with fail
    refine (lives4 _ (hT.below hz)).mono ?_
    rintro e w2 ⟨rfl, hb2⟩
    go_wp2
    go_ret
    exact ⟨rfl, hz.trans (hb2.mono hz.size)⟩

theorem bool_eq (x n : Nat) : Value.bool ((x : Int) == (n : Int)) = Value.bool (false || decide (n = x)) := by
  congr 1
  by_cases h : n = x
  · subst h; simp
  · have : ((x : Int) == (n : Int)) = false := by simp; omega
    rw [this]; simp [h]
/-- What is known in each round. -/
def SRel (w wr : World) (L B : Nat) : Prop := Gd L B ∧ B < 18446744073709551616 ∧ wr.heap[w.heap.size]? = some (.cells #[.int .u64 (L : Int), .int .u64 (B : Int)] 24 (0, 0)) ∧ Below w.heap.size w wr

set_option maxHeartbeats 1000000 in
theorem stay_late (L B n : Nat) (A : Option Addr) (k c : Nat) (ns : List Nat) (w : World) (hB : B < 18446744073709551616) (hn : n < 18446744073709551616) (hT : Tab w) (hg : Gd L B) (hk : k ≤ 200) (h : Rd w w.heap.size 1 A k c (u64s ns)) (hns : Hid (∀ x ∈ ns, x < 18446744073709551616)) :
    Calls Tryd.prog 5 #[.agg #[.int .u64 (L : Int), .int .u64 (B : Int)], .slice A k c, .int .u64 (n : Int)] w fun e w' => e = .returned (.bool true) ∧ Below w.heap.size w w' := by
  have hgd := fun W h => good_any L B W (by have := hg.1; omega) hB h
  rw [(gdB_iff L B).2 hg] at hgd
  have hh := fun W => has_any L B n W (by have := hg.1; omega) hB hn
  have HG := Lib.hid hg
  have HBb := Lib.hid hB
  have HN := Lib.hid hn
  have d1 : decide (200 < k) = false := by simp; omega
  obtain ⟨W, hW, hWs, r0, hwW⟩ := boxes1 w #[.int .u64 (L : Int), .int .u64 (B : Int)] 24
  clear hg hB hn
  go_enter Tryd.func5, Tryd.ntmps5
  go_wp2_with fail
  rw [← hW]
  refine (hgd _ (hT.below hwW)).mono ?_
  rintro e w1 ⟨rfl, hb1⟩
  have r1 := (hb1.block _ (by omega)).trans r0
  have c0 := cell_of_row w1 _ 0 _ _ _ r1
  have c1 := cell_of_row w1 _ 1 _ _ _ r1
  simp at c0 c1
  go_wp2_with fail
  refine (hh _).mono ?_
  rintro e w2 ⟨rfl, hb2⟩
  have r2 := (hb2.block _ (by have := hb1.size; omega)).trans r1
  have hz2 := hwW.trans ((hb1.trans (hb2.mono hb1.size)).mono hwW.size)
  have HS := Lib.hid (show SRel w w2 L B from ⟨HG.out, HBb.out, r2, hz2⟩)
  clear c0 c1 hb1 hb2 r0 r1 r2 hz2 hwW hWs hW hgd hh HG
  go_wp2
  go_loopw [7, 26] (fun vr ir wr => ∃ i L' B' : Nat, i ≤ k ∧ ir = .int .i64 i ∧ vr = .bool (Hs L' B' n) ∧ Hid (SRel w wr L' B')) (fun _ ir _ => k - (intOf ir).toNat)
  case atStart => exact ⟨0, L, B, Nat.zero_le _, rfl, rfl, HS⟩
  case round =>
    obtain ⟨i, L', B', hi, rfl, rfl, HR⟩ := hrel
    obtain ⟨hg', hB', hrow, hbl⟩ := HR.out
    have hL' := hg'.1
    have HG' := Lib.hid hg'
    have c0 := cell_of_row wr _ 0 _ _ _ hrow
    have c1 := cell_of_row wr _ 1 _ _ _ hrow
    have z0 := frozen_of_row wr _ 0 _ _ hrow
    have z1 := frozen_of_row wr _ 1 _ _ hrow
    have hwr : w.heap.size < wr.heap.size := (Array.getElem?_eq_some_iff.1 hrow).1
    simp at c0 c1
    have HROW := Lib.hid hrow
    have HBL := Lib.hid hbl
    have HTr := Lib.hid (hT.below hbl)
    clear hg' hrow HS
    by_cases hlt : i < k
    · obtain ⟨b, o, u, rfl, hbb, hu, hc⟩ := (h.below hbl).at_ hlt
      obtain ⟨x, hx, rfl⟩ := u64s_get _ _ _ hu
      have hxl := hns.out x (List.mem_of_getElem? hx)
      clear hu hx hbl h
      by_cases hr : Room L' x
      · have hs := fun W h => set_ok L' B' x W hL' hB' h hr
        have hhs : Hs (mset L' B' x).1 (mset L' B' x).2 n = (Hs L' B' n || decide (n = x)) := mset_hs L' B' x n hB' hr
        have hgs := mset_gd L' B' x hB' hr HG'.out
        have hls := mset_lt L' B' x hB' hr
        generalize mset L' B' x = p at *
        obtain ⟨p1, p2⟩ := p
        simp only at hs hhs hgs hls
        have HH := Lib.hid hhs
        have HGS := Lib.hid (And.intro hgs hls)
        clear hhs hgs hls
        cases hw : Hs L' B' n
        all_goals
          go_wp2_with (first
            | (go_at_call 21; (with_reducible refine (hs _ HTr.out).mono ?_); rintro e w3 ⟨rfl, hb3⟩
               have e0 : ∀ o, (w3.alloc o).cell? ⟨w.heap.size, 0, none⟩ = some (.int .u64 (L' : Int)) := fun o => cell_old o (kept hb3 c0 hwr)
               have e1 : ∀ o, (w3.alloc o).cell? ⟨w.heap.size, 1, none⟩ = some (.int .u64 (B' : Int)) := fun o => cell_old o (kept hb3 c1 hwr)
               have f0 : ∀ cs, (w3.alloc (.cells cs 24)).frozen? ⟨w.heap.size, 0, none⟩ = false := fun cs => frozen_of_row _ _ 0 _ _ (row_old _ ((hb3.block _ hwr).trans HROW.out))
               have f1 : ∀ cs, (w3.alloc (.cells cs 24)).frozen? ⟨w.heap.size, 1, none⟩ = false := fun cs => frozen_of_row _ _ 1 _ _ (row_old _ ((hb3.block _ hwr).trans HROW.out))
               have hz3 := hb3.size
               have HB3 := Lib.hid hb3
               clear c0 c1 z0 z1 hb3)
            | fail)
          go_roundw
          case rel =>
            refine ⟨i + 1, p1, p2, by omega, by go_num, by rw [HH.out, hw]; first | exact bool_eq _ _ | rfl, Lib.hid ⟨HGS.out.1, HGS.out.2, ?_, ?_⟩⟩
            · exact heap_setCell_same _ _ 1 _ _ _ (heap_setCell_same _ _ 0 _ _ _ (row_old _ ((HB3.out.block _ hwr).trans HROW.out)))
            · have hq := HBL.out.trans (HB3.out.mono HBL.out.size)
              exact ((hq.alloc hq.size _).setCell (Nat.le_refl _) _).setCell (Nat.le_refl _) _
          case measure => simp [intOf]; omega
      · have hs := fun W (_ : Tab W) => set_no L' B' x W hL' hxl hr
        clear hr
        cases hw : Hs L' B' n
        all_goals
          go_wp2_with (first
            | (go_at_call 21; (with_reducible refine (hs _ HTr.out).mono ?_); rintro e w3 ⟨rfl, hb3⟩
               have e0 : ∀ o, (w3.alloc o).cell? ⟨w.heap.size, 0, none⟩ = some (.int .u64 (L' : Int)) := fun o => cell_old o (kept hb3 c0 hwr)
               have e1 : ∀ o, (w3.alloc o).cell? ⟨w.heap.size, 1, none⟩ = some (.int .u64 (B' : Int)) := fun o => cell_old o (kept hb3 c1 hwr)
               have f0 : ∀ cs, (w3.alloc (.cells cs 24)).frozen? ⟨w.heap.size, 0, none⟩ = false := fun cs => frozen_of_row _ _ 0 _ _ (row_old _ ((hb3.block _ hwr).trans HROW.out))
               have f1 : ∀ cs, (w3.alloc (.cells cs 24)).frozen? ⟨w.heap.size, 1, none⟩ = false := fun cs => frozen_of_row _ _ 1 _ _ (row_old _ ((hb3.block _ hwr).trans HROW.out))
               have hz3 := hb3.size
               have HB3 := Lib.hid hb3
               clear c0 c1 z0 z1 hb3)
            | fail)
          go_roundw
          case rel =>
            refine ⟨i + 1, L', B', by omega, by go_num, by rw [hw], Lib.hid ⟨HG'.out, hB', ?_, ?_⟩⟩
            · exact heap_setCell_same _ _ 1 _ _ _ (heap_setCell_same _ _ 0 _ _ _ (row_old _ ((HB3.out.block _ hwr).trans HROW.out)))
            · have hq := HBL.out.trans (HB3.out.mono HBL.out.size)
              exact ((hq.alloc hq.size _).setCell (Nat.le_refl _) _).setCell (Nat.le_refl _) _
          case measure => simp [intOf]; omega
    · have hL2 : L' < 18446744073709551616 := by omega
      have hgd := fun W h => good_any L' B' W hL2 hB' h
      rw [(gdB_iff L' B').2 HG'.out] at hgd
      have hh := fun W => has_any L' B' n W hL2 hB' HN.out
      generalize Hs L' B' n = V at *
      have qV : (V == V) = true := beq_self_eq_true V
      clear hL2 hL' hB' hbl h z0 z1
      go_wp2_with (first
        | (go_at_call 9; (with_reducible refine (hh _).mono ?_); rintro e w3 ⟨rfl, hb3⟩
           have c0 := kept hb3 c0 hwr
           have c1 := kept hb3 c1 hwr
           have ht3 := HTr.out.below hb3)
        | (go_at_call 7; (with_reducible refine (hgd _ ht3).mono ?_); rintro e w4 ⟨rfl, hb4⟩
           have ht4 := ht3.below hb4)
        | (go_at_call 11; (with_reducible refine (lives4 _ ht4).mono ?_); rintro e w5 ⟨rfl, hb5⟩)
        | fail)
      go_ret
      have hq := HBL.out.trans ((hb3.trans ((hb4.trans (hb5.mono hb4.size)).mono hb3.size)).mono HBL.out.size)
      exact ⟨rfl, hq⟩

theorem marksStay_top {w : World} (x0 y0 : Int) (h0 : (Lit.int .u64 x0).wf = true) (g0 : (Lit.int .u64 y0).wf = true) (A : Option Addr) (k c : Nat) (ns : List Nat) (h : Rd w w.heap.size 1 A k c (u64s ns)) (hns : Hid (∀ x ∈ ns, x < 18446744073709551616)) (x2 : Int) (h2 : (Lit.int .u64 x2).wf = true) (hT : Tab w) :
    Calls Tryd.prog 5 #[.agg #[.int .u64 x0, .int .u64 y0], .slice A k c, .int .u64 x2] w fun e w' => e = .returned (.bool true) ∧ Below w.heap.size w w' := by
  obtain ⟨L, rfl, hL⟩ := wf_u64 h0
  obtain ⟨B, rfl, hB⟩ := wf_u64 g0
  obtain ⟨n, rfl, hn⟩ := wf_u64 h2
  cases hg : gdB L B
  · exact stay_early L B n A k c w hL hB hT (.inl hg)
  · by_cases hk : k ≤ 200
    · exact stay_late L B n A k c ns w hB hn hT ((gdB_iff L B).1 hg) hk h hns
    · exact stay_early L B n A k c w hL hB hT (.inr (by omega))

namespace marksStay
open Go.ChangeShapes Go.WideShapes Go.ChangeAt
set_option maxRecDepth 100000 in
theorem lifted (os : Os) (started : os.Started) (H : Type) (enc : TypeId × Value → H) :
    ReturnsInHanded {} Tryd.checked os 5 .any (fun w args => (Rows.marksStaySpec.pre enc Tryd.prog Tryd.f5 [] false w args ∧ laidMetH Tryd.prog laidL w) ∧ sizedMet enc Tryd.prog Tryd.f5 (OpenSpec.ofChange Rows.marksStaySpec) false w args)
      (Rows.marksStaySpec.post enc Tryd.prog Tryd.f5 false true false false) := by
  refine returnsInHanded_of_change_and (C := Tryd.checked) (X := fun w _ => laidMetH Tryd.prog laidL w) (fun _ _ _ hh h => h.of_heap hh) own started (by kernel_rfl) Tryd.func5
    (ChangeSpec.witness_shaped (enc := enc) (C := Tryd.checked) (os := os) (X := fun w _ => laidMetH Tryd.prog laidL w) false (World.doorLaid Tryd.prog 400 os) #[.agg #[.int .u64 0, .int .u64 0], .slice none 0 0, .int .u64 0] 8 rfl (World.shaped_of_RefB (by kernel_rfl) (by kernel_rfl)) (by kernel_rfl) (by kernel_rfl) (by kernel_rfl) (door_met os _)) ?_
  intro W base args ds gs before hval0 hW _ _ hL _
  have hval : ∀ (j : Nat) t v, Tryd.f5.params[j]? = some t → args[j]? = some v → Value.okWide Tryd.prog W .any base t v := hval0
  have hW' := hW
  obtain ⟨p, q, hA0, hV, rfl, hfz, hnd⟩ := hW
  have hA : DataW.TrodAll enc Tryd.prog W 0 (fun _ => true) true Tryd.f5.params.toList args.toList ds p := hA0
  rw [Tryd.params5] at hA hval
  obtain ⟨v0, vs0, d0, ds0, p0, q0, hargs, rfl, rfl, h0, r0⟩ := trodAll_cons hA
  obtain ⟨v1, vs1, d1, ds1, p1, q1, rfl, rfl, rfl, h1, r1⟩ := trodAll_cons r0
  obtain ⟨v2, vs2, d2, ds2, p2, q2, rfl, rfl, rfl, h2, r2⟩ := trodAll_cons r1
  obtain ⟨rfl, rfl, rfl⟩ := trodAll_nil r2
  obtain rfl : args = #[v0, v1, v2] := by cases args; simp_all
  obtain ⟨rfl, rfl⟩ := trodVars_none hV
  have k0 := h0
  have lt0 : ∀ x ∈ p0, x.block < W.heap.size := by obtain ⟨m, hm⟩ := k0; exact DataW.trod_lt m _ _ _ hm
  obtain ⟨x0, y0, rfl, w0, u0⟩ := dec_ints2 Tryd.underlying24 (by kernel_rfl) (by kernel_rfl) Tryd.underlying22 Tryd.underlying22 (hval 0 24 v0 rfl rfl) h0
  have k1 := h1
  have lt1 : ∀ x ∈ p1, x.block < W.heap.size := by obtain ⟨m, hm⟩ := k1; exact DataW.trod_lt m _ _ _ hm
  obtain ⟨a1, n1, c1, l1, rfl, w1, b1⟩ := dec_u64s Tryd.underlying36 Tryd.underlying22 (by kernel_rfl) (hval 1 36 v1 rfl rfl) h1
  have k2 := h2
  have lt2 : ∀ x ∈ p2, x.block < W.heap.size := by obtain ⟨m, hm⟩ := k2; exact DataW.trod_lt m _ _ _ hm
  obtain ⟨x2, rfl, w2⟩ := dec_int Tryd.underlying22 (hval 2 22 v2 rfl rfl) h2
  clear hA0 hval0
  have hT := of_laid hL
  refine (marksStay_top x0 y0 w0 u0 a1 n1 c1 l1 w1 b1 x2 w2 hT).mono fun e W' ⟨he, bel⟩ => ?_
  subst he
  exact ⟨_, rfl, _, _, _, [], _, [], hW', trodAll_mk1 (shut_bool Tryd.underlying4 _), (trodAll_cons_mk (Below.trod laidOut (by kernel_rfl) (of_decide_eq_true (by kernel_rfl)) k0 bel lt0) (trodAll_cons_mk (Below.trod laidOut (by kernel_rfl) (of_decide_eq_true (by kernel_rfl)) k1 bel lt1) (trodAll_cons_mk (Below.trod laidOut (by kernel_rfl) (of_decide_eq_true (by kernel_rfl)) k2 bel lt2) trodAll_mk0))), rfl, bel.frame _, fun h => by cases h⟩

theorem over : Rows.marksStayRow.holds Tryd.pinned (OpenSpec.ofChange Rows.marksStaySpec) :=
  OpenClaim.holds_of_wide 5 Tryd.f5 rfl rfl rfl rfl rfl rfl rfl ⟨rfl, rfl, rfl, rfl, rfl⟩ rfl rfl rfl rfl rfl (by kernel_rfl) Tryd.func5 (by kernel_rfl)
    (of_decide_eq_true (by kernel_rfl)) (by unfold Func.isWrapper; first | (rw [if_pos (by decide +kernel)]; kernel_rfl) | (rw [if_neg (by decide +kernel)]; exact ⟨rfl, rfl⟩))
    (fun os started H enc _ => lifted os started H enc)
theorem row_tie : Rows.marksStayRow.laidByTextAt .later Tryd.pinned [.data] true := marksStay_row_tie
/-- The given statement: the card. -/
theorem proved : Rows.MarksStayCardSaid :=
  Claim7.holds_tied_plain_at .later [] [.data] true Rows.marksStayCard.stood.harness false
    over (fun _ h => by cases h) (by kernel_rfl) (fun _ h => by cases h) row_tie rfl ⟨rfl, rfl⟩ (by kernel_rfl) rfl
    (fun f fn hf hfn => by
      obtain rfl : f = 5 := Option.some.inj ((show Tryd.prog.funcNamed Rows.marksStayRow.func = some 5 by kernel_rfl).symm.trans hf) |>.symm
      obtain rfl : fn = Tryd.f5 := (Option.some.inj (Tryd.func5.symm.trans hfn)).symm
      exact ⟨by kernel_rfl, fun j t ht => by
        rw [Tryd.params5] at ht
        have hm : t ∈ [24, 36, 22] := by simpa using Array.mem_of_getElem? ht
        have hall : ([24, 36, 22].all fun u => !Tryd.prog.wantsStandIn u) = true := by kernel_rfl
        exact (show Tryd.prog.wantsStandIn t = false by simpa using List.all_eq_true.1 hall t hm)⟩)
    (by kernel_rfl)
end marksStay

end Go.Proofs.YtijkagfppeeegaaDoor
