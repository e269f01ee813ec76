/- StoreNobody: a store that no call made has no blocks, and is done nothing to, for every call. -/
import Derived.Test.YtpalmobmabkadaaGreatDoorSieM
import Derived.Test.YtpalmobmabkadaaGreatDoorDmathM
import Derived.Test.YtpalmobmabkadaaGreatDoorCards
import Derived.Test.YtpalmobmabkadaaGreatDoorTie
namespace Go.Proofs.YtpalmobmabkadaaGreatDoor
open Go.RowKit
set_option maxRecDepth 20000

set_option maxHeartbeats 40000000 in
theorem storeNobody_at {w : World} (o : O16) (ho : o.Reads w) (f c : Nat) (hT : Tab w) :
    Calls Tryz.prog 7 #[.agg o.cells, .agg #[.int .u32 (f : Int), .int .u32 (c : Int)]] w fun e w' => e = .returned (.bool true) ∧ Below w.heap.size w w' := by
  have HO := Lib.hid ho
  have HLV := Lib.hid (fun (W : World) (hb : Below w.heap.size w W) => lives16 W (hT.below hb))
  clear ho hT
  unfold O16.cells
  go_enter Tryz.func7, Tryz.ntmps7
  go_upto_region 1 with (first
    | (refine wpL_rbox (cs := o.list) rfl (.tmp 0) rfl rfl ?_; intro W1 bo hN; obtain ⟨hbo, hr1, hb1, hz1⟩ := hN)
    | (refine wpL_rbox (cs := [.int .u32 (f : Int), .int .u32 (c : Int)]) rfl (.tmp 1) rfl rfl ?_; intro W2 bp hN; obtain ⟨hbp, hr2, hb2, hz2⟩ := hN
       have HB2 := Lib.hid (hb1.trans (hb2.mono hb1.size))
       have HR2 := Lib.hid (row_below hr1.out hb2)
       have HP2 := Lib.hid hr2.out
       clear hr1 hr2 hb1 hb2)
    | fail)
  go_cut [15] (fun lr wr => ∃ lb, lr = .bool lb ∧ Below W2.heap.size W2 wr)
  case first =>
    go_wp2_with (first
      | (refine wpList_load_mid rfl _ _ rfl bo 0 rfl o.list _ (row_rng HR2.out) Tryz.underlying50 rfl (by rw [op_size, O16.len]) ?_)
      | (refine wpL_bslice_op rfl (.tmp 12) rfl (cs := o.list) rfl o.len ?_; intro W3 bl hN; obtain ⟨hbl, hr3, hb3, hz3⟩ := hN
         have HB3 := Lib.hid hb3
         have HLI := Lib.hid (light16_any (slc_one hr3.out (O16.below HO.out (HB2.out.trans (hb3.mono HB2.out.size))))))
      | (go_at_call 8; go_loud (refine HLI.out.mono ?_); rintro e w4 ⟨lb, rfl, _, hb4⟩)
      | fail)
    go_meet
    case rel => exact ⟨!lb, rfl, HB3.out.trans (hb4.mono HB3.out.size)⟩
  case rest =>
    obtain ⟨lb, rfl, hb4⟩ := hcut
    have HB4 := Lib.hid (HB2.out.trans (hb4.mono HB2.out.size))
    have HR4 := Lib.hid (row_below HR2.out hb4)
    have HP4 := Lib.hid (row_below HP2.out hb4)
    clear hb4 HR2 HP2
    cases lb with
    | true =>
      go_wp2_with (first
        | (go_at_call 9; go_loud (refine (HLV.out _ HB4.out).mono ?_); rintro e w5 ⟨rfl, hb5⟩)
        | fail)
      go_ret
      exact ⟨rfl, HB4.out.trans (hb5.mono HB4.out.size)⟩
    | false =>
      go_upto_region 5 with (first
        | (refine wpL_bldv (by rfl) _ _ #[] rfl (by rfl) _ build_bare ?_)
        | (refine wpL_rbox (cs := scells none none none none ⟨0, 0, 0, 0, T0, 0⟩) rfl (.tmp 18) rfl rfl ?_; intro W6 S hN; obtain ⟨hS, hr6, hb6, hz6⟩ := hN
           have HB6 := Lib.hid (HB4.out.trans (hb6.mono HB4.out.size))
           have HR6 := Lib.hid (row_below HR4.out hb6)
           have HP6 := Lib.hid (row_below HP4.out hb6)
           have HS6 := Lib.hid (show Srow W6 S none none none none ⟨0, 0, 0, 0, T0, 0⟩ from ⟨hr6.out, rfl⟩)
           clear hr6 hb6 hS hz6)
        | fail)
      obtain ⟨W7, hW7⟩ : ∃ W, W = W6.alloc (.cells #[.pointer none, .pointer (some ⟨S, 0, none⟩)] 28) := ⟨_, rfl⟩
      have hr7 := heap_alloc_new W6 (.cells #[.pointer none, .pointer (some ⟨S, 0, none⟩)] 28)
      have hb7 := (Below.refl W6.heap.size W6).alloc (Nat.le_refl _) (.cells #[.pointer none, .pointer (some ⟨S, 0, none⟩)] 28)
      have hz7 : W6.heap.size < W7.heap.size := by rw [hW7]; simp
      rw [← hW7] at hr7 hb7 ⊢
      clear hW7
      obtain ⟨L, hL⟩ : ∃ L, L = W6.heap.size := ⟨_, rfl⟩
      rw [← hL] at hr7 hz7 ⊢
      have HB7 := Lib.hid (HB6.out.trans (hb7.mono HB6.out.size))
      have HR7 := Lib.hid (row_below HR6.out hb7)
      have HP7 := Lib.hid (row_below HP6.out hb7)
      have HS7 := Lib.hid (HS6.out.below hb7)
      have HZ7 := Lib.hid hz7
      have p0 : W7.cell? ⟨L, 0, none⟩ = some (.pointer none) := cell_of_row W7 L 0 _ _ _ hr7
      have p1 : W7.cell? ⟨L, 1, none⟩ = some (.pointer (some ⟨S, 0, none⟩)) := cell_of_row W7 L 1 _ _ _ hr7
      have S0 := Lib.hid (show W7.cell? ⟨bp, 0, none⟩ = some (.int .u32 (f : Int)) from cell_of_row W7 bp 0 _ _ _ HP7.out)
      have S1 := Lib.hid (show W7.cell? ⟨bp, 1, none⟩ = some (.int .u32 (c : Int)) from cell_of_row W7 bp 1 _ _ _ HP7.out)
      have HI := Lib.hid (show ∀ k : Nat, k < 2 → ∃ G, W7.cell? ⟨L, k, none⟩ = some (.pointer G) ∧ Idle G W7 from fun k hk => by
        rcases Nat.lt_succ_iff_lt_or_eq.1 hk with h | rfl
        · obtain rfl : k = 0 := by omega
          exact ⟨none, p0, idle_nil W7⟩
        · exact ⟨_, p1, idle_bare HS7.out⟩)
      clear hr7 hb7 hz7 hL HB6 HR6 HP6 HS6 HS7 HR4 HP4 HB4 p0 p1
      go_wp2_with (fail)
      go_loopw [22] (fun kr wr => ∃ k : Nat, k ≤ 2 ∧ kr = .int .i64 (k : Int) ∧ Hid (Below W7.heap.size W7 wr)) (fun kr _ => 2 - (intOf kr).toNat)
      case atStart => exact ⟨0, by omega, rfl, Lib.hid (Below.refl _ _)⟩
      case round =>
        obtain ⟨k, hk, rfl, HC0⟩ := hrel
        by_cases hlt : k < 2
        · obtain ⟨G, hG, hI⟩ := HI.out k hlt
          obtain ⟨E, hE⟩ : ∃ V, V = e16v o.e := ⟨_, rfl⟩
          obtain ⟨J, hJ⟩ : ∃ V, V = imv o.i := ⟨_, rfl⟩
          have HLE := Lib.hid (show ∀ W, Below W7.heap.size W7 W → (Instr.loadAt 47 (.pointer (some ⟨bo, 1, none⟩))).run Tryz.prog W = .ok E W from fun W hb => by
            rw [hE]; exact entry_loads (row_below HR7.out hb))
          have HLJ := Lib.hid (show ∀ W, Below W7.heap.size W7 W → (Instr.loadAt 43 (.pointer (some ⟨bo, 11, none⟩))).run Tryz.prog W = .ok J W from fun W hb => by
            rw [hJ]; exact image_loads (row_below HR7.out hb))
          have HIE := Lib.hid (show ∀ W, Below W7.heap.size W7 W → Calls Tryz.prog 20 #[.pointer G, E] W fun e w' => e = .returned (.int .i64 1) ∧ Below W.heap.size W w' from fun W hb => by
            rw [hE]; exact hI.app W hb o.e)
          have HIJ := Lib.hid (show ∀ W, Below W7.heap.size W7 W → Calls Tryz.prog 27 #[.pointer G, J] W fun e w' => e = .returned (.int .i64 1) ∧ Below W.heap.size W w' from fun W hb => by
            rw [hJ]; exact hI.imp W hb o.i)
          have HI1 := Lib.hid hI
          clear hE hJ
          have p0 : wr.cell? ⟨L, k, none⟩ = some (.pointer G) := kept HC0.out hG (by have := World.block_lt_of_cell? W7 _ hG; exact this)
          have s0 := kept HC0.out S0.out (World.block_lt_of_cell? W7 _ S0.out)
          have s1 := kept HC0.out S1.out (World.block_lt_of_cell? W7 _ S1.out)
          have HLT := Lib.hid hlt
          have dk : decide ((k : Int) < 2) = true := by simp; omega
          have hk2 : (k : Int) < 2 := by omega
          clear hG hI hlt hk HI
          go_upto_region 9 with (first
            | (go_at_call 25; go_loud (refine (HI1.out.read _ HC0.out f c).mono ?_); rintro e1 w1 ⟨rfl, hb1⟩
               have HC1 := Lib.hid (HC0.out.trans (hb1.mono HC0.out.size))
               clear hb1)
            | (go_at_call 17; go_loud (refine (HI1.out.image _ HC1.out).mono ?_); rintro e2 w2 ⟨rfl, hb2⟩
               have HC2 := Lib.hid (HC1.out.trans (hb2.mono HC1.out.size))
               clear hb2)
            | (refine imA.wpNew (o := ⟨some 10, _, _, _, _, _⟩) rfl rfl ?_; intro W3 b3 hN; obtain ⟨hb3, hr3, hl3, hz3⟩ := hN
               have HC3 := Lib.hid (HC2.out.trans (hl3.mono HC2.out.size))
               have HQ3 := Lib.hid (show W7.heap.size ≤ b3 by have := hb3.out; have := HC2.out.size; omega)
               clear hl3 hb3 hz3)
            | (refine imA.wpStore (i := I0) (j := I0) rfl (.tmp 10) (.tmp 35) rfl rfl rfl hr3.out rfl rfl ?_; intro W4 hr4 hg4 hz4
               have HC4 := Lib.hid (HC3.out.grown hg4 HC3.out.size (fun k e => by cases e; exact HQ3.out))
               clear hr3 hr4 hg4 hz4)
            | (go_at_call 20; go_loud (refine (HIE.out _ HC4.out).mono ?_); rintro e5 w5 ⟨rfl, hb5⟩
               have HC5 := Lib.hid (HC4.out.trans (hb5.mono HC4.out.size))
               clear hb5)
            | (go_at_call 26; go_loud (refine (HI1.out.save _ HC5.out).mono ?_); rintro e6 w6 ⟨rfl, hb6⟩
               have HC6 := Lib.hid (HC5.out.trans (hb6.mono HC5.out.size))
               clear hb6
               rename_i hkk
               refine hkk _ _ ?_
               iterate 12 go_step
               refine wpL_midk (by go_simp) _ _ rfl _ rfl _ (HLJ.out _ HC6.out) (fun _ _ => ?_)
               go_simp
               go_step)
            | (go_at_call 27; go_loud (refine (HIJ.out _ HC6.out).mono ?_); rintro e7 w7 ⟨rfl, hb7⟩
               have HC7 := Lib.hid (HC6.out.trans (hb7.mono HC6.out.size))
               clear hb7)
            | (go_at_call 23; go_loud (refine (HI1.out.blocks _ HC7.out).mono ?_); rintro e8 w8 ⟨rfl, rfl⟩)
            | (go_at_call 28; go_loud (refine (HI1.out.marks _ HC7.out).mono ?_); rintro e9 w9 ⟨rfl, hb9⟩
               have HC9 := Lib.hid (HC7.out.trans (hb9.mono HC7.out.size))
               clear hb9)
            | (go_at_call 24; go_loud (refine (HI1.out.saved _ HC9.out).mono ?_); rintro e8 w8 ⟨rfl, rfl⟩)
            | (go_at_call 29; go_loud (refine (HI1.out.done _ HC9.out).mono ?_); rintro e10 w10 ⟨rfl, hb10⟩
               have HC10 := Lib.hid (HC9.out.trans (hb10.mono HC9.out.size))
               clear hb10)
            | (refine tabA.wpNeqw (by rfl) (.tmp 80) (.tmp 81) _ rfl (S := T0) (T := T0) rfl rfl rfl rfl (b := false) (by simp) ?_)
            | fail)
          refine wp_region_list ?_
          iterate 5 go_step
          refine wpL_midk (by go_simp) _ _ rfl _ rfl _ (HLE.out _ HC4.out) (fun _ _ => ?_)
          go_simp
          go_step
          go_wp2_with (first
            | (go_at_call 25; go_loud (refine (HI1.out.read _ HC0.out f c).mono ?_); rintro e1 w1 ⟨rfl, hb1⟩
               have HC1 := Lib.hid (HC0.out.trans (hb1.mono HC0.out.size))
               clear hb1)
            | (go_at_call 17; go_loud (refine (HI1.out.image _ HC1.out).mono ?_); rintro e2 w2 ⟨rfl, hb2⟩
               have HC2 := Lib.hid (HC1.out.trans (hb2.mono HC1.out.size))
               clear hb2)
            | (refine imA.wpNew (o := ⟨some 10, _, _, _, _, _⟩) rfl rfl ?_; intro W3 b3 hN; obtain ⟨hb3, hr3, hl3, hz3⟩ := hN
               have HC3 := Lib.hid (HC2.out.trans (hl3.mono HC2.out.size))
               have HQ3 := Lib.hid (show W7.heap.size ≤ b3 by have := hb3.out; have := HC2.out.size; omega)
               clear hl3 hb3 hz3)
            | (refine imA.wpStore (i := I0) (j := I0) rfl (.tmp 10) (.tmp 35) rfl rfl rfl hr3.out rfl rfl ?_; intro W4 hr4 hg4 hz4
               have HC4 := Lib.hid (HC3.out.grown hg4 HC3.out.size (fun k e => by cases e; exact HQ3.out))
               clear hr3 hr4 hg4 hz4)
            | (go_at_call 20; go_loud (refine (HIE.out _ HC4.out).mono ?_); rintro e5 w5 ⟨rfl, hb5⟩
               have HC5 := Lib.hid (HC4.out.trans (hb5.mono HC4.out.size))
               clear hb5)
            | (go_at_call 26; go_loud (refine (HI1.out.save _ HC5.out).mono ?_); rintro e6 w6 ⟨rfl, hb6⟩
               have HC6 := Lib.hid (HC5.out.trans (hb6.mono HC5.out.size))
               clear hb6
               rename_i hkk
               refine hkk _ _ ?_
               iterate 12 go_step
               refine wpL_midk (by go_simp) _ _ rfl _ rfl _ (HLJ.out _ HC6.out) (fun _ _ => ?_)
               go_simp
               go_step)
            | (go_at_call 27; go_loud (refine (HIJ.out _ HC6.out).mono ?_); rintro e7 w7 ⟨rfl, hb7⟩
               have HC7 := Lib.hid (HC6.out.trans (hb7.mono HC6.out.size))
               clear hb7)
            | (go_at_call 23; go_loud (refine (HI1.out.blocks _ HC7.out).mono ?_); rintro e8 w8 ⟨rfl, rfl⟩)
            | (go_at_call 28; go_loud (refine (HI1.out.marks _ HC7.out).mono ?_); rintro e9 w9 ⟨rfl, hb9⟩
               have HC9 := Lib.hid (HC7.out.trans (hb9.mono HC7.out.size))
               clear hb9)
            | (go_at_call 24; go_loud (refine (HI1.out.saved _ HC9.out).mono ?_); rintro e8 w8 ⟨rfl, rfl⟩)
            | (go_at_call 29; go_loud (refine (HI1.out.done _ HC9.out).mono ?_); rintro e10 w10 ⟨rfl, hb10⟩
               have HC10 := Lib.hid (HC9.out.trans (hb10.mono HC9.out.size))
               clear hb10)
            | (refine tabA.wpNeqw (by rfl) (.tmp 80) (.tmp 81) _ rfl (S := T0) (T := T0) rfl rfl rfl rfl (b := false) (by simp) ?_)
            | fail)
          go_roundw
          case rel => exact ⟨k + 1, by have := HLT.out; omega, by go_num, HC10⟩
          case measure => have := HLT.out; simp [intOf]; omega
        · obtain rfl : k = 2 := by omega
          clear HI S0 S1 HP7 hk hlt
          have dk : decide (((2 : Nat) : Int) < 2) = false := by simp
          have hk2 : ¬ (((2 : Nat) : Int) < 2) := by omega
          have HB9 := Lib.hid (HB7.out.trans (HC0.out.mono HB7.out.size))
          clear HC0
          go_wp2_with (first
            | (go_at_call 9; go_loud (refine (HLV.out _ HB9.out).mono ?_); rintro e w5 ⟨rfl, hb5⟩)
            | fail)
          go_ret
          exact ⟨rfl, HB9.out.trans (hb5.mono HB9.out.size)⟩
theorem storeNobody_walk {w : World} {o : O16} (ho : o.Reads w) (f c : Int) (hf : (Lit.int .u32 f).wf = true) (hc : (Lit.int .u32 c).wf = true) (hT : Tab w) :
    Calls Tryz.prog 7 #[.agg o.cells, .agg #[.int .u32 f, .int .u32 c]] w fun e w' => e = .returned (.bool true) ∧ Below w.heap.size w w' := by
  obtain ⟨f', rfl, _⟩ := wf_u32 hf
  obtain ⟨c', rfl, _⟩ := wf_u32 hc
  exact storeNobody_at o ho f' c' hT
namespace storeNobody
open Go.ChangeShapes Go.WideShapes Go.ChangeAt
set_option maxRecDepth 100000 in
theorem lifted (os : Os) (started : os.Started) (H : Type) (enc : TypeId × Value → H) :
    ReturnsInHanded {} Tryz.checked os 7 .any (fun w args => (Rows.storeNobodySpec.pre enc Tryz.prog Tryz.f7 [] false w args ∧ laidMetH Tryz.prog laidL w) ∧ sizedMet enc Tryz.prog Tryz.f7 (OpenSpec.ofChange Rows.storeNobodySpec) false w args)
      (Rows.storeNobodySpec.post enc Tryz.prog Tryz.f7 false true false false) := by
  refine returnsInHanded_of_change_and (C := Tryz.checked) (X := fun w _ => laidMetH Tryz.prog laidL w) (fun _ _ _ hh h => h.of_heap hh) own started (by kernel_rfl) Tryz.func7
    (ChangeSpec.witness_shaped (enc := enc) (C := Tryz.checked) (os := os) (X := fun w _ => laidMetH Tryz.prog laidL w) false (World.doorLaid Tryz.prog 400 os) #[.agg #[.int .i64 0, .int .u64 0, .int .u64 0, .int .u64 0, .int .i64 0, .int .u64 0, .int .u64 0, .int .u32 0, .int .u32 0, .string ⟨#[]⟩, .slice none 0 0, .int .u64 0, .int .u64 0, .string ⟨#[]⟩, .int .u64 0, .int .u16 0, .int .u64 0, .int .u16 0, .int .u64 0, .int .u16 0, .int .u64 0, .int .u16 0, .int .u64 0, .int .u16 0, .int .u64 0, .int .u16 0, .int .u64 0, .int .u16 0, .int .u64 0, .int .u16 0, .int .i64 0, .slice none 0 0], .agg #[.int .u32 0, .int .u32 0]] 8 rfl (World.shaped_of_RefB (by kernel_rfl) (by kernel_rfl)) (by kernel_rfl) (by kernel_rfl) (by kernel_rfl) (door_met os _)) ?_
  intro W base args ds gs before hval0 hW _ _ hL _
  have hval : ∀ (j : Nat) t v, Tryz.f7.params[j]? = some t → args[j]? = some v → Value.okWide Tryz.prog W .any base t v := hval0
  have hW' := hW
  obtain ⟨p, q, hA0, hV, rfl, hfz, hnd⟩ := hW
  have hA : DataW.TrodAll enc Tryz.prog W 0 (fun _ => true) true Tryz.f7.params.toList args.toList ds p := hA0
  rw [Tryz.params7] at hA hval
  obtain ⟨v0, vs0, d0, ds0, p0, q0, hargs, rfl, rfl, h0, r0⟩ := trodAll_cons hA
  obtain ⟨v1, vs1, d1, ds1, p1, q1, rfl, rfl, rfl, h1, r1⟩ := trodAll_cons r0
  obtain ⟨rfl, rfl, rfl⟩ := trodAll_nil r1
  obtain rfl : args = #[v0, v1] := by cases args; simp_all
  obtain ⟨rfl, rfl⟩ := trodVars_none hV
  have k0 := h0
  have lt0 : ∀ x ∈ p0, x.block < W.heap.size := by obtain ⟨m, hm⟩ := k0; exact DataW.trod_lt m _ _ _ hm
  obtain ⟨o0, rfl, w0⟩ := O16.decv (hval 0 50 v0 rfl rfl) h0
  have k1 := h1
  have lt1 : ∀ x ∈ p1, x.block < W.heap.size := by obtain ⟨m, hm⟩ := k1; exact DataW.trod_lt m _ _ _ hm
  obtain ⟨x1, y1, rfl, w1, u1⟩ := dec_ints2 Tryz.underlying25 (by kernel_rfl) (by kernel_rfl) Tryz.underlying23 Tryz.underlying23 (hval 1 25 v1 rfl rfl) h1
  clear hA0 hval0
  have hT := of_laid hL
  refine (storeNobody_walk w0 x1 y1 w1 u1 hT).mono fun e W' ⟨he, bel⟩ => ?_
  subst he
  exact ⟨_, rfl, _, _, _, [], _, [], hW', trodAll_mk1 (shut_bool Tryz.underlying4 _), (trodAll_cons_mk (Below.trod laidOut (by kernel_rfl) (of_decide_eq_true (by kernel_rfl)) k0 bel lt0) (trodAll_cons_mk (Below.trod laidOut (by kernel_rfl) (of_decide_eq_true (by kernel_rfl)) k1 bel lt1) trodAll_mk0)), rfl, bel.frame _, fun h => by cases h⟩

theorem over : Rows.storeNobodyRow.holds Tryz.pinned (OpenSpec.ofChange Rows.storeNobodySpec) :=
  OpenClaim.holds_of_wide 7 Tryz.f7 rfl rfl rfl rfl rfl rfl rfl ⟨rfl, rfl, rfl, rfl, rfl⟩ rfl rfl rfl rfl rfl (by kernel_rfl) Tryz.func7 (by kernel_rfl)
    (of_decide_eq_true (by kernel_rfl)) (by unfold Func.isWrapper; first | (rw [if_pos (by decide +kernel)]; kernel_rfl) | (rw [if_neg (by decide +kernel)]; exact ⟨rfl, rfl⟩))
    (fun os started H enc _ => lifted os started H enc)
theorem row_tie : Rows.storeNobodyRow.laidByTextAt .later Tryz.pinned [.data] true := storeNobody_row_tie
/-- The given statement: the card. -/
theorem proved : Rows.StoreNobodyCardSaid :=
  Claim7.holds_tied_plain_at .later [] [.data] true Rows.storeNobodyCard.stood.harness true
    over (fun _ h => by cases h) (by kernel_rfl) (fun _ h => by cases h) row_tie rfl ⟨rfl, rfl⟩ (by kernel_rfl) rfl
    (fun f fn hf hfn => by
      obtain rfl : f = 7 := Option.some.inj ((show Tryz.prog.funcNamed Rows.storeNobodyRow.func = some 7 by kernel_rfl).symm.trans hf) |>.symm
      obtain rfl : fn = Tryz.f7 := (Option.some.inj (Tryz.func7.symm.trans hfn)).symm
      exact ⟨by kernel_rfl, fun j t ht => by
        rw [Tryz.params7] at ht
        have hm : t ∈ [50, 25] := by simpa using Array.mem_of_getElem? ht
        have hall : ([50, 25].all fun u => !Tryz.prog.wantsStandIn u) = true := by kernel_rfl
        exact (show Tryz.prog.wantsStandIn t = false by simpa using List.all_eq_true.1 hall t hm)⟩)
    (by kernel_rfl)
end storeNobody

end Go.Proofs.YtpalmobmabkadaaGreatDoor
