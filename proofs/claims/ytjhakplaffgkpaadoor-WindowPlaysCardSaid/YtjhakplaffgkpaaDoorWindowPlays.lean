/- Whoever is told to have what, each call tells what the document says; a clone goes its own way. -/
import Derived.Test.YtjhakplaffgkpaaDoorWrelM
import Derived.Test.YtjhakplaffgkpaaDoorWlvM
import Derived.Test.YtjhakplaffgkpaaDoorFarM
import Derived.Test.YtjhakplaffgkpaaDoorMtieM
import Derived.Test.YtjhakplaffgkpaaDoorCards
import Derived.Test.YtjhakplaffgkpaaDoorTie
namespace Go.Proofs.YtjhakplaffgkpaaDoor
open Go.RowKit
set_option maxRecDepth 20000

theorem to_below {f : FuncId} {args : Array Value} {w : World} {u : Ending} (h : Calls Tryd.prog f args w fun e w' => e = u ∧ w = w') : Calls Tryd.prog f args w fun e w' => e = u ∧ Below w.heap.size w w' :=
  h.mono fun e w' hh => by
    obtain ⟨h1, rfl⟩ := hh
    exact ⟨h1, Below.refl _ _⟩
theorem plays_early (n : Int) (low : Int) (A : Option Addr) (m c : Nat) (top : Int) (w : World) (hT : Tab w) (h : 60 < m) :
    Calls Tryd.prog 3 #[.int .i64 n, .int .u64 low, .slice A m c, .int .u64 top] w fun e w' => e = .returned (.bool true) ∧ Below w.heap.size w w' := by
  have HL := Lib.hid (lives21_any w hT)
  have d1 : decide (60 < (m : Int)) = true := by simp; omega
  clear h hT
  go_enter Tryd.func3, Tryd.ntmps3
  go_wp2_with (first
    | (go_at_call 7; refine HL.out.mono ?_; rintro e w2 ⟨rfl, hb2⟩)
    | fail)
  go_ret
  exact ⟨rfl, hb2⟩
theorem plays_none (n : Int) (low : Nat) (A : Option Addr) (m c : Nat) (top : Int) (w : World) (hT : Tab w) (h : ¬ 60 < m) (hn : n < 1 ∨ 7 < n ∨ 4611686018427387584 < low) :
    Calls Tryd.prog 3 #[.int .i64 n, .int .u64 (low : Int), .slice A m c, .int .u64 top] w fun e w' => e = .returned (.bool true) ∧ Below w.heap.size w w' := by
  have HL := Lib.hid (lives21_any w hT)
  have HN := Lib.hid (new_none n low w hn)
  have HR := Lib.hid (rnew_none n low w hn)
  have d1 : decide (60 < (m : Int)) = false := by simp; omega
  clear h hT hn
  go_enter Tryd.func3, Tryd.ntmps3
  go_wp2_with (first
    | (go_at_call 8; refine HN.out.mono ?_; rintro e w2 ⟨rfl, rfl⟩)
    | (go_at_call 9; refine HR.out.mono ?_; rintro e w2 ⟨rfl, rfl⟩)
    | (go_at_call 7; refine HL.out.mono ?_; rintro e w2 ⟨rfl, hb2⟩)
    | fail)
  go_ret
  exact ⟨rfl, hb2⟩
set_option maxHeartbeats 8000000 in
theorem plays_main {w : World} (n low : Nat) {A : Option Addr} {m c : Nat} {os : List AckD} (hs : Slc AckD.lay w A m c os) (top : Nat) (_ : top < 18446744073709551616) (hT : Tab w) (h : ¬ 60 < m) (h1 : 1 ≤ n) (h7 : n ≤ 7) (hlo : low ≤ 4611686018427387584) :
    Calls Tryd.prog 3 #[.int .i64 (n : Int), .int .u64 (low : Int), .slice A m c, .int .u64 (top : Int)] w fun e w' => e = .returned (.bool true) ∧ Below w.heap.size w w' := by
  have HN := Lib.hid (new_any n low w h1 h7 hlo)
  have HRN := Lib.hid (fun W => rnew_any n low W h1 h7 hlo)
  have d1 : decide (60 < (m : Int)) = false := by simp; omega
  have HT := Lib.hid hT
  have HS := Lib.hid hs
  have HM := Lib.hid (show m ≤ 60 by omega)
  have HW := Lib.hid (And.intro h1 (And.intro h7 hlo))
  clear h hT hs h1 h7 hlo
  go_enter Tryd.func3, Tryd.ntmps3
  go_wp2_with (fail)
  refine HN.out.mono ?_
  clear HN
  rintro e w1 ⟨g0, b0, rfl, hg, hb, hW, hb1⟩
  have HWN := Lib.hid hW
  have HB1 := Lib.hid hb1
  have HG := Lib.hid (And.intro hg hb)
  clear hg hb hW hb1
  go_wp2_with (fail)
  refine (HRN.out _).mono ?_
  clear HRN
  rintro e w2 ⟨rfl, hR, hb2⟩
  obtain ⟨r, hr⟩ : ∃ r, w1.heap.size = r := ⟨_, rfl⟩
  have HO : Hid (PW w w2 g0 b0 0 r (.slice none 0 0) (W0 n low) n low []) := by
    have hz := HB1.out.trans (hb2.mono HB1.out.size)
    refine Lib.hid ⟨HWN.out.below hb2, ⟨by rw [← hr]; exact hR.row, World.ownsRow_nil _ _ _ _, by rw [← hr]; exact HB1.out.size⟩, Rel.start n low, hz, HG.out.2⟩
  rw [hr]
  have hm3 : (m : Int) ≤ 60 := by have := HM.out; omega
  clear hR hb2 hr HWN HB1 HG
  go_wp2_with (fail)
  go_loopw [9, 45] (fun wv ir wr => ∃ (i g b : Nat) (v : Value) (t : Wv) (L : List (Int × Nat)), i ≤ m ∧ ir = .int .i64 (i : Int) ∧ wv = .pointer (some ⟨g, 0, none⟩) ∧ Hid (PW w wr g b i r v t n low L) ∧ Hid (L.length ≤ i)) (fun _ ir _ => m - (intOf ir).toNat)
  case atStart => exact ⟨0, g0, b0, _, _, _, Nat.zero_le _, rfl, rfl, HO, Lib.hid (Nat.zero_le _)⟩
  case round =>
    clear HO
    obtain ⟨i, g, b, v, t, L, hi, rfl, rfl, HO, HLL⟩ := hrel
    by_cases hlt : i < m
    · obtain ⟨o, ho⟩ : ∃ o, os[i]? = some o := ⟨_, List.getElem?_eq_getElem (by rw [HS.out.len]; exact hlt)⟩
      obtain ⟨bb, off, rfl, hbl, hcell⟩ := (HS.out.below HO.out.bel).at_ (by omega)
      have c0 : wr.cell? ⟨bb, off + i * 2, none⟩ = some (.int .i64 o.Node) := hcell i o ho 0 _ rfl
      have c1 : wr.cell? ⟨bb, off + i * 2 + 1, none⟩ = some (.int .u64 o.Index) := by rw [Nat.add_assoc]; exact hcell i o ho 1 _ rfl
      obtain ⟨hr1, hr2⟩ := HS.out.reads o (List.mem_of_getElem? ho)
      obtain ⟨x, hidx, hx64⟩ := wf_u64 hr2
      obtain ⟨node, hnode⟩ : ∃ node, o.Node = node := ⟨_, rfl⟩
      rw [hidx] at c1
      rw [hnode] at c0
      have HI := Lib.hid (And.intro hlt hx64)
      have hi3 : (i : Int) ≤ 60 := by omega
      clear ho hcell hr1 hr2 hidx hnode hx64 hbl
      clear o
      have HAL := Lib.hid (fun W' (hW' : W' = wr.alloc (.cells #[.int .i64 node, .int .u64 (x : Int)] 31)) => (show PW w W' g b i r v t n low L ∧ W'.heap[wr.heap.size]? = some (.cells #[.int .i64 node, .int .u64 (x : Int)] 31 (0, 0)) from by
        rw [hW']
        exact ⟨HO.out.below ((Below.refl _ _).alloc (Nat.le_refl _) _), heap_alloc_new wr _⟩))
      go_upto_if 52 with (fail)
      obtain ⟨WA, hWA⟩ : ∃ WA, wr.alloc (.cells #[.int .i64 node, .int .u64 (x : Int)] 31) = WA := ⟨_, rfl⟩
      have HA := Lib.hid (HAL.out WA hWA.symm)
      rw [hWA]
      obtain ⟨pa, hpa⟩ : ∃ pa, wr.heap.size = pa := ⟨_, rfl⟩
      rw [hpa] at HA ⊢
      have HPA := Lib.hid hpa
      clear HAL hWA hpa c0 c1
      go_cut [9] (fun wv wx => ∃ g b, wv = .pointer (some ⟨g, 0, none⟩) ∧ Hid (PW w wx g b i r v t n low L) ∧ Hid (wx.heap[pa]? = some (.cells #[.int .i64 node, .int .u64 (x : Int)] 31 (0, 0))))
      case first =>
        by_cases h3 : i % 3 = 2
        · have e1 : ((i : Int) % 3 == 2) = true := by simp; omega
          have e2 : ((i : Int).tmod 3 == 2) = true := by rw [Int.tmod_eq_emod_of_nonneg (by omega)]; exact e1
          have e3 : (i % 3 == 2) = true := by simpa using h3
          obtain ⟨l1, hl1⟩ : ∃ l1, low + 1 = l1 := ⟨_, rfl⟩
          obtain ⟨l2, hl2⟩ : ∃ l2, low + 2 = l2 := ⟨_, rfl⟩
          have w1 : IntKind.u64.wrap ((low : Int) + 1) = (l1 : Int) := by have := HW.out; rw [u64w _ (by omega) (by omega)]; omega
          have w2 : IntKind.u64.wrap ((low : Int) + 2) = (l2 : Int) := by have := HW.out; rw [u64w _ (by omega) (by omega)]; omega
          have hl1b : l1 < 18446744073709551616 := by have := HW.out; omega
          have hl2b : l2 < 18446744073709551616 := by have := HW.out; omega
          have HLB := Lib.hid (And.intro hl1b hl2b)
          have hn3 : (n : Int) ≤ 7 := by have := HW.out; omega
          have HCL := Lib.hid (wnclone_any HA.out.1.win)
          clear h3 hl1 hl2 hl1b hl2b
          go_wp2_with (fail)
          refine HCL.out.mono ?_
          clear HCL
          rintro e w3 ⟨g', b', rfl, hg', hb', hw3, hz3⟩
          have hp3 := HA.out.1.below hz3
          have hr3 := row_below HA.out.2 hz3
          have hbl := HA.out.1.win.map.lt
          have HP3 := Lib.hid hp3
          have HW3 := Lib.hid hw3
          have HR3 := Lib.hid hr3
          have HNE := Lib.hid (show b' ≠ b ∧ w.heap.size ≤ b' from ⟨by omega, by have := HA.out.1.bel.size; omega⟩)
          have HA1 := Lib.hid (ack_any hp3.win (by omega) 0 l1 HLB.out.1)
          clear hg' hb' hw3 hz3 hp3 hr3 hbl
          go_wp2_with (fail)
          refine HA1.out.mono ?_
          clear HA1
          rintro e w4 ⟨rfl, hw4, hk4⟩
          have hgb : g' ≠ b := by
            intro e
            obtain ⟨es, cl, hb⟩ := HP3.out.win.map.obj
            have := HW3.out.row
            rw [e, hb] at this
            cases this
          have hpb : pa ≠ b := by
            intro e
            obtain ⟨es, cl, hb⟩ := HP3.out.win.map.obj
            have := HR3.out
            rw [e, hb] at this
            cases this
          have HGB := Lib.hid (And.intro hgb hpb)
          obtain ⟨_, q2, q3⟩ := HP3.out.prog hw4 hk4
          have HP4 := Lib.hid (show PW w w4 g b (i + 1) r v (t.ack 0 l1) n low (rput L n low 0 l1) ∧ True ∨ True from .inr trivial)
          have HQ4 := Lib.hid (And.intro q2 q3)
          have HW4 := Lib.hid hw4
          have HN4 := Lib.hid (HW3.out.keeps hk4 hgb HNE.out.1)
          have HR4 := Lib.hid (hk4.row HR3.out hpb)
          have HA2 := Lib.hid (fun nd => ack_any hw4 (by omega) nd l2 HLB.out.2)
          clear hw4 hk4 q2 q3 hgb hpb HP4
          go_wp2_with (fail)
          refine (HA2.out _).mono ?_
          clear HA2
          rintro e w5 ⟨rfl, hw5, hk5⟩
          have hob : ∀ q, v.ownBlock = some q → q ≠ b := by
            obtain ⟨es, cl, hb⟩ := HW4.out.map.obj
            exact own_ne_map HQ4.out.1.own hb
          have hrb : r ≠ b := by
            intro e
            obtain ⟨es, cl, hb⟩ := HW4.out.map.obj
            have := HQ4.out.1.row
            rw [e, hb] at this
            cases this
          have HN5 := Lib.hid (HN4.out.keeps hk5 HGB.out.1 HNE.out.1)
          have HR5 := Lib.hid (hk5.row HR4.out HGB.out.2)
          have HQ5 := Lib.hid (HQ4.out.1.keeps hk5 hrb hob)
          have HB5 := Lib.hid (HQ4.out.2.trans (hk5.below HQ4.out.2.size (fun i hi => by have := HA.out.1.lo; omega)))
          clear hw5 hk5 hob hrb
          go_wp2_with (fail)
          go_meet
          case rel => exact ⟨g', b', rfl, Lib.hid ⟨HN5.out, HQ5.out, HA.out.1.rel, HB5.out, HNE.out.2⟩, HR5⟩
        · have e1 : ((i : Int) % 3 == 2) = false := by simp; omega
          have e2 : ((i : Int).tmod 3 == 2) = false := by rw [Int.tmod_eq_emod_of_nonneg (by omega)]; exact e1
          have e3 : (i % 3 == 2) = false := by simpa using h3
          clear h3
          go_wp2_with (fail)
          go_meet
          case rel => exact ⟨g, b, rfl, Lib.hid HA.out.1, Lib.hid HA.out.2⟩
      case rest =>
        obtain ⟨g2, b2, rfl, HP, HRa⟩ := hcut
        have c0 := cell_of_row wc pa 0 _ _ _ HRa.out
        have c1 := cell_of_row wc pa 1 _ _ _ HRa.out
        have HAC := Lib.hid (ack_any HP.out.win (by omega) node x HI.out.2)
        go_wp2_with (fail)
        refine HAC.out.mono ?_
        clear HAC
        rintro e w3 ⟨rfl, hw3, hk3⟩
        obtain ⟨_, hr3, hb3⟩ := HP.out.prog hw3 hk3
        have hpb : pa ≠ b2 := by
          intro e
          obtain ⟨es, cl, hb⟩ := HP.out.win.map.obj
          have := HRa.out
          rw [e, hb] at this
          cases this
        have hp3 := hk3.row HRa.out hpb
        have k0 := cell_of_row w3 pa 0 _ _ _ hp3
        have k1 := cell_of_row w3 pa 1 _ _ _ hp3
        have HP3 := Lib.hid hp3
        have HW3 := Lib.hid hw3
        have HR3 := Lib.hid hr3
        have HB3 := Lib.hid hb3
        have hll : L.length ≤ 60 := by have := HLL.out; have := HM.out; omega
        have HRC := Lib.hid (rack_any hr3 (by omega) HW.out.2.2 node x HI.out.2)
        clear hw3 hk3 hr3 hb3 hpb hp3 c0 c1
        go_wp2_with (fail)
        refine HRC.out.mono ?_
        clear HRC
        rintro e W ⟨rfl, v', hr4, hk4, hv4⟩
        have hvq : ∀ q, v.ownBlock = some q → q ≠ g2 := own_ne_row HR3.out.own HW3.out.row (by decide)
        have hvb : ∀ q, v.ownBlock = some q → q ≠ b2 := by
          obtain ⟨es, cl, hb⟩ := HW3.out.map.obj
          exact own_ne_map HR3.out.own hb
        have hrg : g2 ≠ r := row_ne HW3.out.row HR3.out.row (by decide)
        have hrb : b2 ≠ r := by
          intro e
          obtain ⟨es, cl, hb⟩ := HW3.out.map.obj
          have := HR3.out.row
          rw [← e, hb] at this
          cases this
        have hpr : pa ≠ r := row_ne HP3.out HR3.out.row (by decide)
        have hpv : ¬ v.ownBlock = some pa := fun e => by have := (HO.out.ref.own.lt pa e).2; have := HPA.out; omega
        have hw4 := HW3.out.keeps hk4 (fun e => e.elim hrg (fun e => hvq g2 e rfl)) (fun e => e.elim hrb (fun e => hvb b2 e rfl))
        have hp4 := hk4.row HP3.out (fun e => e.elim hpr hpv)
        have hb4 : Below w.heap.size w W := HB3.out.trans (hk4.below HB3.out.size (fun q hq => by
          rcases hq with rfl | hq
          · exact HR3.out.lo
          · exact (HR3.out.own.lt q hq).1))
        have hrel := HP.out.rel.ack HW.out.2.1 node x
        have herr := HP.out.rel.err HW.out.2.1 node x
        have hlen := rput_len L n low node x
        obtain ⟨t', ht'⟩ : ∃ t', t.ack node x = t' := ⟨_, rfl⟩
        obtain ⟨L', hL'⟩ : ∃ L', rput L n low node x = L' := ⟨_, rfl⟩
        obtain ⟨E, hE⟩ : ∃ E, rerr n low node x = E := ⟨_, rfl⟩
        rw [ht', hL'] at hrel
        rw [hL'] at hr4 hlen
        rw [ht'] at hw4
        rw [hE] at herr
        rw [herr, hE]
        have HNEW := Lib.hid (show PW w W g2 b2 (i + 1) r v' t' n low L' from ⟨hw4, hr4, hrel, hb4, HP.out.lo⟩)
        have HLEN := Lib.hid (show L'.length ≤ i + 1 by have := HLL.out; omega)
        have hl' : L'.length ≤ 1000 := by omega
        have HC7 := Lib.hid (fun W' (hb : Below W.heap.size W W') => to_below (who_any (HNEW.out.below hb).win x HI.out.2))
        have HC11 := Lib.hid (fun W' (hb : Below W.heap.size W W') => to_below (rwho_any (HNEW.out.below hb).ref hl' HW.out.2.1 x))
        rw [← hrel.who hw4.ok HW.out.2.1 x] at HC11
        have HC16 := Lib.hid (fun W' (hb : Below W.heap.size W W') => com_any (HNEW.out.below hb).win (by omega) (HT.out.below (HNEW.out.below hb).bel))
        have HC18 := Lib.hid (fun W' (hb : Below W.heap.size W W') => rcom_any (HNEW.out.below hb).ref hl' HW.out.2.1 HW.out.2.2)
        rw [← hrel.com hw4.ok HW.out.2.1] at HC18
        have HC26 := Lib.hid (fun W' (hb : Below W.heap.size W W') => lacks_any (HNEW.out.below hb).win node top)
        have HC31 := Lib.hid (fun W' (hb : Below W.heap.size W W') => rlacks_any (HNEW.out.below hb).ref hl' HW.out.2.2 node top)
        rw [← hrel.lacks HW.out.2.1 node top] at HC31
        obtain ⟨l, hl⟩ : ∃ l, t'.lacks node top = l := ⟨_, rfl⟩
        obtain ⟨M, hM⟩ : ∃ M, t'.com = M := ⟨_, rfl⟩
        obtain ⟨y, hy⟩ : ∃ y, t'.who x = y := ⟨_, rfl⟩
        rw [hl] at HC26 HC31
        rw [hM] at HC16 HC18
        rw [hy] at HC7 HC11
        have HCI := Lib.hid (fun W' A3 c3 A4 c4 (h3 : Rd W' W'.heap.size 1 A3 l.length c3 (u64s l)) (h4 : Rd W' W'.heap.size 1 A4 l.length c4 (u64s l)) => ints_any A3 A4 l.length c3 c4 l W' rfl h3 h4)
        have HC37 := Lib.hid (fun W' (hb : Below W.heap.size W W') => to_below (nodes_any (HNEW.out.below hb).win))
        rw [hrel.nn] at HC37
        have s0 := cell_of_row W pa 0 _ _ _ hp4
        have s1 := cell_of_row W pa 1 _ _ _ hp4
        have hpa4 : pa < W.heap.size := (Array.getElem?_eq_some_iff.1 hp4).1
        clear hr4 hk4 hv4 hvq hvb hrg hrb hpr hpv hw4 hp4 hb4 hrel herr hlen ht' hL' hE hl' hl hM hy HW3 HR3 HB3 HP3 hll k0 k1
        have qE : (E != E) = false := bne_self_eq_false _
        have qy : ((y : Int) != (y : Int)) = false := bne_self_eq_false _
        have qn : ((n : Int) != (n : Int)) = false := bne_self_eq_false _
        have qM : ((M.1 : Int) == (M.1 : Int)) = true := beq_self_eq_true _
        have qM2 : ((M.2 : Int) == (M.2 : Int)) = true := beq_self_eq_true _
        go_wp2_with (fail)
        refine wp_low W.heap.size [([0, 1, 2, 3, 4, 5, 6, 8, 9, 10], 7), ([], 11), ([12, 13, 14, 15, 17], 16), ([], 18), ([19, 20, 21, 22, 23, 24, 25, 27, 28, 29, 30], 26), ([], 31), ([], 32), ([33, 34, 35, 36, 38], 37)] [39, 40] (by kernel_rfl) (by kernel_rfl) (fun d _ _ _ _ h => by cases d <;> exact h) (Nat.le_refl _) fun wd hbd => ?_
        intro q hq
        have d0 := fun z => kept (hq z) s0 hpa4
        have d1 := fun z => kept (hq z) s1 hpa4
        simp only [pickI, Option.toList_some, List.cons_append, List.nil_append, List.getElem?_toArray, List.getElem?_cons_succ, List.getElem?_cons_zero]
        try go_frame
        go_big_quiet_step (fail)
        go_big_quiet_step (fail)
        go_big_quiet_step (fail)
        go_big_quiet_step (fail)
        go_big_quiet_step (fail)
        go_big_quiet_step (fail)
        go_big_quiet_step (fail)
        go_big_quiet_step (fail)
        go_big_quiet_step (fail)
        go_big_quiet_step (fail)
        refine wpQuiet_nil ?_
        clear hq q d0 d1
        refine seg_op (by simp only [List.getElem?_toArray, List.getElem?_cons_succ, List.getElem?_cons_zero]; rfl) fun K hK => ?_
        go_simp
        refine (HC7.out _ hbd).mono ?_
        rintro e v0 ⟨rfl, bv0⟩
        have zv0 := hbd.trans (bv0.mono hbd.size)
        refine hK.out _ _ (seg_keep zv0 ?_)
        clear hK K
        intro q hq
        refine wpQuiet_nil ?_
        clear hq q
        refine seg_op (by simp only [List.getElem?_toArray, List.getElem?_cons_succ, List.getElem?_cons_zero]; rfl) fun K hK => ?_
        go_simp
        refine (HC11.out _ zv0).mono ?_
        rintro e v1 ⟨rfl, bv1⟩
        have zv1 := zv0.trans (bv1.mono zv0.size)
        refine hK.out _ _ (seg_keep zv1 ?_)
        clear hK K
        intro q hq
        have d0 := fun z => kept (hq z) s0 hpa4
        have d1 := fun z => kept (hq z) s1 hpa4
        simp only [pickI, Option.toList_some, List.cons_append, List.nil_append, List.getElem?_toArray, List.getElem?_cons_succ, List.getElem?_cons_zero]
        try go_frame
        go_big_quiet_step (fail)
        go_big_quiet_step (fail)
        go_big_quiet_step (fail)
        go_big_quiet_step (fail)
        go_big_quiet_step (fail)
        refine wpQuiet_nil ?_
        clear hq q d0 d1
        refine seg_op (by simp only [List.getElem?_toArray, List.getElem?_cons_succ, List.getElem?_cons_zero]; rfl) fun K hK => ?_
        go_simp
        refine (HC16.out _ zv1).mono ?_
        rintro e v2 ⟨rfl, bv2⟩
        have zv2 := zv1.trans (bv2.mono zv1.size)
        refine hK.out _ _ (seg_keep zv2 ?_)
        clear hK K
        intro q hq
        refine wpQuiet_nil ?_
        clear hq q
        refine seg_op (by simp only [List.getElem?_toArray, List.getElem?_cons_succ, List.getElem?_cons_zero]; rfl) fun K hK => ?_
        go_simp
        refine (HC18.out _ zv2).mono ?_
        rintro e v3 ⟨rfl, bv3⟩
        have zv3 := zv2.trans (bv3.mono zv2.size)
        refine hK.out _ _ (seg_keep zv3 ?_)
        clear hK K
        intro q hq
        have d0 := fun z => kept (hq z) s0 hpa4
        have d1 := fun z => kept (hq z) s1 hpa4
        simp only [pickI, Option.toList_some, List.cons_append, List.nil_append, List.getElem?_toArray, List.getElem?_cons_succ, List.getElem?_cons_zero]
        try go_frame
        go_big_quiet_step (fail)
        go_big_quiet_step (fail)
        go_big_quiet_step (fail)
        go_big_quiet_step (fail)
        go_big_quiet_step (fail)
        go_big_quiet_step (fail)
        go_big_quiet_step (fail)
        go_big_quiet_step (fail)
        go_big_quiet_step (fail)
        go_big_quiet_step (fail)
        go_big_quiet_step (fail)
        refine wpQuiet_nil ?_
        clear hq q d0 d1
        refine seg_op (by simp only [List.getElem?_toArray, List.getElem?_cons_succ, List.getElem?_cons_zero]; rfl) fun K hK => ?_
        go_simp
        refine (HC26.out _ zv3).mono ?_
        rintro e v4 ⟨A3, c3, rfl, hrd3, bv4⟩
        have zv4 := zv3.trans (bv4.mono zv3.size)
        have HRD3 := Lib.hid hrd3
        clear hrd3
        refine hK.out _ _ (seg_keep zv4 ?_)
        clear hK K
        intro q hq
        refine wpQuiet_nil ?_
        clear hq q
        refine seg_op (by simp only [List.getElem?_toArray, List.getElem?_cons_succ, List.getElem?_cons_zero]; rfl) fun K hK => ?_
        go_simp
        refine (HC31.out _ zv4).mono ?_
        rintro e v5 ⟨A4, c4, rfl, hrd4, bv5⟩
        have zv5 := zv4.trans (bv5.mono zv4.size)
        have HRD4 := Lib.hid hrd4
        have HRD5 := Lib.hid ((HRD3.out.below bv5).more bv5.size)
        clear hrd4
        refine hK.out _ _ (seg_keep zv5 ?_)
        clear hK K
        intro q hq
        refine wpQuiet_nil ?_
        clear hq q
        refine seg_op (by simp only [List.getElem?_toArray, List.getElem?_cons_succ, List.getElem?_cons_zero]; rfl) fun K hK => ?_
        go_simp
        refine (HCI.out _ _ _ _ _ HRD5.out HRD4.out).mono ?_
        rintro e v6 ⟨rfl, bv6⟩
        have zv6 := zv5.trans (bv6.mono zv5.size)
        refine hK.out _ _ (seg_keep zv6 ?_)
        clear hK K
        intro q hq
        have d0 := fun z => kept (hq z) s0 hpa4
        have d1 := fun z => kept (hq z) s1 hpa4
        simp only [pickI, Option.toList_some, List.cons_append, List.nil_append, List.getElem?_toArray, List.getElem?_cons_succ, List.getElem?_cons_zero]
        try go_frame
        go_big_quiet_step (fail)
        go_big_quiet_step (fail)
        go_big_quiet_step (fail)
        go_big_quiet_step (fail)
        go_big_quiet_step (fail)
        refine wpQuiet_nil ?_
        clear hq q d0 d1
        refine seg_op (by simp only [List.getElem?_toArray, List.getElem?_cons_succ, List.getElem?_cons_zero]; rfl) fun K hK => ?_
        go_simp
        refine (HC37.out _ zv6).mono ?_
        rintro e v7 ⟨rfl, bv7⟩
        have zv7 := zv6.trans (bv7.mono zv6.size)
        refine hK.out _ _ (seg_keep zv7 ?_)
        clear hK K
        intro q hq
        have d0 := fun z => kept (hq z) s0 hpa4
        have d1 := fun z => kept (hq z) s1 hpa4
        simp only [pickI, Option.toList_some, List.cons_append, List.nil_append, List.getElem?_toArray, List.getElem?_cons_succ, List.getElem?_cons_zero]
        try go_frame
        go_big_quiet_step (fail)
        go_big_quiet_step (fail)
        refine wpQuiet_nil ?_
        clear hq q d0 d1
        go_wp2
        go_roundw
        case rel => exact ⟨i + 1, g2, b2, v', t', L', by have := HI.out; omega, by go_num, rfl, Lib.hid (HNEW.out.below (zv7)), HLEN⟩
        case measure => have := HI.out; simp [intOf]; omega
    · obtain rfl : i = m := by omega
      have HLV := Lib.hid (lives21_any wr (HT.out.below HO.out.bel))
      go_wp2_with (first
        | (go_at_call 7; refine HLV.out.mono ?_; rintro e w2 ⟨rfl, hb2⟩)
        | fail)
      go_ret
      exact ⟨rfl, HO.out.bel.trans (hb2.mono HO.out.bel.size)⟩
theorem windowPlays_walk {w : World} (n : Int) (_ : (Lit.int .i64 n).wf = true) (low : Int) (hl : (Lit.int .u64 low).wf = true) {A : Option Addr} {m c : Nat} {os : List AckD} (hs : Slc AckD.lay w A m c os) (top : Int) (ht : (Lit.int .u64 top).wf = true) (hT : Tab w) :
    Calls Tryd.prog 3 #[.int .i64 n, .int .u64 low, .slice A m c, .int .u64 top] w fun e w' => e = .returned (.bool true) ∧ Below w.heap.size w w' := by
  obtain ⟨low, rfl, hlow⟩ := wf_u64 hl
  obtain ⟨top, rfl, ht64⟩ := wf_u64 ht
  by_cases h : 60 < m
  · exact plays_early n _ A m c _ w hT h
  · by_cases hn : n < 1 ∨ 7 < n ∨ 4611686018427387584 < low
    · exact plays_none n low A m c _ w hT h hn
    · obtain ⟨k, rfl⟩ : ∃ k : Nat, n = (k : Int) := ⟨n.toNat, by omega⟩
      exact plays_main k low hs top ht64 hT h (by omega) (by omega) (by omega)
namespace windowPlays
open Go.ChangeShapes Go.WideShapes Go.ChangeAt
set_option maxRecDepth 100000 in
theorem lifted (os : Os) (started : os.Started) (H : Type) (enc : TypeId × Value → H) :
    ReturnsInHanded {} Tryd.checked os 3 .any (fun w args => (Rows.windowPlaysSpec.pre enc Tryd.prog Tryd.f3 [] false w args ∧ laidMetH Tryd.prog laidL w) ∧ sizedMet enc Tryd.prog Tryd.f3 (OpenSpec.ofChange Rows.windowPlaysSpec) false w args)
      (Rows.windowPlaysSpec.post enc Tryd.prog Tryd.f3 false true false false) := by
  refine returnsInHanded_of_change_and (C := Tryd.checked) (X := fun w _ => laidMetH Tryd.prog laidL w) (fun _ _ _ hh h => h.of_heap hh) own started (by kernel_rfl) Tryd.func3
    (ChangeSpec.witness_shaped (enc := enc) (C := Tryd.checked) (os := os) (X := fun w _ => laidMetH Tryd.prog laidL w) false (World.doorLaid Tryd.prog 400 os) #[.int .i64 0, .int .u64 0, .slice none 0 0, .int .u64 0] 8 rfl (World.shaped_of_RefB (by kernel_rfl) (by kernel_rfl)) (by kernel_rfl) (by kernel_rfl) (by kernel_rfl) (door_met os _)) ?_
  intro W base args ds gs before hval0 hW _ _ hL _
  have hval : ∀ (j : Nat) t v, Tryd.f3.params[j]? = some t → args[j]? = some v → Value.okWide Tryd.prog W .any base t v := hval0
  have hW' := hW
  obtain ⟨p, q, hA0, hV, rfl, hfz, hnd⟩ := hW
  have hA : DataW.TrodAll enc Tryd.prog W 0 (fun _ => true) true Tryd.f3.params.toList args.toList ds p := hA0
  rw [Tryd.params3] at hA hval
  obtain ⟨v0, vs0, d0, ds0, p0, q0, hargs, rfl, rfl, h0, r0⟩ := trodAll_cons hA
  obtain ⟨v1, vs1, d1, ds1, p1, q1, rfl, rfl, rfl, h1, r1⟩ := trodAll_cons r0
  obtain ⟨v2, vs2, d2, ds2, p2, q2, rfl, rfl, rfl, h2, r2⟩ := trodAll_cons r1
  obtain ⟨v3, vs3, d3, ds3, p3, q3, rfl, rfl, rfl, h3, r3⟩ := trodAll_cons r2
  obtain ⟨rfl, rfl, rfl⟩ := trodAll_nil r3
  obtain rfl : args = #[v0, v1, v2, v3] := by cases args; simp_all
  obtain ⟨rfl, rfl⟩ := trodVars_none hV
  have k0 := h0
  have lt0 : ∀ x ∈ p0, x.block < W.heap.size := by obtain ⟨m, hm⟩ := k0; exact DataW.trod_lt m _ _ _ hm
  obtain ⟨x0, rfl, w0⟩ := dec_int Tryd.underlying3 (hval 0 3 v0 rfl rfl) h0
  have k1 := h1
  have lt1 : ∀ x ∈ p1, x.block < W.heap.size := by obtain ⟨m, hm⟩ := k1; exact DataW.trod_lt m _ _ _ hm
  obtain ⟨x1, rfl, w1⟩ := dec_int Tryd.underlying22 (hval 1 22 v1 rfl rfl) h1
  have k2 := h2
  have lt2 : ∀ x ∈ p2, x.block < W.heap.size := by obtain ⟨m, hm⟩ := k2; exact DataW.trod_lt m _ _ _ hm
  obtain ⟨a2, n2, c2, l2, rfl, w2⟩ := AckD.dec (hval 2 23 v2 rfl rfl) h2
  have k3 := h3
  have lt3 : ∀ x ∈ p3, x.block < W.heap.size := by obtain ⟨m, hm⟩ := k3; exact DataW.trod_lt m _ _ _ hm
  obtain ⟨x3, rfl, w3⟩ := dec_int Tryd.underlying22 (hval 3 22 v3 rfl rfl) h3
  clear hA0 hval0
  have hT := of_laid hL
  refine (windowPlays_walk x0 w0 x1 w1 w2 x3 w3 hT).mono fun e W' ⟨he, bel⟩ => ?_
  subst he
  exact ⟨_, rfl, _, _, _, [], _, [], hW', trodAll_mk1 (shut_bool Tryd.underlying4 _), (trodAll_cons_mk (Below.trod laidOut (by kernel_rfl) (of_decide_eq_true (by kernel_rfl)) k0 bel lt0) (trodAll_cons_mk (Below.trod laidOut (by kernel_rfl) (of_decide_eq_true (by kernel_rfl)) k1 bel lt1) (trodAll_cons_mk (Below.trod laidOut (by kernel_rfl) (of_decide_eq_true (by kernel_rfl)) k2 bel lt2) (trodAll_cons_mk (Below.trod laidOut (by kernel_rfl) (of_decide_eq_true (by kernel_rfl)) k3 bel lt3) trodAll_mk0)))), rfl, bel.frame _, fun h => by cases h⟩

theorem over : Rows.windowPlaysRow.holds Tryd.pinned (OpenSpec.ofChange Rows.windowPlaysSpec) :=
  OpenClaim.holds_of_wide 3 Tryd.f3 rfl rfl rfl rfl rfl rfl rfl ⟨rfl, rfl, rfl, rfl, rfl⟩ rfl rfl rfl rfl rfl (by kernel_rfl) Tryd.func3 (by kernel_rfl)
    (of_decide_eq_true (by kernel_rfl)) (by unfold Func.isWrapper; first | (rw [if_pos (by decide +kernel)]; kernel_rfl) | (rw [if_neg (by decide +kernel)]; exact ⟨rfl, rfl⟩))
    (fun os started H enc _ => lifted os started H enc)
theorem row_tie : Rows.windowPlaysRow.laidByTextAt .later Tryd.pinned [.data] true := windowPlays_row_tie
/-- The given statement: the card. -/
theorem proved : Rows.WindowPlaysCardSaid :=
  Claim7.holds_tied_plain_at .later [] [.data] true Rows.windowPlaysCard.stood.harness true
    over (fun _ h => by cases h) (by kernel_rfl) (fun _ h => by cases h) row_tie rfl ⟨rfl, rfl⟩ (by kernel_rfl) rfl
    (fun f fn hf hfn => by
      obtain rfl : f = 3 := Option.some.inj ((show Tryd.prog.funcNamed Rows.windowPlaysRow.func = some 3 by kernel_rfl).symm.trans hf) |>.symm
      obtain rfl : fn = Tryd.f3 := (Option.some.inj (Tryd.func3.symm.trans hfn)).symm
      exact ⟨by kernel_rfl, fun j t ht => by
        rw [Tryd.params3] at ht
        have hm : t ∈ [3, 22, 23, 22] := by simpa using Array.mem_of_getElem? ht
        have hall : ([3, 22, 23, 22].all fun u => !Tryd.prog.wantsStandIn u) = true := by kernel_rfl
        exact (show Tryd.prog.wantsStandIn t = false by simpa using List.all_eq_true.1 hall t hm)⟩)
    (by kernel_rfl)
end windowPlays

end Go.Proofs.YtjhakplaffgkpaaDoor
