/- What is committed stays so, whoever is told to have what then; and the Marks are good. -/
import Derived.Test.YtjhakplaffgkpaaDoorWlvM
import Derived.Test.YtjhakplaffgkpaaDoorWrefM
import Derived.Test.YtjhakplaffgkpaaDoorFarM
import Derived.Test.YtjhakplaffgkpaaDoorMtieM
import Derived.Test.YtjhakplaffgkpaaDoorCards
import Derived.Test.YtjhakplaffgkpaaDoorTie
namespace Go.Proofs.YtjhakplaffgkpaaDoor
open Go.RowKit
set_option maxRecDepth 20000

theorem stays_early (n : Int) (low : Int) (A : Option Addr) (m c : Nat) (x : Int) (w : World) (hT : Tab w) (h : 200 < m) :
    Calls Tryd.prog 4 #[.int .i64 n, .int .u64 low, .slice A m c, .int .u64 x] w fun e w' => e = .returned (.bool true) ∧ Below w.heap.size w w' := by
  have HL := Lib.hid (lives21_any w hT)
  have d1 : decide (200 < (m : Int)) = true := by simp; omega
  clear h hT
  go_enter Tryd.func4, Tryd.ntmps4
  go_wp2_with (first
    | (go_at_call 7; refine HL.out.mono ?_; rintro e w2 ⟨rfl, hb2⟩)
    | fail)
  go_ret
  exact ⟨rfl, hb2⟩
theorem stays_none (n : Int) (low : Nat) (A : Option Addr) (m c : Nat) (x : Int) (w : World) (hT : Tab w) (h : ¬ 200 < m) (hn : n < 1 ∨ 7 < n ∨ 4611686018427387584 < low) :
    Calls Tryd.prog 4 #[.int .i64 n, .int .u64 (low : Int), .slice A m c, .int .u64 x] w fun e w' => e = .returned (.bool true) ∧ Below w.heap.size w w' := by
  have HL := Lib.hid (lives21_any w hT)
  have HN := Lib.hid (new_none n low w hn)
  have d1 : decide (200 < (m : Int)) = false := by simp; omega
  clear h hT
  by_cases h1 : n < 1
  · have q1 : decide (n < 1) = true := by simpa using h1
    clear hn
    go_enter Tryd.func4, Tryd.ntmps4
    go_wp2_with (first
      | (go_at_call 8; refine HN.out.mono ?_; rintro e w2 ⟨rfl, rfl⟩)
      | (go_at_call 7; refine HL.out.mono ?_; rintro e w2 ⟨rfl, hb2⟩)
      | fail)
    go_ret
    exact ⟨rfl, hb2⟩
  · have q1 : decide (n < 1) = false := by simpa using h1
    by_cases h2 : 7 < n
    · have q2 : decide (7 < n) = true := by simpa using h2
      clear hn
      go_enter Tryd.func4, Tryd.ntmps4
      go_wp2_with (first
        | (go_at_call 8; refine HN.out.mono ?_; rintro e w2 ⟨rfl, rfl⟩)
        | (go_at_call 7; refine HL.out.mono ?_; rintro e w2 ⟨rfl, hb2⟩)
        | fail)
      go_ret
      exact ⟨rfl, hb2⟩
    · have q2 : decide (7 < n) = false := by simpa using h2
      have q3 : decide ((2305843009213693952 : Int) < (low : Int)) = true := by simp; omega
      have q3' : decide (2305843009213693952 < low) = true := by simp; omega
      clear hn
      go_enter Tryd.func4, Tryd.ntmps4
      go_wp2_with (first
        | (go_at_call 8; refine HN.out.mono ?_; rintro e w2 ⟨rfl, rfl⟩)
        | (go_at_call 7; refine HL.out.mono ?_; rintro e w2 ⟨rfl, hb2⟩)
        | fail)
      go_ret
      exact ⟨rfl, hb2⟩
/-- Between two rounds: a window, and a box with what is committed. -/
structure St (w wr : World) (g b m p : Nat) (t : Wv) : Prop where
  win : Wn wr g b m t
  row : wr.heap[p]? = some (.cells #[.int .u64 (t.com.1 : Int), .int .u64 (t.com.2 : Int)] 39 (0, 0))
  bel : Below w.heap.size w wr
  lo : w.heap.size ≤ b ∧ w.heap.size ≤ p
set_option maxHeartbeats 4000000 in
theorem stays_main {w : World} (n low : Nat) {A : Option Addr} {m c : Nat} {os : List AckD} (hs : Slc AckD.lay w A m c os) (x : Nat) (hx : x < 18446744073709551616) (hT : Tab w) (h : ¬ 200 < m) (h1 : 1 ≤ n) (h7 : n ≤ 7) (hlo : low ≤ 4611686018427387584) :
    Calls Tryd.prog 4 #[.int .i64 (n : Int), .int .u64 (low : Int), .slice A m c, .int .u64 (x : Int)] w fun e w' => e = .returned (.bool true) ∧ Below w.heap.size w w' := by
  have HN := Lib.hid (new_any n low w h1 h7 hlo)
  have d1 : decide (200 < (m : Int)) = false := by simp; omega
  have HT := Lib.hid hT
  have HS := Lib.hid hs
  have HM := Lib.hid (show m ≤ 200 by omega)
  have HX := Lib.hid hx
  clear h hT hs h1 h7 hlo hx
  go_enter Tryd.func4, Tryd.ntmps4
  go_wp2_with (fail)
  refine HN.out.mono ?_
  clear HN
  rintro e w1 ⟨g, b, rfl, hg, hb, hW, hb1⟩
  have HG := Lib.hid (And.intro hg hb)
  have HW := Lib.hid hW
  have HB1 := Lib.hid hb1
  have HC := Lib.hid (com_any hW (by decide) (HT.out.below hb1))
  clear hg hb hW hb1
  go_wp2_with (fail)
  refine HC.out.mono ?_
  clear HC
  rintro e w2 ⟨rfl, hb2⟩
  have HW2 := Lib.hid (HW.out.below hb2)
  have HB2 := Lib.hid (HB1.out.trans (hb2.mono HB1.out.size))
  clear hb2 HW HB1
  go_wp2_with (fail)
  have HW0 : Hid (St w (w2.alloc (.cells #[.int .u64 ((W0 n low).com.1 : Int), .int .u64 ((W0 n low).com.2 : Int)] 39)) g b 0 w2.heap.size (W0 n low)) := by
    have hb := (Below.refl w2.heap.size w2).alloc (Nat.le_refl _) (.cells #[.int .u64 ((W0 n low).com.1 : Int), .int .u64 ((W0 n low).com.2 : Int)] 39)
    exact Lib.hid ⟨HW2.out.below hb, heap_alloc_new w2 _, HB2.out.trans (hb.mono HB2.out.size), HG.out.2, HB2.out.size⟩
  obtain ⟨p, hp⟩ : ∃ p, w2.heap.size = p := ⟨_, rfl⟩
  rw [hp] at HW0 ⊢
  generalize w2.alloc (.cells #[.int .u64 ((W0 n low).com.1 : Int), .int .u64 ((W0 n low).com.2 : Int)] 39) = W at *
  clear hp HW2 HB2 w2
  have hm3 : (m : Int) ≤ 200 := by have := HM.out; omega
  go_loopw [40] (fun ir wr => ∃ (i : Nat) (t : Wv), i ≤ m ∧ ir = .int .i64 (i : Int) ∧ Hid (St w wr g b i p t)) (fun ir _ => m - (intOf ir).toNat)
  case atStart => exact ⟨0, _, Nat.zero_le _, rfl, HW0⟩
  case round =>
    clear HW0
    obtain ⟨i, t, hi, rfl, HO⟩ := hrel
    by_cases hlt : i < m
    · obtain ⟨o, ho⟩ : ∃ o, os[i]? = some o := ⟨_, List.getElem?_eq_getElem (by rw [HS.out.len]; exact hlt)⟩
      obtain ⟨bb, off, rfl, hbl, hcell⟩ := (HS.out.below HO.out.bel).at_ (by omega)
      have c0 : wr.cell? ⟨bb, off + i * 2, none⟩ = some (.int .i64 o.Node) := hcell i o ho 0 _ rfl
      have c1 : wr.cell? ⟨bb, off + i * 2 + 1, none⟩ = some (.int .u64 o.Index) := by rw [Nat.add_assoc]; exact hcell i o ho 1 _ rfl
      obtain ⟨hr1, hr2⟩ := HS.out.reads o (List.mem_of_getElem? ho)
      obtain ⟨idx, hidx, hx64⟩ := wf_u64 hr2
      obtain ⟨node, hnode⟩ : ∃ node, o.Node = node := ⟨_, rfl⟩
      rw [hidx] at c1
      rw [hnode] at c0
      have HI := Lib.hid (And.intro hlt hx64)
      have hi3 : (i : Int) ≤ 200 := by omega
      clear ho hcell hr1 hr2 hidx hnode hx64 hbl
      have hal : ∀ W', W' = wr.alloc (.cells #[.int .i64 node, .int .u64 (idx : Int)] 31) → St w W' g b i p t := by
        intro W' hW'
        have hb : Below wr.heap.size wr W' := by rw [hW']; exact (Below.refl _ _).alloc (Nat.le_refl _) _
        exact ⟨HO.out.win.below hb, row_below HO.out.row hb, HO.out.bel.trans (hb.mono HO.out.bel.size), HO.out.lo⟩
      have HAL := Lib.hid hal
      clear hal
      go_wp2_with (fail)
      obtain ⟨WA, hWA⟩ : ∃ WA, wr.alloc (.cells #[.int .i64 node, .int .u64 (idx : Int)] 31) = WA := ⟨_, rfl⟩
      have HA := Lib.hid (HAL.out WA hWA.symm)
      rw [hWA]
      clear HAL hWA
      refine (ack_any HA.out.win (by omega) node idx HI.out.2).mono ?_
      rintro e w3 ⟨rfl, hw3, hk3⟩
      have hb3 : Below w.heap.size w w3 := HA.out.bel.trans (hk3.below HA.out.bel.size (fun q hq => by have := HA.out.lo; omega))
      have hpb : p ≠ b := by
        intro e
        obtain ⟨es, cl, hb⟩ := HA.out.win.map.obj
        have := HA.out.row
        rw [e, hb] at this
        cases this
      have hr3 := hk3.row HA.out.row hpb
      have hst := t.ack_stays HA.out.win.ok node idx
      have hMo := t.com_ok HA.out.win.ok
      obtain ⟨t', ht'⟩ : ∃ t', t.ack node idx = t' := ⟨_, rfl⟩
      rw [ht'] at hw3 hst
      have hcm := com_any hw3 (by omega) (HT.out.below hb3)
      obtain ⟨N, hN⟩ : ∃ N, t'.com = N := ⟨_, rfl⟩
      obtain ⟨M, hM⟩ : ∃ M, t.com = M := ⟨_, rfl⟩
      rw [hN] at hcm hst
      rw [hM] at hst hMo hr3
      have HST := Lib.hid hst
      have HMO := Lib.hid hMo
      have HN := Lib.hid hN
      have HW3 := Lib.hid hw3
      have HB3 := Lib.hid hb3
      have HR3 := Lib.hid hr3
      have HCM := Lib.hid hcm
      have HLO := Lib.hid HA.out.lo
      clear hw3 hk3 hb3 hr3 hst hMo hcm hN hM ht' hpb HA HO c0 c1
      go_wp2_with (fail)
      refine HCM.out.mono ?_
      clear HCM
      rintro e w4 ⟨rfl, hb4⟩
      have hr4 := row_below HR3.out hb4
      have e0 := fun o => cell_old o (cell_of_row w4 _ 0 _ _ _ hr4)
      have e1 := fun o => cell_old o (cell_of_row w4 _ 1 _ _ _ hr4)
      obtain ⟨W5, hW5, hs5, hr5, hb5⟩ := boxes1 w4 #[.int .u64 (N.1 : Int), .int .u64 (N.2 : Int)] 39
      have hq5 := row_below hr4 hb5
      have hb45 := hb4.trans (hb5.mono hb4.size)
      have HW5 := Lib.hid (HW3.out.below hb45)
      have HB5 := Lib.hid (HB3.out.trans (hb45.mono HB3.out.size))
      have HR5 := Lib.hid (And.intro hr5 hq5)
      obtain ⟨q, hq⟩ : ∃ q, w4.heap.size = q := ⟨_, rfl⟩
      have HQ := Lib.hid (show w.heap.size ≤ q by have := HB3.out.size; have := hb4.size; omega)
      have HHM := fun W => has_any M.1 M.2 x W (by have := HMO.out.1.1; omega) HMO.out.2 HX.out
      have HHN := fun W => has_any N.1 N.2 x W (by have := HST.out.2.2.1.1; omega) HST.out.2.2.2 HX.out
      have HGN := Lib.hid (fun W (h : Tab W) => good_any N.1 N.2 W (by have := HST.out.2.2.1.1; omega) HST.out.2.2.2 h)
      have HGB := gd_of HST.out.2.2.1
      rw [HGB] at HGN
      clear HGB hr4 hb4 hb45 hs5
      go_wp2_with (fail)
      rw [← hW5]
      rw [hq] at hr5 HR5
      clear hW5 hq hq5 hr5 hb5 e0 e1
      refine (HHM _).mono ?_
      clear HHM
      rintro e w6 ⟨rfl, hb6⟩
      have HR6 := Lib.hid (And.intro (row_below HR5.out.1 hb6) (row_below HR5.out.2 hb6))
      have HW6 := Lib.hid (HW5.out.below hb6)
      have HB6 := Lib.hid (HB5.out.trans (hb6.mono HB5.out.size))
      clear hb6
      have k60 := cell_of_row w6 q 0 _ _ _ HR6.out.1
      have k61 := cell_of_row w6 q 1 _ _ _ HR6.out.1
      have k62 := cell_of_row w6 p 0 _ _ _ HR6.out.2
      have k63 := cell_of_row w6 p 1 _ _ _ HR6.out.2
      have k64 := frozen_of_row w6 p 0 _ _ HR6.out.2
      have k65 := frozen_of_row w6 p 1 _ _ HR6.out.2
      have l1 : decide (N.1 < M.1) = false := by have := HST.out.2.1; simp; omega
      have l2 : decide ((N.1 : Int) < (M.1 : Int)) = false := by have := HST.out.2.1; simp; omega
      have hi4 : ((i : Int) + 1) ≤ 300 := by omega
      cases hHs : Hs M.1 M.2 x with
      | true =>
        have hHn := HST.out.1 x hHs
        rw [hHn] at HHN
        clear hHs hHn
        go_wp2_with (first
          | (go_at_call 21; refine (HHN _).mono ?_; rintro e w7 ⟨rfl, hb7⟩
             have HR7 := Lib.hid (And.intro (row_below HR6.out.1 hb7) (row_below HR6.out.2 hb7))
             have HW7 := Lib.hid (HW6.out.below hb7)
             have HB7 := Lib.hid (HB6.out.trans (hb7.mono HB6.out.size))
             clear hb7
             have k70 := cell_of_row w7 q 0 _ _ _ HR7.out.1
             have k71 := cell_of_row w7 q 1 _ _ _ HR7.out.1
             have k72 := cell_of_row w7 p 0 _ _ _ HR7.out.2
             have k73 := cell_of_row w7 p 1 _ _ _ HR7.out.2
             have k74 := frozen_of_row w7 p 0 _ _ HR7.out.2
             have k75 := frozen_of_row w7 p 1 _ _ HR7.out.2)
          | (go_at_call 22; refine (HGN.out _ (HT.out.below HB7.out)).mono ?_; rintro e w8 ⟨rfl, hb8⟩
             have HR8 := Lib.hid (And.intro (row_below HR7.out.1 hb8) (row_below HR7.out.2 hb8))
             have HW8 := Lib.hid (HW7.out.below hb8)
             have HB8 := Lib.hid (HB7.out.trans (hb8.mono HB7.out.size))
             clear hb8
             have k80 := cell_of_row w8 q 0 _ _ _ HR8.out.1
             have k81 := cell_of_row w8 q 1 _ _ _ HR8.out.1
             have k82 := cell_of_row w8 p 0 _ _ _ HR8.out.2
             have k83 := cell_of_row w8 p 1 _ _ _ HR8.out.2
             have k84 := frozen_of_row w8 p 0 _ _ HR8.out.2
             have k85 := frozen_of_row w8 p 1 _ _ HR8.out.2)
          | fail)
        go_roundw
        case rel =>
          refine ⟨i + 1, t', by have := HI.out; omega, by go_num, Lib.hid ⟨?_, ?_, ?_, HLO.out⟩⟩
          · have hk : Keeps (fun j => j = p) w8 ((w8.setCell ⟨p, 0, none⟩ (.int .u64 (N.1 : Int))).setCell ⟨p, 1, none⟩ (.int .u64 (N.2 : Int))) := (Keeps.set w8 p 0 _).trans (Keeps.set _ p 1 _) (fun i hi => .inl hi)
            refine HW8.out.keeps hk (row_ne HW8.out.row HR8.out.2 (by decide)) ?_
            intro e
            obtain ⟨es, cl, hb⟩ := HW8.out.map.obj
            have := HR8.out.2
            rw [← e, hb] at this
            cases this
          · rw [HN.out, heap_setCell_same _ _ 1 _ _ _ (heap_setCell_same _ _ 0 _ _ _ HR8.out.2)]
            rfl
          · exact (HB8.out.setCell HLO.out.2 _).setCell HLO.out.2 _
        case measure => have := HI.out; simp [intOf]; omega
      | false =>
        clear hHs HHN
        go_wp2_with (first
          | (go_at_call 22; refine (HGN.out _ (HT.out.below HB6.out)).mono ?_; rintro e w8 ⟨rfl, hb8⟩
             have HR8 := Lib.hid (And.intro (row_below HR6.out.1 hb8) (row_below HR6.out.2 hb8))
             have HW8 := Lib.hid (HW6.out.below hb8)
             have HB8 := Lib.hid (HB6.out.trans (hb8.mono HB6.out.size))
             clear hb8
             have k80 := cell_of_row w8 q 0 _ _ _ HR8.out.1
             have k81 := cell_of_row w8 q 1 _ _ _ HR8.out.1
             have k82 := cell_of_row w8 p 0 _ _ _ HR8.out.2
             have k83 := cell_of_row w8 p 1 _ _ _ HR8.out.2
             have k84 := frozen_of_row w8 p 0 _ _ HR8.out.2
             have k85 := frozen_of_row w8 p 1 _ _ HR8.out.2)
          | fail)
        go_roundw
        case rel =>
          refine ⟨i + 1, t', by have := HI.out; omega, by go_num, Lib.hid ⟨?_, ?_, ?_, HLO.out⟩⟩
          · have hk : Keeps (fun j => j = p) w8 ((w8.setCell ⟨p, 0, none⟩ (.int .u64 (N.1 : Int))).setCell ⟨p, 1, none⟩ (.int .u64 (N.2 : Int))) := (Keeps.set w8 p 0 _).trans (Keeps.set _ p 1 _) (fun i hi => .inl hi)
            refine HW8.out.keeps hk (row_ne HW8.out.row HR8.out.2 (by decide)) ?_
            intro e
            obtain ⟨es, cl, hb⟩ := HW8.out.map.obj
            have := HR8.out.2
            rw [← e, hb] at this
            cases this
          · rw [HN.out, heap_setCell_same _ _ 1 _ _ _ (heap_setCell_same _ _ 0 _ _ _ HR8.out.2)]
            rfl
          · exact (HB8.out.setCell HLO.out.2 _).setCell HLO.out.2 _
        case measure => have := HI.out; simp [intOf]; omega
    · obtain rfl : i = m := by omega
      have HLV := Lib.hid (lives21_any wr (HT.out.below HO.out.bel))
      go_wp2_with (first
        | (go_at_call 7; refine HLV.out.mono ?_; rintro e w2 ⟨rfl, hb2⟩)
        | fail)
      go_ret
      exact ⟨rfl, HO.out.bel.trans (hb2.mono HO.out.bel.size)⟩
theorem windowStays_walk {w : World} (n : Int) (_ : (Lit.int .i64 n).wf = true) (low : Int) (hl : (Lit.int .u64 low).wf = true) {A : Option Addr} {m c : Nat} {os : List AckD} (hs : Slc AckD.lay w A m c os) (x : Int) (hx : (Lit.int .u64 x).wf = true) (hT : Tab w) :
    Calls Tryd.prog 4 #[.int .i64 n, .int .u64 low, .slice A m c, .int .u64 x] w fun e w' => e = .returned (.bool true) ∧ Below w.heap.size w w' := by
  obtain ⟨low, rfl, hlow⟩ := wf_u64 hl
  obtain ⟨x, rfl, hx64⟩ := wf_u64 hx
  by_cases h : 200 < m
  · exact stays_early n _ A m c _ w hT h
  · by_cases hn : n < 1 ∨ 7 < n ∨ 4611686018427387584 < low
    · exact stays_none n low A m c _ w hT h hn
    · obtain ⟨k, rfl⟩ : ∃ k : Nat, n = (k : Int) := ⟨n.toNat, by omega⟩
      exact stays_main k low hs x hx64 hT h (by omega) (by omega) (by omega)
namespace windowStays
open Go.ChangeShapes Go.WideShapes Go.ChangeAt
set_option maxRecDepth 100000 in
theorem lifted (os : Os) (started : os.Started) (H : Type) (enc : TypeId × Value → H) :
    ReturnsInHanded {} Tryd.checked os 4 .any (fun w args => (Rows.windowStaysSpec.pre enc Tryd.prog Tryd.f4 [] false w args ∧ laidMetH Tryd.prog laidL w) ∧ sizedMet enc Tryd.prog Tryd.f4 (OpenSpec.ofChange Rows.windowStaysSpec) false w args)
      (Rows.windowStaysSpec.post enc Tryd.prog Tryd.f4 false true false false) := by
  refine returnsInHanded_of_change_and (C := Tryd.checked) (X := fun w _ => laidMetH Tryd.prog laidL w) (fun _ _ _ hh h => h.of_heap hh) own started (by kernel_rfl) Tryd.func4
    (ChangeSpec.witness_shaped (enc := enc) (C := Tryd.checked) (os := os) (X := fun w _ => laidMetH Tryd.prog laidL w) false (World.doorLaid Tryd.prog 400 os) #[.int .i64 0, .int .u64 0, .slice none 0 0, .int .u64 0] 8 rfl (World.shaped_of_RefB (by kernel_rfl) (by kernel_rfl)) (by kernel_rfl) (by kernel_rfl) (by kernel_rfl) (door_met os _)) ?_
  intro W base args ds gs before hval0 hW _ _ hL _
  have hval : ∀ (j : Nat) t v, Tryd.f4.params[j]? = some t → args[j]? = some v → Value.okWide Tryd.prog W .any base t v := hval0
  have hW' := hW
  obtain ⟨p, q, hA0, hV, rfl, hfz, hnd⟩ := hW
  have hA : DataW.TrodAll enc Tryd.prog W 0 (fun _ => true) true Tryd.f4.params.toList args.toList ds p := hA0
  rw [Tryd.params4] at hA hval
  obtain ⟨v0, vs0, d0, ds0, p0, q0, hargs, rfl, rfl, h0, r0⟩ := trodAll_cons hA
  obtain ⟨v1, vs1, d1, ds1, p1, q1, rfl, rfl, rfl, h1, r1⟩ := trodAll_cons r0
  obtain ⟨v2, vs2, d2, ds2, p2, q2, rfl, rfl, rfl, h2, r2⟩ := trodAll_cons r1
  obtain ⟨v3, vs3, d3, ds3, p3, q3, rfl, rfl, rfl, h3, r3⟩ := trodAll_cons r2
  obtain ⟨rfl, rfl, rfl⟩ := trodAll_nil r3
  obtain rfl : args = #[v0, v1, v2, v3] := by cases args; simp_all
  obtain ⟨rfl, rfl⟩ := trodVars_none hV
  have k0 := h0
  have lt0 : ∀ x ∈ p0, x.block < W.heap.size := by obtain ⟨m, hm⟩ := k0; exact DataW.trod_lt m _ _ _ hm
  obtain ⟨x0, rfl, w0⟩ := dec_int Tryd.underlying3 (hval 0 3 v0 rfl rfl) h0
  have k1 := h1
  have lt1 : ∀ x ∈ p1, x.block < W.heap.size := by obtain ⟨m, hm⟩ := k1; exact DataW.trod_lt m _ _ _ hm
  obtain ⟨x1, rfl, w1⟩ := dec_int Tryd.underlying22 (hval 1 22 v1 rfl rfl) h1
  have k2 := h2
  have lt2 : ∀ x ∈ p2, x.block < W.heap.size := by obtain ⟨m, hm⟩ := k2; exact DataW.trod_lt m _ _ _ hm
  obtain ⟨a2, n2, c2, l2, rfl, w2⟩ := AckD.dec (hval 2 23 v2 rfl rfl) h2
  have k3 := h3
  have lt3 : ∀ x ∈ p3, x.block < W.heap.size := by obtain ⟨m, hm⟩ := k3; exact DataW.trod_lt m _ _ _ hm
  obtain ⟨x3, rfl, w3⟩ := dec_int Tryd.underlying22 (hval 3 22 v3 rfl rfl) h3
  clear hA0 hval0
  have hT := of_laid hL
  refine (windowStays_walk x0 w0 x1 w1 w2 x3 w3 hT).mono fun e W' ⟨he, bel⟩ => ?_
  subst he
  exact ⟨_, rfl, _, _, _, [], _, [], hW', trodAll_mk1 (shut_bool Tryd.underlying4 _), (trodAll_cons_mk (Below.trod laidOut (by kernel_rfl) (of_decide_eq_true (by kernel_rfl)) k0 bel lt0) (trodAll_cons_mk (Below.trod laidOut (by kernel_rfl) (of_decide_eq_true (by kernel_rfl)) k1 bel lt1) (trodAll_cons_mk (Below.trod laidOut (by kernel_rfl) (of_decide_eq_true (by kernel_rfl)) k2 bel lt2) (trodAll_cons_mk (Below.trod laidOut (by kernel_rfl) (of_decide_eq_true (by kernel_rfl)) k3 bel lt3) trodAll_mk0)))), rfl, bel.frame _, fun h => by cases h⟩

theorem over : Rows.windowStaysRow.holds Tryd.pinned (OpenSpec.ofChange Rows.windowStaysSpec) :=
  OpenClaim.holds_of_wide 4 Tryd.f4 rfl rfl rfl rfl rfl rfl rfl ⟨rfl, rfl, rfl, rfl, rfl⟩ rfl rfl rfl rfl rfl (by kernel_rfl) Tryd.func4 (by kernel_rfl)
    (of_decide_eq_true (by kernel_rfl)) (by unfold Func.isWrapper; first | (rw [if_pos (by decide +kernel)]; kernel_rfl) | (rw [if_neg (by decide +kernel)]; exact ⟨rfl, rfl⟩))
    (fun os started H enc _ => lifted os started H enc)
theorem row_tie : Rows.windowStaysRow.laidByTextAt .later Tryd.pinned [.data] true := windowStays_row_tie
/-- The given statement: the card. -/
theorem proved : Rows.WindowStaysCardSaid :=
  Claim7.holds_tied_plain_at .later [] [.data] true Rows.windowStaysCard.stood.harness true
    over (fun _ h => by cases h) (by kernel_rfl) (fun _ h => by cases h) row_tie rfl ⟨rfl, rfl⟩ (by kernel_rfl) rfl
    (fun f fn hf hfn => by
      obtain rfl : f = 4 := Option.some.inj ((show Tryd.prog.funcNamed Rows.windowStaysRow.func = some 4 by kernel_rfl).symm.trans hf) |>.symm
      obtain rfl : fn = Tryd.f4 := (Option.some.inj (Tryd.func4.symm.trans hfn)).symm
      exact ⟨by kernel_rfl, fun j t ht => by
        rw [Tryd.params4] at ht
        have hm : t ∈ [3, 22, 23, 22] := by simpa using Array.mem_of_getElem? ht
        have hall : ([3, 22, 23, 22].all fun u => !Tryd.prog.wantsStandIn u) = true := by kernel_rfl
        exact (show Tryd.prog.wantsStandIn t = false by simpa using List.all_eq_true.1 hall t hm)⟩)
    (by kernel_rfl)
end windowStays

end Go.Proofs.YtjhakplaffgkpaaDoor
