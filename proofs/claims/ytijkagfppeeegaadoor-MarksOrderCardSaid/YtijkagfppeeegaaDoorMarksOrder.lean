/- MarksOrder: in which order numbers are marked is of no matter, as long as all have room: the law answers true for all marks and lists of numbers. -/
import Derived.Test.YtijkagfppeeegaaDoorMset
import Derived.Test.YtijkagfppeeegaaDoorMtie
import Derived.Test.YtijkagfppeeegaaDoorCards
import Derived.Test.YtijkagfppeeegaaDoorTie
import Derived.BigRegion
import Derived.Deep.DeepCutAuto
import Derived.Deep.CutBlock
namespace Go.Proofs.YtijkagfppeeegaaDoor
open Go.RowKit

theorem order_early (L B : Nat) (A : Option Addr) (k c : Nat) (w : World) (hL : L < 18446744073709551616) (hB : B < 18446744073709551616) (hT : Tab w) (h : gdB L B = false ∨ 200 < k) :
    Calls Tryd.prog 6 #[.agg #[.int .u64 (L : Int), .int .u64 (B : Int)], .slice A k c] w fun e w' => e = .returned (.bool true) ∧ Below w.heap.size w w' := by
  have hg := fun W h => good_any L B W hL hB h
  obtain ⟨W, hW, hWs, r0, hwW⟩ := boxes1 w #[.int .u64 (L : Int), .int .u64 (B : Int)] 24
  cases hb : gdB L B
  · rw [hb] at hg
    go_enter Tryd.func6, Tryd.ntmps6
    go_wp2_with fail
    rw [← hW]
    refine (hg _ (hT.below hwW)).mono ?_
    rintro e w1 ⟨rfl, hb1⟩
    have hz := hwW.trans (hb1.mono hwW.size)
    go_wp2_with fail
    refine (lives4 _ (hT.below hz)).mono ?_
    rintro e w2 ⟨rfl, hb2⟩
    go_wp2
    go_ret
    exact ⟨rfl, hz.trans (hb2.mono hz.size)⟩
  · rw [hb] at hg
    have h2 : 200 < k := by
      rcases h with h | h
      · rw [hb] at h; cases h
      · exact h
    have d1 : decide (200 < k) = true := by simpa using h2
    go_enter Tryd.func6, Tryd.ntmps6
    go_wp2_with fail
    rw [← hW]
    refine (hg _ (hT.below hwW)).mono ?_
    rintro e w1 ⟨rfl, hb1⟩
    have hz := hwW.trans (hb1.mono hwW.size)
    go_wp2_with fail
    refine (lives4 _ (hT.below hz)).mono ?_
    rintro e w2 ⟨rfl, hb2⟩
    go_wp2
    go_ret
    exact ⟨rfl, hz.trans (hb2.mono hz.size)⟩

/-- What Set tells. -/
def sres (L B n : Nat) : (Nat × Nat) × Nat := if Room L n then (mset L B n, 0) else ((L, B), 30)
theorem set_any (L B n : Nat) (w : World) (hL : L ≤ 4611686018427387840) (hB : B < 18446744073709551616) (hn : n < 18446744073709551616) (hT : Tab w) :
    Calls Tryd.prog 21 #[.agg #[.int .u64 (L : Int), .int .u64 (B : Int)], .int .u64 (n : Int)] w fun e w' => e = .returned (.tuple #[.agg #[.int .u64 ((sres L B n).1.1 : Int), .int .u64 ((sres L B n).1.2 : Int)], .int .i64 ((sres L B n).2 : Int)]) ∧ Below w.heap.size w w' := by
  unfold sres
  by_cases hr : Room L n
  · rw [if_pos hr]; exact set_ok L B n w hL hB hT hr
  · rw [if_neg hr]; exact set_no L B n w hL hn hr

/-- What is known in each round: both, and what they mark. -/
def ORel (w wr : World) (L B La Ba Lb Bb ga gb : Nat) (ns : List Nat) (i : Nat) : Prop :=
  (Gd La Ba ∧ Ba < 18446744073709551616 ∧ Gd Lb Bb ∧ Bb < 18446744073709551616) ∧ (∀ x, Hs La Ba x = (Hs L B x || decide (x ∈ ns.take i))) ∧ (∀ x, Hs Lb Bb x = (Hs L B x || decide (x ∈ ns.drop (ns.length - i)))) ∧
  wr.heap[ga]? = some (.cells #[.int .u64 (La : Int), .int .u64 (Ba : Int)] 24 (0, 0)) ∧ wr.heap[gb]? = some (.cells #[.int .u64 (Lb : Int), .int .u64 (Bb : Int)] 24 (0, 0)) ∧ Below w.heap.size w wr

set_option maxHeartbeats 2000000 in
theorem order_late (L B : Nat) (A : Option Addr) (k c : Nat) (ns : List Nat) (w : World) (hB : B < 18446744073709551616) (hT : Tab w) (hg : Gd L B) (hk : k ≤ 200) (hlen : ns.length = k) (h : Rd w w.heap.size 1 A k c (u64s ns)) (hns : Hid (∀ x ∈ ns, x < 18446744073709551616)) :
    Calls Tryd.prog 6 #[.agg #[.int .u64 (L : Int), .int .u64 (B : Int)], .slice A k c] w fun e w' => e = .returned (.bool true) ∧ Below w.heap.size w w' := by
  have hgd := fun W h => good_any L B W (by have := hg.1; omega) hB h
  rw [(gdB_iff L B).2 hg] at hgd
  have HG := Lib.hid hg
  have HBb := Lib.hid hB
  have HLen := Lib.hid hlen
  have d1 : decide (200 < k) = false := by simp; omega
  obtain ⟨W, hW, hWs, r0, hwW⟩ := boxes1 w #[.int .u64 (L : Int), .int .u64 (B : Int)] 24
  clear hg hB hlen
  go_enter Tryd.func6, Tryd.ntmps6
  go_wp2_with fail
  rw [← hW]
  refine (hgd _ (hT.below hwW)).mono ?_
  rintro e w1 ⟨rfl, hb1⟩
  have r1 := (hb1.block _ (by omega)).trans r0
  have hz1 := Lib.hid (hwW.trans (hb1.mono hwW.size))
  have c0 := cell_of_row w1 _ 0 _ _ _ r1
  have c1 := cell_of_row w1 _ 1 _ _ _ r1
  simp at c0 c1
  have hs1 : w.heap.size < w1.heap.size := (Array.getElem?_eq_some_iff.1 r1).1
  clear hb1 r0 r1 hwW hWs hW hgd
  go_wp2_with fail
  go_cut [5, 6] (fun u v wx => ∃ g h, u = .pointer (some ⟨g, 0, none⟩) ∧ v = .pointer (some ⟨h, 0, none⟩) ∧ g ≠ h ∧ w1.heap.size ≤ g ∧ w1.heap.size ≤ h ∧ Hid (wx.heap[g]? = some (.cells #[.int .u64 (L : Int), .int .u64 (B : Int)] 24 (0, 0)) ∧ wx.heap[h]? = some (.cells #[.int .u64 (L : Int), .int .u64 (B : Int)] 24 (0, 0)) ∧ Below w1.heap.size w1 wx))
  case first =>
    go_big_region
    all_goals
      go_wp2_with (fail)
      go_meet
      case rel =>
        refine ⟨_, _, rfl, rfl, by omega, by omega, by omega, Lib.hid ⟨?_, ?_, ?_⟩⟩
        · first | (refine row_here _ _ ?_; simp; done) | (refine row_old _ (row_here _ _ ?_); simp; done)
        · first | (refine row_here _ _ ?_; simp; done) | (refine row_old _ (row_here _ _ ?_); simp; done)
        · exact (((Below.refl _ _).alloc (Nat.le_refl _) _).alloc (by simp) _).drew
  case rest =>
    obtain ⟨ga, gb, rfl, rfl, hne, hga1, hgb1, HX⟩ := hcut
    generalize wc = Z at *
    have hS := Lib.hid (show ORel w Z L B L B L B ga gb ns 0 from ⟨⟨HG.out, HBb.out, HG.out, HBb.out⟩, fun x => by simp, fun x => by simp, HX.out.1, HX.out.2.1, hz1.out.trans (HX.out.2.2.mono hz1.out.size)⟩)
    clear HX hz1 c0 c1
    go_wp2
    go_loopw [25] (fun ir wr => ∃ i La Ba Lb Bb : Nat, i ≤ k ∧ ir = .int .i64 i ∧ Hid (ORel w wr L B La Ba Lb Bb ga gb ns i)) (fun ir _ => k - (intOf ir).toNat)
    case atStart => exact ⟨0, L, B, L, B, Nat.zero_le _, rfl, hS⟩
    case round =>
      obtain ⟨i, La, Ba, Lb, Bb, hi, rfl, HR⟩ := hrel
      obtain ⟨⟨gdA, hBa, gdBb, hBb⟩, hhA, hhB, ra, rb, hbl⟩ := HR.out
      have HHA := Lib.hid hhA
      have HHB := Lib.hid hhB
      have hLa := gdA.1
      have hLb := gdBb.1
      have HGA := Lib.hid gdA
      have HGB := Lib.hid gdBb
      have HTr := Lib.hid (hT.below hbl)
      have HBL := Lib.hid hbl
      have hga : ga < wr.heap.size := (Array.getElem?_eq_some_iff.1 ra).1
      have hgb : gb < wr.heap.size := (Array.getElem?_eq_some_iff.1 rb).1
      clear hhA hhB gdA gdBb hbl hS HR
      by_cases hlt : i < k
      · obtain ⟨b, o, hA', hbb, hcc⟩ := h.2.2.2 (by omega)
        subst hA'
        have hl := HLen.out
        obtain ⟨x, hx⟩ : ∃ x, ns[i]? = some x := ⟨ns[i]'(by omega), List.getElem?_eq_getElem _⟩
        obtain ⟨y, hy⟩ : ∃ y, ns[k - 1 - i]? = some y := ⟨ns[k - 1 - i]'(by omega), List.getElem?_eq_getElem _⟩
        have hcx := kept HBL.out (hcc i (.int .u64 (x : Int)) (by simp [u64s, hx])) hbb
        have hcy0 := hcc (k - 1 - i) (.int .u64 (y : Int)) (by simp [u64s, hy])
        have hxl := hns.out _ (List.mem_of_getElem? hx)
        have hyl := hns.out _ (List.mem_of_getElem? hy)
        have hbw := HBL.out.size
        have HX := Lib.hid hx
        have HY := Lib.hid hy
        have hsA := fun W h => set_any La Ba x W hLa hBa hxl h
        have hsB := fun W h => set_any Lb Bb y W hLb hBb hyl h
        have HPA := Lib.hid (show sres La Ba x = sres La Ba x from rfl)
        obtain ⟨⟨⟨p1, p2⟩, ea⟩, hpa⟩ : ∃ r, r = sres La Ba x := ⟨_, rfl⟩
        obtain ⟨⟨⟨q1, q2⟩, eb⟩, hqb⟩ : ∃ r, r = sres Lb Bb y := ⟨_, rfl⟩
        rw [← hpa] at hsA
        rw [← hqb] at hsB
        simp only at hsA hsB
        have HA := Lib.hid hpa
        have HB := Lib.hid hqb
        clear hpa hqb hx hy HPA hcc hxl hyl hl
        go_wp2_with fail
        go_cut [8, 9] (fun u v wx => ∃ g, u = .pointer (some ⟨g, 0, none⟩) ∧ v = .int .i64 (ea : Int) ∧ wr.heap.size ≤ g ∧ Hid (wx.heap[g]? = some (.cells #[.int .u64 (p1 : Int), .int .u64 (p2 : Int)] 24 (0, 0))) ∧ Hid (Below wr.heap.size wr wx))
        case first =>
          refine wp_tree wr.heap.size (.two [0, 1, 2, 3, 4] 5 9 (.one [6, 7, 8] 9 (.one [] 10 (.fin [11]))) (.one [] 5 (.one [6, 7, 8] 10 (.fin [11])))) (by kernel_rfl) (by kernel_rfl) (fun d _ _ _ _ h => by cases d <;> exact h) fun wd hbd => ?_
          intro q hq
          have d0 := fun z => cellz (j := 0) (hq z) ra rfl hga
          have d1 := fun z => cellz (j := 1) (hq z) ra rfl hga
          have d2 := fun z => kept (hq z) hcx (by omega)
          simp only [pickI, Option.toList_some, List.cons_append, List.nil_append, List.getElem?_toArray, List.getElem?_cons_succ, List.getElem?_cons_zero]
          repeat (go_big_quiet_step (fail))
          refine wpQuiet_nil ?_
          clear d0 d1 d2 hq q
          refine ⟨?_, ?_⟩
          · skip
            refine seg_op (by simp only [List.getElem?_toArray, List.getElem?_cons_succ, List.getElem?_cons_zero]; rfl) fun K hK => ?_
            go_simp
            refine (hsA _ (HTr.out.below hbd)).mono ?_
            rintro e v1 ⟨rfl, bv1⟩
            have zv1 := hbd.trans (bv1.mono hbd.size)
            refine hK.out _ _ ⟨zv1, ?_⟩
            clear hK K
            intro q hq
            simp only [pickI, Option.toList_some, List.cons_append, List.nil_append, List.getElem?_toArray, List.getElem?_cons_succ, List.getElem?_cons_zero]
            repeat (go_big_quiet_step (fail))
            refine wpQuiet_nil ?_
            clear hq q
            refine seg_op (by simp only [List.getElem?_toArray, List.getElem?_cons_succ, List.getElem?_cons_zero]; rfl) fun K hK => ?_
            go_simp
            obtain ⟨v2, hv2⟩ : ∃ v, v = v1.alloc (.cells #[.int .u64 0, .int .u64 0] 24) := ⟨_, rfl⟩
            rw [← hv2]
            have bv2 : Below v1.heap.size v1 v2 := by rw [hv2]; exact (Below.refl _ _).alloc (Nat.le_refl _) _
            have rv2 : v2.heap[v1.heap.size]? = some (.cells #[.int .u64 0, .int .u64 0] 24 (0, 0)) := by rw [hv2]; exact row_here _ _ rfl
            have gv2 : wr.heap.size ≤ v1.heap.size := zv1.size
            have zv2 := zv1.trans (bv2.mono zv1.size)
            refine hK.out _ _ ⟨zv2, ?_⟩
            clear hK K hv2
            intro q hq
            refine wpQuiet_nil ?_
            clear hq q
            have e0 := cell_of_row v2 _ 0 _ _ _ rv2
            have e1 := cell_of_row v2 _ 1 _ _ _ rv2
            have f0 := frozen_of_row v2 _ 0 _ _ rv2
            have f1 := frozen_of_row v2 _ 1 _ _ rv2
            simp at e0 e1
            refine seg_op (by simp only [List.getElem?_toArray, List.getElem?_cons_succ, List.getElem?_cons_zero]; rfl) fun K hK => ?_
            go_simp
            have zz := (zv2.setCell (p := ⟨v1.heap.size, 0, none⟩) gv2 (.int .u64 (p1 : Int))).setCell (p := ⟨v1.heap.size, 1, none⟩) gv2 (.int .u64 (p2 : Int))
            have rr := heap_setCell_same _ v1.heap.size 1 _ _ (.int .u64 (p2 : Int)) (heap_setCell_same v2 v1.heap.size 0 _ _ (.int .u64 (p1 : Int)) rv2)
            refine hK.out _ _ ⟨zz, ?_⟩
            clear hK K
            intro q hq
            simp only [pickI, Option.toList_some, List.cons_append, List.nil_append, List.getElem?_toArray, List.getElem?_cons_succ, List.getElem?_cons_zero]
            repeat (go_big_quiet_step (fail))
            refine wpQuiet_nil ?_
            clear hq q
            have ZZ := Lib.hid zz
            have RR := Lib.hid rr
            clear zz rr
            go_wp2_with (fail)
            go_meet
            case rel => exact ⟨v1.heap.size, rfl, rfl, gv2, RR, ZZ⟩
          · skip
            refine seg_op (by simp only [List.getElem?_toArray, List.getElem?_cons_succ, List.getElem?_cons_zero]; rfl) fun K hK => ?_
            go_simp
            obtain ⟨v3, hv3⟩ : ∃ v, v = wd.alloc (.cells #[.int .u64 0, .int .u64 0] 24) := ⟨_, rfl⟩
            rw [← hv3]
            have bv3 : Below wd.heap.size wd v3 := by rw [hv3]; exact (Below.refl _ _).alloc (Nat.le_refl _) _
            have rv3 : v3.heap[wd.heap.size]? = some (.cells #[.int .u64 0, .int .u64 0] 24 (0, 0)) := by rw [hv3]; exact row_here _ _ rfl
            have gv3 : wr.heap.size ≤ wd.heap.size := hbd.size
            have zv3 := hbd.trans (bv3.mono hbd.size)
            refine hK.out _ _ ⟨zv3, ?_⟩
            clear hK K hv3
            intro q hq
            refine wpQuiet_nil ?_
            clear hq q
            refine seg_op (by simp only [List.getElem?_toArray, List.getElem?_cons_succ, List.getElem?_cons_zero]; rfl) fun K hK => ?_
            go_simp
            refine (hsA _ (HTr.out.below zv3)).mono ?_
            rintro e v4 ⟨rfl, bv4⟩
            have zv4 := zv3.trans (bv4.mono zv3.size)
            have rv4 := (bv4.block _ (Array.getElem?_eq_some_iff.1 rv3).1).trans rv3
            refine hK.out _ _ ⟨zv4, ?_⟩
            clear hK K
            intro q hq
            simp only [pickI, Option.toList_some, List.cons_append, List.nil_append, List.getElem?_toArray, List.getElem?_cons_succ, List.getElem?_cons_zero]
            repeat (go_big_quiet_step (fail))
            refine wpQuiet_nil ?_
            clear hq q
            have e0 := cell_of_row v4 _ 0 _ _ _ rv4
            have e1 := cell_of_row v4 _ 1 _ _ _ rv4
            have f0 := frozen_of_row v4 _ 0 _ _ rv4
            have f1 := frozen_of_row v4 _ 1 _ _ rv4
            simp at e0 e1
            refine seg_op (by simp only [List.getElem?_toArray, List.getElem?_cons_succ, List.getElem?_cons_zero]; rfl) fun K hK => ?_
            go_simp
            have zz := (zv4.setCell (p := ⟨wd.heap.size, 0, none⟩) gv3 (.int .u64 (p1 : Int))).setCell (p := ⟨wd.heap.size, 1, none⟩) gv3 (.int .u64 (p2 : Int))
            have rr := heap_setCell_same _ wd.heap.size 1 _ _ (.int .u64 (p2 : Int)) (heap_setCell_same v4 wd.heap.size 0 _ _ (.int .u64 (p1 : Int)) rv4)
            refine hK.out _ _ ⟨zz, ?_⟩
            clear hK K
            intro q hq
            simp only [pickI, Option.toList_some, List.cons_append, List.nil_append, List.getElem?_toArray, List.getElem?_cons_succ, List.getElem?_cons_zero]
            repeat (go_big_quiet_step (fail))
            refine wpQuiet_nil ?_
            clear hq q
            have ZZ := Lib.hid zz
            have RR := Lib.hid rr
            clear zz rr
            go_wp2_with (fail)
            go_meet
            case rel => exact ⟨wd.heap.size, rfl, rfl, gv3, RR, ZZ⟩
        case rest =>
          obtain ⟨g8, rfl, rfl, hg8, R8, HY8⟩ := hcut
          generalize wc = Y at *
          have rb := (HY8.out.block _ hgb).trans rb
          have ra := (HY8.out.block _ hga).trans ra
          have hgb : gb < Y.heap.size := Nat.lt_of_lt_of_le hgb HY8.out.size
          have hga : ga < Y.heap.size := Nat.lt_of_lt_of_le hga HY8.out.size
          have HYw := Lib.hid (HBL.out.trans (HY8.out.mono HBL.out.size))
          have HTy := Lib.hid (hT.below HYw.out)
          have hcy := kept HYw.out hcy0 hbb
          have hbY : b < Y.heap.size := Nat.lt_of_lt_of_le hbb HYw.out.size
          have hyi : (k : Int) - 1 - (i : Int) = ((k - 1 - i : Nat) : Int) := by omega
          have h8Y : g8 < Y.heap.size := (Array.getElem?_eq_some_iff.1 R8.out).1
          clear hcx hcy0
          go_wp2_with fail
          go_cut [10, 11] (fun u v wx => ∃ g, u = .pointer (some ⟨g, 0, none⟩) ∧ v = .int .i64 (eb : Int) ∧ Y.heap.size ≤ g ∧ Hid (wx.heap[g]? = some (.cells #[.int .u64 (q1 : Int), .int .u64 (q2 : Int)] 24 (0, 0))) ∧ Hid (Below Y.heap.size Y wx))
          case first =>
            refine wp_tree Y.heap.size (.two [0, 1, 2, 3, 4, 5, 6, 7, 8] 9 13 (.one [10, 11, 12] 13 (.one [] 14 (.fin [15]))) (.one [] 9 (.one [10, 11, 12] 14 (.fin [15])))) (by kernel_rfl) (by kernel_rfl) (fun d _ _ _ _ h => by cases d <;> exact h) fun wd hbd => ?_
            intro q hq
            have d0 := fun z => cellz (j := 0) (hq z) rb rfl hgb
            have d1 := fun z => cellz (j := 1) (hq z) rb rfl hgb
            have d2 := fun z => kept (hq z) hcy (by omega)
            simp only [pickI, Option.toList_some, List.cons_append, List.nil_append, List.getElem?_toArray, List.getElem?_cons_succ, List.getElem?_cons_zero]
            repeat (go_big_quiet_step (fail))
            refine wpQuiet_nil ?_
            clear d0 d1 d2 hq q
            refine ⟨?_, ?_⟩
            · skip
              refine seg_op (by simp only [List.getElem?_toArray, List.getElem?_cons_succ, List.getElem?_cons_zero]; rfl) fun K hK => ?_
              go_simp
              refine (hsB _ (HTy.out.below hbd)).mono ?_
              rintro e v1 ⟨rfl, bv1⟩
              have zv1 := hbd.trans (bv1.mono hbd.size)
              refine hK.out _ _ ⟨zv1, ?_⟩
              clear hK K
              intro q hq
              simp only [pickI, Option.toList_some, List.cons_append, List.nil_append, List.getElem?_toArray, List.getElem?_cons_succ, List.getElem?_cons_zero]
              repeat (go_big_quiet_step (fail))
              refine wpQuiet_nil ?_
              clear hq q
              refine seg_op (by simp only [List.getElem?_toArray, List.getElem?_cons_succ, List.getElem?_cons_zero]; rfl) fun K hK => ?_
              go_simp
              obtain ⟨v2, hv2⟩ : ∃ v, v = v1.alloc (.cells #[.int .u64 0, .int .u64 0] 24) := ⟨_, rfl⟩
              rw [← hv2]
              have bv2 : Below v1.heap.size v1 v2 := by rw [hv2]; exact (Below.refl _ _).alloc (Nat.le_refl _) _
              have rv2 : v2.heap[v1.heap.size]? = some (.cells #[.int .u64 0, .int .u64 0] 24 (0, 0)) := by rw [hv2]; exact row_here _ _ rfl
              have gv2 : Y.heap.size ≤ v1.heap.size := zv1.size
              have zv2 := zv1.trans (bv2.mono zv1.size)
              refine hK.out _ _ ⟨zv2, ?_⟩
              clear hK K hv2
              intro q hq
              refine wpQuiet_nil ?_
              clear hq q
              have e0 := cell_of_row v2 _ 0 _ _ _ rv2
              have e1 := cell_of_row v2 _ 1 _ _ _ rv2
              have f0 := frozen_of_row v2 _ 0 _ _ rv2
              have f1 := frozen_of_row v2 _ 1 _ _ rv2
              simp at e0 e1
              refine seg_op (by simp only [List.getElem?_toArray, List.getElem?_cons_succ, List.getElem?_cons_zero]; rfl) fun K hK => ?_
              go_simp
              have zz := (zv2.setCell (p := ⟨v1.heap.size, 0, none⟩) gv2 (.int .u64 (q1 : Int))).setCell (p := ⟨v1.heap.size, 1, none⟩) gv2 (.int .u64 (q2 : Int))
              have rr := heap_setCell_same _ v1.heap.size 1 _ _ (.int .u64 (q2 : Int)) (heap_setCell_same v2 v1.heap.size 0 _ _ (.int .u64 (q1 : Int)) rv2)
              refine hK.out _ _ ⟨zz, ?_⟩
              clear hK K
              intro q hq
              simp only [pickI, Option.toList_some, List.cons_append, List.nil_append, List.getElem?_toArray, List.getElem?_cons_succ, List.getElem?_cons_zero]
              repeat (go_big_quiet_step (fail))
              refine wpQuiet_nil ?_
              clear hq q
              have ZZ := Lib.hid zz
              have RR := Lib.hid rr
              clear zz rr
              go_wp2_with (fail)
              go_meet
              case rel => exact ⟨v1.heap.size, rfl, rfl, gv2, RR, ZZ⟩
            · skip
              refine seg_op (by simp only [List.getElem?_toArray, List.getElem?_cons_succ, List.getElem?_cons_zero]; rfl) fun K hK => ?_
              go_simp
              obtain ⟨v3, hv3⟩ : ∃ v, v = wd.alloc (.cells #[.int .u64 0, .int .u64 0] 24) := ⟨_, rfl⟩
              rw [← hv3]
              have bv3 : Below wd.heap.size wd v3 := by rw [hv3]; exact (Below.refl _ _).alloc (Nat.le_refl _) _
              have rv3 : v3.heap[wd.heap.size]? = some (.cells #[.int .u64 0, .int .u64 0] 24 (0, 0)) := by rw [hv3]; exact row_here _ _ rfl
              have gv3 : Y.heap.size ≤ wd.heap.size := hbd.size
              have zv3 := hbd.trans (bv3.mono hbd.size)
              refine hK.out _ _ ⟨zv3, ?_⟩
              clear hK K hv3
              intro q hq
              refine wpQuiet_nil ?_
              clear hq q
              refine seg_op (by simp only [List.getElem?_toArray, List.getElem?_cons_succ, List.getElem?_cons_zero]; rfl) fun K hK => ?_
              go_simp
              refine (hsB _ (HTy.out.below zv3)).mono ?_
              rintro e v4 ⟨rfl, bv4⟩
              have zv4 := zv3.trans (bv4.mono zv3.size)
              have rv4 := (bv4.block _ (Array.getElem?_eq_some_iff.1 rv3).1).trans rv3
              refine hK.out _ _ ⟨zv4, ?_⟩
              clear hK K
              intro q hq
              simp only [pickI, Option.toList_some, List.cons_append, List.nil_append, List.getElem?_toArray, List.getElem?_cons_succ, List.getElem?_cons_zero]
              repeat (go_big_quiet_step (fail))
              refine wpQuiet_nil ?_
              clear hq q
              have e0 := cell_of_row v4 _ 0 _ _ _ rv4
              have e1 := cell_of_row v4 _ 1 _ _ _ rv4
              have f0 := frozen_of_row v4 _ 0 _ _ rv4
              have f1 := frozen_of_row v4 _ 1 _ _ rv4
              simp at e0 e1
              refine seg_op (by simp only [List.getElem?_toArray, List.getElem?_cons_succ, List.getElem?_cons_zero]; rfl) fun K hK => ?_
              go_simp
              have zz := (zv4.setCell (p := ⟨wd.heap.size, 0, none⟩) gv3 (.int .u64 (q1 : Int))).setCell (p := ⟨wd.heap.size, 1, none⟩) gv3 (.int .u64 (q2 : Int))
              have rr := heap_setCell_same _ wd.heap.size 1 _ _ (.int .u64 (q2 : Int)) (heap_setCell_same v4 wd.heap.size 0 _ _ (.int .u64 (q1 : Int)) rv4)
              refine hK.out _ _ ⟨zz, ?_⟩
              clear hK K
              intro q hq
              simp only [pickI, Option.toList_some, List.cons_append, List.nil_append, List.getElem?_toArray, List.getElem?_cons_succ, List.getElem?_cons_zero]
              repeat (go_big_quiet_step (fail))
              refine wpQuiet_nil ?_
              clear hq q
              have ZZ := Lib.hid zz
              have RR := Lib.hid rr
              clear zz rr
              go_wp2_with (fail)
              go_meet
              case rel => exact ⟨wd.heap.size, rfl, rfl, gv3, RR, ZZ⟩
          case rest =>
            obtain ⟨g10, rfl, rfl, hg10, R10, HZ⟩ := hcut
            generalize wc = V at *
            have rb := (HZ.out.block _ hgb).trans rb
            have ra := (HZ.out.block _ hga).trans ra
            have r8 := (HZ.out.block _ h8Y).trans R8.out
            have HVw := Lib.hid (HYw.out.trans (HZ.out.mono HYw.out.size))
            have hwV := Lib.hid HVw.out.size
            have hTV := Lib.hid (hT.below HVw.out)
            have early : ∀ K : World → World → Prop, True := fun _ => trivial
            clear early
            by_cases hra : Room La x
            · obtain ⟨hpa, rfl⟩ : (p1, p2) = mset La Ba x ∧ ea = 0 := by
                have := HA.out
                unfold sres at this
                rw [if_pos hra] at this
                exact ⟨congrArg Prod.fst this, congrArg Prod.snd this⟩
              by_cases hrb : Room Lb y
              · obtain ⟨hqb, rfl⟩ : (q1, q2) = mset Lb Bb y ∧ eb = 0 := by
                  have := HB.out
                  unfold sres at this
                  rw [if_pos hrb] at this
                  exact ⟨congrArg Prod.fst this, congrArg Prod.snd this⟩
                have hA1 := mset_hs La Ba x
                have hg1 := mset_gd La Ba x hBa hra HGA.out
                have hl1 := mset_lt La Ba x hBa hra
                have hg2 := mset_gd Lb Bb y hBb hrb HGB.out
                have hl2 := mset_lt Lb Bb y hBb hrb
                have hh1 : ∀ z, Hs p1 p2 z = (Hs L B z || decide (z ∈ ns.take (i + 1))) := by
                  intro z
                  have := mset_hs La Ba x z hBa hra
                  rw [← hpa] at this
                  obtain ⟨hi', hx'⟩ := List.getElem?_eq_some_iff.1 HX.out
                  rw [this, HHA.out z, List.take_succ_eq_append_getElem hi', hx']
                  simp [Bool.or_assoc, List.mem_append]
                have hh2 : ∀ z, Hs q1 q2 z = (Hs L B z || decide (z ∈ ns.drop (ns.length - (i + 1)))) := by
                  intro z
                  have := mset_hs Lb Bb y z hBb hrb
                  rw [← hqb] at this
                  obtain ⟨hi', hy'⟩ := List.getElem?_eq_some_iff.1 HY.out
                  have hlk := HLen.out
                  rw [this, HHB.out z, show ns.length - (i + 1) = k - 1 - i by omega, List.drop_eq_getElem_cons hi', hy', show k - 1 - i + 1 = ns.length - i by omega]
                  by_cases hz : z = y <;> simp [hz]
                rw [← hpa] at hg1 hl1
                rw [← hqb] at hg2 hl2
                have HN := Lib.hid (And.intro (And.intro hg1 (And.intro hl1 (And.intro hg2 hl2))) (And.intro hh1 hh2))
                have e0 := cell_of_row V _ 0 _ _ _ r8
                have e1 := cell_of_row V _ 1 _ _ _ r8
                have e2 := cell_of_row V _ 0 _ _ _ R10.out
                have e3 := cell_of_row V _ 1 _ _ _ R10.out
                have e4 := cell_of_row V _ 0 _ _ _ ra
                have e5 := cell_of_row V _ 1 _ _ _ ra
                have e6 := cell_of_row V _ 0 _ _ _ rb
                have e7 := cell_of_row V _ 1 _ _ _ rb
                have z0 := frozen_of_row V _ 0 _ _ ra
                have z1 := frozen_of_row V _ 1 _ _ ra
                have z2 := frozen_of_row V _ 0 _ _ rb
                have z3 := frozen_of_row V _ 1 _ _ rb
                simp at e0 e1 e2 e3 e4 e5 e6 e7
                have RA := Lib.hid ra
                have RB := Lib.hid rb
                have hne' : gb ≠ ga := fun h => hne h.symm
                clear hpa hqb hA1 hg1 hl1 hg2 hl2 hh1 hh2 ra rb r8 hra hrb
                go_wp2_with fail
                go_big_region
                all_goals
                  go_wp2_with (fail)
                  go_roundw
                  case rel =>
                    refine ⟨i + 1, p1, p2, q1, q2, by omega, by go_num, Lib.hid ⟨HN.out.1, HN.out.2.1, HN.out.2.2, ?_, ?_, ?_⟩⟩
                    · exact (heap_setCell_other _ _ _ _ hne).trans ((heap_setCell_other _ _ _ _ hne).trans (heap_setCell_same _ _ 1 _ _ _ (heap_setCell_same V _ 0 _ _ _ RA.out)))
                    · exact heap_setCell_same _ _ 1 _ _ _ (heap_setCell_same _ _ 0 _ _ _ ((heap_setCell_other _ _ _ _ hne').trans ((heap_setCell_other _ _ _ _ hne').trans RB.out)))
                    · have la : w.heap.size ≤ ga := by omega
                      have lb : w.heap.size ≤ gb := by omega
                      exact ((((HVw.out.setCell (p := ⟨ga, 0, none⟩) la _).setCell (p := ⟨ga, 1, none⟩) la _).setCell (p := ⟨gb, 0, none⟩) lb _).setCell (p := ⟨gb, 1, none⟩) lb _).drew
                  case measure => simp [intOf]; omega
              · obtain rfl : eb = 30 := by
                  have := HB.out
                  unfold sres at this
                  rw [if_neg hrb] at this
                  exact congrArg Prod.snd this
                clear hra hrb hpa
                go_wp2_with fail
                refine (lives4 _ hTV.out).mono ?_
                rintro e wl ⟨rfl, hbl⟩
                go_wp2
                go_ret
                exact ⟨rfl, HVw.out.trans (hbl.mono HVw.out.size)⟩
            · obtain rfl : ea = 30 := by
                have := HA.out
                unfold sres at this
                rw [if_neg hra] at this
                exact congrArg Prod.snd this
              clear hra
              go_wp2_with fail
              refine (lives4 _ hTV.out).mono ?_
              rintro e wl ⟨rfl, hbl⟩
              go_wp2
              go_ret
              exact ⟨rfl, HVw.out.trans (hbl.mono HVw.out.size)⟩
      · have hik : i = ns.length := by have := HLen.out; omega
        have hsame : ∀ x, Hs La Ba x = Hs Lb Bb x := by
          intro x
          rw [HHA.out x, HHB.out x, hik, List.take_length, Nat.sub_self, List.drop_zero]
        obtain ⟨rfl, rfl⟩ := hs_uniq La Ba Lb Bb HGA.out.2.1 HGB.out.2.1 hsame
        have e4 := cell_of_row wr _ 0 _ _ _ ra
        have e5 := cell_of_row wr _ 1 _ _ _ ra
        have e6 := cell_of_row wr _ 0 _ _ _ rb
        have e7 := cell_of_row wr _ 1 _ _ _ rb
        simp at e4 e5 e6 e7
        have qa : ((La : Int) == (La : Int)) = true := beq_self_eq_true _
        have qb : ((Ba : Int) == (Ba : Int)) = true := beq_self_eq_true _
        clear hsame hik ra rb hBa hBb hLa hLb h
        go_wp2_with fail
        refine (lives4 _ HTr.out).mono ?_
        rintro e wl ⟨rfl, hbl⟩
        go_wp2
        go_ret
        exact ⟨rfl, HBL.out.trans (hbl.mono HBL.out.size)⟩

theorem marksOrder_top {w : World} (x0 y0 : Int) (h0 : (Lit.int .u64 x0).wf = true) (g0 : (Lit.int .u64 y0).wf = true) (A : Option Addr) (k c : Nat) (ns : List Nat) (h : Rd w w.heap.size 1 A k c (u64s ns)) (hns : Hid (∀ x ∈ ns, x < 18446744073709551616)) (hT : Tab w) :
    Calls Tryd.prog 6 #[.agg #[.int .u64 x0, .int .u64 y0], .slice A k c] w fun e w' => e = .returned (.bool true) ∧ Below w.heap.size w w' := by
  obtain ⟨L, rfl, hL⟩ := wf_u64 h0
  obtain ⟨B, rfl, hB⟩ := wf_u64 g0
  cases hg : gdB L B
  · exact order_early L B A k c w hL hB hT (.inl hg)
  · by_cases hk : k ≤ 200
    · exact order_late L B A k c ns w hB hT ((gdB_iff L B).1 hg) hk (by have := h.len; simpa [u64s] using this) h hns
    · exact order_early L B A k c w hL hB hT (.inr (by omega))

namespace marksOrder
open Go.ChangeShapes Go.WideShapes Go.ChangeAt
set_option maxRecDepth 100000 in
theorem lifted (os : Os) (started : os.Started) (H : Type) (enc : TypeId × Value → H) :
    ReturnsInHanded {} Tryd.checked os 6 .any (fun w args => (Rows.marksOrderSpec.pre enc Tryd.prog Tryd.f6 [] false w args ∧ laidMetH Tryd.prog laidL w) ∧ sizedMet enc Tryd.prog Tryd.f6 (OpenSpec.ofChange Rows.marksOrderSpec) false w args)
      (Rows.marksOrderSpec.post enc Tryd.prog Tryd.f6 false true false false) := by
  refine returnsInHanded_of_change_and (C := Tryd.checked) (X := fun w _ => laidMetH Tryd.prog laidL w) (fun _ _ _ hh h => h.of_heap hh) own started (by kernel_rfl) Tryd.func6
    (ChangeSpec.witness_shaped (enc := enc) (C := Tryd.checked) (os := os) (X := fun w _ => laidMetH Tryd.prog laidL w) false (World.doorLaid Tryd.prog 400 os) #[.agg #[.int .u64 0, .int .u64 0], .slice none 0 0] 8 rfl (World.shaped_of_RefB (by kernel_rfl) (by kernel_rfl)) (by kernel_rfl) (by kernel_rfl) (by kernel_rfl) (door_met os _)) ?_
  intro W base args ds gs before hval0 hW _ _ hL _
  have hval : ∀ (j : Nat) t v, Tryd.f6.params[j]? = some t → args[j]? = some v → Value.okWide Tryd.prog W .any base t v := hval0
  have hW' := hW
  obtain ⟨p, q, hA0, hV, rfl, hfz, hnd⟩ := hW
  have hA : DataW.TrodAll enc Tryd.prog W 0 (fun _ => true) true Tryd.f6.params.toList args.toList ds p := hA0
  rw [Tryd.params6] at hA hval
  obtain ⟨v0, vs0, d0, ds0, p0, q0, hargs, rfl, rfl, h0, r0⟩ := trodAll_cons hA
  obtain ⟨v1, vs1, d1, ds1, p1, q1, rfl, rfl, rfl, h1, r1⟩ := trodAll_cons r0
  obtain ⟨rfl, rfl, rfl⟩ := trodAll_nil r1
  obtain rfl : args = #[v0, v1] := by cases args; simp_all
  obtain ⟨rfl, rfl⟩ := trodVars_none hV
  have k0 := h0
  have lt0 : ∀ x ∈ p0, x.block < W.heap.size := by obtain ⟨m, hm⟩ := k0; exact DataW.trod_lt m _ _ _ hm
  obtain ⟨x0, y0, rfl, w0, u0⟩ := dec_ints2 Tryd.underlying24 (by kernel_rfl) (by kernel_rfl) Tryd.underlying22 Tryd.underlying22 (hval 0 24 v0 rfl rfl) h0
  have k1 := h1
  have lt1 : ∀ x ∈ p1, x.block < W.heap.size := by obtain ⟨m, hm⟩ := k1; exact DataW.trod_lt m _ _ _ hm
  obtain ⟨a1, n1, c1, l1, rfl, w1, b1⟩ := dec_u64s Tryd.underlying36 Tryd.underlying22 (by kernel_rfl) (hval 1 36 v1 rfl rfl) h1
  clear hA0 hval0
  have hT := of_laid hL
  refine (marksOrder_top x0 y0 w0 u0 a1 n1 c1 l1 w1 b1 hT).mono fun e W' ⟨he, bel⟩ => ?_
  subst he
  exact ⟨_, rfl, _, _, _, [], _, [], hW', trodAll_mk1 (shut_bool Tryd.underlying4 _), (trodAll_cons_mk (Below.trod laidOut (by kernel_rfl) (of_decide_eq_true (by kernel_rfl)) k0 bel lt0) (trodAll_cons_mk (Below.trod laidOut (by kernel_rfl) (of_decide_eq_true (by kernel_rfl)) k1 bel lt1) trodAll_mk0)), rfl, bel.frame _, fun h => by cases h⟩

theorem over : Rows.marksOrderRow.holds Tryd.pinned (OpenSpec.ofChange Rows.marksOrderSpec) :=
  OpenClaim.holds_of_wide 6 Tryd.f6 rfl rfl rfl rfl rfl rfl rfl ⟨rfl, rfl, rfl, rfl, rfl⟩ rfl rfl rfl rfl rfl (by kernel_rfl) Tryd.func6 (by kernel_rfl)
    (of_decide_eq_true (by kernel_rfl)) (by unfold Func.isWrapper; first | (rw [if_pos (by decide +kernel)]; kernel_rfl) | (rw [if_neg (by decide +kernel)]; exact ⟨rfl, rfl⟩))
    (fun os started H enc _ => lifted os started H enc)
theorem row_tie : Rows.marksOrderRow.laidByTextAt .later Tryd.pinned [.data] true := marksOrder_row_tie
/-- The given statement: the card. -/
theorem proved : Rows.MarksOrderCardSaid :=
  Claim7.holds_tied_plain_at .later [] [.data] true Rows.marksOrderCard.stood.harness false
    over (fun _ h => by cases h) (by kernel_rfl) (fun _ h => by cases h) row_tie rfl ⟨rfl, rfl⟩ (by kernel_rfl) rfl
    (fun f fn hf hfn => by
      obtain rfl : f = 6 := Option.some.inj ((show Tryd.prog.funcNamed Rows.marksOrderRow.func = some 6 by kernel_rfl).symm.trans hf) |>.symm
      obtain rfl : fn = Tryd.f6 := (Option.some.inj (Tryd.func6.symm.trans hfn)).symm
      exact ⟨by kernel_rfl, fun j t ht => by
        rw [Tryd.params6] at ht
        have hm : t ∈ [24, 36] := by simpa using Array.mem_of_getElem? ht
        have hall : ([24, 36].all fun u => !Tryd.prog.wantsStandIn u) = true := by kernel_rfl
        exact (show Tryd.prog.wantsStandIn t = false by simpa using List.all_eq_true.1 hall t hm)⟩)
    (by kernel_rfl)
end marksOrder

end Go.Proofs.YtijkagfppeeegaaDoor
