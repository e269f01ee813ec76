/- In which order who is told to have what is of no matter. -/
import Derived.Test.YtjhakplaffgkpaaDoorWlvM
import Derived.Test.YtjhakplaffgkpaaDoorWrefM
import Derived.Test.YtjhakplaffgkpaaDoorFarM
import Derived.Test.YtjhakplaffgkpaaDoorMtieM
import Derived.Test.YtjhakplaffgkpaaDoorWmapM
import Derived.Test.YtjhakplaffgkpaaDoorCards
import Derived.Test.YtjhakplaffgkpaaDoorTie
namespace Go.Proofs.YtjhakplaffgkpaaDoor
open Go.RowKit
set_option maxRecDepth 20000

theorem order_early (n : Int) (low : Int) (A : Option Addr) (m c : Nat) (w : World) (hT : Tab w) (h : 200 < m) :
    Calls Tryd.prog 5 #[.int .i64 n, .int .u64 low, .slice A m c] w fun e w' => e = .returned (.bool true) ∧ Below w.heap.size w w' := by
  have HL := Lib.hid (lives21_any w hT)
  have d1 : decide (200 < (m : Int)) = true := by simp; omega
  clear h hT
  go_enter Tryd.func5, Tryd.ntmps5
  go_wp2_with (first
    | (go_at_call 7; refine HL.out.mono ?_; rintro e w2 ⟨rfl, hb2⟩)
    | fail)
  go_ret
  exact ⟨rfl, hb2⟩
/-- Two new boxes. -/
structure Boxes (wr wx : World) (p q : Nat) (n1 n2 : Int) (x1 x2 : Nat) : Prop where
  r1 : wx.heap[p]? = some (.cells #[.int .i64 n1, .int .u64 (x1 : Int)] 31 (0, 0))
  r2 : wx.heap[q]? = some (.cells #[.int .i64 n2, .int .u64 (x2 : Int)] 31 (0, 0))
  bel : Below wr.heap.size wr wx
def Boxed (wr : World) (n1 n2 : Int) (x1 x2 : Nat) (u v : Value) (wx : World) : Prop := ∃ p q, u = .pointer (some ⟨p, 0, none⟩) ∧ v = .pointer (some ⟨q, 0, none⟩) ∧ Boxes wr wx p q n1 n2 x1 x2
/-- Between two rounds: two windows that were told so many Acks. -/
structure Ord (w wr : World) (g1 b1 g2 b2 m : Nat) (t1 t2 : Wv) : Prop where
  a : Wn wr g1 b1 m t1
  b : Wn wr g2 b2 m t2
  ne : b1 ≠ b2
  bel : Below w.heap.size w wr
  lo : w.heap.size ≤ b1 ∧ w.heap.size ≤ b2
theorem ackAll_snocs (t : Wv) {l : List (Int × Nat)} {i : Nat} {a : Int × Nat} (h : l[i]? = some a) : ackAll t (l.take (i + 1)) = (ackAll t (l.take i)).ack a.1 a.2 := by
  obtain ⟨hl, hx⟩ := List.getElem?_eq_some_iff.1 h
  rw [List.take_succ_eq_append_getElem hl, ackAll_snoc, hx]
/-- What a slice of Acks tells. -/
def acksOf (os : List AckD) : List (Int × Nat) := os.map fun o => (o.Node, o.Index.toNat)
set_option maxHeartbeats 4000000 in
theorem order_main {w : World} (n low : Nat) {A : Option Addr} {m c : Nat} {os : List AckD} (hs : Slc AckD.lay w A m c os) (hT : Tab w) (h : ¬ 200 < m) (h1 : 1 ≤ n) (h7 : n ≤ 7) (hlo : low ≤ 4611686018427387584) :
    Calls Tryd.prog 5 #[.int .i64 (n : Int), .int .u64 (low : Int), .slice A m c] w fun e w' => e = .returned (.bool true) ∧ Below w.heap.size w w' := by
  have HN := Lib.hid (fun W => new_any n low W h1 h7 hlo)
  have d1 : decide (200 < (m : Int)) = false := by simp; omega
  have HT := Lib.hid hT
  have HS := Lib.hid hs
  have HM := Lib.hid (show m ≤ 200 by omega)
  have HW := Lib.hid (And.intro h1 (And.intro h7 hlo))
  clear h hT hs h1 h7 hlo
  go_enter Tryd.func5, Tryd.ntmps5
  go_wp2_with (fail)
  refine (HN.out _).mono ?_
  rintro e w1 ⟨g1, b1, rfl, hg1, hb1, hW1, hz1⟩
  have HW1 := Lib.hid hW1
  have HZ1 := Lib.hid hz1
  have HG1 := Lib.hid (And.intro hg1 hb1)
  clear hg1 hb1 hW1 hz1
  go_wp2_with (fail)
  refine (HN.out _).mono ?_
  clear HN
  rintro e w2 ⟨g2, b2, rfl, hg2, hb2, hW2, hz2⟩
  have HO : Hid (Ord w w2 g1 b1 g2 b2 0 (W0 n low) (W0 n low)) := Lib.hid ⟨HW1.out.below hz2, hW2, by have := HW1.out.map.lt; omega, HZ1.out.trans (hz2.mono HZ1.out.size), by have := HG1.out; have := HZ1.out.size; omega⟩
  clear hg2 hb2 hW2 hz2 HW1 HZ1 HG1
  have hm3 : (m : Int) ≤ 200 := by have := HM.out; omega
  have HLEN := Lib.hid HS.out.len
  go_wp2_with (fail)
  go_loopw [24] (fun ir wr => ∃ (i : Nat), i ≤ m ∧ ir = .int .i64 (i : Int) ∧ Hid (Ord w wr g1 b1 g2 b2 i (ackAll (W0 n low) ((acksOf os).take i)) (ackAll (W0 n low) ((acksOf os).reverse.take i)))) (fun ir _ => m - (intOf ir).toNat)
  case atStart => exact ⟨0, Nat.zero_le _, rfl, HO⟩
  case round =>
    clear HO
    obtain ⟨i, hi, rfl, HO⟩ := hrel
    by_cases hlt : i < m
    · obtain ⟨o, ho⟩ : ∃ o, os[i]? = some o := ⟨_, List.getElem?_eq_getElem (by rw [HS.out.len]; exact hlt)⟩
      obtain ⟨j, hj⟩ : ∃ j, j + i + 1 = m := ⟨m - 1 - i, by omega⟩
      obtain ⟨o', ho'⟩ : ∃ o, os[j]? = some o := ⟨_, List.getElem?_eq_getElem (by rw [HS.out.len]; omega)⟩
      obtain ⟨bb, off, rfl, hbl, hcell⟩ := (HS.out.below HO.out.bel).at_ (by omega)
      have k0 : wr.cell? ⟨bb, off + (i * 2 + 0), none⟩ = some (.int .i64 o.Node) := hcell i o ho 0 _ rfl
      have k1 : wr.cell? ⟨bb, off + (i * 2 + 1), none⟩ = some (.int .u64 o.Index) := hcell i o ho 1 _ rfl
      have k2 : wr.cell? ⟨bb, off + (j * 2 + 0), none⟩ = some (.int .i64 o'.Node) := hcell j o' ho' 0 _ rfl
      have k3 : wr.cell? ⟨bb, off + (j * 2 + 1), none⟩ = some (.int .u64 o'.Index) := hcell j o' ho' 1 _ rfl
      obtain ⟨hr1, hr2⟩ := HS.out.reads o (List.mem_of_getElem? ho)
      obtain ⟨hr3, hr4⟩ := HS.out.reads o' (List.mem_of_getElem? ho')
      obtain ⟨x1, hx1, hx164⟩ := wf_u64 hr2
      obtain ⟨x2, hx2, hx264⟩ := wf_u64 hr4
      have hoI : (acksOf os)[i]? = some (o.Node, x1) := by unfold acksOf; rw [List.getElem?_map, ho, Option.map_some, hx1]; rfl
      have hoJ : (acksOf os).reverse[i]? = some (o'.Node, x2) := by
        have hl : (acksOf os).length = m := by unfold acksOf; rw [List.length_map]; exact HLEN.out
        rw [List.getElem?_reverse (by omega), hl, show m - 1 - i = j by omega]
        unfold acksOf
        rw [List.getElem?_map, ho', Option.map_some, hx2]
        rfl
      obtain ⟨n1, hn1⟩ : ∃ n1, o.Node = n1 := ⟨_, rfl⟩
      obtain ⟨n2, hn2⟩ : ∃ n2, o'.Node = n2 := ⟨_, rfl⟩
      rw [hn1] at k0 hoI
      rw [hn2] at k2 hoJ
      rw [hx1] at k1
      rw [hx2] at k3
      have s1 := ackAll_snocs (W0 n low) hoI
      have s2 := ackAll_snocs (W0 n low) hoJ
      have HSS := Lib.hid (And.intro s1 s2)
      have HX := Lib.hid (And.intro hx164 hx264)
      have HJ := Lib.hid (And.intro hlt hj)
      obtain ⟨m1, hm1⟩ : ∃ m1 : Nat, m1 + 1 = m := ⟨m - 1, by omega⟩
      have w1 : wrap64 ((m : Int) - 1) = (m1 : Int) := by unfold wrap64; omega
      have w2 : wrap64 ((m1 : Int) - (i : Int)) = (j : Int) := by unfold wrap64; omega
      have u1 : (m : Int) - 1 = (m1 : Int) := by omega
      have hjm : decide (j < m) = true := by simp; omega
      have hjm2 : j < m := by omega
      have hi3 : (i : Int) ≤ 200 := by omega
      have HK := Lib.hid (And.intro (And.intro k0 k1) (And.intro k2 k3))
      have HU := Lib.hid (And.intro w1 w2)
      clear s1 s2 hoI hoJ ho ho' hcell hr1 hr2 hr3 hr4 hx1 hx2 hn1 hn2 hj hx164 hx264 hbl hm1 k0 k1 k2 k3 u1
      clear o o'
      go_upto_region 7 with (fail)
      go_cut [10, 11] (fun u v wx => Boxed wr n1 n2 x1 x2 u v wx)
      case first =>
        refine wp_tree wr.heap.size (.two [0, 1, 2, 3, 4, 5, 6, 7, 8, 9, 10, 11] 12 13 (.one [] 13 (.one [] 14 (.one [] 15 (.fin [])))) (.one [] 12 (.one [] 14 (.one [] 15 (.fin []))))) (by kernel_rfl) (by kernel_rfl) (fun d _ _ _ _ h => by cases d <;> exact h) fun wd hbd => ?_
        intro q hq
        have d0 := fun z => ((hq z).cell (p := ⟨bb, off + (i * 2 + 0), none⟩) (by have := block_lt_of_cell HK.out.1.1; exact this)).trans HK.out.1.1
        have d1 := fun z => ((hq z).cell (p := ⟨bb, off + (i * 2 + 1), none⟩) (by have := block_lt_of_cell HK.out.1.1; exact this)).trans HK.out.1.2
        have d2 := fun z => ((hq z).cell (p := ⟨bb, off + (j * 2 + 0), none⟩) (by have := block_lt_of_cell HK.out.1.1; exact this)).trans HK.out.2.1
        have d3 := fun z => ((hq z).cell (p := ⟨bb, off + (j * 2 + 1), none⟩) (by have := block_lt_of_cell HK.out.1.1; exact this)).trans HK.out.2.2
        simp only [← Nat.add_assoc, Nat.add_zero] at d0 d1 d2 d3
        rw [show j = m - 1 - i by have := HJ.out.2; omega] at d2 d3
        simp only [pickI, Option.toList_some, List.cons_append, List.nil_append, List.getElem?_toArray, List.getElem?_cons_succ, List.getElem?_cons_zero]
        try go_frame
        iterate 12 go_big_quiet_step (fail)
        refine wpQuiet_nil ?_
        clear d0 d1 d2 d3 hq q
        constructor
        · skip
          refine seg_op (by simp only [List.getElem?_toArray, List.getElem?_cons_succ, List.getElem?_cons_zero]; rfl) fun K hK => ?_
          go_simp
          obtain ⟨W1, hW1⟩ : ∃ v, v = wd.alloc (.cells #[.int .i64 0, .int .u64 0] 31) := ⟨_, rfl⟩
          rw [← hW1]
          have b1 : Below wd.heap.size wd W1 := by rw [hW1]; exact (Below.refl _ _).alloc (Nat.le_refl _) _
          have r1 : W1.heap[wd.heap.size]? = some (.cells #[.int .i64 0, .int .u64 0] 31) := by rw [hW1]; exact heap_alloc_new wd _
          have z1 := hbd.trans (b1.mono hbd.size)
          refine hK.out _ _ ⟨z1, ?_⟩
          clear hK K hW1
          intro q0 hq
          refine wpQuiet_nil ?_
          clear hq q0
          refine seg_op (by simp only [List.getElem?_toArray, List.getElem?_cons_succ, List.getElem?_cons_zero]; rfl) fun K hK => ?_
          go_simp
          obtain ⟨W2, hW2⟩ : ∃ v, v = W1.alloc (.cells #[.int .i64 0, .int .u64 0] 31) := ⟨_, rfl⟩
          rw [← hW2]
          have b2 : Below W1.heap.size W1 W2 := by rw [hW2]; exact (Below.refl _ _).alloc (Nat.le_refl _) _
          have r2 : W2.heap[W1.heap.size]? = some (.cells #[.int .i64 0, .int .u64 0] 31) := by rw [hW2]; exact heap_alloc_new W1 _
          have r3 := row_below r1 b2
          have z2 := z1.trans (b2.mono z1.size)
          have hne : wd.heap.size ≠ W1.heap.size := by have := (Array.getElem?_eq_some_iff.1 r1).1; omega
          have hge1 : wr.heap.size ≤ wd.heap.size := hbd.size
          have hge2 : wr.heap.size ≤ W1.heap.size := z1.size
          refine hK.out _ _ ⟨z2, ?_⟩
          clear hK K hW2 b2 r1 b1
          obtain ⟨p, hp⟩ : ∃ p, wd.heap.size = p := ⟨_, rfl⟩
          obtain ⟨q, hp'⟩ : ∃ p, W1.heap.size = p := ⟨_, rfl⟩
          rw [hp] at r3 hne hge1 ⊢
          rw [hp'] at r2 hne hge2 ⊢
          have c0 := cell_of_row W2 p 0 _ _ _ r3
          have c1 := cell_of_row W2 p 1 _ _ _ r3
          have f0 := frozen_of_row W2 p 0 _ _ r3
          have f1 := frozen_of_row W2 p 1 _ _ r3
          have c2 := cell_of_row W2 q 0 _ _ _ r2
          have c3 := cell_of_row W2 q 1 _ _ _ r2
          have f2 := frozen_of_row W2 q 0 _ _ r2
          have f3 := frozen_of_row W2 q 1 _ _ r2
          intro q0 hq
          refine wpQuiet_nil ?_
          clear hq q0
          refine seg_op (by simp only [List.getElem?_toArray, List.getElem?_cons_succ, List.getElem?_cons_zero]; rfl) fun K hK => ?_
          go_simp
          have k1 : Keeps (fun i => i = p) W2 ((W2.setCell ⟨p, 0, none⟩ (.int .i64 n1)).setCell ⟨p, 1, none⟩ (.int .u64 (x1 : Int))) := (Keeps.set W2 p 0 _).trans (Keeps.set _ p 1 _) (fun i hi => .inl hi)
          have zz1 := z2.trans (k1.below z2.size (fun i hi => by omega))
          have rp := heap_setCell_same _ _ 1 _ _ (.int .u64 (x1 : Int)) (heap_setCell_same _ _ 0 _ _ (.int .i64 n1) r3)
          have rq := k1.row r2 (by omega)
          generalize (W2.setCell ⟨p, 0, none⟩ (.int .i64 n1)).setCell ⟨p, 1, none⟩ (.int .u64 (x1 : Int)) = W3 at *
          refine hK.out _ _ ⟨zz1, ?_⟩
          clear hK K c0 c1 c2 c3 f0 f1 f2 f3 k1 z2 r2 r3
          have c2 := cell_of_row W3 q 0 _ _ _ rq
          have c3 := cell_of_row W3 q 1 _ _ _ rq
          have f2 := frozen_of_row W3 q 0 _ _ rq
          have f3 := frozen_of_row W3 q 1 _ _ rq
          intro q0 hq
          refine wpQuiet_nil ?_
          clear hq q0
          refine seg_op (by simp only [List.getElem?_toArray, List.getElem?_cons_succ, List.getElem?_cons_zero]; rfl) fun K hK => ?_
          go_simp
          have k2 : Keeps (fun i => i = q) W3 ((W3.setCell ⟨q, 0, none⟩ (.int .i64 n2)).setCell ⟨q, 1, none⟩ (.int .u64 (x2 : Int))) := (Keeps.set W3 q 0 _).trans (Keeps.set _ q 1 _) (fun i hi => .inl hi)
          have zz2 := zz1.trans (k2.below zz1.size (fun i hi => by omega))
          have rp2 := k2.row rp (by omega)
          have rq2 := heap_setCell_same _ _ 1 _ _ (.int .u64 (x2 : Int)) (heap_setCell_same _ _ 0 _ _ (.int .i64 n2) rq)
          generalize (W3.setCell ⟨q, 0, none⟩ (.int .i64 n2)).setCell ⟨q, 1, none⟩ (.int .u64 (x2 : Int)) = W4 at *
          refine hK.out _ _ ⟨zz2, ?_⟩
          clear hK K c2 c3 f2 f3
          intro q0 hq
          refine wpQuiet_nil ?_
          clear hq q0
          go_wp2_with (fail)
          go_meet
          case rel => exact ⟨p, q, rfl, rfl, ⟨rp2, rq2, zz2⟩⟩
        · skip
          refine seg_op (by simp only [List.getElem?_toArray, List.getElem?_cons_succ, List.getElem?_cons_zero]; rfl) fun K hK => ?_
          go_simp
          obtain ⟨W1, hW1⟩ : ∃ v, v = wd.alloc (.cells #[.int .i64 0, .int .u64 0] 31) := ⟨_, rfl⟩
          rw [← hW1]
          have b1 : Below wd.heap.size wd W1 := by rw [hW1]; exact (Below.refl _ _).alloc (Nat.le_refl _) _
          have r1 : W1.heap[wd.heap.size]? = some (.cells #[.int .i64 0, .int .u64 0] 31) := by rw [hW1]; exact heap_alloc_new wd _
          have z1 := hbd.trans (b1.mono hbd.size)
          refine hK.out _ _ ⟨z1, ?_⟩
          clear hK K hW1
          intro q0 hq
          refine wpQuiet_nil ?_
          clear hq q0
          refine seg_op (by simp only [List.getElem?_toArray, List.getElem?_cons_succ, List.getElem?_cons_zero]; rfl) fun K hK => ?_
          go_simp
          obtain ⟨W2, hW2⟩ : ∃ v, v = W1.alloc (.cells #[.int .i64 0, .int .u64 0] 31) := ⟨_, rfl⟩
          rw [← hW2]
          have b2 : Below W1.heap.size W1 W2 := by rw [hW2]; exact (Below.refl _ _).alloc (Nat.le_refl _) _
          have r2 : W2.heap[W1.heap.size]? = some (.cells #[.int .i64 0, .int .u64 0] 31) := by rw [hW2]; exact heap_alloc_new W1 _
          have r3 := row_below r1 b2
          have z2 := z1.trans (b2.mono z1.size)
          have hne : wd.heap.size ≠ W1.heap.size := by have := (Array.getElem?_eq_some_iff.1 r1).1; omega
          have hge1 : wr.heap.size ≤ wd.heap.size := hbd.size
          have hge2 : wr.heap.size ≤ W1.heap.size := z1.size
          refine hK.out _ _ ⟨z2, ?_⟩
          clear hK K hW2 b2 r1 b1
          obtain ⟨q, hp⟩ : ∃ p, wd.heap.size = p := ⟨_, rfl⟩
          obtain ⟨p, hp'⟩ : ∃ p, W1.heap.size = p := ⟨_, rfl⟩
          rw [hp] at r3 hne hge1 ⊢
          rw [hp'] at r2 hne hge2 ⊢
          have c0 := cell_of_row W2 q 0 _ _ _ r3
          have c1 := cell_of_row W2 q 1 _ _ _ r3
          have f0 := frozen_of_row W2 q 0 _ _ r3
          have f1 := frozen_of_row W2 q 1 _ _ r3
          have c2 := cell_of_row W2 p 0 _ _ _ r2
          have c3 := cell_of_row W2 p 1 _ _ _ r2
          have f2 := frozen_of_row W2 p 0 _ _ r2
          have f3 := frozen_of_row W2 p 1 _ _ r2
          intro q0 hq
          refine wpQuiet_nil ?_
          clear hq q0
          refine seg_op (by simp only [List.getElem?_toArray, List.getElem?_cons_succ, List.getElem?_cons_zero]; rfl) fun K hK => ?_
          go_simp
          have k1 : Keeps (fun i => i = p) W2 ((W2.setCell ⟨p, 0, none⟩ (.int .i64 n1)).setCell ⟨p, 1, none⟩ (.int .u64 (x1 : Int))) := (Keeps.set W2 p 0 _).trans (Keeps.set _ p 1 _) (fun i hi => .inl hi)
          have zz1 := z2.trans (k1.below z2.size (fun i hi => by omega))
          have rp := heap_setCell_same _ _ 1 _ _ (.int .u64 (x1 : Int)) (heap_setCell_same _ _ 0 _ _ (.int .i64 n1) r2)
          have rq := k1.row r3 (by omega)
          generalize (W2.setCell ⟨p, 0, none⟩ (.int .i64 n1)).setCell ⟨p, 1, none⟩ (.int .u64 (x1 : Int)) = W3 at *
          refine hK.out _ _ ⟨zz1, ?_⟩
          clear hK K c0 c1 c2 c3 f0 f1 f2 f3 k1 z2 r2 r3
          have c2 := cell_of_row W3 q 0 _ _ _ rq
          have c3 := cell_of_row W3 q 1 _ _ _ rq
          have f2 := frozen_of_row W3 q 0 _ _ rq
          have f3 := frozen_of_row W3 q 1 _ _ rq
          intro q0 hq
          refine wpQuiet_nil ?_
          clear hq q0
          refine seg_op (by simp only [List.getElem?_toArray, List.getElem?_cons_succ, List.getElem?_cons_zero]; rfl) fun K hK => ?_
          go_simp
          have k2 : Keeps (fun i => i = q) W3 ((W3.setCell ⟨q, 0, none⟩ (.int .i64 n2)).setCell ⟨q, 1, none⟩ (.int .u64 (x2 : Int))) := (Keeps.set W3 q 0 _).trans (Keeps.set _ q 1 _) (fun i hi => .inl hi)
          have zz2 := zz1.trans (k2.below zz1.size (fun i hi => by omega))
          have rp2 := k2.row rp (by omega)
          have rq2 := heap_setCell_same _ _ 1 _ _ (.int .u64 (x2 : Int)) (heap_setCell_same _ _ 0 _ _ (.int .i64 n2) rq)
          generalize (W3.setCell ⟨q, 0, none⟩ (.int .i64 n2)).setCell ⟨q, 1, none⟩ (.int .u64 (x2 : Int)) = W4 at *
          refine hK.out _ _ ⟨zz2, ?_⟩
          clear hK K c2 c3 f2 f3
          intro q0 hq
          refine wpQuiet_nil ?_
          clear hq q0
          go_wp2_with (fail)
          go_meet
          case rel => exact ⟨p, q, rfl, rfl, ⟨rp2, rq2, zz2⟩⟩
      case rest =>
        obtain ⟨p, q, rfl, rfl, hB⟩ := hcut
        have HB := Lib.hid hB
        have ha := HO.out.a.below hB.bel
        have HA := Lib.hid ha
        have c0 := cell_of_row wc p 0 _ _ _ hB.r1
        have c1 := cell_of_row wc p 1 _ _ _ hB.r1
        have HAC := Lib.hid (ack_any ha (by omega) n1 x1 HX.out.1)
        clear hB ha
        go_wp2_with (fail)
        refine HAC.out.mono ?_
        clear HAC
        rintro e w3 ⟨rfl, ha3, hk3⟩
        have hb0 := HO.out.b.below HB.out.bel
        have hgb : g2 ≠ b1 := by
          intro e
          obtain ⟨es, cl, hb⟩ := HA.out.map.obj
          have := hb0.row
          rw [e, hb] at this
          cases this
        have hb3 := hb0.keeps hk3 hgb (fun e => HO.out.ne e.symm)
        have hqb : ¬ q = b1 := by
          intro e
          obtain ⟨es, cl, hb⟩ := HA.out.map.obj
          have := HB.out.r2
          rw [e, hb] at this
          cases this
        have hq3 := hk3.row HB.out.r2 hqb
        have c2 := cell_of_row w3 q 0 _ _ _ hq3
        have c3 := cell_of_row w3 q 1 _ _ _ hq3
        have HA3 := Lib.hid ha3
        have HB3 := Lib.hid hb3
        have HK3 := Lib.hid hk3
        have HBC := Lib.hid (ack_any hb3 (by omega) n2 x2 HX.out.2)
        clear ha3 hb3 hk3 hb0 hq3 hqb hgb c0 c1
        go_wp2_with (fail)
        refine HBC.out.mono ?_
        clear HBC
        rintro e w4 ⟨rfl, hb4, hk4⟩
        have hga : g1 ≠ b2 := by
          intro e
          obtain ⟨es, cl, hb⟩ := HB3.out.map.obj
          have := HA3.out.row
          rw [e, hb] at this
          cases this
        have ha4 := HA3.out.keeps hk4 hga HO.out.ne
        have hz : Below w.heap.size w w4 := by
          have z1 := HO.out.bel.trans (HB.out.bel.mono HO.out.bel.size)
          have z2 := z1.trans (HK3.out.below z1.size (fun j hj => by have := HO.out.lo; omega))
          exact z2.trans (hk4.below z2.size (fun j hj => by have := HO.out.lo; omega))
        have HNEW := Lib.hid (show Ord w w4 g1 b1 g2 b2 (i + 1) (ackAll (W0 n low) ((acksOf os).take (i + 1))) (ackAll (W0 n low) ((acksOf os).reverse.take (i + 1))) from by
          rw [HSS.out.1, HSS.out.2]
          exact ⟨ha4, hb4, HO.out.ne, hz, HO.out.lo⟩)
        clear ha4 hb4 hk4 hga hz c2 c3
        go_wp2_with (fail)
        go_roundw
        case rel => exact ⟨i + 1, by have := HJ.out; omega, by go_num, HNEW⟩
        case measure => have := HJ.out; simp [intOf]; omega
    · obtain rfl : i = m := by omega
      have hlen : (acksOf os).length = i := by unfold acksOf; rw [List.length_map]; exact HLEN.out
      have he : (ackAll (W0 n low) ((acksOf os).reverse.take i)).com = (ackAll (W0 n low) ((acksOf os).take i)).com := by
        rw [List.take_of_length_le (by rw [List.length_reverse]; omega), List.take_of_length_le (by omega)]
        exact ackAll_rev ⟨HW.out.1, HW.out.2.1, HW.out.2.2, fun x s h => by cases h⟩ _
      have hca := com_any HO.out.a (by omega) (HT.out.below HO.out.bel)
      obtain ⟨N, hN⟩ : ∃ N, (ackAll (W0 n low) ((acksOf os).take i)).com = N := ⟨_, rfl⟩
      rw [hN] at he hca
      have HE := Lib.hid he
      have HCA := Lib.hid hca
      clear he hca hlen hN hlt
      go_wp2_with (fail)
      refine HCA.out.mono ?_
      clear HCA
      rintro e w3 ⟨rfl, hb3⟩
      have hcb := com_any (HO.out.b.below hb3) (by omega) (HT.out.below (HO.out.bel.trans (hb3.mono HO.out.bel.size)))
      rw [HE.out] at hcb
      have HCB := Lib.hid hcb
      have HB3 := Lib.hid (HO.out.bel.trans (hb3.mono HO.out.bel.size))
      clear hcb hb3
      go_wp2_with (fail)
      refine HCB.out.mono ?_
      clear HCB
      rintro e w4 ⟨rfl, hb4⟩
      have HB4 := Lib.hid (HB3.out.trans (hb4.mono HB3.out.size))
      have HLV := Lib.hid (lives21_any w4 (HT.out.below HB4.out))
      clear hb4
      go_wp2_with (first
        | (go_at_call 7; refine HLV.out.mono ?_; rintro e w5 ⟨rfl, hb5⟩)
        | fail)
      go_ret
      exact ⟨rfl, HB4.out.trans (hb5.mono HB4.out.size)⟩
set_option maxHeartbeats 4000000 in
theorem order_none {w : World} (n : Int) (low : Nat) {A : Option Addr} {m c : Nat} {os : List AckD} (hs : Slc AckD.lay w A m c os) (hT : Tab w) (h : ¬ 200 < m) (hn : n < 1 ∨ 7 < n ∨ 4611686018427387584 < low) :
    Calls Tryd.prog 5 #[.int .i64 n, .int .u64 (low : Int), .slice A m c] w fun e w' => e = .returned (.bool true) ∧ Below w.heap.size w w' := by
  have HN := Lib.hid (fun W => new_none n low W hn)
  have d1 : decide (200 < (m : Int)) = false := by simp; omega
  have HT := Lib.hid hT
  have HS := Lib.hid hs
  have HM := Lib.hid (show m ≤ 200 by omega)
  clear h hT hs hn
  go_enter Tryd.func5, Tryd.ntmps5
  go_wp2_with (fail)
  refine (HN.out _).mono ?_
  rintro e w1 ⟨rfl, rfl⟩
  go_wp2_with (fail)
  refine (HN.out _).mono ?_
  clear HN
  rintro e w2 ⟨rfl, rfl⟩
  have HO : Hid (Below w.heap.size w w) := Lib.hid (Below.refl _ _)
  have hm3 : (m : Int) ≤ 200 := by have := HM.out; omega
  go_wp2_with (fail)
  go_loopw [24] (fun ir wr => ∃ (i : Nat), i ≤ m ∧ ir = .int .i64 (i : Int) ∧ Hid (Below w.heap.size w wr)) (fun ir _ => m - (intOf ir).toNat)
  case atStart => exact ⟨0, Nat.zero_le _, rfl, HO⟩
  case round =>
    clear HO
    obtain ⟨i, hi, rfl, HO⟩ := hrel
    by_cases hlt : i < m
    · obtain ⟨o, ho⟩ : ∃ o, os[i]? = some o := ⟨_, List.getElem?_eq_getElem (by rw [HS.out.len]; exact hlt)⟩
      obtain ⟨j, hj⟩ : ∃ j, j + i + 1 = m := ⟨m - 1 - i, by omega⟩
      obtain ⟨o', ho'⟩ : ∃ o, os[j]? = some o := ⟨_, List.getElem?_eq_getElem (by rw [HS.out.len]; omega)⟩
      obtain ⟨bb, off, rfl, hbl, hcell⟩ := (HS.out.below HO.out).at_ (by omega)
      have k0 : wr.cell? ⟨bb, off + (i * 2 + 0), none⟩ = some (.int .i64 o.Node) := hcell i o ho 0 _ rfl
      have k1 : wr.cell? ⟨bb, off + (i * 2 + 1), none⟩ = some (.int .u64 o.Index) := hcell i o ho 1 _ rfl
      have k2 : wr.cell? ⟨bb, off + (j * 2 + 0), none⟩ = some (.int .i64 o'.Node) := hcell j o' ho' 0 _ rfl
      have k3 : wr.cell? ⟨bb, off + (j * 2 + 1), none⟩ = some (.int .u64 o'.Index) := hcell j o' ho' 1 _ rfl
      obtain ⟨hr1, hr2⟩ := HS.out.reads o (List.mem_of_getElem? ho)
      obtain ⟨hr3, hr4⟩ := HS.out.reads o' (List.mem_of_getElem? ho')
      obtain ⟨x1, hx1, hx164⟩ := wf_u64 hr2
      obtain ⟨x2, hx2, hx264⟩ := wf_u64 hr4
      obtain ⟨n1, hn1⟩ : ∃ n1, o.Node = n1 := ⟨_, rfl⟩
      obtain ⟨n2, hn2⟩ : ∃ n2, o'.Node = n2 := ⟨_, rfl⟩
      rw [hn1] at k0
      rw [hn2] at k2
      rw [hx1] at k1
      rw [hx2] at k3
      have HJ := Lib.hid (And.intro hlt hj)
      obtain ⟨m1, hm1⟩ : ∃ m1 : Nat, m1 + 1 = m := ⟨m - 1, by omega⟩
      have w1 : wrap64 ((m : Int) - 1) = (m1 : Int) := by unfold wrap64; omega
      have w2 : wrap64 ((m1 : Int) - (i : Int)) = (j : Int) := by unfold wrap64; omega
      have u1 : (m : Int) - 1 = (m1 : Int) := by omega
      have hjm : decide (j < m) = true := by simp; omega
      have hjm2 : j < m := by omega
      have hi3 : (i : Int) ≤ 200 := by omega
      have HK := Lib.hid (And.intro (And.intro k0 k1) (And.intro k2 k3))
      have HU := Lib.hid (And.intro w1 w2)
      clear ho ho' hcell hr1 hr2 hr3 hr4 hx1 hx2 hn1 hn2 hj hx164 hx264 hbl hm1 k0 k1 k2 k3 u1
      clear o o'
      go_upto_region 7 with (fail)
      go_cut [10, 11] (fun u v wx => Boxed wr n1 n2 x1 x2 u v wx)
      case first =>
        refine wp_tree wr.heap.size (.two [0, 1, 2, 3, 4, 5, 6, 7, 8, 9, 10, 11] 12 13 (.one [] 13 (.one [] 14 (.one [] 15 (.fin [])))) (.one [] 12 (.one [] 14 (.one [] 15 (.fin []))))) (by kernel_rfl) (by kernel_rfl) (fun d _ _ _ _ h => by cases d <;> exact h) fun wd hbd => ?_
        intro q hq
        have d0 := fun z => ((hq z).cell (p := ⟨bb, off + (i * 2 + 0), none⟩) (by have := block_lt_of_cell HK.out.1.1; exact this)).trans HK.out.1.1
        have d1 := fun z => ((hq z).cell (p := ⟨bb, off + (i * 2 + 1), none⟩) (by have := block_lt_of_cell HK.out.1.1; exact this)).trans HK.out.1.2
        have d2 := fun z => ((hq z).cell (p := ⟨bb, off + (j * 2 + 0), none⟩) (by have := block_lt_of_cell HK.out.1.1; exact this)).trans HK.out.2.1
        have d3 := fun z => ((hq z).cell (p := ⟨bb, off + (j * 2 + 1), none⟩) (by have := block_lt_of_cell HK.out.1.1; exact this)).trans HK.out.2.2
        simp only [← Nat.add_assoc, Nat.add_zero] at d0 d1 d2 d3
        rw [show j = m - 1 - i by have := HJ.out.2; omega] at d2 d3
        simp only [pickI, Option.toList_some, List.cons_append, List.nil_append, List.getElem?_toArray, List.getElem?_cons_succ, List.getElem?_cons_zero]
        try go_frame
        iterate 12 go_big_quiet_step (fail)
        refine wpQuiet_nil ?_
        clear d0 d1 d2 d3 hq q
        constructor
        · skip
          refine seg_op (by simp only [List.getElem?_toArray, List.getElem?_cons_succ, List.getElem?_cons_zero]; rfl) fun K hK => ?_
          go_simp
          obtain ⟨W1, hW1⟩ : ∃ v, v = wd.alloc (.cells #[.int .i64 0, .int .u64 0] 31) := ⟨_, rfl⟩
          rw [← hW1]
          have b1 : Below wd.heap.size wd W1 := by rw [hW1]; exact (Below.refl _ _).alloc (Nat.le_refl _) _
          have r1 : W1.heap[wd.heap.size]? = some (.cells #[.int .i64 0, .int .u64 0] 31) := by rw [hW1]; exact heap_alloc_new wd _
          have z1 := hbd.trans (b1.mono hbd.size)
          refine hK.out _ _ ⟨z1, ?_⟩
          clear hK K hW1
          intro q0 hq
          refine wpQuiet_nil ?_
          clear hq q0
          refine seg_op (by simp only [List.getElem?_toArray, List.getElem?_cons_succ, List.getElem?_cons_zero]; rfl) fun K hK => ?_
          go_simp
          obtain ⟨W2, hW2⟩ : ∃ v, v = W1.alloc (.cells #[.int .i64 0, .int .u64 0] 31) := ⟨_, rfl⟩
          rw [← hW2]
          have b2 : Below W1.heap.size W1 W2 := by rw [hW2]; exact (Below.refl _ _).alloc (Nat.le_refl _) _
          have r2 : W2.heap[W1.heap.size]? = some (.cells #[.int .i64 0, .int .u64 0] 31) := by rw [hW2]; exact heap_alloc_new W1 _
          have r3 := row_below r1 b2
          have z2 := z1.trans (b2.mono z1.size)
          have hne : wd.heap.size ≠ W1.heap.size := by have := (Array.getElem?_eq_some_iff.1 r1).1; omega
          have hge1 : wr.heap.size ≤ wd.heap.size := hbd.size
          have hge2 : wr.heap.size ≤ W1.heap.size := z1.size
          refine hK.out _ _ ⟨z2, ?_⟩
          clear hK K hW2 b2 r1 b1
          obtain ⟨p, hp⟩ : ∃ p, wd.heap.size = p := ⟨_, rfl⟩
          obtain ⟨q, hp'⟩ : ∃ p, W1.heap.size = p := ⟨_, rfl⟩
          rw [hp] at r3 hne hge1 ⊢
          rw [hp'] at r2 hne hge2 ⊢
          have c0 := cell_of_row W2 p 0 _ _ _ r3
          have c1 := cell_of_row W2 p 1 _ _ _ r3
          have f0 := frozen_of_row W2 p 0 _ _ r3
          have f1 := frozen_of_row W2 p 1 _ _ r3
          have c2 := cell_of_row W2 q 0 _ _ _ r2
          have c3 := cell_of_row W2 q 1 _ _ _ r2
          have f2 := frozen_of_row W2 q 0 _ _ r2
          have f3 := frozen_of_row W2 q 1 _ _ r2
          intro q0 hq
          refine wpQuiet_nil ?_
          clear hq q0
          refine seg_op (by simp only [List.getElem?_toArray, List.getElem?_cons_succ, List.getElem?_cons_zero]; rfl) fun K hK => ?_
          go_simp
          have k1 : Keeps (fun i => i = p) W2 ((W2.setCell ⟨p, 0, none⟩ (.int .i64 n1)).setCell ⟨p, 1, none⟩ (.int .u64 (x1 : Int))) := (Keeps.set W2 p 0 _).trans (Keeps.set _ p 1 _) (fun i hi => .inl hi)
          have zz1 := z2.trans (k1.below z2.size (fun i hi => by omega))
          have rp := heap_setCell_same _ _ 1 _ _ (.int .u64 (x1 : Int)) (heap_setCell_same _ _ 0 _ _ (.int .i64 n1) r3)
          have rq := k1.row r2 (by omega)
          generalize (W2.setCell ⟨p, 0, none⟩ (.int .i64 n1)).setCell ⟨p, 1, none⟩ (.int .u64 (x1 : Int)) = W3 at *
          refine hK.out _ _ ⟨zz1, ?_⟩
          clear hK K c0 c1 c2 c3 f0 f1 f2 f3 k1 z2 r2 r3
          have c2 := cell_of_row W3 q 0 _ _ _ rq
          have c3 := cell_of_row W3 q 1 _ _ _ rq
          have f2 := frozen_of_row W3 q 0 _ _ rq
          have f3 := frozen_of_row W3 q 1 _ _ rq
          intro q0 hq
          refine wpQuiet_nil ?_
          clear hq q0
          refine seg_op (by simp only [List.getElem?_toArray, List.getElem?_cons_succ, List.getElem?_cons_zero]; rfl) fun K hK => ?_
          go_simp
          have k2 : Keeps (fun i => i = q) W3 ((W3.setCell ⟨q, 0, none⟩ (.int .i64 n2)).setCell ⟨q, 1, none⟩ (.int .u64 (x2 : Int))) := (Keeps.set W3 q 0 _).trans (Keeps.set _ q 1 _) (fun i hi => .inl hi)
          have zz2 := zz1.trans (k2.below zz1.size (fun i hi => by omega))
          have rp2 := k2.row rp (by omega)
          have rq2 := heap_setCell_same _ _ 1 _ _ (.int .u64 (x2 : Int)) (heap_setCell_same _ _ 0 _ _ (.int .i64 n2) rq)
          generalize (W3.setCell ⟨q, 0, none⟩ (.int .i64 n2)).setCell ⟨q, 1, none⟩ (.int .u64 (x2 : Int)) = W4 at *
          refine hK.out _ _ ⟨zz2, ?_⟩
          clear hK K c2 c3 f2 f3
          intro q0 hq
          refine wpQuiet_nil ?_
          clear hq q0
          go_wp2_with (fail)
          go_meet
          case rel => exact ⟨p, q, rfl, rfl, ⟨rp2, rq2, zz2⟩⟩
        · skip
          refine seg_op (by simp only [List.getElem?_toArray, List.getElem?_cons_succ, List.getElem?_cons_zero]; rfl) fun K hK => ?_
          go_simp
          obtain ⟨W1, hW1⟩ : ∃ v, v = wd.alloc (.cells #[.int .i64 0, .int .u64 0] 31) := ⟨_, rfl⟩
          rw [← hW1]
          have b1 : Below wd.heap.size wd W1 := by rw [hW1]; exact (Below.refl _ _).alloc (Nat.le_refl _) _
          have r1 : W1.heap[wd.heap.size]? = some (.cells #[.int .i64 0, .int .u64 0] 31) := by rw [hW1]; exact heap_alloc_new wd _
          have z1 := hbd.trans (b1.mono hbd.size)
          refine hK.out _ _ ⟨z1, ?_⟩
          clear hK K hW1
          intro q0 hq
          refine wpQuiet_nil ?_
          clear hq q0
          refine seg_op (by simp only [List.getElem?_toArray, List.getElem?_cons_succ, List.getElem?_cons_zero]; rfl) fun K hK => ?_
          go_simp
          obtain ⟨W2, hW2⟩ : ∃ v, v = W1.alloc (.cells #[.int .i64 0, .int .u64 0] 31) := ⟨_, rfl⟩
          rw [← hW2]
          have b2 : Below W1.heap.size W1 W2 := by rw [hW2]; exact (Below.refl _ _).alloc (Nat.le_refl _) _
          have r2 : W2.heap[W1.heap.size]? = some (.cells #[.int .i64 0, .int .u64 0] 31) := by rw [hW2]; exact heap_alloc_new W1 _
          have r3 := row_below r1 b2
          have z2 := z1.trans (b2.mono z1.size)
          have hne : wd.heap.size ≠ W1.heap.size := by have := (Array.getElem?_eq_some_iff.1 r1).1; omega
          have hge1 : wr.heap.size ≤ wd.heap.size := hbd.size
          have hge2 : wr.heap.size ≤ W1.heap.size := z1.size
          refine hK.out _ _ ⟨z2, ?_⟩
          clear hK K hW2 b2 r1 b1
          obtain ⟨q, hp⟩ : ∃ p, wd.heap.size = p := ⟨_, rfl⟩
          obtain ⟨p, hp'⟩ : ∃ p, W1.heap.size = p := ⟨_, rfl⟩
          rw [hp] at r3 hne hge1 ⊢
          rw [hp'] at r2 hne hge2 ⊢
          have c0 := cell_of_row W2 q 0 _ _ _ r3
          have c1 := cell_of_row W2 q 1 _ _ _ r3
          have f0 := frozen_of_row W2 q 0 _ _ r3
          have f1 := frozen_of_row W2 q 1 _ _ r3
          have c2 := cell_of_row W2 p 0 _ _ _ r2
          have c3 := cell_of_row W2 p 1 _ _ _ r2
          have f2 := frozen_of_row W2 p 0 _ _ r2
          have f3 := frozen_of_row W2 p 1 _ _ r2
          intro q0 hq
          refine wpQuiet_nil ?_
          clear hq q0
          refine seg_op (by simp only [List.getElem?_toArray, List.getElem?_cons_succ, List.getElem?_cons_zero]; rfl) fun K hK => ?_
          go_simp
          have k1 : Keeps (fun i => i = p) W2 ((W2.setCell ⟨p, 0, none⟩ (.int .i64 n1)).setCell ⟨p, 1, none⟩ (.int .u64 (x1 : Int))) := (Keeps.set W2 p 0 _).trans (Keeps.set _ p 1 _) (fun i hi => .inl hi)
          have zz1 := z2.trans (k1.below z2.size (fun i hi => by omega))
          have rp := heap_setCell_same _ _ 1 _ _ (.int .u64 (x1 : Int)) (heap_setCell_same _ _ 0 _ _ (.int .i64 n1) r2)
          have rq := k1.row r3 (by omega)
          generalize (W2.setCell ⟨p, 0, none⟩ (.int .i64 n1)).setCell ⟨p, 1, none⟩ (.int .u64 (x1 : Int)) = W3 at *
          refine hK.out _ _ ⟨zz1, ?_⟩
          clear hK K c0 c1 c2 c3 f0 f1 f2 f3 k1 z2 r2 r3
          have c2 := cell_of_row W3 q 0 _ _ _ rq
          have c3 := cell_of_row W3 q 1 _ _ _ rq
          have f2 := frozen_of_row W3 q 0 _ _ rq
          have f3 := frozen_of_row W3 q 1 _ _ rq
          intro q0 hq
          refine wpQuiet_nil ?_
          clear hq q0
          refine seg_op (by simp only [List.getElem?_toArray, List.getElem?_cons_succ, List.getElem?_cons_zero]; rfl) fun K hK => ?_
          go_simp
          have k2 : Keeps (fun i => i = q) W3 ((W3.setCell ⟨q, 0, none⟩ (.int .i64 n2)).setCell ⟨q, 1, none⟩ (.int .u64 (x2 : Int))) := (Keeps.set W3 q 0 _).trans (Keeps.set _ q 1 _) (fun i hi => .inl hi)
          have zz2 := zz1.trans (k2.below zz1.size (fun i hi => by omega))
          have rp2 := k2.row rp (by omega)
          have rq2 := heap_setCell_same _ _ 1 _ _ (.int .u64 (x2 : Int)) (heap_setCell_same _ _ 0 _ _ (.int .i64 n2) rq)
          generalize (W3.setCell ⟨q, 0, none⟩ (.int .i64 n2)).setCell ⟨q, 1, none⟩ (.int .u64 (x2 : Int)) = W4 at *
          refine hK.out _ _ ⟨zz2, ?_⟩
          clear hK K c2 c3 f2 f3
          intro q0 hq
          refine wpQuiet_nil ?_
          clear hq q0
          go_wp2_with (fail)
          go_meet
          case rel => exact ⟨p, q, rfl, rfl, ⟨rp2, rq2, zz2⟩⟩
      case rest =>
        obtain ⟨p, q, rfl, rfl, hB⟩ := hcut
        have HB := Lib.hid hB
        have c0 := cell_of_row wc p 0 _ _ _ hB.r1
        have c1 := cell_of_row wc p 1 _ _ _ hB.r1
        have c2 := cell_of_row wc q 0 _ _ _ hB.r2
        have c3 := cell_of_row wc q 1 _ _ _ hB.r2
        clear hB
        go_wp2_with (first
          | (go_at_call 11; with_reducible refine (ack_nil _ _ _).mono ?_; rintro e w3 ⟨rfl, rfl⟩)
          | fail)
        go_roundw
        case rel => exact ⟨i + 1, by have := HJ.out; omega, by go_num, Lib.hid (HO.out.trans (HB.out.bel.mono HO.out.size))⟩
        case measure => have := HJ.out; simp [intOf]; omega
    · obtain rfl : i = m := by omega
      have HCA := Lib.hid (com_nil wr)
      clear hlt
      go_wp2_with (fail)
      refine HCA.out.mono ?_
      clear HCA
      rintro e w3 ⟨rfl, hb3⟩
      have HCB := Lib.hid (com_nil w3)
      have HB3 := Lib.hid (HO.out.trans (hb3.mono HO.out.size))
      clear hb3
      go_wp2_with (fail)
      refine HCB.out.mono ?_
      clear HCB
      rintro e w4 ⟨rfl, hb4⟩
      have HB4 := Lib.hid (HB3.out.trans (hb4.mono HB3.out.size))
      have HLV := Lib.hid (lives21_any w4 (HT.out.below HB4.out))
      clear hb4
      go_wp2_with (first
        | (go_at_call 7; refine HLV.out.mono ?_; rintro e w5 ⟨rfl, hb5⟩)
        | fail)
      go_ret
      exact ⟨rfl, HB4.out.trans (hb5.mono HB4.out.size)⟩
theorem windowOrder_walk {w : World} (n : Int) (_ : (Lit.int .i64 n).wf = true) (low : Int) (hl : (Lit.int .u64 low).wf = true) {A : Option Addr} {m c : Nat} {os : List AckD} (hs : Slc AckD.lay w A m c os) (hT : Tab w) :
    Calls Tryd.prog 5 #[.int .i64 n, .int .u64 low, .slice A m c] w fun e w' => e = .returned (.bool true) ∧ Below w.heap.size w w' := by
  obtain ⟨low, rfl, hlow⟩ := wf_u64 hl
  by_cases h : 200 < m
  · exact order_early n _ A m c w hT h
  · by_cases hn : n < 1 ∨ 7 < n ∨ 4611686018427387584 < low
    · exact order_none n low hs hT h hn
    · obtain ⟨k, rfl⟩ : ∃ k : Nat, n = (k : Int) := ⟨n.toNat, by omega⟩
      exact order_main k low hs hT h (by omega) (by omega) (by omega)
namespace windowOrder
open Go.ChangeShapes Go.WideShapes Go.ChangeAt
set_option maxRecDepth 100000 in
theorem lifted (os : Os) (started : os.Started) (H : Type) (enc : TypeId × Value → H) :
    ReturnsInHanded {} Tryd.checked os 5 .any (fun w args => (Rows.windowOrderSpec.pre enc Tryd.prog Tryd.f5 [] false w args ∧ laidMetH Tryd.prog laidL w) ∧ sizedMet enc Tryd.prog Tryd.f5 (OpenSpec.ofChange Rows.windowOrderSpec) false w args)
      (Rows.windowOrderSpec.post enc Tryd.prog Tryd.f5 false true false false) := by
  refine returnsInHanded_of_change_and (C := Tryd.checked) (X := fun w _ => laidMetH Tryd.prog laidL w) (fun _ _ _ hh h => h.of_heap hh) own started (by kernel_rfl) Tryd.func5
    (ChangeSpec.witness_shaped (enc := enc) (C := Tryd.checked) (os := os) (X := fun w _ => laidMetH Tryd.prog laidL w) false (World.doorLaid Tryd.prog 400 os) #[.int .i64 0, .int .u64 0, .slice none 0 0] 8 rfl (World.shaped_of_RefB (by kernel_rfl) (by kernel_rfl)) (by kernel_rfl) (by kernel_rfl) (by kernel_rfl) (door_met os _)) ?_
  intro W base args ds gs before hval0 hW _ _ hL _
  have hval : ∀ (j : Nat) t v, Tryd.f5.params[j]? = some t → args[j]? = some v → Value.okWide Tryd.prog W .any base t v := hval0
  have hW' := hW
  obtain ⟨p, q, hA0, hV, rfl, hfz, hnd⟩ := hW
  have hA : DataW.TrodAll enc Tryd.prog W 0 (fun _ => true) true Tryd.f5.params.toList args.toList ds p := hA0
  rw [Tryd.params5] at hA hval
  obtain ⟨v0, vs0, d0, ds0, p0, q0, hargs, rfl, rfl, h0, r0⟩ := trodAll_cons hA
  obtain ⟨v1, vs1, d1, ds1, p1, q1, rfl, rfl, rfl, h1, r1⟩ := trodAll_cons r0
  obtain ⟨v2, vs2, d2, ds2, p2, q2, rfl, rfl, rfl, h2, r2⟩ := trodAll_cons r1
  obtain ⟨rfl, rfl, rfl⟩ := trodAll_nil r2
  obtain rfl : args = #[v0, v1, v2] := by cases args; simp_all
  obtain ⟨rfl, rfl⟩ := trodVars_none hV
  have k0 := h0
  have lt0 : ∀ x ∈ p0, x.block < W.heap.size := by obtain ⟨m, hm⟩ := k0; exact DataW.trod_lt m _ _ _ hm
  obtain ⟨x0, rfl, w0⟩ := dec_int Tryd.underlying3 (hval 0 3 v0 rfl rfl) h0
  have k1 := h1
  have lt1 : ∀ x ∈ p1, x.block < W.heap.size := by obtain ⟨m, hm⟩ := k1; exact DataW.trod_lt m _ _ _ hm
  obtain ⟨x1, rfl, w1⟩ := dec_int Tryd.underlying22 (hval 1 22 v1 rfl rfl) h1
  have k2 := h2
  have lt2 : ∀ x ∈ p2, x.block < W.heap.size := by obtain ⟨m, hm⟩ := k2; exact DataW.trod_lt m _ _ _ hm
  obtain ⟨a2, n2, c2, l2, rfl, w2⟩ := AckD.dec (hval 2 23 v2 rfl rfl) h2
  clear hA0 hval0
  have hT := of_laid hL
  refine (windowOrder_walk x0 w0 x1 w1 w2 hT).mono fun e W' ⟨he, bel⟩ => ?_
  subst he
  exact ⟨_, rfl, _, _, _, [], _, [], hW', trodAll_mk1 (shut_bool Tryd.underlying4 _), (trodAll_cons_mk (Below.trod laidOut (by kernel_rfl) (of_decide_eq_true (by kernel_rfl)) k0 bel lt0) (trodAll_cons_mk (Below.trod laidOut (by kernel_rfl) (of_decide_eq_true (by kernel_rfl)) k1 bel lt1) (trodAll_cons_mk (Below.trod laidOut (by kernel_rfl) (of_decide_eq_true (by kernel_rfl)) k2 bel lt2) trodAll_mk0))), rfl, bel.frame _, fun h => by cases h⟩

theorem over : Rows.windowOrderRow.holds Tryd.pinned (OpenSpec.ofChange Rows.windowOrderSpec) :=
  OpenClaim.holds_of_wide 5 Tryd.f5 rfl rfl rfl rfl rfl rfl rfl ⟨rfl, rfl, rfl, rfl, rfl⟩ rfl rfl rfl rfl rfl (by kernel_rfl) Tryd.func5 (by kernel_rfl)
    (of_decide_eq_true (by kernel_rfl)) (by unfold Func.isWrapper; first | (rw [if_pos (by decide +kernel)]; kernel_rfl) | (rw [if_neg (by decide +kernel)]; exact ⟨rfl, rfl⟩))
    (fun os started H enc _ => lifted os started H enc)
theorem row_tie : Rows.windowOrderRow.laidByTextAt .later Tryd.pinned [.data] true := windowOrder_row_tie
/-- The given statement: the card. -/
theorem proved : Rows.WindowOrderCardSaid :=
  Claim7.holds_tied_plain_at .later [] [.data] true Rows.windowOrderCard.stood.harness true
    over (fun _ h => by cases h) (by kernel_rfl) (fun _ h => by cases h) row_tie rfl ⟨rfl, rfl⟩ (by kernel_rfl) rfl
    (fun f fn hf hfn => by
      obtain rfl : f = 5 := Option.some.inj ((show Tryd.prog.funcNamed Rows.windowOrderRow.func = some 5 by kernel_rfl).symm.trans hf) |>.symm
      obtain rfl : fn = Tryd.f5 := (Option.some.inj (Tryd.func5.symm.trans hfn)).symm
      exact ⟨by kernel_rfl, fun j t ht => by
        rw [Tryd.params5] at ht
        have hm : t ∈ [3, 22, 23] := by simpa using Array.mem_of_getElem? ht
        have hall : ([3, 22, 23].all fun u => !Tryd.prog.wantsStandIn u) = true := by kernel_rfl
        exact (show Tryd.prog.wantsStandIn t = false by simpa using List.all_eq_true.1 hall t hm)⟩)
    (by kernel_rfl)
end windowOrder

end Go.Proofs.YtjhakplaffgkpaaDoor
