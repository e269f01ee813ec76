/- twin.Open, where the device tells what stands there. -/
import Derived.Test.YtddnjlnhnnpgiaaTwinc
import Derived.Test.YtddnjlnhnnpgiaaFmostZ
import Derived.BigRegion
import Derived.Deep.DeepCutAuto
import Derived.Deep.CutBlock
namespace Go.Proofs.Ytddnjlnhnnpgiaa
set_option maxRecDepth 20000
open Go.RowKit

/-- What is opened, of the bytes that stand there. -/
def bestBy (size : Nat) (l : List UInt8) : Int × Nat × List UInt8 := bestOf (heldOf (l.take (64 * size))).1 (heldOf (l.take (64 * size))).2 (heldOf (l.drop (64 * size))).1 (heldOf (l.drop (64 * size))).2
def openTv (base : Int) (size : Nat) (l : List UInt8) : Tv := ⟨base, size, (bestBy size l).1, (bestBy size l).2.1, (bestBy size l).2.2, (mostOf l (2 * size) + 1) % 18446744073709551616⟩

set_option maxHeartbeats 4000000 in
theorem twopen_ok {w : World} (G : Addr) (base : Int) (size : Nat) (l : List UInt8) (h1 : 1 ≤ size) (h2 : size ≤ 1000) (hl : l.length = 128 * size)
    (HR : Calls Try.prog 24 #[.pointer (some G), .int .i64 base, .int .i64 ((2 * size : Nat) : Int)] w fun e w' => ∃ v, e = .returned (.tuple #[v, .int .i64 0]) ∧ w'.ownsRow w.heap.size 5 1 v (128 * size) (u8s l) ∧ Below w.heap.size w w') :
    Calls Try.prog 10 #[.pointer (some G), .int .i64 base, .int .i64 (size : Int)] w fun e w' => ∃ T, e = .returned (.tuple #[.pointer (some ⟨T, 0, none⟩), .int .i64 0]) ∧ w.heap.size ≤ T ∧ Tw w' T (some G) (openTv base size l) ∧ Below w.heap.size w w' := by
  have e2 : min (size : Int) (65536 : Int) = (size : Int) := by omega
  obtain ⟨m2, hm2⟩ : ∃ m, m = 2 * size := ⟨_, rfl⟩
  obtain ⟨m64, hm64⟩ : ∃ m, m = 64 * size := ⟨_, rfl⟩
  obtain ⟨n, hn⟩ : ∃ m, m = 128 * size := ⟨_, rfl⟩
  have e4 : (2 : Int) * (size : Int) = (m2 : Int) := by omega
  have e5 : (size : Int) * 64 = (m64 : Int) := by omega
  have e6 : m2 ≤ 2000 := by omega
  have e7 : m64 ≤ 64000 := by omega
  have e8 : n ≤ 128000 := by omega
  have e9 : m64 ≤ n := by omega
  have hM2 := Lib.hid hm2
  have hM64 := Lib.hid hm64
  have hN := Lib.hid hn
  rw [← hm2, ← hn] at HR
  rw [← hn] at hl
  have HRR := Lib.hid HR
  have HL := Lib.hid hl
  clear HR hl hm2 hm64 hn
  go_enter Try.func10, Try.ntmps10
  go_wp2_with (first
    | (go_at_call 24; refine HRR.out.mono ?_; rintro e w1 ⟨v, rfl, hown, hb1⟩
       obtain ⟨b, c, rfl, hbl, hrd⟩ : ∃ b c, v = .slice (some ⟨b, 0, none⟩) n c ∧ w.heap.size ≤ b ∧ Rd w1 w1.heap.size 1 (some ⟨b, 0, none⟩) n c (u8s l) := by
         rcases hown.2 with ⟨_, h0⟩ | ⟨g', cap, cur, rfl, hb, _⟩
         · have := hN.out; omega
         · exact ⟨g', cap, rfl, hb, ownsRow_rd hown⟩
       have HRD := Lib.hid hrd
       have HB1 := Lib.hid hb1
       have hcap := hrd.1
       have hcapm := hrd.2.1
       clear hown hrd hb1)
    | fail)
  have hln := HL.out
  have e10 : ¬ c = m64 := by have := hM64.out; have := hN.out; omega
  have H0 := Lib.hid (fun (W : World) (hW : Below w1.heap.size w1 W) => held_any 0 (some ⟨b, 0, none⟩) m64 c (l.take m64) W (by
    have h := ((HRD.out.below hW).more hW.size).cut (k := 0) (m := m64) (by omega)
    rw [← u8s_drop, ← u8s_take, Option.map_some, addOff] at h
    exact ⟨by omega, hcapm, h.2.2.1, h.2.2.2⟩) (by omega))
  have H1 := Lib.hid (fun (W : World) (hW : Below w1.heap.size w1 W) => held_any 1 (some ⟨b, m64, none⟩) (n - m64) (c - m64) (l.drop m64) W (by
    have h := ((HRD.out.below hW).more hW.size).cut (k := m64) (m := n - m64) (by omega)
    rw [← u8s_drop, ← u8s_take, Option.map_some, addOff, List.take_of_length_le (by rw [List.length_drop, hln]; exact Nat.le_refl _), Nat.zero_add] at h
    exact h) (by omega))
  have HM := Lib.hid (fun (W : World) (hW : Below w1.heap.size w1 W) => most_any (some ⟨b, 0, none⟩) n c l W ((HRD.out.below hW).more hW.size) (by omega))
  have hO : openTv base size l = ⟨base, size, (bestBy size l).1, (bestBy size l).2.1, (bestBy size l).2.2, (mostOf l (2 * size) + 1) % 18446744073709551616⟩ := rfl
  have hB : bestBy size l = bestOf (heldOf (l.take m64)).1 (heldOf (l.take m64)).2 (heldOf (l.drop m64)).1 (heldOf (l.drop m64)).2 := by unfold bestBy; rw [hM64.out]
  rw [hB] at hO
  rw [← hM2.out, show m2 = n / 64 by have := hM2.out; have := hN.out; omega] at hO
  generalize heldOf (l.take m64) = a0 at *
  generalize heldOf (l.drop m64) = a1 at *
  obtain ⟨n0, t0⟩ := a0
  obtain ⟨n1, t1⟩ := a1
  have H3 := Lib.hid (fun (W : World) (p : Nat) h => better_any n0 t0 n1 t1 p 2 W (by omega) (by decide) h)
  dsimp only at H0 H1 hO
  generalize bestOf n0 t0 n1 t1 = bb at *
  obtain ⟨x, y, z⟩ := bb
  dsimp only at H3 hO
  generalize mostOf l (n / 64) = mm at *
  have HOO := Lib.hid hO
  clear hO hB hln
  go_cut [11] (fun u wx => ∃ g, u = .pointer (some ⟨g, 0, none⟩) ∧ w1.heap.size ≤ g ∧ Hid (wx.heap[g]? = some (.cells #[.int .i64 x, .int .u64 (y : Int), .string (str z)] 62 (0, 0))) ∧ Hid (Below w1.heap.size w1 wx))
  case first =>
    refine wp_tree w1.heap.size (.two [0, 1, 2, 4, 5, 6] 3 10 (.two [] 7 10 (.two [] 8 10 (.two [] 9 10 (.one [] 10 (.one [] 11 (.fin []))) (.one [] 9 (.one [] 11 (.fin [])))) (.one [] 8 (.one [] 9 (.one [] 11 (.fin []))))) (.one [] 7 (.one [] 8 (.one [] 9 (.one [] 11 (.fin [])))))) (.one [] 3 (.one [] 7 (.one [] 8 (.one [] 9 (.one [] 11 (.fin []))))))) (by kernel_rfl) (by kernel_rfl) (fun d _ _ _ _ h => by cases d <;> exact h) fun wd hbd => ?_
    intro q hq
    simp only [pickI, Option.toList_some, List.cons_append, List.nil_append, List.getElem?_toArray, List.getElem?_cons_succ, List.getElem?_cons_zero]
    repeat (go_big_quiet_step (fail))
    refine wpQuiet_nil ?_
    clear hq q
    refine ⟨?_, ?_⟩
    · skip
      refine seg_op (by simp only [List.getElem?_toArray, List.getElem?_cons_succ, List.getElem?_cons_zero]; rfl) fun K hK => ?_
      go_simp
      refine (H0.out _ hbd).mono ?_
      rintro e v1 ⟨rfl, bv1⟩
      have zv1 := hbd.trans (bv1.mono hbd.size)
      refine hK.out _ _ ⟨zv1, ?_⟩
      clear hK K
      intro q hq
      refine wpQuiet_nil ?_
      clear hq q
      refine ⟨?_, ?_⟩
      · skip
        refine seg_op (by simp only [List.getElem?_toArray, List.getElem?_cons_succ, List.getElem?_cons_zero]; rfl) fun K hK => ?_
        go_simp
        refine (H1.out _ zv1).mono ?_
        rintro e v2 ⟨rfl, bv2⟩
        have zv2 := zv1.trans (bv2.mono zv1.size)
        refine hK.out _ _ ⟨zv2, ?_⟩
        clear hK K
        intro q hq
        refine wpQuiet_nil ?_
        clear hq q
        refine ⟨?_, ?_⟩
        · skip
          refine seg_op (by simp only [List.getElem?_toArray, List.getElem?_cons_succ, List.getElem?_cons_zero]; rfl) fun K hK => ?_
          go_simp
          obtain ⟨v3, hv3⟩ : ∃ v, v = v2.alloc (.cells #[.int .i64 0, .int .u64 (n0 : Int), .string (str t0), .int .i64 1, .int .u64 (n1 : Int), .string (str t1)] 62) := ⟨_, rfl⟩
          rw [← hv3]
          have bv3 : Below v2.heap.size v2 v3 := by rw [hv3]; exact (Below.refl _ _).alloc (Nat.le_refl _) _
          have dv3 : v3.heap[v2.heap.size]? = some (.cells #[.int .i64 0, .int .u64 (n0 : Int), .string (str t0), .int .i64 1, .int .u64 (n1 : Int), .string (str t1)] 62 (0, 0)) := by rw [hv3]; exact row_here _ _ rfl
          have zv3 := zv2.trans (bv3.mono zv2.size)
          refine hK.out _ _ ⟨zv3, ?_⟩
          clear hK K hv3
          intro q hq
          refine wpQuiet_nil ?_
          clear hq q
          refine ⟨?_, ?_⟩
          · skip
            refine seg_op (by simp only [List.getElem?_toArray, List.getElem?_cons_succ, List.getElem?_cons_zero]; rfl) fun K hK => ?_
            go_simp
            refine (H3.out _ _ dv3).mono ?_
            rintro e v4 ⟨rfl, bv4⟩
            have zv4 := zv3.trans (bv4.mono zv3.size)
            have dv4 := (bv4.block _ (Array.getElem?_eq_some_iff.1 dv3).1).trans dv3
            refine hK.out _ _ ⟨zv4, ?_⟩
            clear hK K
            intro q hq
            refine wpQuiet_nil ?_
            clear hq q
            refine seg_op (by simp only [List.getElem?_toArray, List.getElem?_cons_succ, List.getElem?_cons_zero]; rfl) fun K hK => ?_
            go_simp
            obtain ⟨v5, hv5⟩ : ∃ v, v = v4.alloc (.cells #[.int .i64 0, .int .u64 0, .string { data := #[] }] 62) := ⟨_, rfl⟩
            rw [← hv5]
            have bv5 : Below v4.heap.size v4 v5 := by rw [hv5]; exact (Below.refl _ _).alloc (Nat.le_refl _) _
            have rv5 : v5.heap[v4.heap.size]? = some (.cells #[.int .i64 0, .int .u64 0, .string { data := #[] }] 62 (0, 0)) := by rw [hv5]; exact row_here _ _ rfl
            have gv5 : w1.heap.size ≤ v4.heap.size := zv4.size
            have zv5 := zv4.trans (bv5.mono zv4.size)
            have dv5 := (bv5.block _ (Array.getElem?_eq_some_iff.1 dv4).1).trans dv4
            refine hK.out _ _ ⟨zv5, ?_⟩
            clear hK K hv5
            intro q hq
            refine wpQuiet_nil ?_
            clear hq q
            have e0 := cell_of_row v5 _ 0 _ _ _ rv5
            have f0 := frozen_of_row v5 _ 0 _ _ rv5
            have e1 := cell_of_row v5 _ 1 _ _ _ rv5
            have f1 := frozen_of_row v5 _ 1 _ _ rv5
            have e2 := cell_of_row v5 _ 2 _ _ _ rv5
            have f2 := frozen_of_row v5 _ 2 _ _ rv5
            simp at e0 e1 e2
            refine seg_op (by simp only [List.getElem?_toArray, List.getElem?_cons_succ, List.getElem?_cons_zero]; rfl) fun K hK => ?_
            go_simp
            have zz := ((zv5.setCell (p := ⟨v4.heap.size, 0, none⟩) gv5 (.int .i64 x)).setCell (p := ⟨v4.heap.size, 1, none⟩) gv5 (.int .u64 (y : Int))).setCell (p := ⟨v4.heap.size, 2, none⟩) gv5 (.string (str z))
            have rr := setCell_row (i := 2) (v := .string (str z)) (setCell_row (i := 1) (v := .int .u64 (y : Int)) (setCell_row (i := 0) (v := .int .i64 x) rv5))
            simp at rr
            refine hK.out _ _ ⟨zz, ?_⟩
            clear hK K
            intro q hq
            refine wpQuiet_nil ?_
            clear hq q
            have ZZ := Lib.hid zz
            have RR := Lib.hid rr
            clear zz rr
            go_wp2_with (fail)
            go_meet
            case rel => exact ⟨v4.heap.size, rfl, gv5, RR, ZZ⟩
          · skip
            refine seg_op (by simp only [List.getElem?_toArray, List.getElem?_cons_succ, List.getElem?_cons_zero]; rfl) fun K hK => ?_
            go_simp
            obtain ⟨v6, hv6⟩ : ∃ v, v = v3.alloc (.cells #[.int .i64 0, .int .u64 0, .string { data := #[] }] 62) := ⟨_, rfl⟩
            rw [← hv6]
            have bv6 : Below v3.heap.size v3 v6 := by rw [hv6]; exact (Below.refl _ _).alloc (Nat.le_refl _) _
            have rv6 : v6.heap[v3.heap.size]? = some (.cells #[.int .i64 0, .int .u64 0, .string { data := #[] }] 62 (0, 0)) := by rw [hv6]; exact row_here _ _ rfl
            have gv6 : w1.heap.size ≤ v3.heap.size := zv3.size
            have zv6 := zv3.trans (bv6.mono zv3.size)
            have dv6 := (bv6.block _ (Array.getElem?_eq_some_iff.1 dv3).1).trans dv3
            refine hK.out _ _ ⟨zv6, ?_⟩
            clear hK K hv6
            intro q hq
            refine wpQuiet_nil ?_
            clear hq q
            refine seg_op (by simp only [List.getElem?_toArray, List.getElem?_cons_succ, List.getElem?_cons_zero]; rfl) fun K hK => ?_
            go_simp
            refine (H3.out _ _ dv6).mono ?_
            rintro e v7 ⟨rfl, bv7⟩
            have zv7 := zv6.trans (bv7.mono zv6.size)
            have dv7 := (bv7.block _ (Array.getElem?_eq_some_iff.1 dv6).1).trans dv6
            have rv7 := (bv7.block _ (Array.getElem?_eq_some_iff.1 rv6).1).trans rv6
            refine hK.out _ _ ⟨zv7, ?_⟩
            clear hK K
            intro q hq
            refine wpQuiet_nil ?_
            clear hq q
            have e0 := cell_of_row v7 _ 0 _ _ _ rv7
            have f0 := frozen_of_row v7 _ 0 _ _ rv7
            have e1 := cell_of_row v7 _ 1 _ _ _ rv7
            have f1 := frozen_of_row v7 _ 1 _ _ rv7
            have e2 := cell_of_row v7 _ 2 _ _ _ rv7
            have f2 := frozen_of_row v7 _ 2 _ _ rv7
            simp at e0 e1 e2
            refine seg_op (by simp only [List.getElem?_toArray, List.getElem?_cons_succ, List.getElem?_cons_zero]; rfl) fun K hK => ?_
            go_simp
            have zz := ((zv7.setCell (p := ⟨v3.heap.size, 0, none⟩) gv6 (.int .i64 x)).setCell (p := ⟨v3.heap.size, 1, none⟩) gv6 (.int .u64 (y : Int))).setCell (p := ⟨v3.heap.size, 2, none⟩) gv6 (.string (str z))
            have rr := setCell_row (i := 2) (v := .string (str z)) (setCell_row (i := 1) (v := .int .u64 (y : Int)) (setCell_row (i := 0) (v := .int .i64 x) rv7))
            simp at rr
            refine hK.out _ _ ⟨zz, ?_⟩
            clear hK K
            intro q hq
            refine wpQuiet_nil ?_
            clear hq q
            have ZZ := Lib.hid zz
            have RR := Lib.hid rr
            clear zz rr
            go_wp2_with (fail)
            go_meet
            case rel => exact ⟨v3.heap.size, rfl, gv6, RR, ZZ⟩
        · skip
          refine seg_op (by simp only [List.getElem?_toArray, List.getElem?_cons_succ, List.getElem?_cons_zero]; rfl) fun K hK => ?_
          go_simp
          obtain ⟨v8, hv8⟩ : ∃ v, v = v2.alloc (.cells #[.int .i64 0, .int .u64 0, .string { data := #[] }] 62) := ⟨_, rfl⟩
          rw [← hv8]
          have bv8 : Below v2.heap.size v2 v8 := by rw [hv8]; exact (Below.refl _ _).alloc (Nat.le_refl _) _
          have rv8 : v8.heap[v2.heap.size]? = some (.cells #[.int .i64 0, .int .u64 0, .string { data := #[] }] 62 (0, 0)) := by rw [hv8]; exact row_here _ _ rfl
          have gv8 : w1.heap.size ≤ v2.heap.size := zv2.size
          have zv8 := zv2.trans (bv8.mono zv2.size)
          refine hK.out _ _ ⟨zv8, ?_⟩
          clear hK K hv8
          intro q hq
          refine wpQuiet_nil ?_
          clear hq q
          refine seg_op (by simp only [List.getElem?_toArray, List.getElem?_cons_succ, List.getElem?_cons_zero]; rfl) fun K hK => ?_
          go_simp
          obtain ⟨v9, hv9⟩ : ∃ v, v = v8.alloc (.cells #[.int .i64 0, .int .u64 (n0 : Int), .string (str t0), .int .i64 1, .int .u64 (n1 : Int), .string (str t1)] 62) := ⟨_, rfl⟩
          rw [← hv9]
          have bv9 : Below v8.heap.size v8 v9 := by rw [hv9]; exact (Below.refl _ _).alloc (Nat.le_refl _) _
          have dv9 : v9.heap[v8.heap.size]? = some (.cells #[.int .i64 0, .int .u64 (n0 : Int), .string (str t0), .int .i64 1, .int .u64 (n1 : Int), .string (str t1)] 62 (0, 0)) := by rw [hv9]; exact row_here _ _ rfl
          have zv9 := zv8.trans (bv9.mono zv8.size)
          have rv9 := (bv9.block _ (Array.getElem?_eq_some_iff.1 rv8).1).trans rv8
          refine hK.out _ _ ⟨zv9, ?_⟩
          clear hK K hv9
          intro q hq
          refine wpQuiet_nil ?_
          clear hq q
          refine seg_op (by simp only [List.getElem?_toArray, List.getElem?_cons_succ, List.getElem?_cons_zero]; rfl) fun K hK => ?_
          go_simp
          refine (H3.out _ _ dv9).mono ?_
          rintro e v10 ⟨rfl, bv10⟩
          have zv10 := zv9.trans (bv10.mono zv9.size)
          have dv10 := (bv10.block _ (Array.getElem?_eq_some_iff.1 dv9).1).trans dv9
          have rv10 := (bv10.block _ (Array.getElem?_eq_some_iff.1 rv9).1).trans rv9
          refine hK.out _ _ ⟨zv10, ?_⟩
          clear hK K
          intro q hq
          refine wpQuiet_nil ?_
          clear hq q
          have e0 := cell_of_row v10 _ 0 _ _ _ rv10
          have f0 := frozen_of_row v10 _ 0 _ _ rv10
          have e1 := cell_of_row v10 _ 1 _ _ _ rv10
          have f1 := frozen_of_row v10 _ 1 _ _ rv10
          have e2 := cell_of_row v10 _ 2 _ _ _ rv10
          have f2 := frozen_of_row v10 _ 2 _ _ rv10
          simp at e0 e1 e2
          refine seg_op (by simp only [List.getElem?_toArray, List.getElem?_cons_succ, List.getElem?_cons_zero]; rfl) fun K hK => ?_
          go_simp
          have zz := ((zv10.setCell (p := ⟨v2.heap.size, 0, none⟩) gv8 (.int .i64 x)).setCell (p := ⟨v2.heap.size, 1, none⟩) gv8 (.int .u64 (y : Int))).setCell (p := ⟨v2.heap.size, 2, none⟩) gv8 (.string (str z))
          have rr := setCell_row (i := 2) (v := .string (str z)) (setCell_row (i := 1) (v := .int .u64 (y : Int)) (setCell_row (i := 0) (v := .int .i64 x) rv10))
          simp at rr
          refine hK.out _ _ ⟨zz, ?_⟩
          clear hK K
          intro q hq
          refine wpQuiet_nil ?_
          clear hq q
          have ZZ := Lib.hid zz
          have RR := Lib.hid rr
          clear zz rr
          go_wp2_with (fail)
          go_meet
          case rel => exact ⟨v2.heap.size, rfl, gv8, RR, ZZ⟩
      · skip
        refine seg_op (by simp only [List.getElem?_toArray, List.getElem?_cons_succ, List.getElem?_cons_zero]; rfl) fun K hK => ?_
        go_simp
        obtain ⟨v11, hv11⟩ : ∃ v, v = v1.alloc (.cells #[.int .i64 0, .int .u64 0, .string { data := #[] }] 62) := ⟨_, rfl⟩
        rw [← hv11]
        have bv11 : Below v1.heap.size v1 v11 := by rw [hv11]; exact (Below.refl _ _).alloc (Nat.le_refl _) _
        have rv11 : v11.heap[v1.heap.size]? = some (.cells #[.int .i64 0, .int .u64 0, .string { data := #[] }] 62 (0, 0)) := by rw [hv11]; exact row_here _ _ rfl
        have gv11 : w1.heap.size ≤ v1.heap.size := zv1.size
        have zv11 := zv1.trans (bv11.mono zv1.size)
        refine hK.out _ _ ⟨zv11, ?_⟩
        clear hK K hv11
        intro q hq
        refine wpQuiet_nil ?_
        clear hq q
        refine seg_op (by simp only [List.getElem?_toArray, List.getElem?_cons_succ, List.getElem?_cons_zero]; rfl) fun K hK => ?_
        go_simp
        refine (H1.out _ zv11).mono ?_
        rintro e v12 ⟨rfl, bv12⟩
        have zv12 := zv11.trans (bv12.mono zv11.size)
        have rv12 := (bv12.block _ (Array.getElem?_eq_some_iff.1 rv11).1).trans rv11
        refine hK.out _ _ ⟨zv12, ?_⟩
        clear hK K
        intro q hq
        refine wpQuiet_nil ?_
        clear hq q
        refine seg_op (by simp only [List.getElem?_toArray, List.getElem?_cons_succ, List.getElem?_cons_zero]; rfl) fun K hK => ?_
        go_simp
        obtain ⟨v13, hv13⟩ : ∃ v, v = v12.alloc (.cells #[.int .i64 0, .int .u64 (n0 : Int), .string (str t0), .int .i64 1, .int .u64 (n1 : Int), .string (str t1)] 62) := ⟨_, rfl⟩
        rw [← hv13]
        have bv13 : Below v12.heap.size v12 v13 := by rw [hv13]; exact (Below.refl _ _).alloc (Nat.le_refl _) _
        have dv13 : v13.heap[v12.heap.size]? = some (.cells #[.int .i64 0, .int .u64 (n0 : Int), .string (str t0), .int .i64 1, .int .u64 (n1 : Int), .string (str t1)] 62 (0, 0)) := by rw [hv13]; exact row_here _ _ rfl
        have zv13 := zv12.trans (bv13.mono zv12.size)
        have rv13 := (bv13.block _ (Array.getElem?_eq_some_iff.1 rv12).1).trans rv12
        refine hK.out _ _ ⟨zv13, ?_⟩
        clear hK K hv13
        intro q hq
        refine wpQuiet_nil ?_
        clear hq q
        refine seg_op (by simp only [List.getElem?_toArray, List.getElem?_cons_succ, List.getElem?_cons_zero]; rfl) fun K hK => ?_
        go_simp
        refine (H3.out _ _ dv13).mono ?_
        rintro e v14 ⟨rfl, bv14⟩
        have zv14 := zv13.trans (bv14.mono zv13.size)
        have dv14 := (bv14.block _ (Array.getElem?_eq_some_iff.1 dv13).1).trans dv13
        have rv14 := (bv14.block _ (Array.getElem?_eq_some_iff.1 rv13).1).trans rv13
        refine hK.out _ _ ⟨zv14, ?_⟩
        clear hK K
        intro q hq
        refine wpQuiet_nil ?_
        clear hq q
        have e0 := cell_of_row v14 _ 0 _ _ _ rv14
        have f0 := frozen_of_row v14 _ 0 _ _ rv14
        have e1 := cell_of_row v14 _ 1 _ _ _ rv14
        have f1 := frozen_of_row v14 _ 1 _ _ rv14
        have e2 := cell_of_row v14 _ 2 _ _ _ rv14
        have f2 := frozen_of_row v14 _ 2 _ _ rv14
        simp at e0 e1 e2
        refine seg_op (by simp only [List.getElem?_toArray, List.getElem?_cons_succ, List.getElem?_cons_zero]; rfl) fun K hK => ?_
        go_simp
        have zz := ((zv14.setCell (p := ⟨v1.heap.size, 0, none⟩) gv11 (.int .i64 x)).setCell (p := ⟨v1.heap.size, 1, none⟩) gv11 (.int .u64 (y : Int))).setCell (p := ⟨v1.heap.size, 2, none⟩) gv11 (.string (str z))
        have rr := setCell_row (i := 2) (v := .string (str z)) (setCell_row (i := 1) (v := .int .u64 (y : Int)) (setCell_row (i := 0) (v := .int .i64 x) rv14))
        simp at rr
        refine hK.out _ _ ⟨zz, ?_⟩
        clear hK K
        intro q hq
        refine wpQuiet_nil ?_
        clear hq q
        have ZZ := Lib.hid zz
        have RR := Lib.hid rr
        clear zz rr
        go_wp2_with (fail)
        go_meet
        case rel => exact ⟨v1.heap.size, rfl, gv11, RR, ZZ⟩
    · skip
      refine seg_op (by simp only [List.getElem?_toArray, List.getElem?_cons_succ, List.getElem?_cons_zero]; rfl) fun K hK => ?_
      go_simp
      obtain ⟨v15, hv15⟩ : ∃ v, v = wd.alloc (.cells #[.int .i64 0, .int .u64 0, .string { data := #[] }] 62) := ⟨_, rfl⟩
      rw [← hv15]
      have bv15 : Below wd.heap.size wd v15 := by rw [hv15]; exact (Below.refl _ _).alloc (Nat.le_refl _) _
      have rv15 : v15.heap[wd.heap.size]? = some (.cells #[.int .i64 0, .int .u64 0, .string { data := #[] }] 62 (0, 0)) := by rw [hv15]; exact row_here _ _ rfl
      have gv15 : w1.heap.size ≤ wd.heap.size := hbd.size
      have zv15 := hbd.trans (bv15.mono hbd.size)
      refine hK.out _ _ ⟨zv15, ?_⟩
      clear hK K hv15
      intro q hq
      refine wpQuiet_nil ?_
      clear hq q
      refine seg_op (by simp only [List.getElem?_toArray, List.getElem?_cons_succ, List.getElem?_cons_zero]; rfl) fun K hK => ?_
      go_simp
      refine (H0.out _ zv15).mono ?_
      rintro e v16 ⟨rfl, bv16⟩
      have zv16 := zv15.trans (bv16.mono zv15.size)
      have rv16 := (bv16.block _ (Array.getElem?_eq_some_iff.1 rv15).1).trans rv15
      refine hK.out _ _ ⟨zv16, ?_⟩
      clear hK K
      intro q hq
      refine wpQuiet_nil ?_
      clear hq q
      refine seg_op (by simp only [List.getElem?_toArray, List.getElem?_cons_succ, List.getElem?_cons_zero]; rfl) fun K hK => ?_
      go_simp
      refine (H1.out _ zv16).mono ?_
      rintro e v17 ⟨rfl, bv17⟩
      have zv17 := zv16.trans (bv17.mono zv16.size)
      have rv17 := (bv17.block _ (Array.getElem?_eq_some_iff.1 rv16).1).trans rv16
      refine hK.out _ _ ⟨zv17, ?_⟩
      clear hK K
      intro q hq
      refine wpQuiet_nil ?_
      clear hq q
      refine seg_op (by simp only [List.getElem?_toArray, List.getElem?_cons_succ, List.getElem?_cons_zero]; rfl) fun K hK => ?_
      go_simp
      obtain ⟨v18, hv18⟩ : ∃ v, v = v17.alloc (.cells #[.int .i64 0, .int .u64 (n0 : Int), .string (str t0), .int .i64 1, .int .u64 (n1 : Int), .string (str t1)] 62) := ⟨_, rfl⟩
      rw [← hv18]
      have bv18 : Below v17.heap.size v17 v18 := by rw [hv18]; exact (Below.refl _ _).alloc (Nat.le_refl _) _
      have dv18 : v18.heap[v17.heap.size]? = some (.cells #[.int .i64 0, .int .u64 (n0 : Int), .string (str t0), .int .i64 1, .int .u64 (n1 : Int), .string (str t1)] 62 (0, 0)) := by rw [hv18]; exact row_here _ _ rfl
      have zv18 := zv17.trans (bv18.mono zv17.size)
      have rv18 := (bv18.block _ (Array.getElem?_eq_some_iff.1 rv17).1).trans rv17
      refine hK.out _ _ ⟨zv18, ?_⟩
      clear hK K hv18
      intro q hq
      refine wpQuiet_nil ?_
      clear hq q
      refine seg_op (by simp only [List.getElem?_toArray, List.getElem?_cons_succ, List.getElem?_cons_zero]; rfl) fun K hK => ?_
      go_simp
      refine (H3.out _ _ dv18).mono ?_
      rintro e v19 ⟨rfl, bv19⟩
      have zv19 := zv18.trans (bv19.mono zv18.size)
      have dv19 := (bv19.block _ (Array.getElem?_eq_some_iff.1 dv18).1).trans dv18
      have rv19 := (bv19.block _ (Array.getElem?_eq_some_iff.1 rv18).1).trans rv18
      refine hK.out _ _ ⟨zv19, ?_⟩
      clear hK K
      intro q hq
      refine wpQuiet_nil ?_
      clear hq q
      have e0 := cell_of_row v19 _ 0 _ _ _ rv19
      have f0 := frozen_of_row v19 _ 0 _ _ rv19
      have e1 := cell_of_row v19 _ 1 _ _ _ rv19
      have f1 := frozen_of_row v19 _ 1 _ _ rv19
      have e2 := cell_of_row v19 _ 2 _ _ _ rv19
      have f2 := frozen_of_row v19 _ 2 _ _ rv19
      simp at e0 e1 e2
      refine seg_op (by simp only [List.getElem?_toArray, List.getElem?_cons_succ, List.getElem?_cons_zero]; rfl) fun K hK => ?_
      go_simp
      have zz := ((zv19.setCell (p := ⟨wd.heap.size, 0, none⟩) gv15 (.int .i64 x)).setCell (p := ⟨wd.heap.size, 1, none⟩) gv15 (.int .u64 (y : Int))).setCell (p := ⟨wd.heap.size, 2, none⟩) gv15 (.string (str z))
      have rr := setCell_row (i := 2) (v := .string (str z)) (setCell_row (i := 1) (v := .int .u64 (y : Int)) (setCell_row (i := 0) (v := .int .i64 x) rv19))
      simp at rr
      refine hK.out _ _ ⟨zz, ?_⟩
      clear hK K
      intro q hq
      refine wpQuiet_nil ?_
      clear hq q
      have ZZ := Lib.hid zz
      have RR := Lib.hid rr
      clear zz rr
      go_wp2_with (fail)
      go_meet
      case rel => exact ⟨wd.heap.size, rfl, gv15, RR, ZZ⟩
  case rest =>
    obtain ⟨g, rfl, hg, RG, ZB⟩ := hcut
    generalize wc = Y at *
    have hgY : g < Y.heap.size := (Array.getElem?_eq_some_iff.1 RG.out).1
    have c0 : Y.cell? ⟨g, 0, none⟩ = some (.int .i64 x) := cell_of_row Y g 0 _ _ _ RG.out
    have c1 : Y.cell? ⟨g, 1, none⟩ = some (.int .u64 (y : Int)) := cell_of_row Y g 1 _ _ _ RG.out
    have c2 : Y.cell? ⟨g, 2, none⟩ = some (.string (str z)) := cell_of_row Y g 2 _ _ _ RG.out
    go_wp2_with (fail)
    refine wp_low Y.heap.size [([0, 1, 2, 3, 4], 5), ([6, 7], 8)] [9, 10] (by kernel_rfl) (by kernel_rfl) (fun d _ _ _ _ h => by cases d <;> exact h) (Nat.le_refl _) fun wd hbd => ?_
    intro f hf
    have d0 := fun z => kept (hf z) c0 hgY
    have d1 := fun z => kept (hf z) c1 hgY
    have d2 := fun z => kept (hf z) c2 hgY
    simp only [pickI, Option.toList_some, List.cons_append, List.nil_append, List.getElem?_toArray, List.getElem?_cons_succ, List.getElem?_cons_zero]
    repeat (go_big_quiet_step (fail))
    refine wpQuiet_nil ?_
    clear hf d0 d1 d2 f
    refine seg_op (by simp only [List.getElem?_toArray, List.getElem?_cons_succ, List.getElem?_cons_zero]; rfl) fun K hK => ?_
    go_simp
    refine (HM.out _ (ZB.out.trans (hbd.mono ZB.out.size))).mono ?_
    rintro e w5 ⟨rfl, hb5⟩
    have hb5' := hbd.trans (hb5.mono hbd.size)
    refine hK.out _ _ (seg_keep hb5' ?_)
    clear hK K
    intro f hf
    simp only [pickI, Option.toList_some, List.cons_append, List.nil_append, List.getElem?_toArray, List.getElem?_cons_succ, List.getElem?_cons_zero]
    repeat (go_big_quiet_step (fail))
    refine wpQuiet_nil ?_
    clear hf f
    refine seg_op (by simp only [List.getElem?_toArray, List.getElem?_cons_succ, List.getElem?_cons_zero]; rfl) fun K hK => ?_
    go_simp
    have hw : IntKind.u64.wrap ((mm : Int) + 1) = (((mm + 1) % 18446744073709551616 : Nat) : Int) := by simp [IntKind.wrap, IntKind.signed, IntKind.bits]
    simp only [hw]
    generalize hnx : (mm + 1) % 18446744073709551616 = nx at *
    obtain ⟨V, hV⟩ : ∃ V, V = w5.alloc (.cells #[.pointer (some G), .int .i64 base, .int .i64 (size : Int), .int .i64 x, .int .u64 (y : Int), .string (str z), .int .u64 (nx : Int)] 64) := ⟨_, rfl⟩
    rw [← hV]
    have hbV : Below w5.heap.size w5 V := by rw [hV]; exact (Below.refl _ _).alloc (Nat.le_refl _) _
    have rV : V.heap[w5.heap.size]? = some (.cells #[.pointer (some G), .int .i64 base, .int .i64 (size : Int), .int .i64 x, .int .u64 (y : Int), .string (str z), .int .u64 (nx : Int)] 64 (0, 0)) := by rw [hV]; exact row_here _ _ rfl
    have hbY := hb5'.trans (hbV.mono hb5'.size)
    have hTw : Tw V w5.heap.size (some G) (openTv base size l) := by rw [HOO.out]; exact rV
    have hbw := HB1.out.trans ((ZB.out.trans (hbY.mono ZB.out.size)).mono HB1.out.size)
    have hsz : w.heap.size ≤ w5.heap.size := by have := HB1.out.size; have := ZB.out.size; have := hb5'.size; omega
    refine hK.out _ _ (seg_keep hbY ?_)
    have HT := Lib.hid hTw
    have HW := Lib.hid hbw
    have HS := Lib.hid hsz
    clear hK K hV rV hbY hTw hbw hsz hbV hb5 hb5' HOO
    intro f hf
    simp only [pickI, Option.toList_some, List.cons_append, List.nil_append, List.getElem?_toArray, List.getElem?_cons_succ, List.getElem?_cons_zero]
    repeat (go_big_quiet_step (fail))
    refine wpQuiet_nil ?_
    clear hf f
    go_wp2_with (fail)
    go_ret2
    exact ⟨_, rfl, HS.out, HT.out, HW.out⟩

end Go.Proofs.Ytddnjlnhnnpgiaa
