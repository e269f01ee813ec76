/- twin.Open, where the device tells what stands there. A call, both ways: the parts. A call, both ways: Do. A call, both ways: Do, the other kinds. A call, both ways: Do of a read. A call, both ways, whatever it is. A sector that nobody writes stays. Two writes of a sector, of which beginnings are kept. A device of one's own: whose blocks lie within N; what each call leaves of it. -/
import Derived.Test.YtpalmobmabkadaaGreatDoorTwincM
import Derived.Test.YtpalmobmabkadaaGreatDoorFmostZM
import Derived.BigRegion
import Derived.Deep.DeepCutAuto
import Derived.Deep.CutBlock
namespace Go.Proofs.YtpalmobmabkadaaGreatDoor
set_option maxRecDepth 20000
open Go.RowKit

/-- What is opened, of the bytes that stand there. -/
def bestBy (size : Nat) (l : List UInt8) : Int × Nat × List UInt8 := bestOf (heldOf (l.take (64 * size))).1 (heldOf (l.take (64 * size))).2 (heldOf (l.drop (64 * size))).1 (heldOf (l.drop (64 * size))).2
def openTv (base : Int) (size : Nat) (l : List UInt8) : Tv := ⟨base, size, (bestBy size l).1, (bestBy size l).2.1, (bestBy size l).2.2, (mostOf l (2 * size) + 1) % 18446744073709551616⟩

set_option maxHeartbeats 4000000 in
theorem twopen_ok {w : World} (G : Addr) (base : Int) (size : Nat) (l : List UInt8) (h1 : 1 ≤ size) (h2 : size ≤ 1000) (hl : l.length = 128 * size)
    (HR : Calls Tryz.prog 68 #[.pointer (some G), .int .i64 base, .int .i64 ((2 * size : Nat) : Int)] w fun e w' => ∃ v, e = .returned (.tuple #[v, .int .i64 0]) ∧ w'.ownsRow w.heap.size 5 1 v (128 * size) (u8s l) ∧ Below w.heap.size w w') :
    Calls Tryz.prog 33 #[.pointer (some G), .int .i64 base, .int .i64 (size : Int)] w fun e w' => ∃ T, e = .returned (.tuple #[.pointer (some ⟨T, 0, none⟩), .int .i64 0]) ∧ w.heap.size ≤ T ∧ Tw w' T (some G) (openTv base size l) ∧ Below w.heap.size w w' := by
  have e2 : min (size : Int) (65536 : Int) = (size : Int) := by omega
  obtain ⟨m2, hm2⟩ : ∃ m, m = 2 * size := ⟨_, rfl⟩
  obtain ⟨m64, hm64⟩ : ∃ m, m = 64 * size := ⟨_, rfl⟩
  obtain ⟨n, hn⟩ : ∃ m, m = 128 * size := ⟨_, rfl⟩
  have e4 : (2 : Int) * (size : Int) = (m2 : Int) := by omega
  have e5 : (size : Int) * 64 = (m64 : Int) := by omega
  have e6 : m2 ≤ 2000 := by omega
  have e7 : m64 ≤ 64000 := by omega
  have e8 : n ≤ 128000 := by omega
  have e9 : m64 ≤ n := by omega
  have hM2 := Lib.hid hm2
  have hM64 := Lib.hid hm64
  have hN := Lib.hid hn
  rw [← hm2, ← hn] at HR
  rw [← hn] at hl
  have HRR := Lib.hid HR
  have HL := Lib.hid hl
  clear HR hl hm2 hm64 hn
  go_enter Tryz.func33, Tryz.ntmps33
  go_wp2_with (first
    | (go_at_call 68; refine HRR.out.mono ?_; rintro e w1 ⟨v, rfl, hown, hb1⟩
       obtain ⟨b, c, rfl, hbl, hrd⟩ : ∃ b c, v = .slice (some ⟨b, 0, none⟩) n c ∧ w.heap.size ≤ b ∧ Rd w1 w1.heap.size 1 (some ⟨b, 0, none⟩) n c (u8s l) := by
         rcases hown.2 with ⟨_, h0⟩ | ⟨g', cap, cur, rfl, hb, _⟩
         · have := hN.out; omega
         · exact ⟨g', cap, rfl, hb, ownsRow_rd hown⟩
       have HRD := Lib.hid hrd
       have HB1 := Lib.hid hb1
       have hcap := hrd.1
       have hcapm := hrd.2.1
       clear hown hrd hb1)
    | fail)
  have hln := HL.out
  have e10 : ¬ c = m64 := by have := hM64.out; have := hN.out; omega
  have H0 := Lib.hid (fun (W : World) (hW : Below w1.heap.size w1 W) => held_any 0 (some ⟨b, 0, none⟩) m64 c (l.take m64) W (by
    have h := ((HRD.out.below hW).more hW.size).cut (k := 0) (m := m64) (by omega)
    rw [← u8s_drop, ← u8s_take, Option.map_some, addOff] at h
    exact ⟨by omega, hcapm, h.2.2.1, h.2.2.2⟩) (by omega))
  have H1 := Lib.hid (fun (W : World) (hW : Below w1.heap.size w1 W) => held_any 1 (some ⟨b, m64, none⟩) (n - m64) (c - m64) (l.drop m64) W (by
    have h := ((HRD.out.below hW).more hW.size).cut (k := m64) (m := n - m64) (by omega)
    rw [← u8s_drop, ← u8s_take, Option.map_some, addOff, List.take_of_length_le (by rw [List.length_drop, hln]; exact Nat.le_refl _), Nat.zero_add] at h
    exact h) (by omega))
  have HM := Lib.hid (fun (W : World) (hW : Below w1.heap.size w1 W) => most_any (some ⟨b, 0, none⟩) n c l W ((HRD.out.below hW).more hW.size) (by omega))
  have hO : openTv base size l = ⟨base, size, (bestBy size l).1, (bestBy size l).2.1, (bestBy size l).2.2, (mostOf l (2 * size) + 1) % 18446744073709551616⟩ := rfl
  have hB : bestBy size l = bestOf (heldOf (l.take m64)).1 (heldOf (l.take m64)).2 (heldOf (l.drop m64)).1 (heldOf (l.drop m64)).2 := by unfold bestBy; rw [hM64.out]
  rw [hB] at hO
  rw [← hM2.out, show m2 = n / 64 by have := hM2.out; have := hN.out; omega] at hO
  generalize heldOf (l.take m64) = a0 at *
  generalize heldOf (l.drop m64) = a1 at *
  obtain ⟨n0, t0⟩ := a0
  obtain ⟨n1, t1⟩ := a1
  have H3 := Lib.hid (fun (W : World) (p : Nat) h => better_any n0 t0 n1 t1 p 2 W (by omega) (by decide) h)
  dsimp only at H0 H1 hO
  generalize bestOf n0 t0 n1 t1 = bb at *
  obtain ⟨x, y, z⟩ := bb
  dsimp only at H3 hO
  generalize mostOf l (n / 64) = mm at *
  have HOO := Lib.hid hO
  clear hO hB hln
  go_cut [11] (fun u wx => ∃ g, u = .pointer (some ⟨g, 0, none⟩) ∧ w1.heap.size ≤ g ∧ Hid (wx.heap[g]? = some (.cells #[.int .i64 x, .int .u64 (y : Int), .string (str z)] 126 (0, 0))) ∧ Hid (Below w1.heap.size w1 wx))
  case first =>
    refine wp_tree w1.heap.size (.two [0, 1, 2, 4, 5, 6] 3 10 (.two [] 7 10 (.two [] 8 10 (.two [] 9 10 (.one [] 10 (.one [] 11 (.fin []))) (.one [] 9 (.one [] 11 (.fin [])))) (.one [] 8 (.one [] 9 (.one [] 11 (.fin []))))) (.one [] 7 (.one [] 8 (.one [] 9 (.one [] 11 (.fin [])))))) (.one [] 3 (.one [] 7 (.one [] 8 (.one [] 9 (.one [] 11 (.fin []))))))) (by kernel_rfl) (by kernel_rfl) (fun d _ _ _ _ h => by cases d <;> exact h) fun wd hbd => ?_
    intro q hq
    simp only [pickI, Option.toList_some, List.cons_append, List.nil_append, List.getElem?_toArray, List.getElem?_cons_succ, List.getElem?_cons_zero]
    repeat (go_big_quiet_step (fail))
    refine wpQuiet_nil ?_
    clear hq q
    refine ⟨?_, ?_⟩
    · skip
      refine seg_op (by simp only [List.getElem?_toArray, List.getElem?_cons_succ, List.getElem?_cons_zero]; rfl) fun K hK => ?_
      go_simp
      refine (H0.out _ hbd).mono ?_
      rintro e v1 ⟨rfl, bv1⟩
      have zv1 := hbd.trans (bv1.mono hbd.size)
      refine hK.out _ _ ⟨zv1, ?_⟩
      clear hK K
      intro q hq
      refine wpQuiet_nil ?_
      clear hq q
      refine ⟨?_, ?_⟩
      · skip
        refine seg_op (by simp only [List.getElem?_toArray, List.getElem?_cons_succ, List.getElem?_cons_zero]; rfl) fun K hK => ?_
        go_simp
        refine (H1.out _ zv1).mono ?_
        rintro e v2 ⟨rfl, bv2⟩
        have zv2 := zv1.trans (bv2.mono zv1.size)
        refine hK.out _ _ ⟨zv2, ?_⟩
        clear hK K
        intro q hq
        refine wpQuiet_nil ?_
        clear hq q
        refine ⟨?_, ?_⟩
        · skip
          refine seg_op (by simp only [List.getElem?_toArray, List.getElem?_cons_succ, List.getElem?_cons_zero]; rfl) fun K hK => ?_
          go_simp
          obtain ⟨v3, hv3⟩ : ∃ v, v = v2.alloc (.cells #[.int .i64 0, .int .u64 (n0 : Int), .string (str t0), .int .i64 1, .int .u64 (n1 : Int), .string (str t1)] 126) := ⟨_, rfl⟩
          rw [← hv3]
          have bv3 : Below v2.heap.size v2 v3 := by rw [hv3]; exact (Below.refl _ _).alloc (Nat.le_refl _) _
          have dv3 : v3.heap[v2.heap.size]? = some (.cells #[.int .i64 0, .int .u64 (n0 : Int), .string (str t0), .int .i64 1, .int .u64 (n1 : Int), .string (str t1)] 126 (0, 0)) := by rw [hv3]; exact row_here _ _ rfl
          have zv3 := zv2.trans (bv3.mono zv2.size)
          refine hK.out _ _ ⟨zv3, ?_⟩
          clear hK K hv3
          intro q hq
          refine wpQuiet_nil ?_
          clear hq q
          refine ⟨?_, ?_⟩
          · skip
            refine seg_op (by simp only [List.getElem?_toArray, List.getElem?_cons_succ, List.getElem?_cons_zero]; rfl) fun K hK => ?_
            go_simp
            refine (H3.out _ _ dv3).mono ?_
            rintro e v4 ⟨rfl, bv4⟩
            have zv4 := zv3.trans (bv4.mono zv3.size)
            have dv4 := (bv4.block _ (Array.getElem?_eq_some_iff.1 dv3).1).trans dv3
            refine hK.out _ _ ⟨zv4, ?_⟩
            clear hK K
            intro q hq
            refine wpQuiet_nil ?_
            clear hq q
            refine seg_op (by simp only [List.getElem?_toArray, List.getElem?_cons_succ, List.getElem?_cons_zero]; rfl) fun K hK => ?_
            go_simp
            obtain ⟨v5, hv5⟩ : ∃ v, v = v4.alloc (.cells #[.int .i64 0, .int .u64 0, .string { data := #[] }] 126) := ⟨_, rfl⟩
            rw [← hv5]
            have bv5 : Below v4.heap.size v4 v5 := by rw [hv5]; exact (Below.refl _ _).alloc (Nat.le_refl _) _
            have rv5 : v5.heap[v4.heap.size]? = some (.cells #[.int .i64 0, .int .u64 0, .string { data := #[] }] 126 (0, 0)) := by rw [hv5]; exact row_here _ _ rfl
            have gv5 : w1.heap.size ≤ v4.heap.size := zv4.size
            have zv5 := zv4.trans (bv5.mono zv4.size)
            have dv5 := (bv5.block _ (Array.getElem?_eq_some_iff.1 dv4).1).trans dv4
            refine hK.out _ _ ⟨zv5, ?_⟩
            clear hK K hv5
            intro q hq
            refine wpQuiet_nil ?_
            clear hq q
            have e0 := cell_of_row v5 _ 0 _ _ _ rv5
            have f0 := frozen_of_row v5 _ 0 _ _ rv5
            have e1 := cell_of_row v5 _ 1 _ _ _ rv5
            have f1 := frozen_of_row v5 _ 1 _ _ rv5
            have e2 := cell_of_row v5 _ 2 _ _ _ rv5
            have f2 := frozen_of_row v5 _ 2 _ _ rv5
            simp at e0 e1 e2
            refine seg_op (by simp only [List.getElem?_toArray, List.getElem?_cons_succ, List.getElem?_cons_zero]; rfl) fun K hK => ?_
            go_simp
            have zz := ((zv5.setCell (p := ⟨v4.heap.size, 0, none⟩) gv5 (.int .i64 x)).setCell (p := ⟨v4.heap.size, 1, none⟩) gv5 (.int .u64 (y : Int))).setCell (p := ⟨v4.heap.size, 2, none⟩) gv5 (.string (str z))
            have rr := setCell_row (i := 2) (v := .string (str z)) (setCell_row (i := 1) (v := .int .u64 (y : Int)) (setCell_row (i := 0) (v := .int .i64 x) rv5))
            simp at rr
            refine hK.out _ _ ⟨zz, ?_⟩
            clear hK K
            intro q hq
            refine wpQuiet_nil ?_
            clear hq q
            have ZZ := Lib.hid zz
            have RR := Lib.hid rr
            clear zz rr
            go_wp2_with (fail)
            go_meet
            case rel => exact ⟨v4.heap.size, rfl, gv5, RR, ZZ⟩
          · skip
            refine seg_op (by simp only [List.getElem?_toArray, List.getElem?_cons_succ, List.getElem?_cons_zero]; rfl) fun K hK => ?_
            go_simp
            obtain ⟨v6, hv6⟩ : ∃ v, v = v3.alloc (.cells #[.int .i64 0, .int .u64 0, .string { data := #[] }] 126) := ⟨_, rfl⟩
            rw [← hv6]
            have bv6 : Below v3.heap.size v3 v6 := by rw [hv6]; exact (Below.refl _ _).alloc (Nat.le_refl _) _
            have rv6 : v6.heap[v3.heap.size]? = some (.cells #[.int .i64 0, .int .u64 0, .string { data := #[] }] 126 (0, 0)) := by rw [hv6]; exact row_here _ _ rfl
            have gv6 : w1.heap.size ≤ v3.heap.size := zv3.size
            have zv6 := zv3.trans (bv6.mono zv3.size)
            have dv6 := (bv6.block _ (Array.getElem?_eq_some_iff.1 dv3).1).trans dv3
            refine hK.out _ _ ⟨zv6, ?_⟩
            clear hK K hv6
            intro q hq
            refine wpQuiet_nil ?_
            clear hq q
            refine seg_op (by simp only [List.getElem?_toArray, List.getElem?_cons_succ, List.getElem?_cons_zero]; rfl) fun K hK => ?_
            go_simp
            refine (H3.out _ _ dv6).mono ?_
            rintro e v7 ⟨rfl, bv7⟩
            have zv7 := zv6.trans (bv7.mono zv6.size)
            have dv7 := (bv7.block _ (Array.getElem?_eq_some_iff.1 dv6).1).trans dv6
            have rv7 := (bv7.block _ (Array.getElem?_eq_some_iff.1 rv6).1).trans rv6
            refine hK.out _ _ ⟨zv7, ?_⟩
            clear hK K
            intro q hq
            refine wpQuiet_nil ?_
            clear hq q
            have e0 := cell_of_row v7 _ 0 _ _ _ rv7
            have f0 := frozen_of_row v7 _ 0 _ _ rv7
            have e1 := cell_of_row v7 _ 1 _ _ _ rv7
            have f1 := frozen_of_row v7 _ 1 _ _ rv7
            have e2 := cell_of_row v7 _ 2 _ _ _ rv7
            have f2 := frozen_of_row v7 _ 2 _ _ rv7
            simp at e0 e1 e2
            refine seg_op (by simp only [List.getElem?_toArray, List.getElem?_cons_succ, List.getElem?_cons_zero]; rfl) fun K hK => ?_
            go_simp
            have zz := ((zv7.setCell (p := ⟨v3.heap.size, 0, none⟩) gv6 (.int .i64 x)).setCell (p := ⟨v3.heap.size, 1, none⟩) gv6 (.int .u64 (y : Int))).setCell (p := ⟨v3.heap.size, 2, none⟩) gv6 (.string (str z))
            have rr := setCell_row (i := 2) (v := .string (str z)) (setCell_row (i := 1) (v := .int .u64 (y : Int)) (setCell_row (i := 0) (v := .int .i64 x) rv7))
            simp at rr
            refine hK.out _ _ ⟨zz, ?_⟩
            clear hK K
            intro q hq
            refine wpQuiet_nil ?_
            clear hq q
            have ZZ := Lib.hid zz
            have RR := Lib.hid rr
            clear zz rr
            go_wp2_with (fail)
            go_meet
            case rel => exact ⟨v3.heap.size, rfl, gv6, RR, ZZ⟩
        · skip
          refine seg_op (by simp only [List.getElem?_toArray, List.getElem?_cons_succ, List.getElem?_cons_zero]; rfl) fun K hK => ?_
          go_simp
          obtain ⟨v8, hv8⟩ : ∃ v, v = v2.alloc (.cells #[.int .i64 0, .int .u64 0, .string { data := #[] }] 126) := ⟨_, rfl⟩
          rw [← hv8]
          have bv8 : Below v2.heap.size v2 v8 := by rw [hv8]; exact (Below.refl _ _).alloc (Nat.le_refl _) _
          have rv8 : v8.heap[v2.heap.size]? = some (.cells #[.int .i64 0, .int .u64 0, .string { data := #[] }] 126 (0, 0)) := by rw [hv8]; exact row_here _ _ rfl
          have gv8 : w1.heap.size ≤ v2.heap.size := zv2.size
          have zv8 := zv2.trans (bv8.mono zv2.size)
          refine hK.out _ _ ⟨zv8, ?_⟩
          clear hK K hv8
          intro q hq
          refine wpQuiet_nil ?_
          clear hq q
          refine seg_op (by simp only [List.getElem?_toArray, List.getElem?_cons_succ, List.getElem?_cons_zero]; rfl) fun K hK => ?_
          go_simp
          obtain ⟨v9, hv9⟩ : ∃ v, v = v8.alloc (.cells #[.int .i64 0, .int .u64 (n0 : Int), .string (str t0), .int .i64 1, .int .u64 (n1 : Int), .string (str t1)] 126) := ⟨_, rfl⟩
          rw [← hv9]
          have bv9 : Below v8.heap.size v8 v9 := by rw [hv9]; exact (Below.refl _ _).alloc (Nat.le_refl _) _
          have dv9 : v9.heap[v8.heap.size]? = some (.cells #[.int .i64 0, .int .u64 (n0 : Int), .string (str t0), .int .i64 1, .int .u64 (n1 : Int), .string (str t1)] 126 (0, 0)) := by rw [hv9]; exact row_here _ _ rfl
          have zv9 := zv8.trans (bv9.mono zv8.size)
          have rv9 := (bv9.block _ (Array.getElem?_eq_some_iff.1 rv8).1).trans rv8
          refine hK.out _ _ ⟨zv9, ?_⟩
          clear hK K hv9
          intro q hq
          refine wpQuiet_nil ?_
          clear hq q
          refine seg_op (by simp only [List.getElem?_toArray, List.getElem?_cons_succ, List.getElem?_cons_zero]; rfl) fun K hK => ?_
          go_simp
          refine (H3.out _ _ dv9).mono ?_
          rintro e v10 ⟨rfl, bv10⟩
          have zv10 := zv9.trans (bv10.mono zv9.size)
          have dv10 := (bv10.block _ (Array.getElem?_eq_some_iff.1 dv9).1).trans dv9
          have rv10 := (bv10.block _ (Array.getElem?_eq_some_iff.1 rv9).1).trans rv9
          refine hK.out _ _ ⟨zv10, ?_⟩
          clear hK K
          intro q hq
          refine wpQuiet_nil ?_
          clear hq q
          have e0 := cell_of_row v10 _ 0 _ _ _ rv10
          have f0 := frozen_of_row v10 _ 0 _ _ rv10
          have e1 := cell_of_row v10 _ 1 _ _ _ rv10
          have f1 := frozen_of_row v10 _ 1 _ _ rv10
          have e2 := cell_of_row v10 _ 2 _ _ _ rv10
          have f2 := frozen_of_row v10 _ 2 _ _ rv10
          simp at e0 e1 e2
          refine seg_op (by simp only [List.getElem?_toArray, List.getElem?_cons_succ, List.getElem?_cons_zero]; rfl) fun K hK => ?_
          go_simp
          have zz := ((zv10.setCell (p := ⟨v2.heap.size, 0, none⟩) gv8 (.int .i64 x)).setCell (p := ⟨v2.heap.size, 1, none⟩) gv8 (.int .u64 (y : Int))).setCell (p := ⟨v2.heap.size, 2, none⟩) gv8 (.string (str z))
          have rr := setCell_row (i := 2) (v := .string (str z)) (setCell_row (i := 1) (v := .int .u64 (y : Int)) (setCell_row (i := 0) (v := .int .i64 x) rv10))
          simp at rr
          refine hK.out _ _ ⟨zz, ?_⟩
          clear hK K
          intro q hq
          refine wpQuiet_nil ?_
          clear hq q
          have ZZ := Lib.hid zz
          have RR := Lib.hid rr
          clear zz rr
          go_wp2_with (fail)
          go_meet
          case rel => exact ⟨v2.heap.size, rfl, gv8, RR, ZZ⟩
      · skip
        refine seg_op (by simp only [List.getElem?_toArray, List.getElem?_cons_succ, List.getElem?_cons_zero]; rfl) fun K hK => ?_
        go_simp
        obtain ⟨v11, hv11⟩ : ∃ v, v = v1.alloc (.cells #[.int .i64 0, .int .u64 0, .string { data := #[] }] 126) := ⟨_, rfl⟩
        rw [← hv11]
        have bv11 : Below v1.heap.size v1 v11 := by rw [hv11]; exact (Below.refl _ _).alloc (Nat.le_refl _) _
        have rv11 : v11.heap[v1.heap.size]? = some (.cells #[.int .i64 0, .int .u64 0, .string { data := #[] }] 126 (0, 0)) := by rw [hv11]; exact row_here _ _ rfl
        have gv11 : w1.heap.size ≤ v1.heap.size := zv1.size
        have zv11 := zv1.trans (bv11.mono zv1.size)
        refine hK.out _ _ ⟨zv11, ?_⟩
        clear hK K hv11
        intro q hq
        refine wpQuiet_nil ?_
        clear hq q
        refine seg_op (by simp only [List.getElem?_toArray, List.getElem?_cons_succ, List.getElem?_cons_zero]; rfl) fun K hK => ?_
        go_simp
        refine (H1.out _ zv11).mono ?_
        rintro e v12 ⟨rfl, bv12⟩
        have zv12 := zv11.trans (bv12.mono zv11.size)
        have rv12 := (bv12.block _ (Array.getElem?_eq_some_iff.1 rv11).1).trans rv11
        refine hK.out _ _ ⟨zv12, ?_⟩
        clear hK K
        intro q hq
        refine wpQuiet_nil ?_
        clear hq q
        refine seg_op (by simp only [List.getElem?_toArray, List.getElem?_cons_succ, List.getElem?_cons_zero]; rfl) fun K hK => ?_
        go_simp
        obtain ⟨v13, hv13⟩ : ∃ v, v = v12.alloc (.cells #[.int .i64 0, .int .u64 (n0 : Int), .string (str t0), .int .i64 1, .int .u64 (n1 : Int), .string (str t1)] 126) := ⟨_, rfl⟩
        rw [← hv13]
        have bv13 : Below v12.heap.size v12 v13 := by rw [hv13]; exact (Below.refl _ _).alloc (Nat.le_refl _) _
        have dv13 : v13.heap[v12.heap.size]? = some (.cells #[.int .i64 0, .int .u64 (n0 : Int), .string (str t0), .int .i64 1, .int .u64 (n1 : Int), .string (str t1)] 126 (0, 0)) := by rw [hv13]; exact row_here _ _ rfl
        have zv13 := zv12.trans (bv13.mono zv12.size)
        have rv13 := (bv13.block _ (Array.getElem?_eq_some_iff.1 rv12).1).trans rv12
        refine hK.out _ _ ⟨zv13, ?_⟩
        clear hK K hv13
        intro q hq
        refine wpQuiet_nil ?_
        clear hq q
        refine seg_op (by simp only [List.getElem?_toArray, List.getElem?_cons_succ, List.getElem?_cons_zero]; rfl) fun K hK => ?_
        go_simp
        refine (H3.out _ _ dv13).mono ?_
        rintro e v14 ⟨rfl, bv14⟩
        have zv14 := zv13.trans (bv14.mono zv13.size)
        have dv14 := (bv14.block _ (Array.getElem?_eq_some_iff.1 dv13).1).trans dv13
        have rv14 := (bv14.block _ (Array.getElem?_eq_some_iff.1 rv13).1).trans rv13
        refine hK.out _ _ ⟨zv14, ?_⟩
        clear hK K
        intro q hq
        refine wpQuiet_nil ?_
        clear hq q
        have e0 := cell_of_row v14 _ 0 _ _ _ rv14
        have f0 := frozen_of_row v14 _ 0 _ _ rv14
        have e1 := cell_of_row v14 _ 1 _ _ _ rv14
        have f1 := frozen_of_row v14 _ 1 _ _ rv14
        have e2 := cell_of_row v14 _ 2 _ _ _ rv14
        have f2 := frozen_of_row v14 _ 2 _ _ rv14
        simp at e0 e1 e2
        refine seg_op (by simp only [List.getElem?_toArray, List.getElem?_cons_succ, List.getElem?_cons_zero]; rfl) fun K hK => ?_
        go_simp
        have zz := ((zv14.setCell (p := ⟨v1.heap.size, 0, none⟩) gv11 (.int .i64 x)).setCell (p := ⟨v1.heap.size, 1, none⟩) gv11 (.int .u64 (y : Int))).setCell (p := ⟨v1.heap.size, 2, none⟩) gv11 (.string (str z))
        have rr := setCell_row (i := 2) (v := .string (str z)) (setCell_row (i := 1) (v := .int .u64 (y : Int)) (setCell_row (i := 0) (v := .int .i64 x) rv14))
        simp at rr
        refine hK.out _ _ ⟨zz, ?_⟩
        clear hK K
        intro q hq
        refine wpQuiet_nil ?_
        clear hq q
        have ZZ := Lib.hid zz
        have RR := Lib.hid rr
        clear zz rr
        go_wp2_with (fail)
        go_meet
        case rel => exact ⟨v1.heap.size, rfl, gv11, RR, ZZ⟩
    · skip
      refine seg_op (by simp only [List.getElem?_toArray, List.getElem?_cons_succ, List.getElem?_cons_zero]; rfl) fun K hK => ?_
      go_simp
      obtain ⟨v15, hv15⟩ : ∃ v, v = wd.alloc (.cells #[.int .i64 0, .int .u64 0, .string { data := #[] }] 126) := ⟨_, rfl⟩
      rw [← hv15]
      have bv15 : Below wd.heap.size wd v15 := by rw [hv15]; exact (Below.refl _ _).alloc (Nat.le_refl _) _
      have rv15 : v15.heap[wd.heap.size]? = some (.cells #[.int .i64 0, .int .u64 0, .string { data := #[] }] 126 (0, 0)) := by rw [hv15]; exact row_here _ _ rfl
      have gv15 : w1.heap.size ≤ wd.heap.size := hbd.size
      have zv15 := hbd.trans (bv15.mono hbd.size)
      refine hK.out _ _ ⟨zv15, ?_⟩
      clear hK K hv15
      intro q hq
      refine wpQuiet_nil ?_
      clear hq q
      refine seg_op (by simp only [List.getElem?_toArray, List.getElem?_cons_succ, List.getElem?_cons_zero]; rfl) fun K hK => ?_
      go_simp
      refine (H0.out _ zv15).mono ?_
      rintro e v16 ⟨rfl, bv16⟩
      have zv16 := zv15.trans (bv16.mono zv15.size)
      have rv16 := (bv16.block _ (Array.getElem?_eq_some_iff.1 rv15).1).trans rv15
      refine hK.out _ _ ⟨zv16, ?_⟩
      clear hK K
      intro q hq
      refine wpQuiet_nil ?_
      clear hq q
      refine seg_op (by simp only [List.getElem?_toArray, List.getElem?_cons_succ, List.getElem?_cons_zero]; rfl) fun K hK => ?_
      go_simp
      refine (H1.out _ zv16).mono ?_
      rintro e v17 ⟨rfl, bv17⟩
      have zv17 := zv16.trans (bv17.mono zv16.size)
      have rv17 := (bv17.block _ (Array.getElem?_eq_some_iff.1 rv16).1).trans rv16
      refine hK.out _ _ ⟨zv17, ?_⟩
      clear hK K
      intro q hq
      refine wpQuiet_nil ?_
      clear hq q
      refine seg_op (by simp only [List.getElem?_toArray, List.getElem?_cons_succ, List.getElem?_cons_zero]; rfl) fun K hK => ?_
      go_simp
      obtain ⟨v18, hv18⟩ : ∃ v, v = v17.alloc (.cells #[.int .i64 0, .int .u64 (n0 : Int), .string (str t0), .int .i64 1, .int .u64 (n1 : Int), .string (str t1)] 126) := ⟨_, rfl⟩
      rw [← hv18]
      have bv18 : Below v17.heap.size v17 v18 := by rw [hv18]; exact (Below.refl _ _).alloc (Nat.le_refl _) _
      have dv18 : v18.heap[v17.heap.size]? = some (.cells #[.int .i64 0, .int .u64 (n0 : Int), .string (str t0), .int .i64 1, .int .u64 (n1 : Int), .string (str t1)] 126 (0, 0)) := by rw [hv18]; exact row_here _ _ rfl
      have zv18 := zv17.trans (bv18.mono zv17.size)
      have rv18 := (bv18.block _ (Array.getElem?_eq_some_iff.1 rv17).1).trans rv17
      refine hK.out _ _ ⟨zv18, ?_⟩
      clear hK K hv18
      intro q hq
      refine wpQuiet_nil ?_
      clear hq q
      refine seg_op (by simp only [List.getElem?_toArray, List.getElem?_cons_succ, List.getElem?_cons_zero]; rfl) fun K hK => ?_
      go_simp
      refine (H3.out _ _ dv18).mono ?_
      rintro e v19 ⟨rfl, bv19⟩
      have zv19 := zv18.trans (bv19.mono zv18.size)
      have dv19 := (bv19.block _ (Array.getElem?_eq_some_iff.1 dv18).1).trans dv18
      have rv19 := (bv19.block _ (Array.getElem?_eq_some_iff.1 rv18).1).trans rv18
      refine hK.out _ _ ⟨zv19, ?_⟩
      clear hK K
      intro q hq
      refine wpQuiet_nil ?_
      clear hq q
      have e0 := cell_of_row v19 _ 0 _ _ _ rv19
      have f0 := frozen_of_row v19 _ 0 _ _ rv19
      have e1 := cell_of_row v19 _ 1 _ _ _ rv19
      have f1 := frozen_of_row v19 _ 1 _ _ rv19
      have e2 := cell_of_row v19 _ 2 _ _ _ rv19
      have f2 := frozen_of_row v19 _ 2 _ _ rv19
      simp at e0 e1 e2
      refine seg_op (by simp only [List.getElem?_toArray, List.getElem?_cons_succ, List.getElem?_cons_zero]; rfl) fun K hK => ?_
      go_simp
      have zz := ((zv19.setCell (p := ⟨wd.heap.size, 0, none⟩) gv15 (.int .i64 x)).setCell (p := ⟨wd.heap.size, 1, none⟩) gv15 (.int .u64 (y : Int))).setCell (p := ⟨wd.heap.size, 2, none⟩) gv15 (.string (str z))
      have rr := setCell_row (i := 2) (v := .string (str z)) (setCell_row (i := 1) (v := .int .u64 (y : Int)) (setCell_row (i := 0) (v := .int .i64 x) rv19))
      simp at rr
      refine hK.out _ _ ⟨zz, ?_⟩
      clear hK K
      intro q hq
      refine wpQuiet_nil ?_
      clear hq q
      have ZZ := Lib.hid zz
      have RR := Lib.hid rr
      clear zz rr
      go_wp2_with (fail)
      go_meet
      case rel => exact ⟨wd.heap.size, rfl, gv15, RR, ZZ⟩
  case rest =>
    obtain ⟨g, rfl, hg, RG, ZB⟩ := hcut
    generalize wc = Y at *
    have hgY : g < Y.heap.size := (Array.getElem?_eq_some_iff.1 RG.out).1
    have c0 : Y.cell? ⟨g, 0, none⟩ = some (.int .i64 x) := cell_of_row Y g 0 _ _ _ RG.out
    have c1 : Y.cell? ⟨g, 1, none⟩ = some (.int .u64 (y : Int)) := cell_of_row Y g 1 _ _ _ RG.out
    have c2 : Y.cell? ⟨g, 2, none⟩ = some (.string (str z)) := cell_of_row Y g 2 _ _ _ RG.out
    go_wp2_with (fail)
    refine wp_low Y.heap.size [([0, 1, 2, 3, 4], 5), ([6, 7], 8)] [9, 10] (by kernel_rfl) (by kernel_rfl) (fun d _ _ _ _ h => by cases d <;> exact h) (Nat.le_refl _) fun wd hbd => ?_
    intro f hf
    have d0 := fun z => kept (hf z) c0 hgY
    have d1 := fun z => kept (hf z) c1 hgY
    have d2 := fun z => kept (hf z) c2 hgY
    simp only [pickI, Option.toList_some, List.cons_append, List.nil_append, List.getElem?_toArray, List.getElem?_cons_succ, List.getElem?_cons_zero]
    repeat (go_big_quiet_step (fail))
    refine wpQuiet_nil ?_
    clear hf d0 d1 d2 f
    refine seg_op (by simp only [List.getElem?_toArray, List.getElem?_cons_succ, List.getElem?_cons_zero]; rfl) fun K hK => ?_
    go_simp
    refine (HM.out _ (ZB.out.trans (hbd.mono ZB.out.size))).mono ?_
    rintro e w5 ⟨rfl, hb5⟩
    have hb5' := hbd.trans (hb5.mono hbd.size)
    refine hK.out _ _ (seg_keep hb5' ?_)
    clear hK K
    intro f hf
    simp only [pickI, Option.toList_some, List.cons_append, List.nil_append, List.getElem?_toArray, List.getElem?_cons_succ, List.getElem?_cons_zero]
    repeat (go_big_quiet_step (fail))
    refine wpQuiet_nil ?_
    clear hf f
    refine seg_op (by simp only [List.getElem?_toArray, List.getElem?_cons_succ, List.getElem?_cons_zero]; rfl) fun K hK => ?_
    go_simp
    have hw : IntKind.u64.wrap ((mm : Int) + 1) = (((mm + 1) % 18446744073709551616 : Nat) : Int) := by simp [IntKind.wrap, IntKind.signed, IntKind.bits]
    simp only [hw]
    generalize hnx : (mm + 1) % 18446744073709551616 = nx at *
    obtain ⟨V, hV⟩ : ∃ V, V = w5.alloc (.cells #[.pointer (some G), .int .i64 base, .int .i64 (size : Int), .int .i64 x, .int .u64 (y : Int), .string (str z), .int .u64 (nx : Int)] 131) := ⟨_, rfl⟩
    rw [← hV]
    have hbV : Below w5.heap.size w5 V := by rw [hV]; exact (Below.refl _ _).alloc (Nat.le_refl _) _
    have rV : V.heap[w5.heap.size]? = some (.cells #[.pointer (some G), .int .i64 base, .int .i64 (size : Int), .int .i64 x, .int .u64 (y : Int), .string (str z), .int .u64 (nx : Int)] 131 (0, 0)) := by rw [hV]; exact row_here _ _ rfl
    have hbY := hb5'.trans (hbV.mono hb5'.size)
    have hTw : Tw V w5.heap.size (some G) (openTv base size l) := by rw [HOO.out]; exact rV
    have hbw := HB1.out.trans ((ZB.out.trans (hbY.mono ZB.out.size)).mono HB1.out.size)
    have hsz : w.heap.size ≤ w5.heap.size := by have := HB1.out.size; have := ZB.out.size; have := hb5'.size; omega
    refine hK.out _ _ (seg_keep hbY ?_)
    have HT := Lib.hid hTw
    have HW := Lib.hid hbw
    have HS := Lib.hid hsz
    clear hK K hV rV hbY hTw hbw hsz hbV hb5 hb5' HOO
    intro f hf
    simp only [pickI, Option.toList_some, List.cons_append, List.nil_append, List.getElem?_toArray, List.getElem?_cons_succ, List.getElem?_cons_zero]
    repeat (go_big_quiet_step (fail))
    refine wpQuiet_nil ?_
    clear hf f
    go_wp2_with (fail)
    go_ret2
    exact ⟨_, rfl, HS.out, HT.out, HW.out⟩

end Go.Proofs.YtpalmobmabkadaaGreatDoor

namespace Go.Proofs.YtpalmobmabkadaaGreatDoor
set_option maxRecDepth 20000
open Go.RowKit

/-- What a write leaves of a device, whatever is asked. -/
def Dv.wrote (d : Dv) (x : Int) (l : List UInt8) : Dv := if d.down = true then d else if withinB d.n x (((l.length : Int) + 63) / 64) = true then (d.write x l ((l.length + 63) / 64)).1 else d
def Rv.wrote (r : Rv) (x : Int) (l : List UInt8) : Rv := if r.down = true then r else if withinB r.n x (((l.length : Int) + 63) / 64) = true then (r.write x l ((l.length + 63) / 64)).1 else r
/-- What a call leaves of a device. -/
def Dleft (w : World) (B g bs bl : Nat) (v : Value) (M : Nat) (d : Dv) (w' : World) : Prop := ∃ bs' bl' v' k', Dev w' B g bs' bl' v' k' d ∧ k' + d.ws.length ≤ M ∧ d.done ≤ M ∧ Keeps (Foot g bs bl v) w w' ∧ ∀ i, Foot g bs' bl' v' i → Foot g bs bl v i ∨ w.heap.size ≤ i

theorem Dv.write_rest (d : Dv) (x : Int) (l : List UInt8) (j : Nat) : (d.write x l j).1.done ≤ d.done + j ∧ (d.write x l j).1.ws.length ≤ d.ws.length + j := by
  induction j with
  | zero => exact ⟨Nat.le_refl _, Nat.le_refl _⟩
  | succ j ih =>
    obtain ⟨h1, h2⟩ := ih
    rw [Dv.write]
    split
    · exact ⟨by omega, by omega⟩
    · refine ⟨?_, ?_⟩
      · show (d.write x l j).1.done + 1 ≤ _
        omega
      · show ((d.write x l j).1.ws ++ [_]).length ≤ _
        rw [List.length_append, List.length_singleton]
        omega
theorem write_all {w : World} {B g bs bl k M : Nat} {v : Value} {d : Dv} (h : Dev w B g bs bl v k d) (hk : k + d.ws.length ≤ M) (hdo : d.done ≤ M) (hM : M ≤ 100000) (x : Int) (A : Option Addr) (n c : Nat) (l : List UInt8) (hl : Rd w w.heap.size 1 A n c (u8s l)) (hsep : 0 < n → ∀ b o, A = some ⟨b, o, none⟩ → ¬ Foot g bs bl v b) (hn : n ≤ 1000) :
    Calls Tryz.prog 92 #[.pointer (some ⟨g, 0, none⟩), .int .i64 x, .slice A n c] w fun e w' => (∃ E : Int, e = .returned (.int .i64 E)) ∧ Dleft w B g bs bl v (M + 16) (d.wrote x l) w' := by
  have hln : l.length = n := by have := hl.len; rwa [u8s_len] at this
  have hdn := h.ok.n
  unfold Dv.wrote
  rw [hln]
  cases hd : d.down with
  | true =>
    rw [if_pos rfl]
    refine (write_down g x A n c w (by rw [← hd]; exact h.c4)).mono ?_
    rintro e w' ⟨rfl, hb⟩
    exact ⟨⟨_, rfl⟩, bs, bl, v, k, h.below hb, by omega, by omega, Keeps.of_below hb, fun i hi => .inl hi⟩
  | false =>
    rw [if_neg (by simp)]
    cases hw : withinB d.n x (((n : Int) + 63) / 64) with
    | false =>
      rw [if_neg (by simp)]
      refine (write_out g d.n x A n c w h.c0 (by rw [← hd]; exact h.c4) hdn (by omega) hw).mono ?_
      rintro e w' ⟨rfl, hb⟩
      exact ⟨⟨_, rfl⟩, bs, bl, v, k, h.below hb, by omega, by omega, Keeps.of_below hb, fun i hi => .inl hi⟩
    | true =>
      rw [if_pos rfl]
      unfold withinB at hw
      simp only [decide_eq_true_eq] at hw
      refine (write_good h hd x A n c l hl hsep (by omega) (by omega) hw.1 (by omega) (by omega)).mono ?_
      rintro e w' ⟨rfl, v', hD, hK, hv⟩
      have hr := Dv.write_rest d x l ((n + 63) / 64)
      refine ⟨⟨_, rfl⟩, bs, bl, v', k, hD, by omega, by omega, hK, fun i hi => ?_⟩
      rcases hi with hi | hi | hi | hi
      · exact .inl (.inl hi)
      · exact .inl (.inr (.inl hi))
      · exact .inl (.inr (.inr (.inl hi)))
      · rcases hv i hi with h1 | h1
        · exact .inl (.inr (.inr (.inr h1)))
        · exact .inr h1

/-- What is read, whatever is asked. -/
def Got (w : World) (e : Ending) (w' : World) : Prop := ∃ (A : Option Addr) (n c : Nat) (l : List UInt8) (E : Int), e = .returned (.tuple #[.slice A n c, .int .i64 E]) ∧ Rd w' w'.heap.size 1 A n c (u8s l) ∧ Below w.heap.size w w'
theorem rd_owns {w : World} {base n : Nat} {e : TypeId} {v : Value} {xs : List Value} (h : w.ownsRow base e 1 v n xs) : ∃ A c, v = .slice A n c ∧ Rd w w.heap.size 1 A n c xs := by
  obtain ⟨hl, h2⟩ := h
  rcases h2 with ⟨rfl, rfl⟩ | ⟨g, cap, cur, rfl, hb, hg, hc, hm, hcs, htake⟩
  · refine ⟨none, 0, rfl, Nat.le_refl _, Nat.zero_le _, hl, fun h => absurd h (by omega)⟩
  · refine ⟨some ⟨g, 0, none⟩, cap, rfl, hc, hm, hl, fun _ => ⟨g, 0, rfl, (Array.getElem?_eq_some_iff.1 hg).1, fun j u hu => ?_⟩⟩
    have := World.ownsRow.cells (w := w) (base := base) (e := e) (size := 1) (v := .slice (some ⟨g, 0, none⟩) n cap) (n := n) ⟨hl, .inr ⟨g, cap, cur, rfl, hb, hg, hc, hm, hcs, htake⟩⟩ (g := g) rfl j u hu
    rwa [addOff] at this
theorem read_all {w : World} {B g bs bl k : Nat} {v : Value} {d : Dv} (h : Dev w B g bs bl v k d) (x m : Int) (hm : Key m) :
    Calls Tryz.prog 68 #[.pointer (some ⟨g, 0, none⟩), .int .i64 x, .int .i64 m] w (Got w) := by
  have hdn := h.ok.n
  cases hd : d.down with
  | true =>
    refine (read_down g x m w (by rw [← hd]; exact h.c4)).mono ?_
    rintro e w' ⟨rfl, rfl⟩
    exact ⟨none, 0, 0, [], _, rfl, Rd.nil_, Below.refl _ _⟩
  | false =>
    cases hw : withinB d.n x m with
    | false =>
      refine (read_out g d.n x m w h.c0 (by rw [← hd]; exact h.c4) hdn hm.2 hw).mono ?_
      rintro e w' ⟨rfl, rfl⟩
      exact ⟨none, 0, 0, [], _, rfl, Rd.nil_, Below.refl _ _⟩
    | true =>
      unfold withinB at hw
      simp only [decide_eq_true_eq] at hw
      obtain ⟨m', rfl⟩ : ∃ m' : Nat, m = (m' : Int) := ⟨m.toNat, by omega⟩
      refine (read_good h hd x m' hw.1 (by omega)).mono ?_
      rintro e w' ⟨v', rfl, hown, hb⟩
      obtain ⟨A, c, rfl, hr⟩ := rd_owns hown
      exact ⟨A, _, c, _, _, rfl, hr, hb⟩
theorem flush_all {w : World} {B g bs bl k M : Nat} {v : Value} {d : Dv} (h : Dev w B g bs bl v k d) (hk : k + d.ws.length ≤ M) (hdo : d.done ≤ M) (hM : M ≤ 100000) :
    Calls Tryz.prog 59 #[.pointer (some ⟨g, 0, none⟩)] w fun e w' => e = .returned (.int .i64 d.flush.2) ∧ Dleft w B g bs bl v (M + 16) d.flush.1 w' := by
  refine (flush_any h (by omega) (by omega)).mono ?_
  rintro e w' ⟨rfl, bl', v', k', hD, hk', hK, hv⟩
  refine ⟨rfl, bs, bl', v', k', hD, by omega, ?_, hK, hv⟩
  have : d.flush.1.done ≤ d.done + 1 := by
    unfold Dv.flush
    split
    · exact Nat.le_succ _
    · split <;> exact Nat.le_refl _
  omega
theorem crash_all {w : World} {B g bs bl k M : Nat} {v : Value} {d : Dv} (h : Dev w B g bs bl v k d) (hk : k + d.ws.length ≤ M) (hdo : d.done ≤ M) (hM : M ≤ 100000) (A : Option Addr) (n c : Nat) (ks : List Int) (hl : Rd w w.heap.size 1 A n c (ks.map (Value.int .i64))) (hn : n ≤ 1000000) (hsep : 0 < n → ∀ b o, A = some ⟨b, o, none⟩ → ¬ Foot g bs bl v b) :
    Calls Tryz.prog 16 #[.pointer (some ⟨g, 0, none⟩), .slice A n c] w fun e w' => e = .returned (.tuple #[]) ∧ Dleft w B g bs bl v (M + 16) (d.crash ks) w' := by
  refine (crash_any h (by omega) (by omega) A n c ks hl hn hsep).mono ?_
  rintro e w' ⟨rfl, bl', k', hD, hk', hK, hb⟩
  refine ⟨rfl, bs, bl', .slice none 0 0, k', hD, ?_, ?_, hK, fun i hi => ?_⟩
  · show k' + 0 ≤ _
    omega
  · show (d.crash1 ks d.ws.length).done ≤ _
    rw [(Dv.crash1_ws d ks d.ws.length).2.2]
    omega
  · rcases hi with hi | hi | hi | hi
    · exact .inl (.inl hi)
    · exact .inl (.inr (.inl hi))
    · exact .inr (by omega)
    · cases hi
end Go.Proofs.YtpalmobmabkadaaGreatDoor

namespace Go.Proofs.YtpalmobmabkadaaGreatDoor
set_option maxRecDepth 20000
open Go.RowKit

/-- What a call leaves of a device. -/
def Dv.op (d : Dv) (o : Opd) : Dv := if o.kind = 0 then d.wrote o.at_ o.b else if o.kind = 2 then d.flush.1 else if o.kind = 3 then d.fused o.n else if o.kind = 4 then d.crash o.keep else d
section
variable {w w1 w2 : World} {B g q bs bl k M : Nat} {v vs vl : Value} {d d' : Dv} {r r' : Rv}
theorem dl_same (h : Dev w B g bs bl v k d) (hk : k + d.ws.length ≤ M) (hd : d.done ≤ M) : Dleft w B g bs bl v M d w := ⟨bs, bl, v, k, h, hk, hd, Keeps.refl _ _, fun _ hi => .inl hi⟩
end

end Go.Proofs.YtpalmobmabkadaaGreatDoor

namespace Go.Proofs.YtpalmobmabkadaaGreatDoor
set_option maxRecDepth 20000
open Go.RowKit

end Go.Proofs.YtpalmobmabkadaaGreatDoor

namespace Go.Proofs.YtpalmobmabkadaaGreatDoor
set_option maxRecDepth 20000
open Go.RowKit

end Go.Proofs.YtpalmobmabkadaaGreatDoor

namespace Go.Proofs.YtpalmobmabkadaaGreatDoor
set_option maxRecDepth 20000
open Go.RowKit

/-- Calls in a row of the caller's. -/
def opsv (os : List Opd) : List Value := os.flatMap (fun o => o.cells.toList)
theorem opsv_get (os : List Opd) (i : Nat) (o : Opd) (hi : os[i]? = some o) (j : Nat) (u : Value) (hj : o.cells[j]? = some u) : (opsv os)[i * 5 + j]? = some u := by
  induction os generalizing i with
  | nil => simp at hi
  | cons p os ih =>
    have e : opsv (p :: os) = p.cells.toList ++ opsv os := rfl
    have hl : p.cells.toList.length = 5 := rfl
    rw [e]
    cases i with
    | zero =>
      simp only [List.getElem?_cons_zero, Option.some.injEq] at hi
      subst hi
      have hj2 : j < p.cells.toList.length := by have := (Array.getElem?_eq_some_iff.1 hj).1; simpa using this
      rw [Nat.zero_mul, Nat.zero_add, List.getElem?_append_left hj2]
      simpa using hj
    | succ i =>
      simp only [List.getElem?_cons_succ] at hi
      rw [List.getElem?_append_right (by omega), hl, show (i + 1) * 5 + j - 5 = i * 5 + j from by omega]
      exact ih i hi
structure Ops (w : World) (A : Option Addr) (n c : Nat) (os : List Opd) : Prop where
  rd : Rd w w.heap.size 5 A n c (opsv os)
  len : os.length = n
  reads : ∀ o ∈ os, o.Reads w
/-- As many as are looked at, and no greater ones. -/
def Fits (os : List Opd) : Prop := os.length ≤ 60 ∧ ∀ o ∈ os, o.bn ≤ 1000 ∧ o.kn ≤ 200

def LightAns (w : World) (os : List Opd) (e : Ending) (w' : World) : Prop := ∃ b, e = .returned (.bool b) ∧ (b = true → Fits os) ∧ Below w.heap.size w w'
end Go.Proofs.YtpalmobmabkadaaGreatDoor

namespace Go.Proofs.YtpalmobmabkadaaGreatDoor
set_option maxRecDepth 20000
open Go.RowKit

theorem lastOf_key_ : ∀ (l : List (Int × List UInt8)) (f : Says) (x : Int) (s : List UInt8), l.foldl (fun f p => fun y => if y = p.1 then some p.2 else f y) f x = some s → (∃ p ∈ l, p.1 = x) ∨ f x = some s := by
  intro l
  induction l with
  | nil => intro f x s h; exact .inr h
  | cons p l ih =>
    intro f x s h
    rcases ih _ x s h with ⟨q, hq, e⟩ | h1
    · exact .inl ⟨q, List.mem_cons_of_mem _ hq, e⟩
    · by_cases hx : x = p.1
      · exact .inl ⟨p, List.mem_cons_self, hx.symm⟩
      · simp only [if_neg hx] at h1
        exact .inr h1
theorem lastOf_none (l : List (Int × List UInt8)) (x : Int) (h : ∀ p ∈ l, p.1 ≠ x) : lastOf l x = none := by
  cases hl : lastOf l x with
  | none => rfl
  | some s =>
    rcases lastOf_key_ l _ x s hl with ⟨p, hp, e⟩ | h1
    · exact absurd e (h p hp)
    · cases h1
/-- What is safe of a sector is S0, and no change of it waits. -/
def Calm (d : Dv) (s : Int) (S0 : List UInt8) : Prop := d.S s = S0 ∧ ∀ p ∈ d.ws, p.1 ≠ s
theorem Calm.seen {d : Dv} {s : Int} {S0 : List UInt8} (h : Calm d s S0) : d.seen s = S0 := by
  unfold Dv.seen
  rw [lastOf_none _ _ h.2]
  exact h.1
theorem Calm.write {d : Dv} {s : Int} {S0 : List UInt8} (h : Calm d s S0) (x : Int) (l : List UInt8) (j : Nat) (hx : ∀ k, k < j → x + (k : Int) ≠ s) : Calm (d.write x l j).1 s S0 := by
  induction j with
  | zero => exact h
  | succ j ih =>
    have ih := ih (fun k hk => hx k (by omega))
    rw [Dv.write]
    split
    · exact ih
    · refine ⟨ih.1, fun p hp => ?_⟩
      have hp' : p ∈ (d.write x l j).1.ws ++ [(x + (j : Int), pad (sct l j))] := hp
      rcases List.mem_append.1 hp' with h1 | h1
      · exact ih.2 p h1
      · obtain rfl := List.mem_singleton.1 h1
        exact hx j (by omega)
/-- What a call must not do. -/
def Spares (o : Opd) (s : Int) : Prop := ¬ (o.kind = 0 ∧ o.at_ ≤ s ∧ s - max o.at_ 0 < (((o.b.length : Nat) : Int) + 63) / 64)
theorem Calm.op {d : Dv} {s : Int} {S0 : List UInt8} (h : Calm d s S0) (o : Opd) (ho : Spares o s) : Calm (d.op o) s S0 := by
  unfold Dv.op
  split
  · rename_i h0
    unfold Dv.wrote
    split
    · exact h
    · split
      · rename_i hw
        unfold withinB at hw
        simp only [decide_eq_true_eq] at hw
        refine h.write _ _ _ (fun k hk e => ho ⟨h0, ?_, ?_⟩)
        · omega
        · omega
      · exact h
  · split
    · unfold Dv.flush
      split
      · exact h
      · split
        · exact h
        · exact ⟨h.seen, fun p hp => by cases hp⟩
    · split
      · exact h
      · split
        · refine ⟨?_, fun p hp => by cases hp⟩
          show (d.crash1 o.keep d.ws.length).S s = S0
          generalize d.ws.length = i
          induction i with
          | zero => exact h.1
          | succ i ih =>
            rw [Dv.crash1]
            split
            · exact ih
            · rename_i p hp
              show (if s = p.1 then _ else (d.crash1 o.keep i).S s) = S0
              rw [if_neg (fun e => h.2 p (List.mem_of_getElem? hp) e.symm)]
              exact ih
        · exact h
theorem Dv.write_n (d : Dv) (x : Int) (l : List UInt8) (j : Nat) : (d.write x l j).1.n = d.n := by
  induction j with
  | zero => rfl
  | succ j ih =>
    rw [Dv.write]
    split
    · exact ih
    · exact ih
theorem Dv.op_n (d : Dv) (o : Opd) : (d.op o).n = d.n := by
  unfold Dv.op
  split
  · unfold Dv.wrote
    split
    · rfl
    · split
      · exact Dv.write_n _ _ _ _
      · rfl
  · split
    · unfold Dv.flush
      split
      · rfl
      · split <;> rfl
    · split
      · rfl
      · split
        · exact (Dv.crash1_ws d o.keep d.ws.length).2.1
        · rfl
theorem Calm.crash {d : Dv} {s : Int} {S0 : List UInt8} (h : Calm d s S0) (ks : List Int) : Calm (d.crash ks) s S0 := by
  have := h.op ⟨4, 0, 0, none, 0, 0, [], none, 0, 0, ks⟩ (fun h => by have := h.1; simp at this)
  exact this
/-- Behind a flush that is told to be good. -/
theorem flush_calm (d : Dv) (s : Int) (h : d.flush.2 = 0) : Calm d.flush.1 s (d.flush.1.S s) ∧ d.flush.1.down = false ∧ d.flush.1.n = d.n := by
  unfold Dv.flush at h ⊢
  split at h
  · cases h
  · split at h
    · cases h
    · rename_i h1 h2
      rw [if_neg h1, if_neg h2]
      exact ⟨⟨rfl, fun p hp => by cases hp⟩, by show d.step.down = false; simpa using h2, rfl⟩

end Go.Proofs.YtpalmobmabkadaaGreatDoor

namespace Go.Proofs.YtpalmobmabkadaaGreatDoor
set_option maxRecDepth 20000
open Go.RowKit

/-- One sector written while no fuse burns. -/
theorem Dv.write_one (d : Dv) (hd : d.down = false) (hf : d.fuse = 0) (x : Int) (l : List UInt8) (hl : l.length ≤ 64) : d.write x l 1 = ({ d with ws := d.ws ++ [(x, pad l)], done := d.done + 1 }, 0) := by
  have hs : sct l 0 = l := by
    unfold sct
    rw [Nat.mul_zero, List.drop_zero, List.take_of_length_le hl]
  have h0 : d.write x l 1 = ((d.chg (x + ((0 : Nat) : Int), pad (sct l 0))).step, pw (d.chg (x + ((0 : Nat) : Int), pad (sct l 0))).step.down) := by
    rw [Dv.write, if_neg (by simp [Dv.write])]
    rfl
  rw [h0, hs, show x + ((0 : Nat) : Int) = x from by omega]
  obtain ⟨n, S, ws, down, fuse, done⟩ := d
  dsimp only at hd hf
  subst hd
  subst hf
  rfl
/-- What two changes of the sector x leave of it. -/
def torn (s p q : List UInt8) (j k : Nat) : List UInt8 := q.take k ++ (p.take j ++ s.drop j).drop k
theorem torn_get (s p q : List UInt8) (j k i : Nat) (u : UInt8) (_ : s.length = 64) (hp : p.length = 64) (hq : q.length = 64) (hj : j ≤ 64) (hk : k ≤ 64) (h : (torn s p q j k)[i]? = some u) : s[i]? = some u ∨ p[i]? = some u ∨ q[i]? = some u := by
  unfold torn at h
  rcases Nat.lt_or_ge i k with h1 | h1
  · rw [List.getElem?_append_left (by rw [List.length_take]; omega), List.getElem?_take, if_pos h1] at h
    exact .inr (.inr h)
  · rw [List.getElem?_append_right (by rw [List.length_take]; omega), List.length_take, List.getElem?_drop, show k + (i - min k q.length) = i from by omega] at h
    rcases Nat.lt_or_ge i j with h2 | h2
    · rw [List.getElem?_append_left (by rw [List.length_take]; omega), List.getElem?_take, if_pos h2] at h
      exact .inr (.inl h)
    · rw [List.getElem?_append_right (by rw [List.length_take]; omega), List.length_take, List.getElem?_drop, show j + (i - min j p.length) = i from by omega] at h
      exact .inl h
theorem torn_len (s p q : List UInt8) (j k : Nat) (hs : s.length = 64) (hp : p.length = 64) (hq : q.length = 64) (hj : j ≤ 64) (hk : k ≤ 64) : (torn s p q j k).length = 64 := by
  unfold torn
  rw [List.length_append, List.length_take, List.length_drop, List.length_append, List.length_take, List.length_drop]
  omega
theorem Dv.crash_two (d : Dv) (x : Int) (p q : List UInt8) (hw : d.ws = [(x, p), (x, q)]) (ks : List Int) : (d.crash ks).S x = torn (d.S x) p q (kept1 ks 0) (kept1 ks 1) ∧ (d.crash ks).ws = [] ∧ (d.crash ks).down = false ∧ (d.crash ks).fuse = 0 ∧ (d.crash ks).n = d.n := by
  refine ⟨?_, rfl, rfl, rfl, (Dv.crash1_ws d ks d.ws.length).2.1⟩
  show (d.crash1 ks d.ws.length).S x = _
  rw [hw]
  show (d.crash1 ks 2).S x = _
  rw [Dv.crash1, hw]
  show (if x = x then _ else _) = _
  rw [if_pos rfl]
  have h1 : (d.crash1 ks 1).S x = p.take (kept1 ks 0) ++ (d.S x).drop (kept1 ks 0) := by
    rw [Dv.crash1, hw]
    show (if x = x then _ else _) = _
    rw [if_pos rfl]
    rfl
  rw [h1]
  rfl
theorem Dv.calm_bytes (d : Dv) (hw : d.ws = []) (x : Int) : d.bytes x 1 = d.S x := by
  show [] ++ d.seen (x + ((0 : Nat) : Int)) = _
  rw [List.nil_append, show x + ((0 : Nat) : Int) = x from by omega]
  unfold Dv.seen
  rw [hw]
  rfl

end Go.Proofs.YtpalmobmabkadaaGreatDoor

namespace Go.Proofs.YtpalmobmabkadaaGreatDoor
set_option maxRecDepth 20000
open Go.RowKit

def Own (w : World) (B g : Nat) (N : Nat → Prop) (M : Nat) (d : Dv) : Prop := ∃ bs bl v k, Dev w B g bs bl v k d ∧ k + d.ws.length ≤ M ∧ d.done ≤ M ∧ ∀ i, Foot g bs bl v i → N i
section
variable {w w' : World} {B g M M' : Nat} {N N' G : Nat → Prop} {d : Dv}
theorem Own.ok (h : Own w B g N M d) : d.Ok := by obtain ⟨_, _, _, _, h, _⟩ := h; exact h.ok
theorem Own.c4 (h : Own w B g N M d) : w.cell? ⟨g, 4, none⟩ = some (.bool d.down) := by obtain ⟨_, _, _, _, h, _⟩ := h; exact h.c4
theorem Own.lt (h : Own w B g N M d) : g < w.heap.size := by obtain ⟨_, _, _, _, h, _⟩ := h; exact h.lt
theorem Own.keeps (h : Own w B g N M d) (kp : Keeps G w w') (hG : ∀ i, G i → i < w.heap.size → ¬ N i) : Own w' B g N M d := by
  obtain ⟨bs, bl, v, k, h1, h2, h3, h4⟩ := h
  exact ⟨bs, bl, v, k, h1.keeps (F := fun i => G i ∧ i < w.heap.size) ⟨kp.os, kp.tape, kp.output, kp.size, fun i hi hn => kp.block i hi (fun hg => hn ⟨hg, hi⟩)⟩ (fun i hi hf => hG i hi.1 hi.2 (h4 i hf)), h2, h3, h4⟩
theorem Own.below (h : Own w B g N M d) (hb : Below w.heap.size w w') : Own w' B g N M d := h.keeps (G := fun _ => False) (Keeps.of_below hb) (fun _ hi => hi.elim)
theorem Own.mono (h : Own w B g N M d) (hM : M ≤ M') (hN : ∀ i, i < w.heap.size → N i → N' i) : Own w B g N' M' d := by
  obtain ⟨bs, bl, v, k, h1, h2, h3, h4⟩ := h
  exact ⟨bs, bl, v, k, h1, by omega, by omega, fun i hi => hN i (h1.foot_lt hi).2 (h4 i hi)⟩
/-- What a call leaves. -/
def Left (w : World) (B g : Nat) (N : Nat → Prop) (M : Nat) (d : Dv) (w' : World) : Prop := Own w' B g (fun i => N i ∨ w.heap.size ≤ i) M d ∧ Keeps N w w'
theorem Left.of {bs bl : Nat} {v : Value} (hN : ∀ i, Foot g bs bl v i → N i) (h : Dleft w B g bs bl v M d w') : Left w B g N M d w' := by
  obtain ⟨bs', bl', v', k', h1, h2, h3, h4, h5⟩ := h
  exact ⟨⟨bs', bl', v', k', h1, h2, h3, fun i hi => (h5 i hi).imp (hN i) id⟩, h4.wide hN⟩

theorem own_crash (h : Own w B g N M d) (hM : M ≤ 100000) (A : Option Addr) (n c : Nat) (ks : List Int) (hl : Rd w w.heap.size 1 A n c (ks.map (Value.int .i64))) (hn : n ≤ 1000000) (hsep : 0 < n → ∀ b o, A = some ⟨b, o, none⟩ → ¬ N b) :
    Calls Tryz.prog 16 #[.pointer (some ⟨g, 0, none⟩), .slice A n c] w fun e w' => e = .returned (.tuple #[]) ∧ Left w B g N (M + 16) (d.crash ks) w' := by
  obtain ⟨bs, bl, v, k, h1, h2, h3, h4⟩ := h
  exact (crash_all h1 h2 h3 hM A n c ks hl hn (fun h0 b o e hf => hsep h0 b o e (h4 b hf))).mono fun e w' h => ⟨h.1, Left.of h4 h.2⟩
theorem own_flush (h : Own w B g N M d) (hM : M ≤ 100000) :
    Calls Tryz.prog 59 #[.pointer (some ⟨g, 0, none⟩)] w fun e w' => e = .returned (.int .i64 d.flush.2) ∧ Left w B g N (M + 16) d.flush.1 w' := by
  obtain ⟨bs, bl, v, k, h1, h2, h3, h4⟩ := h
  exact (flush_all h1 h2 h3 hM).mono fun e w' h => ⟨h.1, Left.of h4 h.2⟩
theorem own_fuse (h : Own w B g N M d) (n : Int) (hn : Key n) :
    Calls Tryz.prog 15 #[.pointer (some ⟨g, 0, none⟩), .int .i64 n] w fun e w' => e = .returned (.tuple #[]) ∧ Left w B g N M (d.fused n) w' := by
  obtain ⟨bs, bl, v, k, h1, h2, h3, h4⟩ := h
  refine (fuse_any h1 n hn).mono ?_
  rintro e w' ⟨rfl, hD, hg⟩
  exact ⟨rfl, ⟨bs, bl, v, k, hD, h2, h3, fun i hi => .inl (h4 i hi)⟩, ((Keeps.refl N w).grown hg (fun j e => by cases e; exact .inl (h4 _ (.inl rfl))))⟩
/-- A write within the device, while it has power. -/
theorem own_write (h : Own w B g N M d) (hM : M ≤ 100000) (hd : d.down = false) (x : Int) (A : Option Addr) (n c : Nat) (l : List UInt8) (hl : Rd w w.heap.size 1 A n c (u8s l)) (hsep : 0 < n → ∀ b o, A = some ⟨b, o, none⟩ → ¬ N b) (hx : 0 ≤ x) (hm : x + (n + 63) / 64 ≤ d.n) (hn6 : n ≤ 4096) :
    Calls Tryz.prog 92 #[.pointer (some ⟨g, 0, none⟩), .int .i64 x, .slice A n c] w fun e w' => e = .returned (.int .i64 (d.write x l ((n + 63) / 64)).2) ∧ Left w B g N (M + 64) (d.write x l ((n + 63) / 64)).1 w' := by
  obtain ⟨bs, bl, v, k, h1, h2, h3, h4⟩ := h
  refine (write_good h1 hd x A n c l hl (fun h0 b o e hf => hsep h0 b o e (h4 b hf)) (by omega) (by omega) hx hm (by omega)).mono ?_
  rintro e w' ⟨rfl, v', hD, hK, hv⟩
  have hr := Dv.write_rest d x l ((n + 63) / 64)
  have hq : (n + 63) / 64 ≤ 64 := by omega
  refine ⟨rfl, ⟨bs, bl, v', k, hD, by omega, by omega, fun i hi => ?_⟩, hK.wide h4⟩
  rcases hi with hi | hi | hi | hi
  · exact .inl (h4 _ (.inl hi))
  · exact .inl (h4 _ (.inr (.inl hi)))
  · exact .inl (h4 _ (.inr (.inr (.inl hi))))
  · rcases hv i hi with h1 | h1
    · exact .inl (h4 _ (.inr (.inr (.inr h1))))
    · exact .inr h1
/-- What is read, while it has power: a row of one's own. -/
theorem own_read (h : Own w B g N M d) (hd : d.down = false) (x : Int) (m : Nat) (hx : 0 ≤ x) (hm : x + m ≤ d.n) :
    Calls Tryz.prog 68 #[.pointer (some ⟨g, 0, none⟩), .int .i64 x, .int .i64 (m : Int)] w fun e w' => ∃ v, e = .returned (.tuple #[v, .int .i64 0]) ∧ w'.ownsRow w.heap.size 5 1 v (64 * m) (u8s (d.bytes x m)) ∧ Below w.heap.size w w' := by
  obtain ⟨bs, bl, v, k, h1, h2, h3, h4⟩ := h
  exact read_good h1 hd x m hx hm
/-- The power is gone: only that is told. -/
theorem own_read_down (h : Own w B g N M d) (hd : d.down = true) (x m : Int) :
    Calls Tryz.prog 68 #[.pointer (some ⟨g, 0, none⟩), .int .i64 x, .int .i64 m] w fun e w' => e = .returned (.tuple #[.slice none 0 0, .int .i64 50]) ∧ w = w' :=
  read_down g x m w (by rw [← hd]; exact h.c4)
theorem own_write_down (h : Own w B g N M d) (hd : d.down = true) (x : Int) (A : Option Addr) (n c : Nat) :
    Calls Tryz.prog 92 #[.pointer (some ⟨g, 0, none⟩), .int .i64 x, .slice A n c] w fun e w' => e = .returned (.int .i64 50) ∧ Below w.heap.size w w' :=
  write_down g x A n c w (by rw [← hd]; exact h.c4)
end
end Go.Proofs.YtpalmobmabkadaaGreatDoor
