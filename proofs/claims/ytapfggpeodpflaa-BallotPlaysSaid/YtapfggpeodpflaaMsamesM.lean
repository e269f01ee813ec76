/- Two entries that are the same, as the reference asks it. Two lists of entries that are the same, as the reference asks it. -/
import Derived.Test.YtapfggpeodpflaaMalikeM
namespace Go.Proofs.Ytapfggpeodpflaa
open Go.RowKit
set_option maxRecDepth 20000

theorem neq_look (a b c d : Nat) (w : World) : (binOp .neq 78 (.agg #[.int .u64 (a : Int), .int .u64 (b : Int), .int .u32 (c : Int), .int .u32 (d : Int)]) (.agg #[.int .u64 (a : Int), .int .u64 (b : Int), .int .u32 (c : Int), .int .u32 (d : Int)])).run Try.prog w = .ok (.bool false) w := by
  go_simp
set_option maxHeartbeats 4000000 in
theorem same_any (e x : En) (w : World) (he : e.Reads w) (hx : x.Reads w) (hal : e.alike x = true) (hi : e.ix = x.ix) (htm : e.tm = x.tm) (hst : e.st = x.st) (hls : e.ls = x.ls) :
    Calls Try.prog 28 #[.agg e.cells, .agg x.cells] w fun r w' => r = .returned (.bool true) ∧ Below w.heap.size w w' := by
  obtain ⟨W, hW, hz, r2, r3, hb⟩ := boxes2 w e.cells x.cells 55 55
  have hbn : e.bn = x.bn := by rw [← he.len, ← hx.len, hls]
  have HAK := Lib.hid (fun W' => alike_any e x W')
  rw [hal] at HAK
  have HB := Lib.hid hb
  have HR2 := Lib.hid r2
  have HR3 := Lib.hid r3
  have HE := Lib.hid (he.below hb)
  have HX := Lib.hid (hx.below hb)
  have hp2 : w.heap.size < W.heap.size := by omega
  have hp3 : w.heap.size + 1 < W.heap.size := by omega
  clear he hx hal r2 r3 hz
  obtain ⟨ix, tm, st, kd, cl, rq, fr, ct, da, A, bn, bc, ls⟩ := e
  obtain ⟨ix2, tm2, st2, kd2, cl2, rq2, fr2, ct2, da2, A2, bn2, bc2, ls2⟩ := x
  dsimp only at hi htm hst hls hbn
  subst hi htm hst hls hbn
  unfold En.cells at *
  dsimp only at *
  have hEB := HE.out.rd.2.2.2
  have hXB := HX.out.rd.2.2.2
  dsimp only at hEB hXB
  have hlen := HE.out.len
  dsimp only at hlen
  have hbc := HE.out.rd.2.1
  have hnc := HE.out.rd.1
  dsimp only at hbc hnc
  have hbm : (bn : Int) ≤ 9223372036854775807 := by unfold maxLen at hbc; omega
  have HP := Lib.hid (And.intro hp2 hp3)
  clear hbc hnc hp2 hp3 hb
  have ua0 : W.cell? ⟨w.heap.size, 0, none⟩ = some (.int .u64 (ix : Int)) := (cell_of_row W (w.heap.size) 0 _ _ _ HR2.out).trans rfl
  have ua1 : W.cell? ⟨w.heap.size, 1, none⟩ = some (.int .u64 (tm : Int)) := (cell_of_row W (w.heap.size) 1 _ _ _ HR2.out).trans rfl
  have ua2 : W.cell? ⟨w.heap.size, 2, none⟩ = some (.int .u64 (st : Int)) := (cell_of_row W (w.heap.size) 2 _ _ _ HR2.out).trans rfl
  have ua3 : W.cell? ⟨w.heap.size, 3, none⟩ = some (.int .i64 kd) := (cell_of_row W (w.heap.size) 3 _ _ _ HR2.out).trans rfl
  have ua4 : W.cell? ⟨w.heap.size, 4, none⟩ = some (.int .u64 (cl : Int)) := (cell_of_row W (w.heap.size) 4 _ _ _ HR2.out).trans rfl
  have ua5 : W.cell? ⟨w.heap.size, 5, none⟩ = some (.int .u64 (rq : Int)) := (cell_of_row W (w.heap.size) 5 _ _ _ HR2.out).trans rfl
  have ua6 : W.cell? ⟨w.heap.size, 6, none⟩ = some (.int .u32 (fr : Int)) := (cell_of_row W (w.heap.size) 6 _ _ _ HR2.out).trans rfl
  have ua7 : W.cell? ⟨w.heap.size, 7, none⟩ = some (.int .u32 (ct : Int)) := (cell_of_row W (w.heap.size) 7 _ _ _ HR2.out).trans rfl
  have ua8 : W.cell? ⟨w.heap.size, 8, none⟩ = some (.string (str da)) := (cell_of_row W (w.heap.size) 8 _ _ _ HR2.out).trans rfl
  have ua9 : W.cell? ⟨w.heap.size, 9, none⟩ = some (.slice A bn bc) := (cell_of_row W (w.heap.size) 9 _ _ _ HR2.out).trans rfl
  have va0 : W.cell? ⟨w.heap.size + 1, 0, none⟩ = some (.int .u64 (ix : Int)) := (cell_of_row W (w.heap.size + 1) 0 _ _ _ HR3.out).trans rfl
  have va1 : W.cell? ⟨w.heap.size + 1, 1, none⟩ = some (.int .u64 (tm : Int)) := (cell_of_row W (w.heap.size + 1) 1 _ _ _ HR3.out).trans rfl
  have va2 : W.cell? ⟨w.heap.size + 1, 2, none⟩ = some (.int .u64 (st : Int)) := (cell_of_row W (w.heap.size + 1) 2 _ _ _ HR3.out).trans rfl
  have va3 : W.cell? ⟨w.heap.size + 1, 3, none⟩ = some (.int .i64 kd2) := (cell_of_row W (w.heap.size + 1) 3 _ _ _ HR3.out).trans rfl
  have va4 : W.cell? ⟨w.heap.size + 1, 4, none⟩ = some (.int .u64 (cl2 : Int)) := (cell_of_row W (w.heap.size + 1) 4 _ _ _ HR3.out).trans rfl
  have va5 : W.cell? ⟨w.heap.size + 1, 5, none⟩ = some (.int .u64 (rq2 : Int)) := (cell_of_row W (w.heap.size + 1) 5 _ _ _ HR3.out).trans rfl
  have va6 : W.cell? ⟨w.heap.size + 1, 6, none⟩ = some (.int .u32 (fr2 : Int)) := (cell_of_row W (w.heap.size + 1) 6 _ _ _ HR3.out).trans rfl
  have va7 : W.cell? ⟨w.heap.size + 1, 7, none⟩ = some (.int .u32 (ct2 : Int)) := (cell_of_row W (w.heap.size + 1) 7 _ _ _ HR3.out).trans rfl
  have va8 : W.cell? ⟨w.heap.size + 1, 8, none⟩ = some (.string (str da2)) := (cell_of_row W (w.heap.size + 1) 8 _ _ _ HR3.out).trans rfl
  have va9 : W.cell? ⟨w.heap.size + 1, 9, none⟩ = some (.slice A2 bn bc2) := (cell_of_row W (w.heap.size + 1) 9 _ _ _ HR3.out).trans rfl
  go_enter Try.func28, Try.ntmps28
  go_wp2_with (first
    | (go_at_call 42; rw [← hW]; refine (HAK.out _).mono ?_; rintro e w1 ⟨rfl, hb1⟩
       have HB1 := Lib.hid hb1
       have HR21 := Lib.hid (row_below HR2.out hb1)
       have HR31 := Lib.hid (row_below HR3.out hb1)
       clear hW hb1 ua0 ua1 ua2 ua3 ua4 ua5 ua6 ua7 ua8 ua9 va0 va1 va2 va3 va4 va5 va6 va7 va8 va9
       have ua0 : w1.cell? ⟨w.heap.size, 0, none⟩ = some (.int .u64 (ix : Int)) := (cell_of_row w1 (w.heap.size) 0 _ _ _ HR21.out).trans rfl
       have ua1 : w1.cell? ⟨w.heap.size, 1, none⟩ = some (.int .u64 (tm : Int)) := (cell_of_row w1 (w.heap.size) 1 _ _ _ HR21.out).trans rfl
       have ua2 : w1.cell? ⟨w.heap.size, 2, none⟩ = some (.int .u64 (st : Int)) := (cell_of_row w1 (w.heap.size) 2 _ _ _ HR21.out).trans rfl
       have ua3 : w1.cell? ⟨w.heap.size, 3, none⟩ = some (.int .i64 kd) := (cell_of_row w1 (w.heap.size) 3 _ _ _ HR21.out).trans rfl
       have ua4 : w1.cell? ⟨w.heap.size, 4, none⟩ = some (.int .u64 (cl : Int)) := (cell_of_row w1 (w.heap.size) 4 _ _ _ HR21.out).trans rfl
       have ua5 : w1.cell? ⟨w.heap.size, 5, none⟩ = some (.int .u64 (rq : Int)) := (cell_of_row w1 (w.heap.size) 5 _ _ _ HR21.out).trans rfl
       have ua6 : w1.cell? ⟨w.heap.size, 6, none⟩ = some (.int .u32 (fr : Int)) := (cell_of_row w1 (w.heap.size) 6 _ _ _ HR21.out).trans rfl
       have ua7 : w1.cell? ⟨w.heap.size, 7, none⟩ = some (.int .u32 (ct : Int)) := (cell_of_row w1 (w.heap.size) 7 _ _ _ HR21.out).trans rfl
       have ua8 : w1.cell? ⟨w.heap.size, 8, none⟩ = some (.string (str da)) := (cell_of_row w1 (w.heap.size) 8 _ _ _ HR21.out).trans rfl
       have ua9 : w1.cell? ⟨w.heap.size, 9, none⟩ = some (.slice A bn bc) := (cell_of_row w1 (w.heap.size) 9 _ _ _ HR21.out).trans rfl
       have va0 : w1.cell? ⟨w.heap.size + 1, 0, none⟩ = some (.int .u64 (ix : Int)) := (cell_of_row w1 (w.heap.size + 1) 0 _ _ _ HR31.out).trans rfl
       have va1 : w1.cell? ⟨w.heap.size + 1, 1, none⟩ = some (.int .u64 (tm : Int)) := (cell_of_row w1 (w.heap.size + 1) 1 _ _ _ HR31.out).trans rfl
       have va2 : w1.cell? ⟨w.heap.size + 1, 2, none⟩ = some (.int .u64 (st : Int)) := (cell_of_row w1 (w.heap.size + 1) 2 _ _ _ HR31.out).trans rfl
       have va3 : w1.cell? ⟨w.heap.size + 1, 3, none⟩ = some (.int .i64 kd2) := (cell_of_row w1 (w.heap.size + 1) 3 _ _ _ HR31.out).trans rfl
       have va4 : w1.cell? ⟨w.heap.size + 1, 4, none⟩ = some (.int .u64 (cl2 : Int)) := (cell_of_row w1 (w.heap.size + 1) 4 _ _ _ HR31.out).trans rfl
       have va5 : w1.cell? ⟨w.heap.size + 1, 5, none⟩ = some (.int .u64 (rq2 : Int)) := (cell_of_row w1 (w.heap.size + 1) 5 _ _ _ HR31.out).trans rfl
       have va6 : w1.cell? ⟨w.heap.size + 1, 6, none⟩ = some (.int .u32 (fr2 : Int)) := (cell_of_row w1 (w.heap.size + 1) 6 _ _ _ HR31.out).trans rfl
       have va7 : w1.cell? ⟨w.heap.size + 1, 7, none⟩ = some (.int .u32 (ct2 : Int)) := (cell_of_row w1 (w.heap.size + 1) 7 _ _ _ HR31.out).trans rfl
       have va8 : w1.cell? ⟨w.heap.size + 1, 8, none⟩ = some (.string (str da2)) := (cell_of_row w1 (w.heap.size + 1) 8 _ _ _ HR31.out).trans rfl
       have va9 : w1.cell? ⟨w.heap.size + 1, 9, none⟩ = some (.slice A2 bn bc2) := (cell_of_row w1 (w.heap.size + 1) 9 _ _ _ HR31.out).trans rfl)
    | fail)
  go_loopw [5] (fun ir wr => ∃ (i : Nat), i ≤ bn ∧ ir = .int .i64 (i : Int) ∧ Hid (Below w1.heap.size w1 wr)) (fun ir _ => bn - (intOf ir).toNat)
  case atStart => exact ⟨0, Nat.zero_le _, rfl, Lib.hid (Below.refl _ _)⟩
  case round =>
    clear ua0 ua1 ua2 ua3 ua4 ua5 ua6 ua7 ua8 ua9 va0 va1 va2 va3 va4 va5 va6 va7 va8 va9
    obtain ⟨i, hi, rfl, HBW⟩ := hrel
    have hwr : Below W.heap.size W wr := HB1.out.trans (HBW.out.mono HB1.out.size)
    have a9 : wr.cell? ⟨w.heap.size, 9, none⟩ = some (.slice A bn bc) := (cell_of_row wr _ 9 _ _ _ (row_below HR2.out hwr)).trans rfl
    have b9 : wr.cell? ⟨w.heap.size + 1, 9, none⟩ = some (.slice A2 bn bc2) := (cell_of_row wr _ 9 _ _ _ (row_below HR3.out hwr)).trans rfl
    have h2w : w.heap.size < wr.heap.size := Nat.lt_of_lt_of_le HP.out.1 hwr.size
    have h3w : w.heap.size + 1 < wr.heap.size := Nat.lt_of_lt_of_le HP.out.2 hwr.size
    by_cases hlt : i < bn
    · obtain ⟨l0, hl⟩ : ∃ l0, ls[i]? = some l0 := ⟨_, List.getElem?_eq_getElem (by omega)⟩
      obtain ⟨b, o, hA, hbb, hcc⟩ := hEB (by omega)
      obtain ⟨b', o', hA', hbb', hcc'⟩ := hXB (by omega)
      subst hA hA'
      have hce := fun j u (hu : l0.cells[j]? = some u) => (hwr.cell (p := ⟨b, o + (i * 4 + j), none⟩) hbb).trans (hcc _ _ (lks_get ls i _ hl j u hu))
      have hcf := fun j u (hu : l0.cells[j]? = some u) => (hwr.cell (p := ⟨b', o' + (i * 4 + j), none⟩) hbb').trans (hcc' _ _ (lks_get ls i _ hl j u hu))
      have hbw : b < wr.heap.size := Nat.lt_of_lt_of_le hbb hwr.size
      have hcw : b' < wr.heap.size := Nat.lt_of_lt_of_le hbb' hwr.size
      have hlti : (i : Int) < (bn : Int) := by omega
      obtain ⟨l1, l2, l3, l4⟩ := l0
      have hNE := fun W' => neq_look l1 l2 l3 l4 W'
      unfold Lk.cells at hce hcf
      dsimp only at *
      have k0 := hce 0 _ rfl
      have k1 := hce 1 _ rfl
      have k2 := hce 2 _ rfl
      have k3 := hce 3 _ rfl
      have m0 := hcf 0 _ rfl
      have m1 := hcf 1 _ rfl
      have m2 := hcf 2 _ rfl
      have m3 := hcf 3 _ rfl
      try dsimp only at k0 k1 k2 k3 m0 m1 m2 m3
      simp only [← Nat.add_assoc, Nat.add_zero] at k0 k1 k2 k3 m0 m1 m2 m3
      have HWR := Lib.hid hwr
      clear hce hcf hcc hcc' hl hEB hXB hbb hbb' hwr
      go_wp2_with (fail)
      refine wp_low wr.heap.size [] [0, 1, 2, 3, 4, 5, 6, 7, 8, 9, 10] (by kernel_rfl) (by kernel_rfl) (fun d _ _ _ _ h => by cases d <;> exact h) (Nat.le_refl _) fun wd hbd => ?_
      intro q hq
      have d0 := fun z => kept (hq z) a9 h2w
      have d1 := fun z => kept (hq z) b9 h3w
      have p0 := fun z => kept (hq z) k0 hbw
      have p1 := fun z => kept (hq z) k1 hbw
      have p2 := fun z => kept (hq z) k2 hbw
      have p3 := fun z => kept (hq z) k3 hbw
      have q0 := fun z => kept (hq z) m0 hcw
      have q1 := fun z => kept (hq z) m1 hcw
      have q2 := fun z => kept (hq z) m2 hcw
      have q3 := fun z => kept (hq z) m3 hcw
      simp only [pickI, Option.toList_some, List.cons_append, List.nil_append, List.getElem?_toArray, List.getElem?_cons_succ, List.getElem?_cons_zero]
      try go_frame
      go_big_quiet_step (fail)
      go_big_quiet_step (fail)
      go_big_quiet_step (fail)
      go_big_quiet_step (fail)
      go_big_quiet_step (fail)
      go_big_quiet_step (fail)
      go_big_quiet_step (fail)
      go_big_quiet_step (fail)
      go_big_quiet_step (fail)
      go_big_quiet_step (fail)
      go_big_quiet_step (fail)
      refine wpQuiet_nil ?_
      clear hq q d0 d1 p0 p1 p2 p3 q0 q1 q2 q3
      go_wp2
      go_roundw
      case rel => exact ⟨i + 1, by omega, by go_num, Lib.hid (HBW.out.trans (hbd.mono HBW.out.size))⟩
      case measure => simp [intOf]; omega
    · obtain rfl : i = bn := by omega
      go_wp2
      go_ret
      exact ⟨rfl, HB.out.trans (hwr.mono HB.out.size)⟩
end Go.Proofs.Ytapfggpeodpflaa

namespace Go.Proofs.Ytapfggpeodpflaa
open Go.RowKit
set_option maxRecDepth 20000

structure SameE (e x : En) : Prop where
  al : e.alike x = true
  ix : e.ix = x.ix
  tm : e.tm = x.tm
  st : e.st = x.st
  ls : e.ls = x.ls
set_option maxHeartbeats 4000000 in
theorem sames_any {w : World} {A1 A2 : Option Addr} {c1 c2 H : Nat} {es1 es2 : List En} (h1 : Ents w A1 H c1 es1) (h2 : Ents w A2 H c2 es2) (hs : ∀ (j : Nat) (e x : En), es1[j]? = some e → es2[j]? = some x → SameE e x) :
    Calls Try.prog 15 #[.slice A1 H c1, .slice A2 H c2] w fun r w' => r = .returned (.bool true) ∧ Below w.heap.size w w' := by
  have hcap := h1.rd.2.1
  have hnc := h1.rd.1
  have hnm : (H : Int) ≤ 9223372036854775807 := by unfold maxLen at hcap; omega
  have HE1 := Lib.hid h1
  have HE2 := Lib.hid h2
  have HS := Lib.hid hs
  clear h1 h2 hs hcap hnc
  go_enter Try.func15, Try.ntmps15
  go_wp2
  go_loopw [5] (fun ir wr => ∃ (i : Nat), i ≤ H ∧ ir = .int .i64 (i : Int) ∧ Hid (Below w.heap.size w wr)) (fun ir _ => H - (intOf ir).toNat)
  case atStart => exact ⟨0, Nat.zero_le _, rfl, Lib.hid (Below.refl _ _)⟩
  case round =>
    obtain ⟨i, hi, rfl, HBW⟩ := hrel
    by_cases hlt : i < H
    · obtain ⟨e, he⟩ : ∃ e, es1[i]? = some e := ⟨_, List.getElem?_eq_getElem (by have := HE1.out.len; omega)⟩
      obtain ⟨x, hx⟩ : ∃ x, es2[i]? = some x := ⟨_, List.getElem?_eq_getElem (by have := HE2.out.len; omega)⟩
      obtain ⟨b6, o6, hA6, _⟩ := HE1.out.rd.2.2.2 (by omega)
      obtain ⟨b7, o7, hA7, _⟩ := HE2.out.rd.2.2.2 (by omega)
      subst hA6 hA7
      have hlti : (i : Int) < (H : Int) := by omega
      have hse := HS.out i e x he hx
      have HL1 := Lib.hid (fun W' (hb' : Below wr.heap.size wr W') => ents_loads ((HE1.out.below HBW.out).below hb') he)
      have HL2 := Lib.hid (fun W' (hb' : Below wr.heap.size wr W') => ents_loads ((HE2.out.below HBW.out).below hb') hx)
      have HSM := Lib.hid (fun W' (hb' : Below wr.heap.size wr W') => same_any e x W' (((HE1.out.reads e (List.mem_of_getElem? he)).below HBW.out).below hb') (((HE2.out.reads x (List.mem_of_getElem? hx)).below HBW.out).below hb') hse.al hse.ix hse.tm hse.st hse.ls)
      clear he hx hse
      go_wp2_with (fail)
      refine wp_low wr.heap.size [([0, 1, 2, 3, 4, 5, 6, 7], 8)] [9] (by kernel_rfl) (by kernel_rfl) (fun d _ _ _ _ h => by cases d <;> exact h) (Nat.le_refl _) fun wd hbd => ?_
      intro q hq
      simp only [pickI, Option.toList_some, List.cons_append, List.nil_append, List.getElem?_toArray, List.getElem?_cons_succ, List.getElem?_cons_zero]
      try go_frame
      go_big_quiet_step (fail)
      go_big_quiet_step (fail)
      go_big_quiet_step (fail)
      refine wpQ_load rfl _ (.tmp 19) rfl rfl (fun w hw => by obtain ⟨z, rfl⟩ := hw; exact HL1.out _ (hq z)) ?_
      try go_frame
      go_big_quiet_step (fail)
      go_big_quiet_step (fail)
      go_big_quiet_step (fail)
      refine wpQ_load rfl _ (.tmp 23) rfl rfl (fun w hw => by obtain ⟨z, rfl⟩ := hw; exact HL2.out _ (hq z)) ?_
      try go_frame
      refine wpQuiet_nil ?_
      clear hq q
      refine seg_op (by simp only [List.getElem?_toArray, List.getElem?_cons_succ, List.getElem?_cons_zero]; rfl) fun K hK => ?_
      go_simp
      refine (HSM.out _ hbd).mono ?_
      rintro e v0 ⟨rfl, bv0⟩
      have zv0 := hbd.trans (bv0.mono hbd.size)
      refine hK.out _ _ (seg_keep zv0 ?_)
      clear hK K
      intro q hq
      simp only [pickI, Option.toList_some, List.cons_append, List.nil_append, List.getElem?_toArray, List.getElem?_cons_succ, List.getElem?_cons_zero]
      try go_frame
      go_big_quiet_step (fail)
      refine wpQuiet_nil ?_
      clear hq q
      go_wp2
      go_roundw
      case rel => exact ⟨i + 1, by omega, by go_num, Lib.hid (HBW.out.trans (zv0.mono HBW.out.size))⟩
      case measure => simp [intOf]; omega
    · obtain rfl : i = H := by omega
      go_wp2
      go_ret
      exact ⟨rfl, HBW.out⟩
end Go.Proofs.Ytapfggpeodpflaa
