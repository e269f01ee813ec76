/- The reference's Void. Best's closure: is an entry better than the best so far? -/
import Derived.Test.YtapfggpeodpflaaMflatM
namespace Go.Proofs.Ytapfggpeodpflaa
open Go.RowKit
set_option maxRecDepth 20000

set_option maxHeartbeats 4000000 in
theorem rvoid_any {w : World} {A : Option Addr} {n c : Nat} {Ls : List Li} (h : Slc Li.lay w A n c Ls) (hf : (flat Ls).length ≤ 1000) (x : En) (hx : x.Reads w) :
    Calls Try.prog 44 #[.agg x.cells, .slice A n c] w fun r w' => r = .returned (.bool (vd (flat Ls) x)) ∧ Below w.heap.size w w' := by
  obtain ⟨W, hW, hz, r0, hb⟩ := boxes1 w x.cells 55
  have HFL := Lib.hid (flat_any (h.below hb) hf)
  have HB0 := Lib.hid hb
  have HX0 := Lib.hid (hx.below hb)
  have HR0 := Lib.hid r0
  have HW := Lib.hid hW
  have HZ := Lib.hid hz
  clear h hx hb hz r0 hW
  have HF := Lib.hid hf
  clear hf
  generalize flat Ls = es at *
  obtain ⟨p2, hp2⟩ : ∃ p2, p2 = w.heap.size := ⟨_, rfl⟩
  obtain ⟨V, hV⟩ : ∃ V, V = x.cells := ⟨_, rfl⟩
  have HXC := Lib.hid hV
  rw [← hV] at HW ⊢
  rw [← hp2] at HR0
  have hVs : V = #[.int .u64 (x.ix : Int), .int .u64 (x.tm : Int), .int .u64 (x.st : Int), .int .i64 x.kd, .int .u64 (x.cl : Int), .int .u64 (x.rq : Int), .int .u32 (x.fr : Int), .int .u32 (x.ct : Int), .string (str x.da), .slice x.A x.bn x.bc] := by rw [hV]; rfl
  clear hV
  subst hVs
  go_enter Try.func44, Try.ntmps44
  go_wp2_with (first
    | (go_at_call 43; rw [← HW.out]; refine HFL.out.mono ?_; rintro e w1 ⟨A', m, c', rfl, hfl⟩
       have HE := Lib.hid hfl.ents
       have HB := Lib.hid (HB0.out.trans (hfl.bel.mono HB0.out.size))
       have HX := Lib.hid (HX0.out.below hfl.bel)
       have HR := Lib.hid (row_below HR0.out hfl.bel)
       clear hfl HX0 HR0)
    | fail)
  rw [← hp2]
  clear HW HFL
  have hmm : (m : Int) ≤ 1000 := by have := HE.out.len; have := HF.out; omega
  have HP2 := Lib.hid hp2
  clear hp2
  go_loopw [6] (fun ir wr => ∃ (i : Nat), i ≤ m ∧ ir = .int .i64 (i : Int) ∧ Hid (vd (es.take i) x = false) ∧ Hid (Below w1.heap.size w1 wr)) (fun ir _ => m - (intOf ir).toNat)
  case atStart => exact ⟨0, Nat.zero_le _, rfl, Lib.hid rfl, Lib.hid (Below.refl _ _)⟩
  case round =>
    obtain ⟨i, hi, rfl, HN, HBW⟩ := hrel
    by_cases hlt : i < m
    · obtain ⟨e0, he⟩ : ∃ e0, es[i]? = some e0 := ⟨_, List.getElem?_eq_getElem (by have := HE.out.len; omega)⟩
      obtain ⟨b, o, hA, _⟩ := HE.out.rd.2.2.2 (by omega)
      subst hA
      have HLD := Lib.hid (fun W' (hb' : Below wr.heap.size wr W') => ents_loads ((HE.out.below HBW.out).below hb') he)
      have HLX := Lib.hid (fun W' (hb' : Below wr.heap.size wr W') => e_loads (row_below (row_below HR.out HBW.out) hb'))
      have HV := Lib.hid (fun W' (hb' : Below wr.heap.size wr W') => rvoids_any e0 x W' (((HE.out.reads e0 (List.mem_of_getElem? he)).below HBW.out).below hb') ((HX.out.below HBW.out).below hb'))
      have HT := Lib.hid (vd_take he HN.out)
      have HY := Lib.hid (fun h => vd_yes (x := x) he h)
      generalize e0.voids x = T at *
      have hlti : (i : Int) < (m : Int) := by omega
      clear he
      go_wp2_with (fail)
      refine wp_low wr.heap.size [([0, 1, 2, 3, 4], 5)] [] (by kernel_rfl) (by kernel_rfl) (fun d _ _ _ _ h => by cases d <;> exact h) (Nat.le_refl _) fun wd hbd => ?_
      intro q hq
      simp only [pickI, Option.toList_some, List.cons_append, List.nil_append, List.getElem?_toArray, List.getElem?_cons_succ, List.getElem?_cons_zero]
      try go_frame
      go_big_quiet_step (fail)
      go_big_quiet_step (fail)
      go_big_quiet_step (fail)
      refine wpQ_load rfl _ (.tmp 17) rfl rfl (fun w hw => by obtain ⟨z, rfl⟩ := hw; exact HLD.out _ (hq z)) ?_
      try go_frame
      refine wpQ_load rfl _ (.tmp 2) rfl rfl (fun w hw => by obtain ⟨z, rfl⟩ := hw; exact HLX.out _ (hq z)) ?_
      try go_frame
      refine wpQuiet_nil ?_
      clear hq q
      refine seg_op (by simp only [List.getElem?_toArray, List.getElem?_cons_succ, List.getElem?_cons_zero]; rfl) fun K hK => ?_
      go_simp
      refine (HV.out _ hbd).mono ?_
      rintro e v0 ⟨rfl, bv0⟩
      have zv0 := hbd.trans (bv0.mono hbd.size)
      refine hK.out _ _ (seg_keep zv0 ?_)
      clear hK K
      intro q hq
      refine wpQuiet_nil ?_
      clear hq q
      cases T
      · go_wp2
        go_roundw
        case rel => exact ⟨i + 1, by omega, by go_num, HT, Lib.hid (HBW.out.trans (zv0.mono HBW.out.size))⟩
        case measure => simp [intOf]; omega
      · go_wp2
        go_ret
        exact ⟨ret_bool (by rw [HY.out (by trivial)]), HB.out.trans ((HBW.out.trans (zv0.mono HBW.out.size)).mono HB.out.size)⟩
    · obtain rfl : i = m := by omega
      have HG := Lib.hid HN.out
      rw [List.take_of_length_le (by have := HE.out.len; omega)] at HG
      go_wp2
      go_ret
      exact ⟨ret_bool HG.out.symm, HB.out.trans (HBW.out.mono HB.out.size)⟩
end Go.Proofs.Ytapfggpeodpflaa

namespace Go.Proofs.Ytapfggpeodpflaa
open Go.RowKit
set_option maxRecDepth 20000

set_option maxHeartbeats 4000000 in
theorem better_any {w : World} {A : Option Addr} {n c : Nat} {Ls : List Li} (h : Slc Li.lay w A n c Ls) (x : En) (hx : x.Reads w) (ix : Nat) (_ : ix < 18446744073709551616) (o : Option En) (ho : (curE o).Reads w) (p2 p3 p6 p7 : Nat)
    (h2 : w.heap[p2]? = some (.cells #[.int .u64 (ix : Int)] 22 (0, 0))) (h3 : w.heap[p3]? = some (.cells #[.slice A n c] 29 (0, 0))) (h6 : ERow w p6 (curE o)) (h7 : w.heap[p7]? = some (.cells #[.bool o.isSome] 4 (0, 0))) :
    Calls Try.prog 50 #[.agg x.cells, .pointer (some ⟨p2, 0, none⟩), .pointer (some ⟨p7, 0, none⟩), .pointer (some ⟨p6, 0, none⟩), .pointer (some ⟨p3, 0, none⟩)] w fun r w' => r = .returned (.bool (btr (vd (flat Ls)) ix o x)) ∧ Below w.heap.size w w' := by
  obtain ⟨W, hW, hz, r0, hb⟩ := boxes1 w x.cells 55
  have HV := Lib.hid (void_any (h.below hb) x (hx.below hb))
  have HB := Lib.hid hb
  have c2 := cell_of_row W p2 0 _ _ _ (row_below h2 hb)
  have c3 := cell_of_row W p3 0 _ _ _ (row_below h3 hb)
  have c6 := cell_of_row W p6 1 _ _ _ (row_below h6 hb)
  have c7 := cell_of_row W p7 0 _ _ _ (row_below h7 hb)
  have hbt : btr (vd (flat Ls)) ix o x = (decide (x.ix = ix) && ((!o.isSome || decide ((curE o).tm < x.tm)) && !(vd (flat Ls) x))) := by
    unfold btr curE
    cases o <;> simp
  rw [hbt]
  clear hbt h hx h2 h3 h6 h7 hb r0 hz
  have hc : (curE o).cells[1]? = some (.int .u64 ((curE o).tm : Int)) := rfl
  rw [hc] at c6
  clear hc
  generalize vd (flat Ls) x = T at *
  generalize o.isSome = B at *
  generalize (curE o).tm = tb at *
  clear ho
  obtain ⟨ixx, tm, st, kd, cl, rq, fr, ct, da, A1, bn, bc, ls⟩ := x
  unfold En.cells at *
  dsimp only at *
  subst hW
  by_cases hi : ixx = ix
  · subst hi
    cases B
    · go_enter Try.func50, Try.ntmps50
      go_wp2_with (first
        | (go_at_call 51; refine HV.out.mono ?_; rintro e w1 ⟨rfl, hb1⟩)
        | fail)
      go_ret
      exact ⟨ret_bool (by cases T <;> simp), HB.out.trans (hb1.mono HB.out.size)⟩
    · by_cases ht : tb < tm
      · have q : decide (tb < tm) = true := by simpa using ht
        go_enter Try.func50, Try.ntmps50
        go_wp2_with (first
          | (go_at_call 51; refine HV.out.mono ?_; rintro e w1 ⟨rfl, hb1⟩)
          | fail)
        go_ret
        exact ⟨ret_bool (by cases T <;> simp [ht]), HB.out.trans (hb1.mono HB.out.size)⟩
      · have q : decide (tb < tm) = false := by simpa using ht
        go_enter Try.func50, Try.ntmps50
        go_wp2
        go_ret
        exact ⟨ret_bool (by simp [ht]), HB.out⟩
  · have q : ((ixx : Int) == (ix : Int)) = false := by simp; omega
    go_enter Try.func50, Try.ntmps50
    go_wp2
    go_ret
    exact ⟨ret_bool (by simp [hi]), HB.out⟩
end Go.Proofs.Ytapfggpeodpflaa
