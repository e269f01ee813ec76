/- The reference's Void. -/
import Derived.Test.YtoopeppcmoolgaaMflat
namespace Go.Proofs.Ytoopeppcmoolgaa
open Go.RowKit
set_option maxRecDepth 20000

set_option maxHeartbeats 4000000 in
theorem rvoid_any {w : World} {A : Option Addr} {n c : Nat} {Ls : List Li} (h : Slc Li.lay w A n c Ls) (hf : (flat Ls).length ≤ 1000) (x : En) (hx : x.Reads w) :
    Calls Try.prog 13 #[.agg x.cells, .slice A n c] w fun r w' => r = .returned (.bool (vd (flat Ls) x)) ∧ Below w.heap.size w w' := by
  obtain ⟨W, hW, hz, r0, hb⟩ := boxes1 w x.cells 29
  have HFL := Lib.hid (flat_any (h.below hb) hf)
  have HB0 := Lib.hid hb
  have HX0 := Lib.hid (hx.below hb)
  have HR0 := Lib.hid r0
  have HW := Lib.hid hW
  have HZ := Lib.hid hz
  clear h hx hb hz r0 hW
  have HF := Lib.hid hf
  clear hf
  generalize flat Ls = es at *
  obtain ⟨p2, hp2⟩ : ∃ p2, p2 = w.heap.size := ⟨_, rfl⟩
  obtain ⟨V, hV⟩ : ∃ V, V = x.cells := ⟨_, rfl⟩
  have HXC := Lib.hid hV
  rw [← hV] at HW ⊢
  rw [← hp2] at HR0
  have hVs : V = #[.int .u64 (x.ix : Int), .int .u64 (x.tm : Int), .int .u64 (x.st : Int), .int .i64 x.kd, .int .u64 (x.cl : Int), .int .u64 (x.rq : Int), .int .u32 (x.fr : Int), .int .u32 (x.ct : Int), .string (str x.da), .slice x.A x.bn x.bc] := by rw [hV]; rfl
  clear hV
  subst hVs
  go_enter Try.func13, Try.ntmps13
  go_wp2_with (first
    | (go_at_call 25; rw [← HW.out]; refine HFL.out.mono ?_; rintro e w1 ⟨A', m, c', rfl, hfl⟩
       have HE := Lib.hid hfl.ents
       have HB := Lib.hid (HB0.out.trans (hfl.bel.mono HB0.out.size))
       have HX := Lib.hid (HX0.out.below hfl.bel)
       have HR := Lib.hid (row_below HR0.out hfl.bel)
       clear hfl HX0 HR0)
    | fail)
  rw [← hp2]
  clear HW HFL
  have hmm : (m : Int) ≤ 1000 := by have := HE.out.len; have := HF.out; omega
  have HP2 := Lib.hid hp2
  clear hp2
  go_loopw [6] (fun ir wr => ∃ (i : Nat), i ≤ m ∧ ir = .int .i64 (i : Int) ∧ Hid (vd (es.take i) x = false) ∧ Hid (Below w1.heap.size w1 wr)) (fun ir _ => m - (intOf ir).toNat)
  case atStart => exact ⟨0, Nat.zero_le _, rfl, Lib.hid rfl, Lib.hid (Below.refl _ _)⟩
  case round =>
    obtain ⟨i, hi, rfl, HN, HBW⟩ := hrel
    by_cases hlt : i < m
    · obtain ⟨e0, he⟩ : ∃ e0, es[i]? = some e0 := ⟨_, List.getElem?_eq_getElem (by have := HE.out.len; omega)⟩
      obtain ⟨b, o, hA, _⟩ := HE.out.rd.2.2.2 (by omega)
      subst hA
      have HLD := Lib.hid (fun W' (hb' : Below wr.heap.size wr W') => ents_loads ((HE.out.below HBW.out).below hb') he)
      have HLX := Lib.hid (fun W' (hb' : Below wr.heap.size wr W') => e_loads (row_below (row_below HR.out HBW.out) hb'))
      have HV := Lib.hid (fun W' (hb' : Below wr.heap.size wr W') => rvoids_any e0 x W' (((HE.out.reads e0 (List.mem_of_getElem? he)).below HBW.out).below hb') ((HX.out.below HBW.out).below hb'))
      have HT := Lib.hid (vd_take he HN.out)
      have HY := Lib.hid (fun h => vd_yes (x := x) he h)
      generalize e0.voids x = T at *
      have hlti : (i : Int) < (m : Int) := by omega
      clear he
      go_wp2_with (fail)
      refine wp_low wr.heap.size [([0, 1, 2, 3, 4], 5)] [] (by kernel_rfl) (by kernel_rfl) (fun d _ _ _ _ h => by cases d <;> exact h) (Nat.le_refl _) fun wd hbd => ?_
      intro q hq
      simp only [pickI, Option.toList_some, List.cons_append, List.nil_append, List.getElem?_toArray, List.getElem?_cons_succ, List.getElem?_cons_zero]
      try go_frame
      go_big_quiet_step (fail)
      go_big_quiet_step (fail)
      go_big_quiet_step (fail)
      refine wpQ_load rfl _ (.tmp 17) rfl rfl (fun w hw => by obtain ⟨z, rfl⟩ := hw; exact HLD.out _ (hq z)) ?_
      try go_frame
      refine wpQ_load rfl _ (.tmp 2) rfl rfl (fun w hw => by obtain ⟨z, rfl⟩ := hw; exact HLX.out _ (hq z)) ?_
      try go_frame
      refine wpQuiet_nil ?_
      clear hq q
      refine seg_op (by simp only [List.getElem?_toArray, List.getElem?_cons_succ, List.getElem?_cons_zero]; rfl) fun K hK => ?_
      go_simp
      refine (HV.out _ hbd).mono ?_
      rintro e v0 ⟨rfl, bv0⟩
      have zv0 := hbd.trans (bv0.mono hbd.size)
      refine hK.out _ _ (seg_keep zv0 ?_)
      clear hK K
      intro q hq
      refine wpQuiet_nil ?_
      clear hq q
      cases T
      · go_wp2
        go_roundw
        case rel => exact ⟨i + 1, by omega, by go_num, HT, Lib.hid (HBW.out.trans (zv0.mono HBW.out.size))⟩
        case measure => simp [intOf]; omega
      · go_wp2
        go_ret
        exact ⟨ret_bool (by rw [HY.out (by trivial)]), HB.out.trans ((HBW.out.trans (zv0.mono HBW.out.size)).mono HB.out.size)⟩
    · obtain rfl : i = m := by omega
      have HG := Lib.hid HN.out
      rw [List.take_of_length_le (by have := HE.out.len; omega)] at HG
      go_wp2
      go_ret
      exact ⟨ret_bool HG.out.symm, HB.out.trans (HBW.out.mono HB.out.size)⟩
end Go.Proofs.Ytoopeppcmoolgaa
