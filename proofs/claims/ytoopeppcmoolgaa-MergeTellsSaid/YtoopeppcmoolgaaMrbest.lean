/- The reference's Best. -/
import Derived.Test.YtoopeppcmoolgaaMrvoid
import Derived.Test.YtoopeppcmoolgaaMbest
namespace Go.Proofs.Ytoopeppcmoolgaa
open Go.RowKit
set_option maxRecDepth 20000

/-- The best so far, in the row p6; nothing else has turned since the world w1. -/
structure RJ (w1 wr : World) (p6 : Nat) (o : Option En) : Prop where
  gr : w1.grownBy wr (some p6)
  r6 : ERow wr p6 (curE o)
theorem RJ.below {w1 wr w' : World} {p6 : Nat} {o : Option En} (h : RJ w1 wr p6 o) (hb : Below wr.heap.size wr w') : RJ w1 w' p6 o :=
  ⟨grownBy_trans h.gr (grow_of hb) (.inr fun _ e => by cases e), row_below h.r6 hb⟩
theorem RJ.put {w1 wr w' : World} {p6 : Nat} {o : Option En} {x : En} (h : RJ w1 wr p6 o) (hr : w'.heap[p6]? = some (.cells x.cells 29 (0, 0))) (hg : wr.grownBy w' (some p6)) : RJ w1 w' p6 (some x) :=
  ⟨grownBy_trans h.gr hg (.inl rfl), hr⟩
set_option maxHeartbeats 8000000 in
theorem rbest_any {w : World} {A : Option Addr} {n c : Nat} {Ls : List Li} (h : Slc Li.lay w A n c Ls) (hf : (flat Ls).length ≤ 1000) (ix : Nat) (hix : ix < 18446744073709551616) :
    Calls Try.prog 11 #[.int .u64 (ix : Int), .slice A n c] w fun r w' => r = .returned (.tuple #[.agg (curE (bst Ls ix)).cells, .bool (bst Ls ix).isSome]) ∧ Below w.heap.size w w' := by
  obtain ⟨W, hW, hz, r4, r6, hb⟩ := boxes2 w #[.int .u64 0, .int .u64 0, .int .u64 0, .int .i64 0, .int .u64 0, .int .u64 0, .int .u32 0, .int .u32 0, .string ⟨#[]⟩, .slice none 0 0] #[.int .u64 0, .int .u64 0, .int .u64 0, .int .i64 0, .int .u64 0, .int .u64 0, .int .u32 0, .int .u32 0, .string ⟨#[]⟩, .slice none 0 0] 29 29
  have HFL := Lib.hid (flat_any (h.below hb) hf)
  have HV0 := Lib.hid (fun W' (hb' : Below w.heap.size w W') e (he : e ∈ flat Ls) => rvoid_any (h.below hb') hf e ((flat_reads h e he).below hb'))
  have HB0 := Lib.hid hb
  have HR4 := Lib.hid (show ERow W w.heap.size Ez from r4)
  have HR6 := Lib.hid (show ERow W (w.heap.size + 1) Ez from r6)
  have HZ := Lib.hid hz
  have HF := Lib.hid hf
  have hbs : bst Ls ix = bestOf (vd (flat Ls)) ix (flat Ls) := rfl
  rw [hbs]
  clear h hb hz r4 r6 hf hbs
  generalize flat Ls = es at *
  obtain ⟨p4, hp4⟩ : ∃ p4, p4 = w.heap.size := ⟨_, rfl⟩
  obtain ⟨p6, hp6⟩ : ∃ p6, p6 = w.heap.size + 1 := ⟨_, rfl⟩
  have HP := Lib.hid (show p4 ≠ p6 ∧ w.heap.size ≤ p4 ∧ w.heap.size ≤ p6 ∧ p6 < W.heap.size from by have := HZ.out; omega)
  rw [← hp6] at HR6
  rw [← hp4] at HR4
  go_enter Try.func11, Try.ntmps11
  go_wp2_with (first
    | (go_at_call 25; rw [← hW]; refine HFL.out.mono ?_; rintro e w1 ⟨A', m, c', rfl, hfl⟩
       have HE := Lib.hid hfl.ents
       have HLO := Lib.hid hfl.lo
       have HB := Lib.hid (HB0.out.trans (hfl.bel.mono HB0.out.size))
       have HJ := Lib.hid (show RJ w1 w1 p6 none from ⟨World.grownBy.refl _ _, row_below HR6.out hfl.bel⟩)
       have HR := Lib.hid (row_below HR4.out hfl.bel)
       clear hfl HR4 HR6)
    | fail)
  rw [← hp6, ← hp4]
  clear hW HFL
  have hmm : (m : Int) ≤ 1000 := by have := HE.out.len; have := HF.out; omega
  clear hp4 hp6
  go_loopw [7, 9] (fun fv ir wr => ∃ (i : Nat), i ≤ m ∧ ir = .int .i64 (i : Int) ∧ fv = .bool (bestOf (vd es) ix (es.take i)).isSome ∧ Hid (RJ w1 wr p6 (bestOf (vd es) ix (es.take i)))) (fun _ ir _ => m - (intOf ir).toNat)
  case atStart => exact ⟨0, Nat.zero_le _, rfl, rfl, HJ⟩
  case round =>
    clear HJ
    obtain ⟨i, hi, rfl, rfl, HJ⟩ := hrel
    by_cases hlt : i < m
    · obtain ⟨e0, he⟩ : ∃ e0, es[i]? = some e0 := ⟨_, List.getElem?_eq_getElem (by have := HE.out.len; omega)⟩
      obtain ⟨b, o, hA, hbl, hcc⟩ := HE.out.rd.2.2.2 (by omega)
      subst hA
      have hbp : b ≠ p6 := by have h1 := HLO.out _ rfl; have h2 := HP.out.2.2.2; dsimp only at h1; omega
      have hrow : wr.heap[b]? = w1.heap[b]? := HJ.out.gr.block b hbl (fun e => hbp (by simpa using e))
      have hce := fun j u (hu : e0.cells[j]? = some u) => (World.cell?_of_block (a := ⟨b, o + (i * 10 + j), none⟩) hrow).trans (hcc _ _ (ens_get es i _ he j u hu))
      have hbw : b < wr.heap.size := Nat.lt_of_lt_of_le hbl HJ.out.gr.size
      have h6w : p6 < wr.heap.size := (Array.getElem?_eq_some_iff.1 HJ.out.r6).1
      have HBW := Lib.hid (HB.out.grown HJ.out.gr HB.out.size (fun k e => by cases e; exact HP.out.2.2.1))
      have HV := Lib.hid (fun W' (hb' : Below wr.heap.size wr W') => HV0.out W' (HBW.out.trans (hb'.mono HBW.out.size)) e0 (List.mem_of_getElem? he))
      have hst : bestOf (vd es) ix (es.take (i + 1)) = if btr (vd es) ix (bestOf (vd es) ix (es.take i)) e0 then some e0 else bestOf (vd es) ix (es.take i) := fold_take he
      have c6 : wr.cell? ⟨p6, 1, none⟩ = some (.int .u64 ((curE (bestOf (vd es) ix (es.take i))).tm : Int)) := (cell_of_row wr p6 1 _ _ _ HJ.out.r6).trans rfl
      have HS := Lib.hid hst
      have hlti : (i : Int) < (m : Int) := by omega
      clear hcc he hrow hst hbl
      generalize hO : bestOf (vd es) ix (es.take i) = O at *
      clear hO
      generalize hVD : vd es e0 = T at *
      have HVD := Lib.hid hVD
      clear hVD
      have hbt : btr (vd es) ix O e0 = (decide (e0.ix = ix) && ((!O.isSome || decide ((curE O).tm < e0.tm)) && !T)) := by unfold btr curE; rw [HVD.out]; cases O <;> simp
      rw [hbt] at HS
      clear hbt
      obtain ⟨ixx, tm, st, kd, cl, rq, fr, ct, da, A1, bn, bc, ls⟩ := e0
      unfold En.cells at hce HV
      dsimp only at *
      have k0 := hce 0 _ rfl
      have k1 := hce 1 _ rfl
      have k2 := hce 2 _ rfl
      have k3 := hce 3 _ rfl
      have k4 := hce 4 _ rfl
      have k5 := hce 5 _ rfl
      have k6 := hce 6 _ rfl
      have k7 := hce 7 _ rfl
      have k8 := hce 8 _ rfl
      have k9 := hce 9 _ rfl
      try dsimp only at k0 k1 k2 k3 k4 k5 k6 k7 k8 k9
      simp only [← Nat.add_assoc, Nat.add_zero] at k0 k1 k2 k3 k4 k5 k6 k7 k8 k9
      clear hce
      by_cases hi0 : ixx = ix
      · subst hi0
        cases T
        · cases O with
          | none =>
            have HT : Hid (bestOf (vd es) ixx (es.take (i + 1)) = some ⟨ixx, tm, st, kd, cl, rq, fr, ct, da, A1, bn, bc, ls⟩) := Lib.hid (by rw [HS.out]; simp)
            clear HS
            simp only [Option.isSome_none]
            go_wp2_with (fail)
            refine wp_low wr.heap.size [([0, 1, 2, 3, 4, 5, 6, 7, 8, 9, 10, 11, 12], 13)] [14, 15, 16, 17, 18, 19, 20, 21, 22, 23, 24, 25, 26, 27, 28, 29] (by kernel_rfl) (by kernel_rfl) (fun d _ _ _ _ h => by cases d <;> exact h) (Nat.le_refl _) fun wd hbd => ?_
            intro q hq
            have d0 := fun z => kept (hq z) k0 hbw
            have d1 := fun z => kept (hq z) k1 hbw
            have d2 := fun z => kept (hq z) k2 hbw
            have d3 := fun z => kept (hq z) k3 hbw
            have d4 := fun z => kept (hq z) k4 hbw
            have d5 := fun z => kept (hq z) k5 hbw
            have d6 := fun z => kept (hq z) k6 hbw
            have d7 := fun z => kept (hq z) k7 hbw
            have d8 := fun z => kept (hq z) k8 hbw
            have d9 := fun z => kept (hq z) k9 hbw
            have d10 := fun z => kept (hq z) c6 h6w
            simp only [pickI, Option.toList_some, List.cons_append, List.nil_append, List.getElem?_toArray, List.getElem?_cons_succ, List.getElem?_cons_zero]
            try go_frame
            go_big_quiet_step (fail)
            go_big_quiet_step (fail)
            go_big_quiet_step (fail)
            go_big_quiet_step (fail)
            go_big_quiet_step (fail)
            go_big_quiet_step (fail)
            go_big_quiet_step (fail)
            go_big_quiet_step (fail)
            go_big_quiet_step (fail)
            go_big_quiet_step (fail)
            go_big_quiet_step (fail)
            go_big_quiet_step (fail)
            go_big_quiet_step (fail)
            refine wpQuiet_nil ?_
            clear hq q d0 d1 d2 d3 d4 d5 d6 d7 d8 d9 d10
            refine seg_op (by simp only [List.getElem?_toArray, List.getElem?_cons_succ, List.getElem?_cons_zero]; rfl) fun K hK => ?_
            go_simp
            refine (HV.out _ hbd).mono ?_
            rintro e v0 ⟨rfl, bv0⟩
            have zv0 := hbd.trans (bv0.mono hbd.size)
            refine hK.out _ _ (seg_keep zv0 ?_)
            clear hK K
            intro q hq
            have d0 := fun z => kept (hq z) k0 hbw
            have d1 := fun z => kept (hq z) k1 hbw
            have d2 := fun z => kept (hq z) k2 hbw
            have d3 := fun z => kept (hq z) k3 hbw
            have d4 := fun z => kept (hq z) k4 hbw
            have d5 := fun z => kept (hq z) k5 hbw
            have d6 := fun z => kept (hq z) k6 hbw
            have d7 := fun z => kept (hq z) k7 hbw
            have d8 := fun z => kept (hq z) k8 hbw
            have d9 := fun z => kept (hq z) k9 hbw
            have d10 := fun z => kept (hq z) c6 h6w
            simp only [pickI, Option.toList_some, List.cons_append, List.nil_append, List.getElem?_toArray, List.getElem?_cons_succ, List.getElem?_cons_zero]
            try go_frame
            go_big_quiet_step (fail)
            go_big_quiet_step (fail)
            go_big_quiet_step (fail)
            go_big_quiet_step (fail)
            go_big_quiet_step (fail)
            go_big_quiet_step (fail)
            go_big_quiet_step (fail)
            go_big_quiet_step (fail)
            go_big_quiet_step (fail)
            go_big_quiet_step (fail)
            go_big_quiet_step (fail)
            go_big_quiet_step (fail)
            go_big_quiet_step (fail)
            go_big_quiet_step (fail)
            go_big_quiet_step (fail)
            go_big_quiet_step (fail)
            refine wpQuiet_nil ?_
            clear hq q d0 d1 d2 d3 d4 d5 d6 d7 d8 d9 d10
            have k0 := kept zv0 k0 hbw
            have k1 := kept zv0 k1 hbw
            have k2 := kept zv0 k2 hbw
            have k3 := kept zv0 k3 hbw
            have k4 := kept zv0 k4 hbw
            have k5 := kept zv0 k5 hbw
            have k6 := kept zv0 k6 hbw
            have k7 := kept zv0 k7 hbw
            have k8 := kept zv0 k8 hbw
            have k9 := kept zv0 k9 hbw
            go_wp2_with (first
              | (refine wpL_estore rfl (.tmp 6) (.tmp 51) rfl (e := ⟨ixx, tm, st, kd, cl, rq, fr, ct, da, A1, bn, bc, ls⟩) (d := curE none) rfl rfl (RJ.below HJ.out zv0).r6 ?_; intro W9 hr9 hg9 hz9)
              | fail)
            go_roundw
            case rel => exact ⟨i + 1, by omega, by go_num, by rw [HT.out]; rfl, Lib.hid (by rw [HT.out]; exact (RJ.below HJ.out zv0).put hr9.out hg9)⟩
            case measure => simp [intOf]; omega
          | some e1 =>
            have HS' : Hid (bestOf (vd es) ixx (es.take (i + 1)) = if (decide (ixx = ixx) && ((!(some e1).isSome || decide (e1.tm < tm)) && !false)) = true then some ⟨ixx, tm, st, kd, cl, rq, fr, ct, da, A1, bn, bc, ls⟩ else some e1) := HS
            clear HS
            have HS := HS'
            clear HS'
            have c6' : wr.cell? ⟨p6, 1, none⟩ = some (.int .u64 (e1.tm : Int)) := c6
            clear c6
            have c6 := c6'
            clear c6'
            simp only [Option.isSome_some]
            by_cases htm : e1.tm < tm
            · have HT : Hid (bestOf (vd es) ixx (es.take (i + 1)) = some ⟨ixx, tm, st, kd, cl, rq, fr, ct, da, A1, bn, bc, ls⟩) := Lib.hid (by rw [HS.out]; simp [htm])
              clear HS
              generalize htt : e1.tm = t1 at *
              clear htt
              go_wp2_with (fail)
              refine wp_low wr.heap.size [([0, 1, 2, 3, 4, 5, 6, 7, 8, 9, 10, 11, 12], 13)] [14, 15, 16, 17, 18, 19, 20, 21, 22, 23, 24, 25, 26, 27, 28, 29] (by kernel_rfl) (by kernel_rfl) (fun d _ _ _ _ h => by cases d <;> exact h) (Nat.le_refl _) fun wd hbd => ?_
              intro q hq
              have d0 := fun z => kept (hq z) k0 hbw
              have d1 := fun z => kept (hq z) k1 hbw
              have d2 := fun z => kept (hq z) k2 hbw
              have d3 := fun z => kept (hq z) k3 hbw
              have d4 := fun z => kept (hq z) k4 hbw
              have d5 := fun z => kept (hq z) k5 hbw
              have d6 := fun z => kept (hq z) k6 hbw
              have d7 := fun z => kept (hq z) k7 hbw
              have d8 := fun z => kept (hq z) k8 hbw
              have d9 := fun z => kept (hq z) k9 hbw
              have d10 := fun z => kept (hq z) c6 h6w
              simp only [pickI, Option.toList_some, List.cons_append, List.nil_append, List.getElem?_toArray, List.getElem?_cons_succ, List.getElem?_cons_zero]
              try go_frame
              go_big_quiet_step (fail)
              go_big_quiet_step (fail)
              go_big_quiet_step (fail)
              go_big_quiet_step (fail)
              go_big_quiet_step (fail)
              go_big_quiet_step (fail)
              go_big_quiet_step (fail)
              go_big_quiet_step (fail)
              go_big_quiet_step (fail)
              go_big_quiet_step (fail)
              go_big_quiet_step (fail)
              go_big_quiet_step (fail)
              go_big_quiet_step (fail)
              refine wpQuiet_nil ?_
              clear hq q d0 d1 d2 d3 d4 d5 d6 d7 d8 d9 d10
              refine seg_op (by simp only [List.getElem?_toArray, List.getElem?_cons_succ, List.getElem?_cons_zero]; rfl) fun K hK => ?_
              go_simp
              refine (HV.out _ hbd).mono ?_
              rintro e v0 ⟨rfl, bv0⟩
              have zv0 := hbd.trans (bv0.mono hbd.size)
              refine hK.out _ _ (seg_keep zv0 ?_)
              clear hK K
              intro q hq
              have d0 := fun z => kept (hq z) k0 hbw
              have d1 := fun z => kept (hq z) k1 hbw
              have d2 := fun z => kept (hq z) k2 hbw
              have d3 := fun z => kept (hq z) k3 hbw
              have d4 := fun z => kept (hq z) k4 hbw
              have d5 := fun z => kept (hq z) k5 hbw
              have d6 := fun z => kept (hq z) k6 hbw
              have d7 := fun z => kept (hq z) k7 hbw
              have d8 := fun z => kept (hq z) k8 hbw
              have d9 := fun z => kept (hq z) k9 hbw
              have d10 := fun z => kept (hq z) c6 h6w
              simp only [pickI, Option.toList_some, List.cons_append, List.nil_append, List.getElem?_toArray, List.getElem?_cons_succ, List.getElem?_cons_zero]
              try go_frame
              go_big_quiet_step (fail)
              go_big_quiet_step (fail)
              go_big_quiet_step (fail)
              go_big_quiet_step (fail)
              go_big_quiet_step (fail)
              go_big_quiet_step (fail)
              go_big_quiet_step (fail)
              go_big_quiet_step (fail)
              go_big_quiet_step (fail)
              go_big_quiet_step (fail)
              go_big_quiet_step (fail)
              go_big_quiet_step (fail)
              go_big_quiet_step (fail)
              go_big_quiet_step (fail)
              go_big_quiet_step (fail)
              go_big_quiet_step (fail)
              refine wpQuiet_nil ?_
              clear hq q d0 d1 d2 d3 d4 d5 d6 d7 d8 d9 d10
              have k0 := kept zv0 k0 hbw
              have k1 := kept zv0 k1 hbw
              have k2 := kept zv0 k2 hbw
              have k3 := kept zv0 k3 hbw
              have k4 := kept zv0 k4 hbw
              have k5 := kept zv0 k5 hbw
              have k6 := kept zv0 k6 hbw
              have k7 := kept zv0 k7 hbw
              have k8 := kept zv0 k8 hbw
              have k9 := kept zv0 k9 hbw
              go_wp2_with (first
                | (refine wpL_estore rfl (.tmp 6) (.tmp 51) rfl (e := ⟨ixx, tm, st, kd, cl, rq, fr, ct, da, A1, bn, bc, ls⟩) (d := curE (some e1)) rfl rfl (RJ.below HJ.out zv0).r6 ?_; intro W9 hr9 hg9 hz9)
                | fail)
              go_roundw
              case rel => exact ⟨i + 1, by omega, by go_num, by rw [HT.out]; rfl, Lib.hid (by rw [HT.out]; exact (RJ.below HJ.out zv0).put hr9.out hg9)⟩
              case measure => simp [intOf]; omega
            · have HT : Hid (bestOf (vd es) ixx (es.take (i + 1)) = some e1) := Lib.hid (by rw [HS.out]; simp [htm])
              clear HS
              generalize htt : e1.tm = t1 at *
              clear htt
              go_wp2_with (fail)
              refine wp_low wr.heap.size [([0, 1, 2, 3, 4, 5, 6, 7, 8, 9, 10, 11, 12], 13)] [14, 15, 16, 17, 18, 19, 20, 21, 22, 23, 24, 25, 26, 27, 28, 29] (by kernel_rfl) (by kernel_rfl) (fun d _ _ _ _ h => by cases d <;> exact h) (Nat.le_refl _) fun wd hbd => ?_
              intro q hq
              have d0 := fun z => kept (hq z) k0 hbw
              have d1 := fun z => kept (hq z) k1 hbw
              have d2 := fun z => kept (hq z) k2 hbw
              have d3 := fun z => kept (hq z) k3 hbw
              have d4 := fun z => kept (hq z) k4 hbw
              have d5 := fun z => kept (hq z) k5 hbw
              have d6 := fun z => kept (hq z) k6 hbw
              have d7 := fun z => kept (hq z) k7 hbw
              have d8 := fun z => kept (hq z) k8 hbw
              have d9 := fun z => kept (hq z) k9 hbw
              have d10 := fun z => kept (hq z) c6 h6w
              simp only [pickI, Option.toList_some, List.cons_append, List.nil_append, List.getElem?_toArray, List.getElem?_cons_succ, List.getElem?_cons_zero]
              try go_frame
              go_big_quiet_step (fail)
              go_big_quiet_step (fail)
              go_big_quiet_step (fail)
              go_big_quiet_step (fail)
              go_big_quiet_step (fail)
              go_big_quiet_step (fail)
              go_big_quiet_step (fail)
              go_big_quiet_step (fail)
              go_big_quiet_step (fail)
              go_big_quiet_step (fail)
              go_big_quiet_step (fail)
              go_big_quiet_step (fail)
              go_big_quiet_step (fail)
              refine wpQuiet_nil ?_
              clear hq q d0 d1 d2 d3 d4 d5 d6 d7 d8 d9 d10
              refine seg_op (by simp only [List.getElem?_toArray, List.getElem?_cons_succ, List.getElem?_cons_zero]; rfl) fun K hK => ?_
              go_simp
              refine (HV.out _ hbd).mono ?_
              rintro e v0 ⟨rfl, bv0⟩
              have zv0 := hbd.trans (bv0.mono hbd.size)
              refine hK.out _ _ (seg_keep zv0 ?_)
              clear hK K
              intro q hq
              have d0 := fun z => kept (hq z) k0 hbw
              have d1 := fun z => kept (hq z) k1 hbw
              have d2 := fun z => kept (hq z) k2 hbw
              have d3 := fun z => kept (hq z) k3 hbw
              have d4 := fun z => kept (hq z) k4 hbw
              have d5 := fun z => kept (hq z) k5 hbw
              have d6 := fun z => kept (hq z) k6 hbw
              have d7 := fun z => kept (hq z) k7 hbw
              have d8 := fun z => kept (hq z) k8 hbw
              have d9 := fun z => kept (hq z) k9 hbw
              have d10 := fun z => kept (hq z) c6 h6w
              simp only [pickI, Option.toList_some, List.cons_append, List.nil_append, List.getElem?_toArray, List.getElem?_cons_succ, List.getElem?_cons_zero]
              try go_frame
              go_big_quiet_step (fail)
              go_big_quiet_step (fail)
              go_big_quiet_step (fail)
              go_big_quiet_step (fail)
              go_big_quiet_step (fail)
              go_big_quiet_step (fail)
              go_big_quiet_step (fail)
              go_big_quiet_step (fail)
              go_big_quiet_step (fail)
              go_big_quiet_step (fail)
              go_big_quiet_step (fail)
              go_big_quiet_step (fail)
              go_big_quiet_step (fail)
              go_big_quiet_step (fail)
              go_big_quiet_step (fail)
              go_big_quiet_step (fail)
              refine wpQuiet_nil ?_
              clear hq q d0 d1 d2 d3 d4 d5 d6 d7 d8 d9 d10
              go_wp2
              go_roundw
              case rel => exact ⟨i + 1, by omega, by go_num, by rw [HT.out] <;> rfl, Lib.hid (by rw [HT.out]; exact RJ.below HJ.out zv0)⟩
              case measure => simp [intOf]; omega
        · have HT : Hid (bestOf (vd es) ixx (es.take (i + 1)) = O) := Lib.hid (by rw [HS.out]; simp)
          go_wp2_with (fail)
          refine wp_low wr.heap.size [([0, 1, 2, 3, 4, 5, 6, 7, 8, 9, 10, 11, 12], 13)] [14, 15, 16, 17, 18, 19, 20, 21, 22, 23, 24, 25, 26, 27, 28, 29] (by kernel_rfl) (by kernel_rfl) (fun d _ _ _ _ h => by cases d <;> exact h) (Nat.le_refl _) fun wd hbd => ?_
          intro q hq
          have d0 := fun z => kept (hq z) k0 hbw
          have d1 := fun z => kept (hq z) k1 hbw
          have d2 := fun z => kept (hq z) k2 hbw
          have d3 := fun z => kept (hq z) k3 hbw
          have d4 := fun z => kept (hq z) k4 hbw
          have d5 := fun z => kept (hq z) k5 hbw
          have d6 := fun z => kept (hq z) k6 hbw
          have d7 := fun z => kept (hq z) k7 hbw
          have d8 := fun z => kept (hq z) k8 hbw
          have d9 := fun z => kept (hq z) k9 hbw
          have d10 := fun z => kept (hq z) c6 h6w
          simp only [pickI, Option.toList_some, List.cons_append, List.nil_append, List.getElem?_toArray, List.getElem?_cons_succ, List.getElem?_cons_zero]
          try go_frame
          go_big_quiet_step (fail)
          go_big_quiet_step (fail)
          go_big_quiet_step (fail)
          go_big_quiet_step (fail)
          go_big_quiet_step (fail)
          go_big_quiet_step (fail)
          go_big_quiet_step (fail)
          go_big_quiet_step (fail)
          go_big_quiet_step (fail)
          go_big_quiet_step (fail)
          go_big_quiet_step (fail)
          go_big_quiet_step (fail)
          go_big_quiet_step (fail)
          refine wpQuiet_nil ?_
          clear hq q d0 d1 d2 d3 d4 d5 d6 d7 d8 d9 d10
          refine seg_op (by simp only [List.getElem?_toArray, List.getElem?_cons_succ, List.getElem?_cons_zero]; rfl) fun K hK => ?_
          go_simp
          refine (HV.out _ hbd).mono ?_
          rintro e v0 ⟨rfl, bv0⟩
          have zv0 := hbd.trans (bv0.mono hbd.size)
          refine hK.out _ _ (seg_keep zv0 ?_)
          clear hK K
          intro q hq
          have d0 := fun z => kept (hq z) k0 hbw
          have d1 := fun z => kept (hq z) k1 hbw
          have d2 := fun z => kept (hq z) k2 hbw
          have d3 := fun z => kept (hq z) k3 hbw
          have d4 := fun z => kept (hq z) k4 hbw
          have d5 := fun z => kept (hq z) k5 hbw
          have d6 := fun z => kept (hq z) k6 hbw
          have d7 := fun z => kept (hq z) k7 hbw
          have d8 := fun z => kept (hq z) k8 hbw
          have d9 := fun z => kept (hq z) k9 hbw
          have d10 := fun z => kept (hq z) c6 h6w
          simp only [pickI, Option.toList_some, List.cons_append, List.nil_append, List.getElem?_toArray, List.getElem?_cons_succ, List.getElem?_cons_zero]
          try go_frame
          go_big_quiet_step (fail)
          go_big_quiet_step (fail)
          go_big_quiet_step (fail)
          go_big_quiet_step (fail)
          go_big_quiet_step (fail)
          go_big_quiet_step (fail)
          go_big_quiet_step (fail)
          go_big_quiet_step (fail)
          go_big_quiet_step (fail)
          go_big_quiet_step (fail)
          go_big_quiet_step (fail)
          go_big_quiet_step (fail)
          go_big_quiet_step (fail)
          go_big_quiet_step (fail)
          go_big_quiet_step (fail)
          go_big_quiet_step (fail)
          refine wpQuiet_nil ?_
          clear hq q d0 d1 d2 d3 d4 d5 d6 d7 d8 d9 d10
          go_wp2
          go_roundw
          case rel => exact ⟨i + 1, by omega, by go_num, by rw [HT.out] <;> rfl, Lib.hid (by rw [HT.out]; exact RJ.below HJ.out zv0)⟩
          case measure => simp [intOf]; omega
      · have HT : Hid (bestOf (vd es) ix (es.take (i + 1)) = O) := Lib.hid (by rw [HS.out]; simp [hi0])
        have q : ((ixx : Int) == (ix : Int)) = false := by simp; omega
        go_wp2_with (fail)
        refine wp_low wr.heap.size [([0, 1, 2, 3, 4, 5, 6, 7, 8, 9, 10, 11, 12], 13)] [14, 15, 16, 17, 18, 19, 20, 21, 22, 23, 24, 25, 26, 27, 28, 29] (by kernel_rfl) (by kernel_rfl) (fun d _ _ _ _ h => by cases d <;> exact h) (Nat.le_refl _) fun wd hbd => ?_
        intro q hq
        have d0 := fun z => kept (hq z) k0 hbw
        have d1 := fun z => kept (hq z) k1 hbw
        have d2 := fun z => kept (hq z) k2 hbw
        have d3 := fun z => kept (hq z) k3 hbw
        have d4 := fun z => kept (hq z) k4 hbw
        have d5 := fun z => kept (hq z) k5 hbw
        have d6 := fun z => kept (hq z) k6 hbw
        have d7 := fun z => kept (hq z) k7 hbw
        have d8 := fun z => kept (hq z) k8 hbw
        have d9 := fun z => kept (hq z) k9 hbw
        have d10 := fun z => kept (hq z) c6 h6w
        simp only [pickI, Option.toList_some, List.cons_append, List.nil_append, List.getElem?_toArray, List.getElem?_cons_succ, List.getElem?_cons_zero]
        try go_frame
        go_big_quiet_step (fail)
        go_big_quiet_step (fail)
        go_big_quiet_step (fail)
        go_big_quiet_step (fail)
        go_big_quiet_step (fail)
        go_big_quiet_step (fail)
        go_big_quiet_step (fail)
        go_big_quiet_step (fail)
        go_big_quiet_step (fail)
        go_big_quiet_step (fail)
        go_big_quiet_step (fail)
        go_big_quiet_step (fail)
        go_big_quiet_step (fail)
        refine wpQuiet_nil ?_
        clear hq q d0 d1 d2 d3 d4 d5 d6 d7 d8 d9 d10
        refine seg_op (by simp only [List.getElem?_toArray, List.getElem?_cons_succ, List.getElem?_cons_zero]; rfl) fun K hK => ?_
        go_simp
        refine hK.out _ _ (seg_keep hbd ?_)
        clear hK K
        intro q hq
        have d0 := fun z => kept (hq z) k0 hbw
        have d1 := fun z => kept (hq z) k1 hbw
        have d2 := fun z => kept (hq z) k2 hbw
        have d3 := fun z => kept (hq z) k3 hbw
        have d4 := fun z => kept (hq z) k4 hbw
        have d5 := fun z => kept (hq z) k5 hbw
        have d6 := fun z => kept (hq z) k6 hbw
        have d7 := fun z => kept (hq z) k7 hbw
        have d8 := fun z => kept (hq z) k8 hbw
        have d9 := fun z => kept (hq z) k9 hbw
        have d10 := fun z => kept (hq z) c6 h6w
        simp only [pickI, Option.toList_some, List.cons_append, List.nil_append, List.getElem?_toArray, List.getElem?_cons_succ, List.getElem?_cons_zero]
        try go_frame
        go_big_quiet_step (fail)
        go_big_quiet_step (fail)
        go_big_quiet_step (fail)
        go_big_quiet_step (fail)
        go_big_quiet_step (fail)
        go_big_quiet_step (fail)
        go_big_quiet_step (fail)
        go_big_quiet_step (fail)
        go_big_quiet_step (fail)
        go_big_quiet_step (fail)
        go_big_quiet_step (fail)
        go_big_quiet_step (fail)
        go_big_quiet_step (fail)
        go_big_quiet_step (fail)
        go_big_quiet_step (fail)
        go_big_quiet_step (fail)
        refine wpQuiet_nil ?_
        clear hq q d0 d1 d2 d3 d4 d5 d6 d7 d8 d9 d10
        go_wp2
        go_roundw
        case rel => exact ⟨i + 1, by omega, by go_num, by rw [HT.out] <;> rfl, Lib.hid (by rw [HT.out]; exact RJ.below HJ.out hbd)⟩
        case measure => simp [intOf]; omega
    · obtain rfl : i = m := by omega
      rw [List.take_of_length_le (by have := HE.out.len; omega)] at HJ ⊢
      have hr4 := (HJ.out.gr.block p4 (Array.getElem?_eq_some_iff.1 HR.out).1 (fun e => HP.out.1 (by simpa using e))).trans HR.out
      have HR4 := Lib.hid hr4
      have HBW := Lib.hid (HB.out.grown HJ.out.gr HB.out.size (fun k e => by cases e; exact HP.out.2.2.1))
      clear hr4
      generalize hO2 : bestOf (vd es) ix es = O at *
      have HO2 := Lib.hid hO2
      clear hO2
      go_wp2_with (first
        | (refine wpL_midk rfl _ (.tmp 6) rfl _ rfl (.agg (curE O).cells) (e_loads HJ.out.r6) ?_; intro K hK; go_simp; refine hK _ _ ?_; clear hK K)
        | (refine wpL_estore rfl (.tmp 4) (.tmp 52) rfl (e := curE O) (d := Ez) rfl rfl HR4.out ?_; intro W9 hr9 hg9 hz9)
        | fail)
      refine bodyPost_ret (results_row_tmp rfl _ p4 29 _ (0, 0) _ rfl hr9.out Try.underlying29 rfl (by rw [e_size]; rfl)) rfl ⟨by rw [HO2.out]; rfl, HBW.out.grown hg9 HBW.out.size (fun k e => by cases e; exact HP.out.2.1)⟩
end Go.Proofs.Ytoopeppcmoolgaa
