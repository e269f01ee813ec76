/- The reference's Applied. -/
import Derived.Test.YtkcpldkdnnhmmaaRd
namespace Go.Proofs.Ytkcpldkdnnhmmaa
open Go.RowKit
set_option maxRecDepth 20000

/-- What the reference tells of those that go. -/
def RFreed (w : World) (B g hg : Nat) (v : Value) (t : Dk) (p : Wt → Bool) (e : Ending) (w' : World) : Prop := ∃ A c, e = .returned (.slice A (t.l.filter p).length c) ∧ w'.ownsRow w.heap.size 68 6 (.slice A (t.l.filter p).length c) (t.l.filter p).length (wts (t.l.filter p)) ∧ RMv w B g hg v (t.wait (t.l.filter fun x => !p x)) w'
set_option maxHeartbeats 4000000 in
theorem rapplied_any {w : World} {B g hg : Nat} {v : Value} {t : Dk} (h : Rg w B g hg v t) (hB : B ≤ w.heap.size) (L M : Nat) (hL : L < 18446744073709551616) (hM : M < 18446744073709551616) :
    Calls Try.prog 26 #[.pointer (some ⟨g, 0, none⟩), .agg #[.int .u64 (L : Int), .int .u64 (M : Int)]] w (RFreed w B g hg v t (Wt.done L M)) := by
  obtain ⟨W, hW, hz, s0, hb⟩ := Qu.boxes1 w #[.int .u64 (L : Int), .int .u64 (M : Int)] 67
  have hroom := h.ok.room
  obtain ⟨A, cc, rfl⟩ := h.form
  have HH := Lib.hid (h.below hb)
  have HH0 := Lib.hid h
  have HBW := Lib.hid hb
  have HB := Lib.hid hB
  have HZ := Lib.hid hz
  have HS := Lib.hid s0
  have HLM := Lib.hid (And.intro hL hM)
  clear h hb hB hz s0 hL hM
  unfold RFreed
  subst hW
  go_enter Try.func26, Try.ntmps26
  go_wp2_with (fail)
  obtain ⟨W, hW⟩ : ∃ W, W = w.alloc (.cells #[.int .u64 (L : Int), .int .u64 (M : Int)] 67) := ⟨_, rfl⟩
  rw [← hW] at HH HBW HZ HS ⊢
  clear hW
  go_loopw [5, 6, 7] (fun gr sr ir wr => ∃ i : Nat, i ≤ t.l.length ∧ ir = .int .i64 (i : Int) ∧ Hid (RTwo W wr gr sr ((t.l.take i).filter (Wt.done L M)) ((t.l.take i).filter fun x => !Wt.done L M x))) (fun _ _ ir _ => t.l.length - (intOf ir).toNat)
  case atStart => exact ⟨0, Nat.zero_le _, rfl, Lib.hid ⟨Below.refl _ _, World.ownsRow_nil _ _ _ _, World.ownsRow_nil _ _ _ _, fun q hq => by cases hq⟩⟩
  case round =>
    obtain ⟨i, hi, rfl, HT⟩ := hrel
    by_cases hlt : i < t.l.length
    · skip
      obtain ⟨y, hy⟩ : ∃ y, t.l[i]? = some y := ⟨_, List.getElem?_eq_getElem (by omega)⟩
      have hrd := ownsRow_rd (HH.out.below HT.out.bel).own
      obtain ⟨b, o, hA, hbb, hcc⟩ := hrd.2.2.2 (by omega)
      subst hA
      have hce := fun j u (hu : y.cells[j]? = some u) => hcc _ _ (wts_get t.l i y hy j u hu)
      have r0 := (HH.out.below HT.out.bel).c2
      have hlti : (i : Int) < (t.l.length : Int) := by omega
      have hii : (i : Int) ≤ 64 := by omega
      have hli : (t.l.length : Int) ≤ 64 := by omega
      have d5 : decide ((i : Int) < (t.l.length : Int)) = true := by simpa using hlti
      have m0 : wr.cell? ⟨w.heap.size, 0, none⟩ = some (.int .u64 (L : Int)) := Qu.kept HT.out.bel (cell_of_row W _ 0 _ _ _ HS.out) (by have := HZ.out; omega)
      have m1 : wr.cell? ⟨w.heap.size, 1, none⟩ = some (.int .u64 (M : Int)) := Qu.kept HT.out.bel (cell_of_row W _ 1 _ _ _ HS.out) (by have := HZ.out; omega)
      obtain ⟨A1, c1, rfl⟩ := ownsRow_form HT.out.oa
      obtain ⟨A2, c2, rfl⟩ := ownsRow_form HT.out.ob
      have hl1 : ((t.l.take i).filter (Wt.done L M)).length ≤ 64 := Nat.le_trans (List.length_filter_le _ _) (by rw [List.length_take]; omega)
      have hl2 : ((t.l.take i).filter fun x => !Wt.done L M x).length ≤ 64 := Nat.le_trans (List.length_filter_le _ _) (by rw [List.length_take]; omega)
      obtain ⟨cl, rq, ix, fr, ct, rd⟩ := y
      unfold Wt.cells at hce
      dsimp only at hce
      have k0 := hce 0 _ rfl
      have k1 := hce 1 _ rfl
      have k2 := hce 2 _ rfl
      have k3 := hce 3 _ rfl
      have k4 := hce 4 _ rfl
      have k5 := hce 5 _ rfl
      try dsimp only at k0 k1 k2 k3 k4 k5
      simp only [← Nat.add_assoc, Nat.add_zero] at k0 k1 k2 k3 k4 k5
      clear hce
      clear hrd hcc
      by_cases z0 : ix = 0
      · subst z0
        go_wp2_with (fail)
        refine wp_low wr.heap.size [([0, 1, 2, 3, 4, 5, 6, 7, 8, 9, 10, 11, 12, 13, 14, 15, 16, 17, 18], 19)] [20] (by kernel_rfl) (by kernel_rfl) (fun d _ _ _ _ h => by cases d <;> exact h) (Nat.le_refl _) fun wd hbd => ?_
        intro q hq
        have F0 := fun z => Qu.kept (hq z) r0 (World.block_lt_of_cell? _ _ r0)
        have F1 := fun z => Qu.kept (hq z) k2 hbb
        have F2 := fun z => Qu.kept (hq z) m0 (World.block_lt_of_cell? _ _ m0)
        have F3 := fun z => Qu.kept (hq z) m1 (World.block_lt_of_cell? _ _ m1)
        simp only [pickI, Option.toList_some, List.cons_append, List.nil_append, List.getElem?_toArray, List.getElem?_cons_succ, List.getElem?_cons_zero]
        try go_frame
        iterate 19 go_big_quiet_step (fail)
        refine wpQuiet_nil ?_
        clear hq q F0 F1 F2 F3
        refine seg_op (by simp only [List.getElem?_toArray, List.getElem?_cons_succ, List.getElem?_cons_zero]; rfl) fun K hK => ?_
        go_simp
        obtain ⟨w7, rfl⟩ : ∃ w7 : World, w7 = wd := ⟨_, rfl⟩
        have HB7 := Lib.hid hbd
        refine hK.out _ _ (seg_keep HB7.out ?_)
        clear hK K hbd
        intro q hq
        simp only [pickI, Option.toList_some, List.cons_append, List.nil_append, List.getElem?_toArray, List.getElem?_cons_succ, List.getElem?_cons_zero]
        try go_frame
        iterate 1 go_big_quiet_step (fail)
        refine wpQuiet_nil ?_
        clear hq q
        have HT7 := Lib.hid (HT.out.below HB7.out)
        have r07 := (HH.out.below HT7.out.bel).c2
        have n0 := Qu.kept HB7.out k0 hbb
        have n1 := Qu.kept HB7.out k1 hbb
        have n2 := Qu.kept HB7.out k2 hbb
        have n3 := Qu.kept HB7.out k3 hbb
        have n4 := Qu.kept HB7.out k4 hbb
        have n5 := Qu.kept HB7.out k5 hbb
        have hp : Wt.done L M ⟨cl, rq, 0, fr, ct, rd⟩ = false := by
          unfold Wt.done Wt.isRead; rfl
        have hp2 : (!Wt.done L M ⟨cl, rq, 0, fr, ct, rd⟩) = true := by rw [hp]; rfl
        have hf1 := filter_take (Wt.done L M) t.l hy
        have hf2 := filter_take (fun x => !Wt.done L M x) t.l hy
        rw [if_neg (by rw [hp]; decide), List.append_nil] at hf1
        rw [if_pos hp2] at hf2
        have HF1 := Lib.hid hf1
        have HF2 := Lib.hid hf2
        clear hf1 hf2 hp hp2 hy
        go_wp2_with (first
          | (at_builtin
             refine wpL_app rfl _ _ _ _ rfl E_rwt rfl rfl (HT7.out.below ((Below.refl _ _).alloc (Nat.le_refl _) _)).ob (Src.lit' rfl (n := 1) (sz := 6) Try.underlying41 #[.int .u64 (cl : Int), .int .u64 (rq : Int), .int .u64 ((0 : Nat) : Int), .int .u32 (fr : Int), .int .u32 (ct : Int), .int .u64 (rd : Int)] rfl (by simp [Value.oneCell'])) (by unfold maxLen; omega) (by omega) (Nat.le_trans HT7.out.bel.size (by simp)) ?_
             intro v3 w3 hown3 hg3 hat3)
          | fail)
        go_roundw
        case rel =>
          refine ⟨i + 1, by omega, by go_num, Lib.hid ?_⟩
          rw [HF1.out, HF2.out]
          exact (HT7.out.below ((Below.refl _ _).alloc (Nat.le_refl _) _)).appB (x := ⟨cl, rq, 0, fr, ct, rd⟩) hown3 hg3 hat3
        case measure => simp [intOf]; omega
      · have z0d : decide (0 < (ix : Int)) = true := by simp; omega
        have z0n : decide (0 < ix) = true := by simp; omega
        have z0q : 0 < ix := by omega
        have z0p : 0 < (ix : Int) := by omega
        have HHAS := Lib.hid (fun W => rhas_any L M ix W HLM.out.1 HLM.out.2 (by have := HH.out.ok.ix _ (List.mem_of_getElem? hy); exact this))
        cases hhs : Hs L M ix with
        | true =>
          rw [hhs] at HHAS
          go_wp2_with (fail)
          refine wp_low wr.heap.size [([0, 1, 2, 3, 4, 5, 6, 7, 8, 9, 10, 11, 12, 13, 14, 15, 16, 17, 18], 19)] [20] (by kernel_rfl) (by kernel_rfl) (fun d _ _ _ _ h => by cases d <;> exact h) (Nat.le_refl _) fun wd hbd => ?_
          intro q hq
          have F0 := fun z => Qu.kept (hq z) r0 (World.block_lt_of_cell? _ _ r0)
          have F1 := fun z => Qu.kept (hq z) k2 hbb
          have F2 := fun z => Qu.kept (hq z) m0 (World.block_lt_of_cell? _ _ m0)
          have F3 := fun z => Qu.kept (hq z) m1 (World.block_lt_of_cell? _ _ m1)
          simp only [pickI, Option.toList_some, List.cons_append, List.nil_append, List.getElem?_toArray, List.getElem?_cons_succ, List.getElem?_cons_zero]
          try go_frame
          iterate 19 go_big_quiet_step (fail)
          refine wpQuiet_nil ?_
          clear hq q F0 F1 F2 F3
          refine seg_op (by simp only [List.getElem?_toArray, List.getElem?_cons_succ, List.getElem?_cons_zero]; rfl) fun K hK => ?_
          go_simp
          refine (HHAS.out wd).mono ?_
          rintro e w7 ⟨rfl, hb7⟩
          have HB7 := Lib.hid (hbd.trans (hb7.mono hbd.size))
          refine hK.out _ _ (seg_keep HB7.out ?_)
          clear hK K hb7 hbd
          intro q hq
          simp only [pickI, Option.toList_some, List.cons_append, List.nil_append, List.getElem?_toArray, List.getElem?_cons_succ, List.getElem?_cons_zero]
          try go_frame
          iterate 1 go_big_quiet_step (fail)
          refine wpQuiet_nil ?_
          clear hq q
          have HT7 := Lib.hid (HT.out.below HB7.out)
          have r07 := (HH.out.below HT7.out.bel).c2
          have n0 := Qu.kept HB7.out k0 hbb
          have n1 := Qu.kept HB7.out k1 hbb
          have n2 := Qu.kept HB7.out k2 hbb
          have n3 := Qu.kept HB7.out k3 hbb
          have n4 := Qu.kept HB7.out k4 hbb
          have n5 := Qu.kept HB7.out k5 hbb
          have hp : Wt.done L M ⟨cl, rq, ix, fr, ct, rd⟩ = true := by
            unfold Wt.done Wt.isRead; simp [hhs, z0]
          have hp2 : ¬ (!Wt.done L M ⟨cl, rq, ix, fr, ct, rd⟩) = true := by rw [hp]; decide
          have hf1 := filter_take (Wt.done L M) t.l hy
          have hf2 := filter_take (fun x => !Wt.done L M x) t.l hy
          rw [if_pos hp] at hf1
          rw [if_neg hp2, List.append_nil] at hf2
          have HF1 := Lib.hid hf1
          have HF2 := Lib.hid hf2
          clear hf1 hf2 hp hp2 hy
          go_wp2_with (first
            | (at_builtin
               refine wpL_app rfl _ _ _ _ rfl E_rwt rfl rfl (HT7.out.below ((Below.refl _ _).alloc (Nat.le_refl _) _)).oa (Src.lit' rfl (n := 1) (sz := 6) Try.underlying41 #[.int .u64 (cl : Int), .int .u64 (rq : Int), .int .u64 (ix : Int), .int .u32 (fr : Int), .int .u32 (ct : Int), .int .u64 (rd : Int)] rfl (by simp [Value.oneCell'])) (by unfold maxLen; omega) (by omega) (Nat.le_trans HT7.out.bel.size (by simp)) ?_
               intro v3 w3 hown3 hg3 hat3)
            | fail)
          go_roundw
          case rel =>
            refine ⟨i + 1, by omega, by go_num, Lib.hid ?_⟩
            rw [HF1.out, HF2.out]
            exact (HT7.out.below ((Below.refl _ _).alloc (Nat.le_refl _) _)).appA (x := ⟨cl, rq, ix, fr, ct, rd⟩) hown3 hg3 hat3
          case measure => simp [intOf]; omega
        | false =>
          rw [hhs] at HHAS
          go_wp2_with (fail)
          refine wp_low wr.heap.size [([0, 1, 2, 3, 4, 5, 6, 7, 8, 9, 10, 11, 12, 13, 14, 15, 16, 17, 18], 19)] [20] (by kernel_rfl) (by kernel_rfl) (fun d _ _ _ _ h => by cases d <;> exact h) (Nat.le_refl _) fun wd hbd => ?_
          intro q hq
          have F0 := fun z => Qu.kept (hq z) r0 (World.block_lt_of_cell? _ _ r0)
          have F1 := fun z => Qu.kept (hq z) k2 hbb
          have F2 := fun z => Qu.kept (hq z) m0 (World.block_lt_of_cell? _ _ m0)
          have F3 := fun z => Qu.kept (hq z) m1 (World.block_lt_of_cell? _ _ m1)
          simp only [pickI, Option.toList_some, List.cons_append, List.nil_append, List.getElem?_toArray, List.getElem?_cons_succ, List.getElem?_cons_zero]
          try go_frame
          iterate 19 go_big_quiet_step (fail)
          refine wpQuiet_nil ?_
          clear hq q F0 F1 F2 F3
          refine seg_op (by simp only [List.getElem?_toArray, List.getElem?_cons_succ, List.getElem?_cons_zero]; rfl) fun K hK => ?_
          go_simp
          refine (HHAS.out wd).mono ?_
          rintro e w7 ⟨rfl, hb7⟩
          have HB7 := Lib.hid (hbd.trans (hb7.mono hbd.size))
          refine hK.out _ _ (seg_keep HB7.out ?_)
          clear hK K hb7 hbd
          intro q hq
          simp only [pickI, Option.toList_some, List.cons_append, List.nil_append, List.getElem?_toArray, List.getElem?_cons_succ, List.getElem?_cons_zero]
          try go_frame
          iterate 1 go_big_quiet_step (fail)
          refine wpQuiet_nil ?_
          clear hq q
          have HT7 := Lib.hid (HT.out.below HB7.out)
          have r07 := (HH.out.below HT7.out.bel).c2
          have n0 := Qu.kept HB7.out k0 hbb
          have n1 := Qu.kept HB7.out k1 hbb
          have n2 := Qu.kept HB7.out k2 hbb
          have n3 := Qu.kept HB7.out k3 hbb
          have n4 := Qu.kept HB7.out k4 hbb
          have n5 := Qu.kept HB7.out k5 hbb
          have hp : Wt.done L M ⟨cl, rq, ix, fr, ct, rd⟩ = false := by
            unfold Wt.done; simp [hhs]
          have hp2 : (!Wt.done L M ⟨cl, rq, ix, fr, ct, rd⟩) = true := by rw [hp]; rfl
          have hf1 := filter_take (Wt.done L M) t.l hy
          have hf2 := filter_take (fun x => !Wt.done L M x) t.l hy
          rw [if_neg (by rw [hp]; decide), List.append_nil] at hf1
          rw [if_pos hp2] at hf2
          have HF1 := Lib.hid hf1
          have HF2 := Lib.hid hf2
          clear hf1 hf2 hp hp2 hy
          go_wp2_with (first
            | (at_builtin
               refine wpL_app rfl _ _ _ _ rfl E_rwt rfl rfl (HT7.out.below ((Below.refl _ _).alloc (Nat.le_refl _) _)).ob (Src.lit' rfl (n := 1) (sz := 6) Try.underlying41 #[.int .u64 (cl : Int), .int .u64 (rq : Int), .int .u64 (ix : Int), .int .u32 (fr : Int), .int .u32 (ct : Int), .int .u64 (rd : Int)] rfl (by simp [Value.oneCell'])) (by unfold maxLen; omega) (by omega) (Nat.le_trans HT7.out.bel.size (by simp)) ?_
               intro v3 w3 hown3 hg3 hat3)
            | fail)
          go_roundw
          case rel =>
            refine ⟨i + 1, by omega, by go_num, Lib.hid ?_⟩
            rw [HF1.out, HF2.out]
            exact (HT7.out.below ((Below.refl _ _).alloc (Nat.le_refl _) _)).appB (x := ⟨cl, rq, ix, fr, ct, rd⟩) hown3 hg3 hat3
          case measure => simp [intOf]; omega
    · obtain rfl : i = t.l.length := by omega
      rw [List.take_of_length_le (Nat.le_refl _)] at HT
      have d5 : decide ((t.l.length : Int) < (t.l.length : Int)) = false := by simp
      have r0 := (HH.out.below HT.out.bel).c2
      have f0 := (HH.out.below HT.out.bel).fr 2
      have hli : (t.l.length : Int) ≤ 64 := by omega
      obtain ⟨A1, c1, rfl⟩ := ownsRow_form HT.out.oa
      obtain ⟨A2, c2, rfl⟩ := ownsRow_form HT.out.ob
      go_wp2
      go_ret
      have hset := Keeps.set wr g 2 (.slice A2 (t.l.filter fun x => !Wt.done L M x).length c2)
      have hlt := HH0.out.lt
      refine ⟨A1, c1, rfl, own_base (hset.own HT.out.oa (fun q hq e => by have := (HT.out.oa.lt q hq).1; have := HBW.out.size; omega)) HBW.out.size, ?_⟩
      exact RMv.pre (Keeps.of_below HBW.out) (HH.out.waits (l2 := t.l.filter fun x => !Wt.done L M x) (Keeps.of_below HT.out.bel) (own_base HT.out.ob (Nat.le_trans HB.out HBW.out.size)) (.inr fun q hq => (HT.out.ob.lt q hq).1) (Nat.le_trans (List.length_filter_le _ _) hroom) (fun x hx => HH0.out.ok.ix x (List.mem_filter.1 hx).1))
end Go.Proofs.Ytkcpldkdnnhmmaa
