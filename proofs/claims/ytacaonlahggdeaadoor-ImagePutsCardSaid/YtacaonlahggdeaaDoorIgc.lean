/- A block of an image; an image as the document's. -/
import Derived.Test.YtacaonlahggdeaaDoorIgb
namespace Go.Proofs.YtacaonlahggdeaaDoor
open Go.RowKit
set_option maxRecDepth 20000

set_option maxHeartbeats 2000000 in
theorem iblock_any (i : Im) (n : Nat) (w : World) (hT : i.T.length = 8) (hn : n < 4294967296) (hlen : i.l.length ≤ 100000) :
    Calls Tryd.prog 12 #[imv i, .int .u32 (n : Int)] w fun e w' => e = .returned (.string (str (blk i n))) ∧ Below w.heap.size w w' := by
  have hs : (str i.l).size = i.l.length := rfl
  have hcount := fun W => count_any i W hlen
  have hisz := fun W => isize_any n W hn
  have hT8 := Lib.hid hT
  obtain ⟨m, hm⟩ : ∃ m, m = n * 8 := ⟨_, rfl⟩
  rw [← hm] at hisz
  obtain ⟨k, hk⟩ : ∃ k, k = i.l.length / 8 := ⟨_, rfl⟩
  rw [← hk] at hcount
  have HC := Lib.hid hcount
  have HI := Lib.hid hisz
  clear hcount hisz hT
  by_cases h : n < k
  · have hm8 : m + 8 ≤ i.l.length := by omega
    have hx : (str i.l).extract m i.l.length = str (i.l.drop m) := str_drop i.l m
    have hxs : (str (i.l.drop m)).size = i.l.length - m := by rw [str_size, List.length_drop]
    have hf : (str (i.l.drop m)).extract 0 8 = str (blk i n) := by
      rw [str_take]
      unfold blk
      rw [if_pos (by omega), hm, Nat.mul_comm]
    have HF := Lib.hid hf
    clear hf
    have q1 : decide ((k : Int) ≤ (n : Int)) = false := by simp; omega
    have q1n : ¬ k ≤ n := by omega
    have hm0 : (m : Int) ≤ (i.l.length : Int) := by omega
    have h8 : (8 : Int) ≤ ((str (i.l.drop m)).size : Int) := by rw [hxs]; omega
    clear hm hk h
    go_enter Tryd.func12, Tryd.ntmps12
    go_wp2_with (first
      | (refine wpL_rbox (cs := icells i) rfl (.tmp 0) rfl rfl ?_; intro W0 b hN; obtain ⟨hb, hr, hl1, hz⟩ := hN)
      | (refine imA.wpLoad rfl (.tmp 2) rfl rfl hr.out hT8.out ?_)
      | (go_at_call 27; refine (HC.out _).mono ?_; rintro e W ⟨rfl, hb1⟩; have HR := Lib.hid (row_below hr.out hb1); have HB := Lib.hid (hl1.trans (hb1.mono hl1.size)); have hbW : b < W.heap.size := by have := hz.out; have := hb1.size; omega)
      | fail)
    clear hr hl1 hz hb1
    refine wp_low W.heap.size [([0, 1, 2], 3)] [4, 5, 6] (by kernel_rfl) (by kernel_rfl) (fun d _ _ _ _ h => by cases d <;> exact h) (Nat.le_refl _) fun wd hbd => ?_
    intro q hq
    have d2 := fun z => icell2 (below_row (hq z) HR.out hbW)
    simp only [pickI, Option.toList_some, List.cons_append, List.nil_append, List.getElem?_toArray, List.getElem?_cons_succ, List.getElem?_cons_zero]
    try go_frame
    go_big_quiet_step (fail)
    go_big_quiet_step (fail)
    go_big_quiet_step (fail)
    refine wpQuiet_nil ?_
    clear hq q d2
    refine seg_op (by simp only [List.getElem?_toArray, List.getElem?_cons_succ, List.getElem?_cons_zero]; rfl) fun K hK => ?_
    go_simp
    refine (HI.out _).mono ?_
    rintro e v0 ⟨rfl, bv0⟩
    have zv0 := hbd.trans (bv0.mono hbd.size)
    refine hK.out _ _ (seg_keep zv0 ?_)
    clear hK K
    intro q hq
    have d2 := fun z => icell2 (below_row (hq z) HR.out hbW)
    simp only [pickI, Option.toList_some, List.cons_append, List.nil_append, List.getElem?_toArray, List.getElem?_cons_succ, List.getElem?_cons_zero]
    try go_frame
    go_big_quiet_step (fail)
    go_big_quiet_step (fail)
    go_big_quiet_step (fail)
    refine wpQuiet_nil ?_
    clear hq q d2
    have hfin := HB.out.trans (zv0.mono HB.out.size)
    go_wp2
    go_ret
    exact ⟨by rw [← HF.out, ← hx]; rfl, hfin⟩
  · have hf : blk i n = [] := by unfold blk; rw [if_neg (by omega)]
    rw [hf]
    have q1 : decide ((k : Int) ≤ (n : Int)) = true := by simp; omega
    have q1n : k ≤ n := by omega
    clear hf hm hk h
    go_enter Tryd.func12, Tryd.ntmps12
    go_wp2_with (first
      | (refine wpL_rbox (cs := icells i) rfl (.tmp 0) rfl rfl ?_; intro W0 b hN; obtain ⟨hb, hr, hl1, hz⟩ := hN)
      | (refine imA.wpLoad rfl (.tmp 2) rfl rfl hr.out hT8.out ?_)
      | (go_at_call 27; refine (HC.out _).mono ?_; rintro e W ⟨rfl, hb1⟩; have HB := Lib.hid (hl1.trans (hb1.mono hl1.size)))
      | fail)
    go_ret
    exact ⟨rfl, HB.out⟩

end Go.Proofs.YtacaonlahggdeaaDoor
