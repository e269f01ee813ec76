/- Contracts of Common and Meet. -/
import Derived.Test.YtdaniaijlkflcaaUpto
namespace Go.Proofs.Ytdaniaijlkflcaa
open Go.RowKit

/-- What two spans have in common. -/
def cm (a b c d : Nat) : Nat × Nat := upt (max a c) (min (min 4294967296 (a + b)) (c + d))
theorem lim2 (a b c d : Nat) : lim [(false, a, b), (false, c, d)] = min (min 4294967296 b) d := rfl
theorem cm_lt (a b c d : Nat) : (cm a b c d).1 < 4294967296 ∧ (cm a b c d).2 < 4294967296 := upt_lt _ _ (Nat.le_trans (Nat.min_le_left _ _) (Nat.min_le_left _ _))

set_option maxHeartbeats 1000000 in
theorem common_any (a b c d : Nat) (w : World) (ha : a < 4294967296) (hb : b < 4294967296) (hc : c < 4294967296) (hd : d < 4294967296) :
    Calls Try.prog 27 #[.agg #[.int .u32 (a : Int), .int .u32 (b : Int)], .agg #[.int .u32 (c : Int), .int .u32 (d : Int)]] w fun e w' => e = .returned (.agg #[.int .u32 ((cm a b c d).1 : Int), .int .u32 ((cm a b c d).2 : Int)]) ∧ Below w.heap.size w w' := by
  obtain ⟨m, hm⟩ : ∃ m, m = max a c := ⟨_, rfl⟩
  have hmx : (if a < c then (c : Int) else (a : Int)) = (m : Int) := by rw [hm]; split <;> omega
  have hm32 : m < 4294967296 := by omega
  have HM := Lib.hid hm
  clear hm
  obtain ⟨p, hp⟩ : ∃ p, p = cm a b c d := ⟨_, rfl⟩
  rw [← hp]
  have HP := Lib.hid hp
  clear hp
  go_enter Try.func27, Try.ntmps27
  go_wp2
  refine wp_low (w.heap.size + 2) [([0, 1, 2, 3, 4, 5, 6, 9], 7), ([8], 10), ([11], 12), ([], 13), ([], 14)] [] (by kernel_rfl) (by kernel_rfl) (fun d _ _ _ _ h => by cases d <;> exact h) (by simp <;> omega) fun wd hbd => ?_
  obtain ⟨W, hW, hWs, r0, r1, r2, hwW⟩ := boxes3 w #[.int .u32 (a : Int), .int .u32 (b : Int)] #[.int .u32 (c : Int), .int .u32 (d : Int)] #[.int .u32 0, .int .u32 0] 25 25 25
  rw [← hW] at hbd ⊢
  clear hW
  intro g hg
  have d0 := fun z => cellz (j := 0) (hg z) r0 rfl
  have d1 := fun z => cellz (j := 1) (hg z) r0 rfl
  have d2 := fun z => cellz (j := 0) (hg z) r1 rfl
  have d3 := fun z => cellz (j := 1) (hg z) r1 rfl
  simp only [pickI, Option.toList_some, List.cons_append, List.nil_append, List.getElem?_toArray, List.getElem?_cons_succ, List.getElem?_cons_zero]
  repeat (go_big_quiet_step (fail))
  refine wpQuiet_nil ?_
  clear d0 d1 d2 d3 hg g
  refine seg_op (by simp only [List.getElem?_toArray, List.getElem?_cons_succ, List.getElem?_cons_zero]; rfl) fun K hK => ?_
  go_simp
  refine (runOf_any a b _ ha hb).mono ?_
  rintro e w1 ⟨rfl, hb1⟩
  have hz1 := hbd.trans (hb1.mono hbd.size)
  refine hK.out _ _ (seg_keep (hz1.mono (by omega)) ?_)
  clear hK K
  intro g hg
  simp only [pickI, Option.toList_some, List.cons_append, List.nil_append, List.getElem?_toArray, List.getElem?_cons_succ, List.getElem?_cons_zero]
  repeat (go_big_quiet_step (fail))
  refine wpQuiet_nil ?_
  clear hg g
  refine seg_op (by simp only [List.getElem?_toArray, List.getElem?_cons_succ, List.getElem?_cons_zero]; rfl) fun K hK => ?_
  go_simp
  refine (runOf_any c d _ hc hd).mono ?_
  rintro e w2 ⟨rfl, hb2⟩
  have hz2 := hz1.trans (hb2.mono hz1.size)
  refine hK.out _ _ (seg_keep (hz2.mono (by omega)) ?_)
  clear hK K
  intro g hg
  simp only [pickI, Option.toList_some, List.cons_append, List.nil_append, List.getElem?_toArray, List.getElem?_cons_succ, List.getElem?_cons_zero]
  repeat (go_big_quiet_step (fail))
  refine wpQuiet_nil ?_
  clear hg g
  refine seg_op (by simp only [List.getElem?_toArray, List.getElem?_cons_succ, List.getElem?_cons_zero]; rfl) fun K hK => ?_
  go_simp
  refine hK.out _ _ (seg_keep ((hz2.alloc hz2.size _).mono (by omega)) ?_)
  clear hK K
  intro g hg
  refine wpQuiet_nil ?_
  clear hg g
  refine seg_op (by simp only [List.getElem?_toArray, List.getElem?_cons_succ, List.getElem?_cons_zero]; rfl) fun K hK => ?_
  go_simp
  have hes : ([(false, a, a + b), (false, c, c + d)] : List (Bool × Nat × Nat)).map feV = [.func (.func 32) #[.agg #[.int .u64 (a : Int), .int .u64 ((a : Int) + (b : Int))]] #[], .func (.func 32) #[.agg #[.int .u64 (c : Int), .int .u64 ((c : Int) + (d : Int))]] #[]] := by simp [feV]
  refine (upTo_any m _ 2 2 [(false, a, a + b), (false, c, c + d)] _ (by omega) rfl (by rw [hes]; exact Rd.lit w2 _ _ rfl (by unfold maxLen; omega) (by simp))).mono ?_
  rintro e w3 ⟨rfl, hb3⟩
  rw [HM.out, lim2, show upt (max a c) (min (min 4294967296 (a + b)) (c + d)) = p from HP.out.symm]
  have hz3 := hz2.trans ((unal hb3).mono hz2.size)
  refine hK.out _ _ (seg_keep (hz3.mono (by omega)) ?_)
  clear hK K
  intro g hg
  refine wpQuiet_nil ?_
  clear hg g
  have e0 := cellz (j := 0) (u := .int .u32 0) hz3 r2 rfl
  have e1 := cellz (j := 1) (u := .int .u32 0) hz3 r2 rfl
  have z0 := frozenz hz3 0 r2
  have z1 := frozenz hz3 1 r2
  refine seg_op (by simp only [List.getElem?_toArray, List.getElem?_cons_succ, List.getElem?_cons_zero]; rfl) fun K hK => ?_
  go_simp
  have hz4 := ((show Below (w.heap.size + 2) W w3 from hz3.mono (by omega)).setCell (p := ⟨w.heap.size + 2, 0, none⟩) (by simp) (.int .u32 (p.1 : Int))).setCell (p := ⟨w.heap.size + 2, 1, none⟩) (by simp) (.int .u32 (p.2 : Int))
  refine hK.out _ _ (seg_keep hz4 ?_)
  clear hK K
  intro g hg
  refine wpQuiet_nil ?_
  clear hg g
  go_wp2
  exact bodyPost_ret (v := .agg #[.int .u32 (p.1 : Int), .int .u32 (p.2 : Int)]) (by simp [results, Try.results27, go_sem, e0, e1]) rfl ⟨rfl, hwW.trans (hz4.mono (by omega))⟩

set_option maxHeartbeats 1000000 in
theorem meet_any (a b c d : Nat) (w : World) (ha : a < 4294967296) (hb : b < 4294967296) (hc : c < 4294967296) (hd : d < 4294967296) :
    Calls Try.prog 21 #[.agg #[.int .u32 (a : Int), .int .u32 (b : Int)], .agg #[.int .u32 (c : Int), .int .u32 (d : Int)]] w fun e w' => e = .returned (.bool (decide (0 < (cm a b c d).2))) ∧ Below w.heap.size w w' := by
  have key : cm a b c d = (0, 0) ∨ 0 < (cm a b c d).2 := by
    unfold cm upt; split <;> simp; omega
  have hcon := fun W => common_any a b c d W ha hb hc hd
  generalize cm a b c d = p at *
  rcases key with rfl | hp
  · go_enter Try.func21, Try.ntmps21
    go_wp2_with (go_at_call 27; refine (hcon _).mono ?_; rintro e w1 ⟨rfl, hb1⟩)
    go_ret
    exact ⟨ret_bool (by simp), unal (unal hb1)⟩
  · obtain ⟨x, y⟩ := p
    have q1 : ((y : Int) == 0) = false := by simp at hp ⊢; omega
    go_enter Try.func21, Try.ntmps21
    go_wp2_with (go_at_call 27; refine (hcon _).mono ?_; rintro e w1 ⟨rfl, hb1⟩)

    go_ret
    exact ⟨ret_bool (by simp; omega), unal (unal hb1)⟩

end Go.Proofs.Ytdaniaijlkflcaa
