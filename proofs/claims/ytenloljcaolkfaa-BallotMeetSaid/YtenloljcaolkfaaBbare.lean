/- A ballot that no call made; the small calls. -/
import Derived.Test.YtenloljcaolkfaaBmg
namespace Go.Proofs.Ytenloljcaolkfaa
open Go.RowKit
set_option maxRecDepth 20000

theorem keysf_nil (w : World) : Calls Try.prog 24 #[.map none] w fun e w' => e = .returned (.func (.func 37) #[] #[.pointer (some ⟨w.heap.size, 0, none⟩)]) ∧ w' = w.alloc (.cells #[.map none] 44) := by
  go_enter Try.func24, Try.ntmps24
  go_wp2
  go_ret
  exact ⟨rfl, rfl⟩
/-- Block b is a bare ballot. -/
def Bare (w : World) (b : Nat) : Prop := w.heap[b]? = some (.cells #[.int .u64 0, .int .u64 0, .int .u64 0, .map none] 46 (0, 0))
theorem Bare.below {w w' : World} {b : Nat} (h : Bare w b) (hb : Below w.heap.size w w') : Bare w' b := row_below h hb
set_option maxHeartbeats 1000000 in
theorem voters_bare {w : World} {b : Nat} (h : Bare w b) : Calls Try.prog 12 #[.pointer (some ⟨b, 0, none⟩)] w (TVal w (.int .u64 0)) := by
  have c3 := cell_of_row w b 3 _ _ _ h
  have HK := Lib.hid (keysf_nil w)
  have HS := Lib.hid (sorted_nil w.heap.size (w.alloc (.cells #[.map none] 44)) (by simp) (cell_of_row _ _ 0 _ _ _ (heap_alloc_new w _)))
  unfold TVal
  clear h
  go_enter Try.func12, Try.ntmps12
  go_wp2_with (first
    | (go_at_call 24; refine HK.out.mono ?_; rintro e w1 ⟨rfl, rfl⟩)
    | (go_at_call 23; refine HS.out.mono ?_; rintro e w2 ⟨A, c, rfl, hr, hA, hb⟩; have HR := Lib.hid hr; have HB := Lib.hid hb; clear hr hb hA)
    | (go_at_call 21; refine (Qu.with_any (l := []) 0 (by decide) HR.out (by decide)).mono ?_; rintro e w3 ⟨rfl, rfl⟩)
    | fail)
  go_ret
  exact ⟨rfl, ((Below.refl _ _).alloc (Nat.le_refl _) _).trans (HB.out.mono (by simp))⟩
set_option maxHeartbeats 1000000 in
theorem won_bare {w : World} {b : Nat} (h : Bare w b) : Calls Try.prog 14 #[.pointer (some ⟨b, 0, none⟩)] w (TVal w (.bool false)) := by
  have HV := Lib.hid (fun w' (hb : Below w.heap.size w w') => voters_bare (h.below hb))
  have HC := Lib.hid (fun w' (hb : Below w.heap.size w w') => cell_of_row w' b 0 _ _ _ (h.below hb))
  have HQ := Lib.hid (fun W => Qu.maj_any 0 0 W (by decide) (by decide))
  have hq0 : Qu.majB 0 0 = false := by decide
  rw [hq0] at HQ
  unfold TVal at *
  clear h hq0
  go_enter Try.func14, Try.ntmps14
  go_wp2_with (fail)
  refine wp_low w.heap.size [([0, 1, 2, 3, 5, 6, 7, 8], 4), ([], 9)] [10, 11] (by kernel_rfl) (by kernel_rfl) (fun d _ _ _ _ h => by cases d <;> exact h) (Nat.le_refl _) fun wd hbd => ?_
  intro q hq
  have C0 := fun z => HC.out _ (hq z)
  simp only [pickI, Option.toList_some, List.cons_append, List.nil_append, List.getElem?_toArray, List.getElem?_cons_succ, List.getElem?_cons_zero]
  try go_frame
  go_big_quiet_step (fail)
  go_big_quiet_step (fail)
  go_big_quiet_step (fail)
  go_big_quiet_step (fail)
  go_big_quiet_step (fail)
  go_big_quiet_step (fail)
  go_big_quiet_step (fail)
  go_big_quiet_step (fail)
  refine wpQuiet_nil ?_
  clear hq q C0
  refine seg_op (by simp only [List.getElem?_toArray, List.getElem?_cons_succ, List.getElem?_cons_zero]; rfl) fun K hK => ?_
  go_simp
  refine (HV.out _ hbd).mono ?_
  rintro e v0 ⟨rfl, bv0⟩
  have zv0 := hbd.trans (bv0.mono hbd.size)
  refine hK.out _ _ (seg_keep zv0 ?_)
  clear hK K
  intro q hq
  refine wpQuiet_nil ?_
  clear hq q
  refine seg_op (by simp only [List.getElem?_toArray, List.getElem?_cons_succ, List.getElem?_cons_zero]; rfl) fun K hK => ?_
  go_simp
  refine (HQ.out _).mono ?_
  rintro e v1 ⟨rfl, rfl⟩
  have zv1 := zv0
  refine hK.out _ _ (seg_keep zv1 ?_)
  clear hK K
  intro q hq
  have C0 := fun z => HC.out _ (hq z)
  simp only [pickI, Option.toList_some, List.cons_append, List.nil_append, List.getElem?_toArray, List.getElem?_cons_succ, List.getElem?_cons_zero]
  try go_frame
  go_big_quiet_step (fail)
  go_big_quiet_step (fail)
  refine wpQuiet_nil ?_
  clear hq q C0
  go_wp2
  go_ret
  exact ⟨rfl, zv1⟩
set_option maxHeartbeats 1000000 in
theorem won_nil (w : World) : Calls Try.prog 14 #[.pointer none] w (TVal w (.bool false)) := by
  unfold TVal
  go_enter Try.func14, Try.ntmps14
  go_wp2_with (fail)
  refine wp_low w.heap.size [([0, 1, 2, 3, 5, 6, 7, 8], 4), ([], 9)] [10, 11] (by kernel_rfl) (by kernel_rfl) (fun d _ _ _ _ h => by cases d <;> exact h) (Nat.le_refl _) fun wd hbd => ?_
  intro q hq
  simp only [pickI, Option.toList_some, List.cons_append, List.nil_append, List.getElem?_toArray, List.getElem?_cons_succ, List.getElem?_cons_zero]
  try go_frame
  go_big_quiet_step (fail)
  go_big_quiet_step (fail)
  go_big_quiet_step (fail)
  go_big_quiet_step (fail)
  go_big_quiet_step (fail)
  go_big_quiet_step (fail)
  go_big_quiet_step (fail)
  go_big_quiet_step (fail)
  refine wpQuiet_nil ?_
  clear hq q
  refine seg_op (by simp only [List.getElem?_toArray, List.getElem?_cons_succ, List.getElem?_cons_zero]; rfl) fun K hK => ?_
  go_simp
  refine hK.out _ _ (seg_keep hbd ?_)
  clear hK K
  intro q hq
  refine wpQuiet_nil ?_
  clear hq q
  refine seg_op (by simp only [List.getElem?_toArray, List.getElem?_cons_succ, List.getElem?_cons_zero]; rfl) fun K hK => ?_
  go_simp
  refine hK.out _ _ (seg_keep hbd ?_)
  clear hK K
  intro q hq
  simp only [pickI, Option.toList_some, List.cons_append, List.nil_append, List.getElem?_toArray, List.getElem?_cons_succ, List.getElem?_cons_zero]
  try go_frame
  go_big_quiet_step (fail)
  go_big_quiet_step (fail)
  refine wpQuiet_nil ?_
  clear hq q
  go_wp2
  go_ret
  exact ⟨rfl, hbd⟩
theorem voters_nil (w : World) : Calls Try.prog 12 #[.pointer none] w (TVal w (.int .u64 0)) := by
  unfold TVal
  go_enter Try.func12, Try.ntmps12
  go_wp2
  go_ret
  exact ⟨rfl, Below.refl _ _⟩
theorem term_nil (w : World) : Calls Try.prog 17 #[.pointer none] w (TVal w (.int .u64 0)) := by
  unfold TVal
  go_enter Try.func17, Try.ntmps17
  go_wp2
  go_ret
  exact ⟨rfl, Below.refl _ _⟩
theorem base_nil (w : World) : Calls Try.prog 18 #[.pointer none] w (TVal w (.int .u64 0)) := by
  unfold TVal
  go_enter Try.func18, Try.ntmps18
  go_wp2
  go_ret
  exact ⟨rfl, Below.refl _ _⟩
theorem term_row {w : World} {b : Nat} {n t s : Int} {m : Option Nat} (h : w.heap[b]? = some (.cells #[.int .u64 n, .int .u64 t, .int .u64 s, .map m] 46 (0, 0))) : Calls Try.prog 17 #[.pointer (some ⟨b, 0, none⟩)] w (TVal w (.int .u64 t)) := by
  have c1 := cell_of_row w b 1 _ _ _ h
  unfold TVal
  go_enter Try.func17, Try.ntmps17
  go_wp2
  go_ret
  exact ⟨rfl, Below.refl _ _⟩
theorem base_row {w : World} {b : Nat} {n t s : Int} {m : Option Nat} (h : w.heap[b]? = some (.cells #[.int .u64 n, .int .u64 t, .int .u64 s, .map m] 46 (0, 0))) : Calls Try.prog 18 #[.pointer (some ⟨b, 0, none⟩)] w (TVal w (.int .u64 s)) := by
  have c2 := cell_of_row w b 2 _ _ _ h
  unfold TVal
  go_enter Try.func18, Try.ntmps18
  go_wp2
  go_ret
  exact ⟨rfl, Below.refl _ _⟩
set_option maxHeartbeats 1000000 in
theorem merge_lost (p : Option Addr) (w : World) (h : Calls Try.prog 14 #[.pointer p] w (TVal w (.bool false))) (n : Int) : Calls Try.prog 13 #[.pointer p, .int .i64 n] w (TVal w (.slice none 0 0)) := by
  have HW := Lib.hid h
  unfold TVal at *
  clear h
  go_enter Try.func13, Try.ntmps13
  go_wp2_with (first
    | (go_at_call 14; refine HW.out.mono ?_; rintro e w1 ⟨rfl, hb1⟩)
    | fail)
  go_ret
  exact ⟨rfl, hb1⟩
set_option maxHeartbeats 1000000 in
theorem grant_bare {w : World} {b : Nat} (h : Bare w b) (n : Int) (v : Value) : Calls Try.prog 10 #[.pointer (some ⟨b, 0, none⟩), .int .i64 n, v] w (TVal w (.int .i64 2)) := by
  have c0 := cell_of_row w b 0 _ _ _ h
  have HH := Lib.hid (fun W => Qu.has_any 0 n W (by decide))
  have hn : Qu.inB 0 n = false := by unfold Qu.inB; simp
  rw [hn] at HH
  unfold TVal at *
  clear h hn
  go_enter Try.func10, Try.ntmps10
  go_wp2_with (first
    | (go_at_call 22; refine (HH.out _).mono ?_; rintro e w1 ⟨rfl, rfl⟩)
    | fail)
  go_ret
  exact ⟨rfl, Below.refl _ _⟩
end Go.Proofs.Ytenloljcaolkfaa
