/- Take of a chain that is nil. -/
import Derived.Test.YtlpckhjmbfeegaaCn
namespace Go.Proofs.Ytlpckhjmbfeegaa
open Go.RowKit
set_option maxRecDepth 20000
theorem nsame (w : World) {p0 p1 p2 : Nat} {i : Nat} (hi : i ≠ 0) (b0 : w.cell? ⟨p0, 0, none⟩ = some (.pointer none)) :
    Calls Try.prog 44 #[.int .u64 (i : Int), .pointer (some ⟨p0, 0, none⟩), .pointer (some ⟨p1, 0, none⟩), .pointer (some ⟨p2, 0, none⟩)] w fun e w' => e = .returned (.bool false) ∧ Below w.heap.size w w' := by
  have HT := Lib.hid (nterm w i)
  unfold Termed at HT
  rw [if_neg hi] at HT
  simp only [Option.getD_none, Option.isSome_none, Int.natCast_zero] at HT
  go_enter Try.func44, Try.ntmps44
  go_wp2_with (first
    | (go_at_call 23; refine HT.out.mono ?_; rintro e w2 ⟨rfl, hb2⟩; have HB2 := Lib.hid hb2; clear hb2)
    | fail)
  go_ret
  exact ⟨rfl, HB2.out⟩
/-- What a call tells that nobody looks at. -/
def Told (w : World) (e : Ending) (w' : World) : Prop := ∃ (k : Int) (b : Bool), e = .returned (.tuple #[.int .u64 k, .bool b]) ∧ Below w.heap.size w w'
set_option maxHeartbeats 4000000 in
theorem ntake {w : World} (prev term : Nat) {A : Option Addr} {n c : Nat} {xs : List Value} (hf : n ≤ 5000) (hr : Rd w w.heap.size 3 A n c xs) :
    Calls Try.prog 16 #[.pointer none, .int .u64 (prev : Int), .int .u64 (term : Int), .slice A n c] w (Told w) := by
  obtain ⟨W, hW, hz, r0, r1, r2, hb⟩ := boxes3 w #[.pointer none] #[.int .u64 (prev : Int)] #[.slice A n c] 26 22 31
  have HM := Lib.hid (nmatches W prev term)
  have b0 := cell_of_row W _ 0 _ _ _ r0
  have b1 := cell_of_row W _ 0 _ _ _ r1
  have b2 := cell_of_row W _ 0 _ _ _ r2
  have HB := Lib.hid hb
  have HZ := Lib.hid hz
  have HRD := Lib.hid hr
  clear r0 r1 r2 hr
  unfold Told
  cases hm : (decide (prev = 0) && decide (term = 0)) with
  | false =>
    rw [hm] at HM
    clear hm hz hb
    go_enter Try.func16, Try.ntmps16
    go_wp2_with (fail)
    refine wp_scope_rounds 0 ?_
    simp only [Nat.add_assoc, Nat.reduceAdd] at *
    rw [← hW]
    clear hW
    go_wp2_with (first
      | (go_at_call 43; refine HM.out.mono ?_; rintro e w2 ⟨rfl, hb2⟩; have HB2 := Lib.hid hb2; clear hb2)
      | fail)
    rw [lands_ret]
    go_ret2
    exact ⟨_, _, rfl, HB.out.trans (HB2.out.mono HB.out.size)⟩
  | true =>
    rw [hm] at HM
    obtain rfl : prev = 0 := by rw [Bool.and_eq_true] at hm; exact of_decide_eq_true hm.1
    have nI : (n : Int) ≤ 5000 := by omega
    have wn : IntKind.u64.wrap (n : Int) = (n : Int) := u64w _ (by omega) (by omega)
    have m3 : max (n : Int) 0 = (n : Int) := by omega
    have HS := Lib.hid (fun W' (b0 : W'.cell? ⟨w.heap.size, 0, none⟩ = some (.pointer none)) => nsame W' (p0 := w.heap.size) (p1 := w.heap.size + 2) (p2 := w.heap.size + 1) (i := 1) (by decide) b0)
    rw [show ((1 : Nat) : Int) = 1 from rfl] at HS
    have HN := Lib.hid nbase
    have HP := Lib.hid (fun W' A n c => nput W' 0 A n c)
    rw [show ((0 : Nat) : Int) = 0 from rfl] at *
    clear hm hz hb hf
    go_enter Try.func16, Try.ntmps16
    go_wp2_with (fail)
    refine wp_scope_rounds 1 ?_
    simp only [Nat.add_assoc, Nat.reduceAdd] at *
    rw [← hW]
    clear hW
    go_wp2_with (first
      | (go_at_call 43; refine HM.out.mono ?_; rintro e w2 ⟨rfl, hb2⟩)
      | fail)
    have k0 : w2.cell? ⟨w.heap.size, 0, none⟩ = some (.pointer none) := kept hb2 b0 (by have := HZ.out; omega)
    have k1 : w2.cell? ⟨w.heap.size + 1, 0, none⟩ = some (.int .u64 0) := kept hb2 b1 (by have := HZ.out; omega)
    have k2 : w2.cell? ⟨w.heap.size + 2, 0, none⟩ = some (.slice A n c) := kept hb2 b2 (by have := HZ.out; omega)
    have HB2 := Lib.hid (HB.out.trans (hb2.mono HB.out.size))
    have HZ2 := Lib.hid (show w.heap.size + 2 < w2.heap.size by have := HZ.out; have := hb2.size; omega)
    clear hb2 b0 b1 b2
    refine wp_grow [([0, 1, 2, 3, 4, 5], 6)] [7, 8] (by kernel_rfl) (by kernel_rfl) (fun d _ _ _ _ h => by cases d <;> exact h) fun wd hbd => ?_
    intro q hq
    have F0 := fun z => ((hq z).cell (p := ⟨w.heap.size, 0, none⟩) (by have := HZ2.out; simp; omega)).trans k0
    have F1 := fun z => ((hq z).cell (p := ⟨w.heap.size + 1, 0, none⟩) (by have := HZ2.out; simp; omega)).trans k1
    have F2 := fun z => ((hq z).cell (p := ⟨w.heap.size + 2, 0, none⟩) (by have := HZ2.out; simp; omega)).trans k2
    simp only [pickI, Option.toList_some, List.cons_append, List.nil_append, List.getElem?_toArray, List.getElem?_cons_succ, List.getElem?_cons_zero]
    try go_frame
    repeat (go_big_quiet_step (fail))
    refine wpQuiet_nil ?_
    clear hq q F0 F1 F2
    refine seg_op (by simp only [List.getElem?_toArray, List.getElem?_cons_succ, List.getElem?_cons_zero]; rfl) fun K hK => ?_
    go_simp
    refine (HN.out wd).mono ?_
    rintro e w3 ⟨rfl, hb3⟩
    have z3 := hbd.trans (hb3.mono hbd.size)
    refine hK.out _ _ (seg_keep z3 ?_)
    clear hK K
    try go_frame
    intro q hq
    simp only [pickI, Option.toList_some, List.cons_append, List.nil_append, List.getElem?_toArray, List.getElem?_cons_succ, List.getElem?_cons_zero]
    repeat (go_big_quiet_step (fail))
    refine wpQuiet_nil ?_
    clear hq q
    go_wp2_with (fail)
    have k0 := (z3.cell (p := ⟨w.heap.size, 0, none⟩) (by have := HZ2.out; simp; omega)).trans k0
    have k1 := (z3.cell (p := ⟨w.heap.size + 1, 0, none⟩) (by have := HZ2.out; simp; omega)).trans k1
    have k2 := (z3.cell (p := ⟨w.heap.size + 2, 0, none⟩) (by have := HZ2.out; simp; omega)).trans k2
    have HB3 := Lib.hid (HB2.out.trans (z3.mono HB2.out.size))
    have HZ3 := Lib.hid (Nat.lt_of_lt_of_le HZ2.out z3.size)
    clear z3 hb3 hbd
    refine wp_grow [([0, 1], 2)] [3, 4] (by kernel_rfl) (by kernel_rfl) (fun d _ _ _ _ h => by cases d <;> exact h) fun we hbe => ?_
    intro q hq
    have F0 := fun z => ((hq z).cell (p := ⟨w.heap.size, 0, none⟩) (by have := HZ3.out; simp; omega)).trans k0
    have F1 := fun z => ((hq z).cell (p := ⟨w.heap.size + 1, 0, none⟩) (by have := HZ3.out; simp; omega)).trans k1
    simp only [pickI, Option.toList_some, List.cons_append, List.nil_append, List.getElem?_toArray, List.getElem?_cons_succ, List.getElem?_cons_zero]
    try go_frame
    repeat (go_big_quiet_step (fail))
    refine wpQuiet_nil ?_
    clear hq q F0 F1
    refine seg_op (by simp only [List.getElem?_toArray, List.getElem?_cons_succ, List.getElem?_cons_zero]; rfl) fun K hK => ?_
    go_simp
    refine (HN.out we).mono ?_
    rintro e w4 ⟨rfl, hb4⟩
    have z4 := hbe.trans (hb4.mono hbe.size)
    refine hK.out _ _ (seg_keep z4 ?_)
    clear hK K
    try go_frame
    intro q hq
    simp only [pickI, Option.toList_some, List.cons_append, List.nil_append, List.getElem?_toArray, List.getElem?_cons_succ, List.getElem?_cons_zero]
    repeat (go_big_quiet_step (fail))
    refine wpQuiet_nil ?_
    clear hq q
    go_wp2_with (fail)
    have k0 := (z4.cell (p := ⟨w.heap.size, 0, none⟩) (by have := HZ3.out; simp; omega)).trans k0
    have k1 := (z4.cell (p := ⟨w.heap.size + 1, 0, none⟩) (by have := HZ3.out; simp; omega)).trans k1
    have k2 := (z4.cell (p := ⟨w.heap.size + 2, 0, none⟩) (by have := HZ3.out; simp; omega)).trans k2
    have HB4 := Lib.hid (HB3.out.trans (z4.mono HB3.out.size))
    have HZ4 := Lib.hid (Nat.lt_of_lt_of_le HZ3.out z4.size)
    clear z4 hb4 hbe
    go_loopw [12] (fun ar wr => ar = .int .u64 0 ∧ wr = w4) (fun _ _ => 0)
    case atStart => exact ⟨rfl, rfl⟩
    case round =>
      obtain ⟨rfl, rfl⟩ := hrel
      by_cases hn : 0 < n
      · have d1 : decide ((0 : Int) < (n : Int)) = true := by simp; omega
        have d2 : decide (0 < n) = true := by simpa using hn
        have d3 : (0 : Int) < (n : Int) := by omega
        obtain ⟨b, o, rfl, _⟩ := HRD.out.2.2.2 hn
        have hnc : n ≤ c := HRD.out.1
        have hc0 : ¬ c = 0 := by omega
        go_wp2_with (first
          | (go_at_call 44; refine (HS.out _ k0).mono ?_; rintro e w5 ⟨rfl, hb5⟩)
          | fail)
        have k0 := (hb5.cell (p := ⟨w.heap.size, 0, none⟩) (by have := HZ4.out; simp; omega)).trans k0
        have k1 := (hb5.cell (p := ⟨w.heap.size + 1, 0, none⟩) (by have := HZ4.out; simp; omega)).trans k1
        have k2 := (hb5.cell (p := ⟨w.heap.size + 2, 0, none⟩) (by have := HZ4.out; simp; omega)).trans k2
        have HB5 := Lib.hid (HB4.out.trans (hb5.mono HB4.out.size))
        clear hb5
        go_step3
        try simp only [go_sem]
        refine ⟨_, rfl, ?_⟩
        go_wp2_with (fail)
        refine wp_segs [([0, 1, 2, 3, 4, 5, 6], 7)] [8] (fun x => x.cell? ⟨w.heap.size, 0, none⟩ = some (.pointer none) ∧ x.cell? ⟨w.heap.size + 1, 0, none⟩ = some (.int .u64 0) ∧ x.cell? ⟨w.heap.size + 2, 0, none⟩ = some (.slice (some ⟨b, o, none⟩) n c)) (by kernel_rfl) (by kernel_rfl) (fun d _ _ _ _ h => by cases d <;> exact h) ⟨k0, k1, k2⟩ ?_
        intro f hf
        have F0 := fun z => (hf z).1
        have F1 := fun z => (hf z).2.1
        have F2 := fun z => (hf z).2.2
        simp only [pickI, Option.toList_some, List.cons_append, List.nil_append, List.getElem?_toArray, List.getElem?_cons_succ, List.getElem?_cons_zero]
        try go_frame
        repeat (go_big_quiet_step (fail))
        refine wpQuiet_nil ?_
        clear hf f F0 F1 F2
        refine seg_op (by simp only [List.getElem?_toArray, List.getElem?_cons_succ, List.getElem?_cons_zero]; rfl) fun K hK => ?_
        go_simp
        refine (HP.out _ _ _ _).mono ?_
        rintro e w6 ⟨rfl, hw6⟩
        have k0 : w6.cell? ⟨w.heap.size, 0, none⟩ = some (.pointer none) := by rw [← hw6]; exact k0
        have k1 : w6.cell? ⟨w.heap.size + 1, 0, none⟩ = some (.int .u64 0) := by rw [← hw6]; exact k1
        have k2 : w6.cell? ⟨w.heap.size + 2, 0, none⟩ = some (.slice (some ⟨b, o, none⟩) n c) := by rw [← hw6]; exact k2
        have HB6 : Hid (Below w.heap.size w w6) := Lib.hid (by rw [← hw6]; exact HB5.out.drew)
        refine hK.out _ _ (seg_keep ⟨k0, k1, k2⟩ ?_)
        clear hK K hw6
        try go_frame
        intro q hq
        simp only [pickI, Option.toList_some, List.cons_append, List.nil_append, List.getElem?_toArray, List.getElem?_cons_succ, List.getElem?_cons_zero]
        repeat (go_big_quiet_step (fail))
        refine wpQuiet_nil ?_
        clear hq q
        go_wp2_with (fail)
        rw [lands_ret]
        go_ret2
        exact ⟨_, _, rfl, HB6.out⟩
      · obtain rfl : n = 0 := by omega
        have d1 : decide ((0 : Int) < ((0 : Nat) : Int)) = false := by simp
        go_wp2_with (fail)
        rw [lands_ret]
        go_ret2
        exact ⟨_, _, rfl, HB4.out⟩
end Go.Proofs.Ytlpckhjmbfeegaa
