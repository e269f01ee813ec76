/- The chapter's example; the same numbers; places that no call made. -/
import Derived.Test.YtljmigfjlndpbaaDoorAref3
namespace Go.Proofs.YtljmigfjlndpbaaDoor
open Go.RowKit

section
variable {w w' : World} {g R k : Nat} {a : Av}
theorem ints_any {A A2 : Option Addr} {n c c2 : Nat} {l : List Int} (h1 : Rd w w.heap.size 1 A n c (is l)) (h2 : Rd w w.heap.size 1 A2 n c2 (is l)) (hn : n ≤ 110000) :
    Calls Tryd.prog 13 #[.slice A n c, .slice A2 n c2] w fun e w' => e = .returned (.bool true) ∧ Below w.heap.size w w' := by
  have hl : l.length = n := by have := h1.len; rwa [is_len] at this
  have H1 := Lib.hid (fun i (hi : i < n) => h1.at_ hi)
  have H2 := Lib.hid (fun i (hi : i < n) => h2.at_ hi)
  clear h1 h2 hl
  go_enter Tryd.func13, Tryd.ntmps13
  go_wp2_with (fail)
  go_loopw [13] (fun ir wr => ∃ i : Nat, i ≤ n ∧ ir = .int .i64 (i : Int) ∧ Hid (Below w.heap.size w wr)) (fun ir _ => n - (intOf ir).toNat)
  case atStart => exact ⟨0, Nat.zero_le _, rfl, Lib.hid (Below.refl _ _)⟩
  case round =>
    obtain ⟨i, hi, rfl, RB⟩ := hrel
    by_cases hlt : i < n
    · obtain ⟨p1, o1, v1, rfl, hp1, hv1, hc1⟩ := H1.out i hlt
      obtain ⟨p2, o2, v2, rfl, hp2, hv2, hc2⟩ := H2.out i hlt
      obtain rfl : v1 = v2 := Option.some.inj (hv1.symm.trans hv2)
      obtain ⟨x, _, rfl⟩ : ∃ x, l[i]? = some x ∧ v1 = .int .i64 x := by
        unfold is at hv1
        rw [List.getElem?_map] at hv1
        cases hx : l[i]? with
        | none => rw [hx] at hv1; cases hv1
        | some x => rw [hx] at hv1; exact ⟨x, rfl, (Option.some.inj hv1).symm⟩
      have d1 := (RB.out.cell (p := ⟨p1, o1 + i, none⟩) hp1).trans hc1
      have d2 := (RB.out.cell (p := ⟨p2, o2 + i, none⟩) hp2).trans hc2
      clear hv1 hv2 hc1 hc2 hp1 hp2
      go_wp2_with (fail)
      go_quiet (fail)
      go_wp2
      go_roundw
      case rel => exact ⟨i + 1, by omega, by go_num, Lib.hid ⟨RB.out.os, RB.out.tape, RB.out.output, RB.out.size, RB.out.block⟩⟩
      case measure => simp [intOf]; omega
    · obtain rfl : i = n := by omega
      go_wp2
      go_ret
      exact ⟨rfl, RB.out⟩

theorem first_eq {j : Nat} (hj : j < a.n) (hb : bitAt a.ws j = true) (hl : ∀ i, i < j → bitAt a.ws i = false) : a.first = some j :=
  List.find?_range_eq_some.2 ⟨hb, List.mem_range.2 hj, fun i hi => by simp [hl i hi]⟩
theorem take_eq {j : Nat} (hj : j < a.n) (hb : bitAt a.ws j = true) (hl : ∀ i, i < j → bitAt a.ws i = false) : a.take = (((j : Int), 0), a.flip j) := by
  unfold Av.take
  rw [first_eq hj hb hl]
theorem flip_at (h : a.Ok k) {i : Nat} (hi : i < a.n) (j : Nat) : bitAt (a.flip i).ws j = if i = j then !bitAt a.ws j else bitAt a.ws j :=
  flip_bit _ _ _ (by have := h.len; have := h.room; omega)
theorem lives_pure (h : a.Ok k) (hF : Fresh a 3) : a.take = ((0, 0), a.flip 0) ∧ (a.flip 0).take = ((1, 0), (a.flip 0).flip 1) ∧ ((a.flip 0).flip 1).give 0 = (0, ((a.flip 0).flip 1).flip 0) ∧ (((a.flip 0).flip 1).flip 0).take = ((0, 0), (((a.flip 0).flip 1).flip 0).flip 0) ∧ ((((a.flip 0).flip 1).flip 0).flip 0).free = 1 := by
  have n0 : a.n = 3 := hF.1
  have o0 := h
  have b0 := hF.2
  have n1 : (a.flip 0).n = 3 := n0
  have o1 := o0.flip (i := 0) (by omega)
  have b1 := flip_at o0 (i := 0) (by omega)
  have n2 : ((a.flip 0).flip 1).n = 3 := n0
  have o2 := o1.flip (i := 1) (by omega)
  have b2 := flip_at o1 (i := 1) (by omega)
  have n3 : (((a.flip 0).flip 1).flip 0).n = 3 := n0
  have o3 := o2.flip (i := 0) (by omega)
  have b3 := flip_at o2 (i := 0) (by omega)
  have n4 : ((((a.flip 0).flip 1).flip 0).flip 0).n = 3 := n0
  have o4 := o3.flip (i := 0) (by omega)
  have b4 := flip_at o3 (i := 0) (by omega)
  have z1 : ∀ i, i < 1 → bitAt (a.flip 0).ws i = false := by
    intro i hi
    obtain rfl : i = 0 := by omega
    rw [b1, b0]
    rfl
  have y0 : bitAt a.ws 0 = true := by rw [b0]; rfl
  have y1 : bitAt (a.flip 0).ws 1 = true := by rw [b1, b0]; rfl
  have y3 : bitAt (((a.flip 0).flip 1).flip 0).ws 0 = true := by rw [b3, b2, b1, b0]; rfl
  refine ⟨take_eq (j := 0) (by omega) y0 (fun i hi => by omega), take_eq (j := 1) (by omega) y1 z1, ?_, take_eq (j := 0) (by omega) y3 (fun i hi => by omega), ?_⟩
  · unfold Av.give
    rw [if_neg (by simp [inA, n2]), if_neg (by show ¬ bitAt ((a.flip 0).flip 1).ws 0 = true; rw [b2, b1, b0]; decide)]
    rfl
  · rw [free_cnt o4, n4]
    unfold cnt
    have e0 : bitAt ((((a.flip 0).flip 1).flip 0).flip 0).ws 0 = false := by rw [b4, b3, b2, b1, b0]; rfl
    have e1 : bitAt ((((a.flip 0).flip 1).flip 0).flip 0).ws 1 = false := by rw [b4, b3, b2, b1, b0]; rfl
    have e2 : bitAt ((((a.flip 0).flip 1).flip 0).flip 0).ws 2 = true := by rw [b4, b3, b2, b1, b0]; rfl
    simp [List.range_succ, e0, e1, e2]
theorem atake_is (h : Alw w g R k a) (hT : Tab w) {x e1 : Int} {b : Av} (ht : a.take = ((x, e1), b)) :
    Calls Tryd.prog 9 #[.pointer (some ⟨g, 0, none⟩)] w fun e w' => e = .returned (.tuple #[.int .i64 x, .int .i64 e1]) ∧ Alw w' g R k b ∧ w.grownBy w' (some R) := by
  have := atake_any h hT
  unfold Took at this
  rw [ht] at this
  exact this
theorem agive_is (h : Alw w g R k a) (i : Int) (hi1 : -9223372036854775808 ≤ i) (hi2 : i ≤ 9223372036854775807) {x : Int} {b : Av} (ht : a.give i = (x, b)) :
    Calls Tryd.prog 16 #[.pointer (some ⟨g, 0, none⟩), .int .i64 i] w fun e w' => e = .returned (.int .i64 x) ∧ Alw w' g R k b ∧ w.grownBy w' (some R) := by
  have := agive_any h i hi1 hi2
  rw [ht] at this
  exact this
theorem afree_is (h : Alw w g R k a) {n : Nat} (hn : a.free = n) : Calls Tryd.prog 19 #[.pointer (some ⟨g, 0, none⟩)] w fun e w' => e = .returned (.int .i64 (n : Int)) ∧ Below w.heap.size w w' := hn ▸ afree_any h
set_option maxHeartbeats 1000000 in
theorem lives13 (w : World) (hT : Tab w) : Calls Tryd.prog 6 #[] w fun e w' => e = .returned (.bool true) ∧ Below w.heap.size w w' := by
  have HN := Lib.hid (anew_any 3 w (by decide) (by decide) hT.1)
  have HT := Lib.hid hT
  clear hT
  go_enter Tryd.func6, Tryd.ntmps6
  go_wp2_with (first
    | (go_at_call 7; go_loud (refine HN.out.mono ?_); clear HN; rintro e w1 ⟨g, R, k, a, rfl, hA, hF, hb, hg, hR⟩)
    | fail)
  obtain ⟨p1, p2, p3, p4, p5⟩ := lives_pure hA.ok hF
  generalize hx5 : (((a.flip 0).flip 1).flip 0).flip 0 = a4 at *
  generalize hx3 : ((a.flip 0).flip 1).flip 0 = a3 at *
  generalize hx2 : (a.flip 0).flip 1 = a2 at *
  generalize hx1 : a.flip 0 = a1 at *
  clear hx5 hx3 hx2 hx1 hF
  have HP := Lib.hid hA.pos
  have HR := Lib.hid hR
  have HB := Lib.hid hb
  have H1 := Lib.hid (atake_is hA (HT.out.below hb) p1)
  have HT1 := Lib.hid (HT.out.below hb)
  clear hA p1 hb hg hR
  go_wp2_with (first
    | (go_at_call 9; go_loud (refine H1.out.mono ?_); clear H1; rintro e w2 ⟨rfl, hA2, hg2⟩)
    | fail)
  have HT2 := Lib.hid (HT1.out.grown hg2 HP.out.2)
  have H2 := Lib.hid (atake_is hA2 HT2.out p2)
  have HB2 := Lib.hid (HB.out.grown hg2 HB.out.size (fun j e => by injection e with e; rw [← e]; exact HR.out))
  clear hA2 p2 hg2 HT1 HB
  go_wp2_with (first
    | (go_at_call 9; go_loud (refine H2.out.mono ?_); clear H2; rintro e w3 ⟨rfl, hA3, hg3⟩)
    | fail)
  have HT3 := Lib.hid (HT2.out.grown hg3 HP.out.2)
  have H3 := Lib.hid (agive_is hA3 0 (by decide) (by decide) p3)
  have HB3 := Lib.hid (HB2.out.grown hg3 HB2.out.size (fun j e => by injection e with e; rw [← e]; exact HR.out))
  clear hA3 p3 hg3 HT2 HB2
  go_wp2_with (first
    | (go_at_call 16; go_loud (refine H3.out.mono ?_); clear H3; rintro e w4 ⟨rfl, hA4, hg4⟩)
    | fail)
  have HT4 := Lib.hid (HT3.out.grown hg4 HP.out.2)
  have H4 := Lib.hid (atake_is hA4 HT4.out p4)
  have HB4 := Lib.hid (HB3.out.grown hg4 HB3.out.size (fun j e => by injection e with e; rw [← e]; exact HR.out))
  clear hA4 p4 hg4 HT3 HB3
  go_wp2_with (first
    | (go_at_call 9; go_loud (refine H4.out.mono ?_); clear H4; rintro e w5 ⟨rfl, hA5, hg5⟩)
    | fail)
  have H5 := Lib.hid (afree_is hA5 p5)
  have HB5 := Lib.hid (HB4.out.grown hg5 HB4.out.size (fun j e => by injection e with e; rw [← e]; exact HR.out))
  clear hA5 p5 hg5 HT4 HB4
  go_wp2_with (first
    | (go_at_call 19; go_loud (refine H5.out.mono ?_); clear H5; rintro e w6 ⟨rfl, hb6⟩)
    | fail)
  go_ret
  exact ⟨rfl, HB5.out.trans (hb6.mono HB5.out.size)⟩
end
end Go.Proofs.YtljmigfjlndpbaaDoor
