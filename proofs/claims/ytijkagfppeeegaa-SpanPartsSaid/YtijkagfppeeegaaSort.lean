/- Contracts of the sorting of one span, and of two. -/
import Derived.Test.YtijkagfppeeegaaTold
import Derived.LoopN
import Derived.OwnWalk
import Derived.BigRegion
namespace Go.Proofs.Ytijkagfppeeegaa
open Go.RowKit

/-- Two spans in the order of their beginnings. -/
def srt (a b c d : Nat) : List (Nat × Nat) := if c < a then [(c, d), (a, b)] else [(a, b), (c, d)]

theorem grownBy_some {w w' : World} (h : w.grownBy w' none) (r : Option Nat) : w.grownBy w' r := ⟨h.os, h.tape, h.output, h.size, fun i hi _ => h.block i hi (by simp)⟩

theorem ins1 (g cap : Nat) (w : World) :
    Calls Try.prog 32 #[.slice (some ⟨g, 0, none⟩) 1 cap, .int .i64 0, .int .i64 1, .func (.func 27) #[] #[]] w fun e w' => e = .returned (.tuple #[]) ∧ w = w' := by
  go_enter Try.func32, Try.ntmps32
  go_wp2
  refine wp_loop_rounds 1 ?_
  rw [rounds_succ]
  go_wp2
  go_end0
  exact ⟨rfl, rfl⟩

set_option maxHeartbeats 1000000 in
theorem ins2 (base g cap a b c d : Nat) (w : World) (hown : w.ownsRow base 24 2 (.slice (some ⟨g, 0, none⟩) 2 cap) 2 (sps [(a, b), (c, d)])) :
    Calls Try.prog 32 #[.slice (some ⟨g, 0, none⟩) 2 cap, .int .i64 0, .int .i64 2, .func (.func 27) #[] #[]] w fun e w' => e = .returned (.tuple #[]) ∧ w'.ownsRow base 24 2 (.slice (some ⟨g, 0, none⟩) 2 cap) 2 (sps (srt a b c d)) ∧ w.grownBy w' (some g) := by
  have hcmp := fun W => by_any c d a b W
  have hg : g < w.heap.size := (hown.lt g rfl).2
  have e0 := hown.cellAt 0 (by omega)
  have e1 := hown.cellAt 1 (by omega)
  have e2 := hown.cellAt 2 (by omega)
  have e3 := hown.cellAt 3 (by omega)
  simp [sps] at e0 e1 e2 e3
  by_cases hlt : c < a
  · have hr : cmpN c a = -1 := by unfold cmpN; rw [if_pos hlt]
    rw [hr] at hcmp
    have hs : srt a b c d = [(c, d), (a, b)] := by unfold srt; rw [if_pos hlt]
    rw [hs]
    have HOWN := Lib.hid hown
    clear hr hs hlt hown
    go_enter Try.func32, Try.ntmps32
    go_wp2
    refine wp_loop_rounds 2 ?_
    rw [rounds_succ]
    go_wp2
    refine wp_loop_rounds 2 ?_
    rw [rounds_succ]
    go_wp2
    refine wp_low (w.heap.size) [([0, 1, 2, 3, 4, 5, 6, 7, 8, 9, 10, 11, 12, 13], 14)] [15, 16] (by kernel_rfl) (by kernel_rfl) (fun d _ _ _ _ h => by cases d <;> exact h) (by simp <;> omega) fun wd hbd => ?_
    intro q hq
    have d0 := fun z => kept (hq z) e0 hg
    have d1 := fun z => kept (hq z) e1 hg
    have d2 := fun z => kept (hq z) e2 hg
    have d3 := fun z => kept (hq z) e3 hg
    simp only [pickI, Option.toList_some, List.cons_append, List.nil_append, List.getElem?_toArray, List.getElem?_cons_succ, List.getElem?_cons_zero]
    repeat (go_big_quiet_step (fail))
    refine wpQuiet_nil ?_
    clear d0 d1 d2 d3 hq q
    refine seg_op (by simp only [List.getElem?_toArray, List.getElem?_cons_succ, List.getElem?_cons_zero]; rfl) fun K hK => ?_
    go_simp
    refine (hcmp _).mono ?_
    rintro e w1 ⟨rfl, hb1⟩
    have hz := hbd.trans (hb1.mono hbd.size)
    refine hK.out _ _ (seg_keep hz ?_)
    clear hK K
    intro q hq
    simp only [pickI, Option.toList_some, List.cons_append, List.nil_append, List.getElem?_toArray, List.getElem?_cons_succ, List.getElem?_cons_zero]
    repeat (go_big_quiet_step (fail))
    refine wpQuiet_nil ?_
    clear hq q
    have hown1 := owns_below HOWN.out hz
    have f0 := kept hz e0 hg
    have f1 := kept hz e1 hg
    have f2 := kept hz e2 hg
    have f3 := kept hz e3 hg
    have z0 := hown1.frozenAt 0
    have z1 := hown1.frozenAt 1
    have z2 := hown1.frozenAt 2
    have z3 := hown1.frozenAt 3
    have hg1 : g < w1.heap.size := Nat.lt_of_lt_of_le hg hz.size
    have HOWN1 := Lib.hid hown1
    have HZ := Lib.hid hz
    clear hbd hb1 hown1 hz e0 e1 e2 e3 HOWN
    go_wp2
    go_big_region
    all_goals go_wp2
    rw [rounds_succ]
    go_wp2
    go_big_region
    all_goals go_wp2
    rw [rounds_succ]
    go_wp2
    go_end0
    have s1 := HOWN1.out.stored 2 (.int .u32 (a : Int))
    have s2 := s1.1.stored 3 (.int .u32 (b : Int))
    have s3 := s2.1.stored 0 (.int .u32 (c : Int))
    have s4 := s3.1.stored 1 (.int .u32 (d : Int))
    have k4 := grownBy_trans (grownBy_trans (grownBy_trans (grownBy_trans (grownBy_some (grow_of HZ.out) (some g)) s1.2 (.inl rfl)) s2.2 (.inl rfl)) s3.2 (.inl rfl)) s4.2 (.inl rfl)
    exact ⟨rfl, s4.1, ⟨k4.os, k4.tape, k4.output, k4.size, k4.block⟩⟩
  · have hr : 0 ≤ cmpN c a := by unfold cmpN; rw [if_neg hlt]; split <;> omega
    have hs : srt a b c d = [(a, b), (c, d)] := by unfold srt; rw [if_neg hlt]
    generalize cmpN c a = r at hr hcmp
    rw [hs]
    have q1 : decide (r < 0) = false := by simpa using hr
    have HOWN := Lib.hid hown
    clear hs hlt hown hr
    go_enter Try.func32, Try.ntmps32
    go_wp2
    refine wp_loop_rounds 2 ?_
    rw [rounds_succ]
    go_wp2
    refine wp_loop_rounds 2 ?_
    rw [rounds_succ]
    go_wp2
    refine wp_low (w.heap.size) [([0, 1, 2, 3, 4, 5, 6, 7, 8, 9, 10, 11, 12, 13], 14)] [15, 16] (by kernel_rfl) (by kernel_rfl) (fun d _ _ _ _ h => by cases d <;> exact h) (by simp <;> omega) fun wd hbd => ?_
    intro q hq
    have d0 := fun z => kept (hq z) e0 hg
    have d1 := fun z => kept (hq z) e1 hg
    have d2 := fun z => kept (hq z) e2 hg
    have d3 := fun z => kept (hq z) e3 hg
    simp only [pickI, Option.toList_some, List.cons_append, List.nil_append, List.getElem?_toArray, List.getElem?_cons_succ, List.getElem?_cons_zero]
    repeat (go_big_quiet_step (fail))
    refine wpQuiet_nil ?_
    clear d0 d1 d2 d3 hq q
    refine seg_op (by simp only [List.getElem?_toArray, List.getElem?_cons_succ, List.getElem?_cons_zero]; rfl) fun K hK => ?_
    go_simp
    refine (hcmp _).mono ?_
    rintro e w1 ⟨rfl, hb1⟩
    have hz := hbd.trans (hb1.mono hbd.size)
    refine hK.out _ _ (seg_keep hz ?_)
    clear hK K
    intro q hq
    simp only [pickI, Option.toList_some, List.cons_append, List.nil_append, List.getElem?_toArray, List.getElem?_cons_succ, List.getElem?_cons_zero]
    repeat (go_big_quiet_step (fail))
    refine wpQuiet_nil ?_
    clear hq q
    go_wp2
    rw [rounds_succ]
    go_wp2
    go_end0
    exact ⟨rfl, owns_below HOWN.out hz, grownBy_some (grow_of hz) _⟩

set_option maxRecDepth 100000 in
theorem len_any (n : Int) (w : World) (hn : n = 1 ∨ n = 2) : Calls Try.prog 30 #[.int .u64 n] w fun e w' => (∃ l : Int, e = .returned (.int .i64 l)) ∧ w = w' := by
  have h64 : ∀ W, Calls Try.prog 41 #[.int .u64 n] W fun e w' => (∃ l : Int, e = .returned (.int .i64 l)) ∧ W = w' := by
    intro W
    rcases hn with rfl | rfl
    all_goals
      go_enter Try.func41, Try.ntmps41
      go_wp2
      go_ret
      exact ⟨⟨_, rfl⟩, rfl⟩
  clear hn
  go_enter Try.func30, Try.ntmps30
  go_wp2_with (go_at_call 41; (with_reducible refine (h64 _).mono ?_); rintro e w' ⟨⟨l, rfl⟩, rfl⟩)
  go_ret
  exact ⟨⟨_, rfl⟩, rfl⟩

/-- The sort of one span, and of two, as far as the insertion. -/
theorem pdq_any (A : Option Addr) (n cap : Nat) (l : Int) (Q : World → Prop) (w : World) (hn : n = 1 ∨ n = 2)
    (hi : Calls Try.prog 32 #[.slice A n cap, .int .i64 0, .int .i64 (n : Int), .func (.func 27) #[] #[]] w fun e w' => e = .returned (.tuple #[]) ∧ Q w') :
    Calls Try.prog 29 #[.slice A n cap, .int .i64 0, .int .i64 (n : Int), .int .i64 l, .func (.func 27) #[] #[]] w fun e w' => e = .returned (.tuple #[]) ∧ Q w' := by
  have hn12 : (n : Int) ≤ 12 := by omega
  have hn0 : 0 ≤ (n : Int) := by omega
  clear hn
  set_option maxRecDepth 100000 in
  go_enter Try.func29, Try.ntmps29
  go_wp2
  refine wp_loop_rounds 1 ?_
  rw [rounds_succ]
  go_wp2_with (go_at_call 32; (with_reducible refine hi.mono ?_); rintro e w' ⟨rfl, hq⟩)
  (try simp only [Exit.inBlock, Exit.then]); refine bodyPost_ret (results_none rfl _ _ _) rfl ?_
  exact ⟨rfl, hq⟩

theorem sort_any (A : Option Addr) (n cap : Nat) (Q : World → Prop) (w : World) (hn : n = 1 ∨ n = 2)
    (hi : Calls Try.prog 32 #[.slice A n cap, .int .i64 0, .int .i64 (n : Int), .func (.func 27) #[] #[]] w fun e w' => e = .returned (.tuple #[]) ∧ Q w') :
    Calls Try.prog 26 #[.slice A n cap, .func (.func 27) #[] #[]] w fun e w' => e = .returned (.tuple #[]) ∧ Q w' := by
  have hp := fun l => pdq_any A n cap l Q w hn hi
  have hl := len_any (n : Int) w (by omega)
  have hn12 : (n : Int) ≤ 12 := by omega
  clear hn hi
  go_enter Try.func26, Try.ntmps26
  go_wp2_with (first
    | (go_at_call 30; (with_reducible refine hl.mono ?_); rintro e w' ⟨⟨l, rfl⟩, rfl⟩)
    | (go_at_call 29; (with_reducible refine (hp _).mono ?_); rintro e w' ⟨rfl, hq⟩)
    | fail)
  go_end0
  exact ⟨rfl, hq⟩

end Go.Proofs.Ytijkagfppeeegaa
