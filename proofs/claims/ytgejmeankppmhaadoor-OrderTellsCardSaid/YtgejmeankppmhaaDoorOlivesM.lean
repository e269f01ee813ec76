/- The chapter's example. -/
import Derived.Test.YtgejmeankppmhaaDoorOchnM
import Derived.Test.YtgejmeankppmhaaDoorOreadyM
namespace Go.Proofs.YtgejmeankppmhaaDoor
open Go.RowKit
open Bh (En Ents ens ens_get ecell chain_any)
set_option maxRecDepth 20000

/-- The example's entries. -/
def wE (b : Nat) : En := ⟨0, 0, 0, 1, 0, 0, b, 1, [97, 98, 99, 100, 101, 102, 103, 104], none, 0, 0, []⟩
theorem wE_reads (b : Nat) (hb : b < 4294967296) (w : World) : (wE b).Reads w :=
  ⟨show 0 < 18446744073709551616 by decide, show 0 < 18446744073709551616 by decide, show 0 < 18446744073709551616 by decide, show (Lit.int .i64 1).wf = true by decide, ⟨show 0 < 18446744073709551616 by decide, show 0 < 18446744073709551616 by decide, hb, show 1 < 4294967296 by decide⟩, show 8 ≤ maxLen by unfold maxLen; decide, Rd.nil_, rfl, fun _ h => by cases h⟩
theorem lives1_any (b : Nat) (w : World) : Calls Tryd.prog 25 #[.int .u32 (b : Int)] w fun r w' => r = .returned (.agg (wE b).cells) ∧ Below w.heap.size w w' := by
  go_enter Tryd.func25, Tryd.ntmps25
  go_wp2
  refine bodyPost_ret (results_cell_row rfl _ _ w.heap.size 43 _ (0, 0) _ rfl (heap_alloc_new w _) Tryd.underlying43 rfl (by rw [e_size]; rfl)) rfl ⟨rfl, (Below.refl _ _).alloc (Nat.le_refl _) _⟩
def ex3 : List En := [wE 0, wE 0, wE 1]
theorem ex_rdy (A1 A2 : Option Addr) (c1 c2 : Nat) : Rdy 3 0 [Bh.linked 1 5 ex3 1 (wE 0) A1 c1, Bh.linked 1 5 ex3 2 (wE 1) A2 c2] 0 0 [3] := by
  have hi : ∀ (L B x : Nat), 3 < x → cand 3 0 [Bh.linked 1 5 ex3 1 (wE 0) A1 c1, Bh.linked 1 5 ex3 2 (wE 1) A2 c2] L B x = false := fun L B x hx => by
    have : Hs 3 0 x = false := by unfold Hs; simp; omega
    unfold cand
    rw [this]
    rfl
  refine .step 0 0 3 [] (by rfl) (fun y hy => ?_) (.stop _ _ (fun x => ?_))
  · rcases Nat.lt_or_ge 3 y with h | h
    · omega
    · match y, h with
      | 0, _ => exact absurd (show cand 3 0 [Bh.linked 1 5 ex3 1 (wE 0) A1 c1, Bh.linked 1 5 ex3 2 (wE 1) A2 c2] 0 0 0 = false by rfl) (by rw [hy]; decide)
      | 1, _ => exact absurd (show cand 3 0 [Bh.linked 1 5 ex3 1 (wE 0) A1 c1, Bh.linked 1 5 ex3 2 (wE 1) A2 c2] 0 0 1 = false by rfl) (by rw [hy]; decide)
      | 2, _ => exact absurd (show cand 3 0 [Bh.linked 1 5 ex3 1 (wE 0) A1 c1, Bh.linked 1 5 ex3 2 (wE 1) A2 c2] 0 0 2 = false by rfl) (by rw [hy]; decide)
      | 3, _ => exact Nat.le_refl _
  · rcases Nat.lt_or_ge 3 x with h | h
    · exact hi _ _ x h
    · match x, h with
      | 0, _ => rfl
      | 1, _ => rfl
      | 2, _ => rfl
      | 3, _ => rfl
theorem ents3 {w : World} {g : Nat} {t : TypeId} {fr : Nat × Nat} (h : w.heap[g]? = some (.cells (ens ex3).toArray t fr)) : Ents w (some ⟨g, 0, none⟩) 3 3 ex3 := by
  refine ⟨⟨Nat.le_refl _, by unfold maxLen; decide, rfl, fun _ => ⟨g, 0, rfl, (Array.getElem?_eq_some_iff.1 h).1, fun j u hu => ?_⟩⟩, rfl, fun e he => ?_⟩
  · rw [Nat.zero_add, cell_of_row w _ j _ _ _ h]
    simpa using hu
  · unfold ex3 at he
    simp only [List.mem_cons, List.not_mem_nil, or_false] at he
    rcases he with rfl | rfl | rfl
    · exact wE_reads 0 (by decide) w
    · exact wE_reads 0 (by decide) w
    · exact wE_reads 1 (by decide) w
theorem ents_tail {w : World} {b o n c : Nat} {e : En} {es : List En} (h : Ents w (some ⟨b, o, none⟩) (n + 1) c (e :: es)) : Ents w (some ⟨b, o + 10, none⟩) n (c - 1) es := by
  have hl := h.len
  have h1 := h.rd.1
  have h2 := h.rd.2.1
  rw [List.length_cons] at hl
  refine ⟨⟨by omega, by omega, by rw [Bh.ens_len]; omega, fun hn => ?_⟩, by omega, fun x hx => h.reads x (List.mem_cons_of_mem _ hx)⟩
  obtain ⟨b', o', hA, hb, hc⟩ := h.rd.2.2.2 (Nat.succ_pos _)
  cases hA
  refine ⟨b, o + 10, rfl, hb, fun j u hu => ?_⟩
  rw [Nat.add_assoc]
  refine hc (10 + j) u ?_
  rw [Bh.ens_cons, List.getElem?_append_right (by show 10 ≤ 10 + j; omega)]
  show (ens es)[10 + j - 10]? = some u
  rw [Nat.add_sub_cancel_left]
  exact hu
theorem lives_rdy {w : World} {b o c : Nat} {es : List En} {A1 A2 : Option Addr} {c1 c2 : Nat} (h : Ents w (some ⟨b, o, none⟩) 3 c es) (h1 : es[1]? = some (Bh.linked 1 5 ex3 1 (wE 0) A1 c1)) (h2 : es[2]? = some (Bh.linked 1 5 ex3 2 (wE 1) A2 c2)) (ht : Tab w) :
    Calls Tryd.prog 15 #[.slice (some ⟨b, o + 10, none⟩) 2 (c - 1), .agg #[.int .u64 3, .int .u64 0], .agg #[.int .u64 0, .int .u64 0]] w fun r w' => ∃ A5 c5, r = .returned (.slice A5 1 c5) ∧ Rd w' w'.heap.size 1 A5 1 c5 (u64s [3]) ∧ Below w.heap.size w w' := by
  match es, h.len with
  | [x0, x1, x2], _ =>
    simp only [List.getElem?_cons_succ, List.getElem?_cons_zero, Option.some.injEq] at h1 h2
    subst h1 h2
    refine (ready_any (ents_tail h) (by decide) ht 3 0 0 0 (by decide) (by decide) ⟨by decide, by decide, by decide⟩ (by decide)).mono ?_
    rintro e w' ⟨l, hp, ⟨A, c', rfl, hr⟩, hb⟩
    have hl : l = [3] := Rdy.uniq hp (ex_rdy A1 A2 c1 c2)
    subst hl
    exact ⟨A, c', rfl, hr, hb⟩
set_option maxHeartbeats 4000000 in
theorem lives22 (w : World) (ht : Tab w) : Calls Tryd.prog 8 #[] w fun r w' => r = .returned (.bool true) ∧ Below w.heap.size w w' := by
  have HT := Lib.hid ht
  have HW0 := Lib.hid (fun W => (show Calls Tryd.prog 25 #[.int .u32 0] W fun r w' => r = .returned (.agg #[.int .u64 0, .int .u64 0, .int .u64 0, .int .i64 1, .int .u64 0, .int .u64 0, .int .u32 0, .int .u32 1, .string ⟨#[97, 98, 99, 100, 101, 102, 103, 104]⟩, .slice none 0 0]) ∧ Below W.heap.size W w' from lives1_any 0 W))
  have HW1 := Lib.hid (fun W => (show Calls Tryd.prog 25 #[.int .u32 1] W fun r w' => r = .returned (.agg #[.int .u64 0, .int .u64 0, .int .u64 0, .int .i64 1, .int .u64 0, .int .u64 0, .int .u32 1, .int .u32 1, .string ⟨#[97, 98, 99, 100, 101, 102, 103, 104]⟩, .slice none 0 0]) ∧ Below W.heap.size W w' from lives1_any 1 W))
  have hr3 : ∀ W : World, (W.alloc (.cells #[.int .u64 0, .int .u64 0, .int .u64 0, .int .i64 1, .int .u64 0, .int .u64 0, .int .u32 0, .int .u32 1, .string ⟨#[97, 98, 99, 100, 101, 102, 103, 104]⟩, .slice none 0 0, .int .u64 0, .int .u64 0, .int .u64 0, .int .i64 1, .int .u64 0, .int .u64 0, .int .u32 0, .int .u32 1, .string ⟨#[97, 98, 99, 100, 101, 102, 103, 104]⟩, .slice none 0 0, .int .u64 0, .int .u64 0, .int .u64 0, .int .i64 1, .int .u64 0, .int .u64 0, .int .u32 1, .int .u32 1, .string ⟨#[97, 98, 99, 100, 101, 102, 103, 104]⟩, .slice none 0 0] 43)).heap[W.heap.size]? = some (.cells (ens ex3).toArray 43 (0, 0)) := fun W => heap_alloc_new W (.cells #[.int .u64 0, .int .u64 0, .int .u64 0, .int .i64 1, .int .u64 0, .int .u64 0, .int .u32 0, .int .u32 1, .string ⟨#[97, 98, 99, 100, 101, 102, 103, 104]⟩, .slice none 0 0, .int .u64 0, .int .u64 0, .int .u64 0, .int .i64 1, .int .u64 0, .int .u64 0, .int .u32 0, .int .u32 1, .string ⟨#[97, 98, 99, 100, 101, 102, 103, 104]⟩, .slice none 0 0, .int .u64 0, .int .u64 0, .int .u64 0, .int .i64 1, .int .u64 0, .int .u64 0, .int .u32 1, .int .u32 1, .string ⟨#[97, 98, 99, 100, 101, 102, 103, 104]⟩, .slice none 0 0] 43)
  have HCH := Lib.hid (fun W : World => (show Calls Tryd.prog 18 #[.slice (some ⟨W.heap.size, 0, none⟩) 3 3, .int .u64 1, .int .i64 5] (W.alloc (.cells #[.int .u64 0, .int .u64 0, .int .u64 0, .int .i64 1, .int .u64 0, .int .u64 0, .int .u32 0, .int .u32 1, .string ⟨#[97, 98, 99, 100, 101, 102, 103, 104]⟩, .slice none 0 0, .int .u64 0, .int .u64 0, .int .u64 0, .int .i64 1, .int .u64 0, .int .u64 0, .int .u32 0, .int .u32 1, .string ⟨#[97, 98, 99, 100, 101, 102, 103, 104]⟩, .slice none 0 0, .int .u64 0, .int .u64 0, .int .u64 0, .int .i64 1, .int .u64 0, .int .u64 0, .int .u32 1, .int .u32 1, .string ⟨#[97, 98, 99, 100, 101, 102, 103, 104]⟩, .slice none 0 0] 43)) _ from chain_any (ents3 (hr3 W)) (by decide) 1 (by decide) 5))
  clear hr3
  clear ht
  go_enter Tryd.func8, Tryd.ntmps8
  go_wp2_with (first
    | (go_at_call 25; first
        | (refine ((HW0.out w)).mono ?_; rintro e w1 ⟨rfl, hb1⟩; have HB1 := Lib.hid hb1; clear hb1)
        | (refine ((HW0.out w1)).mono ?_; rintro e w2 ⟨rfl, hb2⟩; have HB2 := Lib.hid (HB1.out.trans (hb2.mono HB1.out.size)); clear hb2)
        | (refine ((HW1.out w2)).mono ?_; rintro e w3 ⟨rfl, hb3⟩; have HB3 := Lib.hid (HB2.out.trans (hb3.mono HB2.out.size)); clear hb3))
    | (go_at_call 18; refine (HCH.out w3).mono ?_; rintro e w4 ⟨A4, c4, es4, rfl, hE, hG, hb4⟩
       have hb34 := ((Below.refl w3.heap.size w3).alloc (Nat.le_refl _) _).trans (hb4.mono (by simp))
       have HB4 := Lib.hid (HB3.out.trans (hb34.mono HB3.out.size))
       obtain ⟨b4, o4, rfl, _⟩ := hE.rd.2.2.2 (by decide)
       have hc4 : 3 ≤ c4 := hE.rd.1
       have hcm : (c4 : Int) ≤ 9223372036854775807 := by have := hE.rd.2.1; unfold maxLen at this; omega
       obtain ⟨A1, c1, h1⟩ := hG 1 (wE 0) rfl
       obtain ⟨A2, c2, h2⟩ := hG 2 (wE 1) rfl
       have HRY := Lib.hid (lives_rdy hE h1 h2 (HT.out.below HB4.out))
       clear hE hG hb4 hb34 h1 h2)
    | (go_at_call 15; refine HRY.out.mono ?_; rintro e w5 ⟨A5, c5, rfl, hrd5, hb5⟩
       have hc5 := hrd5.1
       obtain ⟨b5, o5, rfl, _, hcc⟩ := hrd5.2.2.2 (by decide)
       have k5 : w5.cell? ⟨b5, o5, none⟩ = some (.int .u64 3) := hcc 0 _ rfl
       have HB5 := Lib.hid (HB4.out.trans (hb5.mono HB4.out.size))
       clear hcc hrd5 hb5)
    | fail)
  go_ret
  exact ⟨rfl, HB5.out⟩
end Go.Proofs.YtgejmeankppmhaaDoor
