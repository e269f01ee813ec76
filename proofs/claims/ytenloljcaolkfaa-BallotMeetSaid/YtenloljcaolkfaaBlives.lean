/- The chapter's example. -/
import Derived.Test.YtenloljcaolkfaaBbare
namespace Go.Proofs.Ytenloljcaolkfaa
open Go.RowKit
set_option maxRecDepth 20000

theorem ents_one {w : World} {g : Nat} {t : TypeId} {fr : Nat × Nat} {x : En} (h : w.heap[g]? = some (.cells x.cells t fr)) (hx : x.Reads w) : Ents w (some ⟨g, 0, none⟩) 1 1 [x] := by
  refine ⟨⟨Nat.le_refl _, by unfold maxLen; decide, rfl, fun _ => ⟨g, 0, rfl, (Array.getElem?_eq_some_iff.1 h).1, fun j u hu => ?_⟩⟩, rfl, fun e he => by cases List.mem_singleton.1 he; exact hx⟩
  rw [Nat.zero_add, cell_of_row w _ j _ _ _ h]
  have : ens [x] = x.cells.toList := by simp [ens]
  rw [this] at hu
  simpa using hu
def exB : En := ⟨6, 2, 0, 2, 0, 0, 0, 0, [], none, 0, 0, []⟩
theorem exB_reads (w : World) : exB.Reads w := ⟨by decide, by decide, by decide, by decide, ⟨by decide, by decide, by decide, by decide⟩, Nat.zero_le _, Rd.nil_, rfl, fun _ h => by cases h⟩
def ex0 (m : Nat) (l1 : Li) : Bl := ⟨nset 3, 7, 5, m, fun y => if y = 1 then some l1 else none⟩
theorem ex0_vs (m : Nat) (l1 : Li) : (ex0 m l1).vs = [1] := by
  unfold Bl.vs keysOf ex0
  have : (fun x => (sv (fun y => if y = 1 then some l1 else none) x).isSome) = fun x => decide (x = 1) := by
    funext x
    rw [sv_some]
    by_cases h : x = 1 <;> simp [h]
  rw [this]
  decide
theorem ex1_vs (m : Nat) (l0 l1 : Li) : ((ex0 m l1).vote 0 l0).vs = [0, 1] := by
  unfold Bl.vs keysOf ex0 Bl.vote
  have : (fun x => (sv (fun y => if y = 0 then some l0 else if y = 1 then some l1 else none) x).isSome) = fun x => decide (x = 0 ∨ x = 1) := by
    funext x
    rw [sv_some]
    by_cases h : x = 0
    · simp [h]
    · by_cases h1 : x = 1 <;> simp [h, h1]
  rw [this]
  decide
theorem nset3 : nset 3 = 7 := by decide +kernel
theorem ex0_lost (m : Nat) (l1 : Li) : Qu.majB (ex0 m l1).vset (ex0 m l1).nd = false := by
  unfold Bl.vset
  rw [ex0_vs, show (ex0 m l1).nd = 7 from nset3]
  decide +kernel
theorem ex1_vset (m : Nat) (l0 l1 : Li) : ((ex0 m l1).vote 0 l0).vset = 3 := by
  unfold Bl.vset
  rw [ex1_vs]
  decide +kernel
theorem ex1_won (m : Nat) (l0 l1 : Li) : Qu.majB ((ex0 m l1).vote 0 l0).vset ((ex0 m l1).vote 0 l0).nd = true := by
  rw [ex1_vset, show ((ex0 m l1).vote 0 l0).nd = 7 from nset3]
  decide +kernel
theorem ex1_ls (m : Nat) (l0 l1 : Li) : ((ex0 m l1).vote 0 l0).ls = [l0, l1] := by
  unfold Bl.ls
  rw [ex1_vs]
  rfl
theorem had_one (f : Nat → Bool) (h0 : f 0 = true) (h1 : ∀ j, 0 < j → f j = false) : ∀ k, hadN f (k + 1) = 1 := by
  intro k
  induction k with
  | zero => unfold hadN; rw [if_pos h0]
  | succ k ih => unfold hadN; rw [h1 (k + 1) (by omega), if_neg (by decide)]; exact ih
theorem ex1_had {l0 l1 : Li} (A : Option Addr) (c : Nat) (h0 : l0.es = [exB.put A c]) (h1 : l1.es = []) : hadN (hasE [l0, l1] 5) 192 = 1 := by
  have hb : ∀ ix, (bst [l0, l1] ix).isSome = decide (ix = 6) := by
    intro ix
    have hfl : flat [l0, l1] = [exB.put A c] := by unfold flat; simp [h0, h1]
    unfold bst bestOf
    rw [hfl, List.foldl_cons, List.foldl_nil]
    unfold bstep btr
    have hv : vd [exB.put A c] (exB.put A c) = false := by unfold vd; simp [En.voids, En.put, exB]
    rw [hv]
    by_cases h : ix = 6
    · subst h
      simp [exB, En.put]
    · have : ¬ (exB.put A c).ix = ix := fun e => h e.symm
      simp [h, this]
  refine had_one _ ?_ (fun j hj => ?_) 191
  · unfold hasE; rw [hb]; rfl
  · unfold hasE; rw [hb]; simp; omega
theorem cop_nil {es : List En} (h : Cop [] es) : es = [] := List.eq_nil_of_length_eq_zero h.1
theorem cop_one {es : List En} {e : En} (h : Cop [e] es) : ∃ A c, es = [e.put A c] := by
  obtain ⟨h1, h2⟩ := h
  obtain ⟨A, c, h3⟩ := h2 0 e rfl
  match es, h1, h3 with
  | [y], _, h3 => exact ⟨A, c, by rw [Option.some.inj h3]⟩
set_option maxHeartbeats 4000000 in
theorem lives26 (w : World) : Calls Try.prog 8 #[] w (TVal w (.bool true)) := by
  have HN : Calls Try.prog 9 #[.int .i64 3, .int .i64 1, .int .u64 7, .int .u64 5, .slice none 0 0] w (TNew w 3 1 7 5 []) := new_ok (es := []) ⟨Rd.nil_, rfl, fun _ h => by cases h⟩ (fun _ h => by cases h) (by decide) 3 1 7 5 (by decide) (by decide) (by decide) (by decide)
  have HN1 := Lib.hid HN
  clear HN
  unfold TVal
  go_enter Try.func8, Try.ntmps8
  go_wp2_with (first
    | (go_at_call 9
       refine HN1.out.mono ?_
       clear HN1
       rintro e w1 ⟨b, m, l1, rfl, hb, hm, hc1, hn1, hB1, hbl1⟩
       have HB1 := Lib.hid (show BlAt w1 b (ex0 m l1) from hB1)
       have HW1 := Lib.hid hbl1
       have HL1 := Lib.hid (cop_nil hc1)
       have HM := Lib.hid hm
       clear hc1 hn1 hB1 hbl1 hm hb)
    | (go_at_call 14
       refine (won_any HB1.out).mono ?_
       rw [ex0_lost]
       rintro e w2 ⟨rfl, hb2⟩
       have HB2 := Lib.hid (HB1.out.below hb2)
       have HW2 := Lib.hid (HW1.out.trans (hb2.mono HW1.out.size))
       clear HB1 HW1 hb2)
    | (go_at_call 10
       refine (grant_ok (k := 0) (es := [exB]) (HB2.out.below ((Below.refl _ _).alloc (Nat.le_refl _) (.cells exB.cells 55))) (by decide) (by rw [show (ex0 m l1).nd = nset 3 from rfl, nset_has 3 (by decide)]; rfl) rfl (ents_one (heap_alloc_new w2 (.cells exB.cells 55)) (exB_reads _)) (fun e he => by cases List.mem_singleton.1 he; decide) (by decide)).mono ?_
       rintro e w3 ⟨rfl, hg3, l0, hc0, hn0, hB3⟩
       have HB3 := Lib.hid hB3
       have HW3 := Lib.hid ((HW2.out.alloc HW2.out.size (.cells exB.cells 55)).grown hg3 (by have := HW2.out.size; simp; omega) (fun q e => by cases e; exact HM.out))
       have HL0 := Lib.hid (cop_one hc0)
       clear hg3 hc0 hn0 hB3)
    | (go_at_call 14
       refine (won_any HB3.out).mono ?_
       rw [ex1_won]
       rintro e w4 ⟨rfl, hb4⟩
       have HB4 := Lib.hid (HB3.out.below hb4)
       have HW4 := Lib.hid (HW3.out.trans (hb4.mono HW3.out.size))
       clear hb4)
    | (go_at_call 12
       refine (voters_any HB4.out).mono ?_
       rw [ex1_vset]
       rintro e w5 ⟨rfl, hb5⟩
       have HB5 := Lib.hid (HB4.out.below hb5)
       have HW5 := Lib.hid (HW4.out.trans (hb5.mono HW4.out.size))
       clear hb5)
    | (go_at_call 13
       refine (merge_won HB5.out (show (5 : Nat) ≤ 4611686018427387904 by decide) 1 (ex1_won m l0 l1)).mono ?_
       rw [ex1_ls, show ((ex0 m l1).vote 0 l0).bs = 5 from rfl, show ((ex0 m l1).vote 0 l0).tm = 7 from rfl]
       rintro e w6 ⟨A6, c6, es6, rfl, _, _, hb6⟩
       obtain ⟨A, c, h0⟩ := HL0.out
       rw [ex1_had A c h0 HL1.out]
       have HB6 := Lib.hid (HB5.out.below hb6)
       have HW6 := Lib.hid (HW5.out.trans (hb6.mono HW5.out.size))
       clear hb6 h0)
    | (go_at_call 17
       refine (term_row (show w6.heap[b]? = some (.cells #[.int .u64 ((nset 3 : Nat) : Int), .int .u64 7, .int .u64 5, .map (some m)] 46 (0, 0)) from HB6.out.row)).mono ?_
       rintro e w7 ⟨rfl, hb7⟩
       have HB7 := Lib.hid (HB6.out.below hb7)
       have HW7 := Lib.hid (HW6.out.trans (hb7.mono HW6.out.size))
       clear hb7)
    | (go_at_call 18
       refine (base_row (show w7.heap[b]? = some (.cells #[.int .u64 ((nset 3 : Nat) : Int), .int .u64 7, .int .u64 5, .map (some m)] 46 (0, 0)) from HB7.out.row)).mono ?_
       rintro e w8 ⟨rfl, hb8⟩
       have HW8 := Lib.hid (HW7.out.trans (hb8.mono HW7.out.size))
       clear hb8)
    | fail)
  go_ret
  exact ⟨rfl, HW8.out⟩
end Go.Proofs.Ytenloljcaolkfaa
