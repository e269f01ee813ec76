/- A ballot that no call made; the small calls. The chapter's example. -/
import Derived.Test.YtapfggpeodpflaaBmgM
namespace Go.Proofs.Ytapfggpeodpflaa
open Go.RowKit
set_option maxRecDepth 20000

theorem keysf_nil (w : World) : Calls Try.prog 24 #[.map none] w fun e w' => e = .returned (.func (.func 37) #[] #[.pointer (some ⟨w.heap.size, 0, none⟩)]) ∧ w' = w.alloc (.cells #[.map none] 44) := by
  go_enter Try.func24, Try.ntmps24
  go_wp2
  go_ret
  exact ⟨rfl, rfl⟩
/-- Block b is a bare ballot. -/
def Bare (w : World) (b : Nat) : Prop := w.heap[b]? = some (.cells #[.int .u64 0, .int .u64 0, .int .u64 0, .map none] 46 (0, 0))
theorem Bare.below {w w' : World} {b : Nat} (h : Bare w b) (hb : Below w.heap.size w w') : Bare w' b := row_below h hb
set_option maxHeartbeats 1000000 in
theorem voters_bare {w : World} {b : Nat} (h : Bare w b) : Calls Try.prog 12 #[.pointer (some ⟨b, 0, none⟩)] w (TVal w (.int .u64 0)) := by
  have c3 := cell_of_row w b 3 _ _ _ h
  have HK := Lib.hid (keysf_nil w)
  have HS := Lib.hid (sorted_nil w.heap.size (w.alloc (.cells #[.map none] 44)) (by simp) (cell_of_row _ _ 0 _ _ _ (heap_alloc_new w _)))
  unfold TVal
  clear h
  go_enter Try.func12, Try.ntmps12
  go_wp2_with (first
    | (go_at_call 24; refine HK.out.mono ?_; rintro e w1 ⟨rfl, rfl⟩)
    | (go_at_call 23; refine HS.out.mono ?_; rintro e w2 ⟨A, c, rfl, hr, hA, hb⟩; have HR := Lib.hid hr; have HB := Lib.hid hb; clear hr hb hA)
    | (go_at_call 21; refine (Qu.with_any (l := []) 0 (by decide) HR.out (by decide)).mono ?_; rintro e w3 ⟨rfl, rfl⟩)
    | fail)
  go_ret
  exact ⟨rfl, ((Below.refl _ _).alloc (Nat.le_refl _) _).trans (HB.out.mono (by simp))⟩
set_option maxHeartbeats 1000000 in
theorem won_bare {w : World} {b : Nat} (h : Bare w b) : Calls Try.prog 14 #[.pointer (some ⟨b, 0, none⟩)] w (TVal w (.bool false)) := by
  have HV := Lib.hid (fun w' (hb : Below w.heap.size w w') => voters_bare (h.below hb))
  have HC := Lib.hid (fun w' (hb : Below w.heap.size w w') => cell_of_row w' b 0 _ _ _ (h.below hb))
  have HQ := Lib.hid (fun W => Qu.maj_any 0 0 W (by decide) (by decide))
  have hq0 : Qu.majB 0 0 = false := by decide
  rw [hq0] at HQ
  unfold TVal at *
  clear h hq0
  go_enter Try.func14, Try.ntmps14
  go_wp2_with (fail)
  refine wp_low w.heap.size [([0, 1, 2, 3, 5, 6, 7, 8], 4), ([], 9)] [10, 11] (by kernel_rfl) (by kernel_rfl) (fun d _ _ _ _ h => by cases d <;> exact h) (Nat.le_refl _) fun wd hbd => ?_
  intro q hq
  have C0 := fun z => HC.out _ (hq z)
  simp only [pickI, Option.toList_some, List.cons_append, List.nil_append, List.getElem?_toArray, List.getElem?_cons_succ, List.getElem?_cons_zero]
  try go_frame
  go_big_quiet_step (fail)
  go_big_quiet_step (fail)
  go_big_quiet_step (fail)
  go_big_quiet_step (fail)
  go_big_quiet_step (fail)
  go_big_quiet_step (fail)
  go_big_quiet_step (fail)
  go_big_quiet_step (fail)
  refine wpQuiet_nil ?_
  clear hq q C0
  refine seg_op (by simp only [List.getElem?_toArray, List.getElem?_cons_succ, List.getElem?_cons_zero]; rfl) fun K hK => ?_
  go_simp
  refine (HV.out _ hbd).mono ?_
  rintro e v0 ⟨rfl, bv0⟩
  have zv0 := hbd.trans (bv0.mono hbd.size)
  refine hK.out _ _ (seg_keep zv0 ?_)
  clear hK K
  intro q hq
  refine wpQuiet_nil ?_
  clear hq q
  refine seg_op (by simp only [List.getElem?_toArray, List.getElem?_cons_succ, List.getElem?_cons_zero]; rfl) fun K hK => ?_
  go_simp
  refine (HQ.out _).mono ?_
  rintro e v1 ⟨rfl, rfl⟩
  have zv1 := zv0
  refine hK.out _ _ (seg_keep zv1 ?_)
  clear hK K
  intro q hq
  have C0 := fun z => HC.out _ (hq z)
  simp only [pickI, Option.toList_some, List.cons_append, List.nil_append, List.getElem?_toArray, List.getElem?_cons_succ, List.getElem?_cons_zero]
  try go_frame
  go_big_quiet_step (fail)
  go_big_quiet_step (fail)
  refine wpQuiet_nil ?_
  clear hq q C0
  go_wp2
  go_ret
  exact ⟨rfl, zv1⟩
set_option maxHeartbeats 1000000 in
theorem won_nil (w : World) : Calls Try.prog 14 #[.pointer none] w (TVal w (.bool false)) := by
  unfold TVal
  go_enter Try.func14, Try.ntmps14
  go_wp2_with (fail)
  refine wp_low w.heap.size [([0, 1, 2, 3, 5, 6, 7, 8], 4), ([], 9)] [10, 11] (by kernel_rfl) (by kernel_rfl) (fun d _ _ _ _ h => by cases d <;> exact h) (Nat.le_refl _) fun wd hbd => ?_
  intro q hq
  simp only [pickI, Option.toList_some, List.cons_append, List.nil_append, List.getElem?_toArray, List.getElem?_cons_succ, List.getElem?_cons_zero]
  try go_frame
  go_big_quiet_step (fail)
  go_big_quiet_step (fail)
  go_big_quiet_step (fail)
  go_big_quiet_step (fail)
  go_big_quiet_step (fail)
  go_big_quiet_step (fail)
  go_big_quiet_step (fail)
  go_big_quiet_step (fail)
  refine wpQuiet_nil ?_
  clear hq q
  refine seg_op (by simp only [List.getElem?_toArray, List.getElem?_cons_succ, List.getElem?_cons_zero]; rfl) fun K hK => ?_
  go_simp
  refine hK.out _ _ (seg_keep hbd ?_)
  clear hK K
  intro q hq
  refine wpQuiet_nil ?_
  clear hq q
  refine seg_op (by simp only [List.getElem?_toArray, List.getElem?_cons_succ, List.getElem?_cons_zero]; rfl) fun K hK => ?_
  go_simp
  refine hK.out _ _ (seg_keep hbd ?_)
  clear hK K
  intro q hq
  simp only [pickI, Option.toList_some, List.cons_append, List.nil_append, List.getElem?_toArray, List.getElem?_cons_succ, List.getElem?_cons_zero]
  try go_frame
  go_big_quiet_step (fail)
  go_big_quiet_step (fail)
  refine wpQuiet_nil ?_
  clear hq q
  go_wp2
  go_ret
  exact ⟨rfl, hbd⟩
theorem voters_nil (w : World) : Calls Try.prog 12 #[.pointer none] w (TVal w (.int .u64 0)) := by
  unfold TVal
  go_enter Try.func12, Try.ntmps12
  go_wp2
  go_ret
  exact ⟨rfl, Below.refl _ _⟩
theorem term_nil (w : World) : Calls Try.prog 17 #[.pointer none] w (TVal w (.int .u64 0)) := by
  unfold TVal
  go_enter Try.func17, Try.ntmps17
  go_wp2
  go_ret
  exact ⟨rfl, Below.refl _ _⟩
theorem base_nil (w : World) : Calls Try.prog 18 #[.pointer none] w (TVal w (.int .u64 0)) := by
  unfold TVal
  go_enter Try.func18, Try.ntmps18
  go_wp2
  go_ret
  exact ⟨rfl, Below.refl _ _⟩
theorem term_row {w : World} {b : Nat} {n t s : Int} {m : Option Nat} (h : w.heap[b]? = some (.cells #[.int .u64 n, .int .u64 t, .int .u64 s, .map m] 46 (0, 0))) : Calls Try.prog 17 #[.pointer (some ⟨b, 0, none⟩)] w (TVal w (.int .u64 t)) := by
  have c1 := cell_of_row w b 1 _ _ _ h
  unfold TVal
  go_enter Try.func17, Try.ntmps17
  go_wp2
  go_ret
  exact ⟨rfl, Below.refl _ _⟩
theorem base_row {w : World} {b : Nat} {n t s : Int} {m : Option Nat} (h : w.heap[b]? = some (.cells #[.int .u64 n, .int .u64 t, .int .u64 s, .map m] 46 (0, 0))) : Calls Try.prog 18 #[.pointer (some ⟨b, 0, none⟩)] w (TVal w (.int .u64 s)) := by
  have c2 := cell_of_row w b 2 _ _ _ h
  unfold TVal
  go_enter Try.func18, Try.ntmps18
  go_wp2
  go_ret
  exact ⟨rfl, Below.refl _ _⟩
set_option maxHeartbeats 1000000 in
theorem merge_lost (p : Option Addr) (w : World) (h : Calls Try.prog 14 #[.pointer p] w (TVal w (.bool false))) (n : Int) : Calls Try.prog 13 #[.pointer p, .int .i64 n] w (TVal w (.slice none 0 0)) := by
  have HW := Lib.hid h
  unfold TVal at *
  clear h
  go_enter Try.func13, Try.ntmps13
  go_wp2_with (first
    | (go_at_call 14; refine HW.out.mono ?_; rintro e w1 ⟨rfl, hb1⟩)
    | fail)
  go_ret
  exact ⟨rfl, hb1⟩
set_option maxHeartbeats 1000000 in
theorem grant_bare {w : World} {b : Nat} (h : Bare w b) (n : Int) (v : Value) : Calls Try.prog 10 #[.pointer (some ⟨b, 0, none⟩), .int .i64 n, v] w (TVal w (.int .i64 2)) := by
  have c0 := cell_of_row w b 0 _ _ _ h
  have HH := Lib.hid (fun W => Qu.has_any 0 n W (by decide))
  have hn : Qu.inB 0 n = false := by unfold Qu.inB; simp
  rw [hn] at HH
  unfold TVal at *
  clear h hn
  go_enter Try.func10, Try.ntmps10
  go_wp2_with (first
    | (go_at_call 22; refine (HH.out _).mono ?_; rintro e w1 ⟨rfl, rfl⟩)
    | fail)
  go_ret
  exact ⟨rfl, Below.refl _ _⟩
end Go.Proofs.Ytapfggpeodpflaa

namespace Go.Proofs.Ytapfggpeodpflaa
open Go.RowKit
set_option maxRecDepth 20000

theorem ents_one {w : World} {g : Nat} {t : TypeId} {fr : Nat × Nat} {x : En} (h : w.heap[g]? = some (.cells x.cells t fr)) (hx : x.Reads w) : Ents w (some ⟨g, 0, none⟩) 1 1 [x] := by
  refine ⟨⟨Nat.le_refl _, by unfold maxLen; decide, rfl, fun _ => ⟨g, 0, rfl, (Array.getElem?_eq_some_iff.1 h).1, fun j u hu => ?_⟩⟩, rfl, fun e he => by cases List.mem_singleton.1 he; exact hx⟩
  rw [Nat.zero_add, cell_of_row w _ j _ _ _ h]
  have : ens [x] = x.cells.toList := by simp [ens]
  rw [this] at hu
  simpa using hu
def exB : En := ⟨6, 2, 0, 2, 0, 0, 0, 0, [], none, 0, 0, []⟩
theorem exB_reads (w : World) : exB.Reads w := ⟨by decide, by decide, by decide, by decide, ⟨by decide, by decide, by decide, by decide⟩, Nat.zero_le _, Rd.nil_, rfl, fun _ h => by cases h⟩
def ex0 (m : Nat) (l1 : Li) : Bl := ⟨nset 3, 7, 5, m, fun y => if y = 1 then some l1 else none⟩
theorem ex0_vs (m : Nat) (l1 : Li) : (ex0 m l1).vs = [1] := by
  unfold Bl.vs keysOf ex0
  have : (fun x => (sv (fun y => if y = 1 then some l1 else none) x).isSome) = fun x => decide (x = 1) := by
    funext x
    rw [sv_some]
    by_cases h : x = 1 <;> simp [h]
  rw [this]
  decide
theorem ex1_vs (m : Nat) (l0 l1 : Li) : ((ex0 m l1).vote 0 l0).vs = [0, 1] := by
  unfold Bl.vs keysOf ex0 Bl.vote
  have : (fun x => (sv (fun y => if y = 0 then some l0 else if y = 1 then some l1 else none) x).isSome) = fun x => decide (x = 0 ∨ x = 1) := by
    funext x
    rw [sv_some]
    by_cases h : x = 0
    · simp [h]
    · by_cases h1 : x = 1 <;> simp [h, h1]
  rw [this]
  decide
theorem nset3 : nset 3 = 7 := by decide +kernel
theorem ex0_lost (m : Nat) (l1 : Li) : Qu.majB (ex0 m l1).vset (ex0 m l1).nd = false := by
  unfold Bl.vset
  rw [ex0_vs, show (ex0 m l1).nd = 7 from nset3]
  decide +kernel
theorem ex1_vset (m : Nat) (l0 l1 : Li) : ((ex0 m l1).vote 0 l0).vset = 3 := by
  unfold Bl.vset
  rw [ex1_vs]
  decide +kernel
theorem ex1_won (m : Nat) (l0 l1 : Li) : Qu.majB ((ex0 m l1).vote 0 l0).vset ((ex0 m l1).vote 0 l0).nd = true := by
  rw [ex1_vset, show ((ex0 m l1).vote 0 l0).nd = 7 from nset3]
  decide +kernel
theorem ex1_ls (m : Nat) (l0 l1 : Li) : ((ex0 m l1).vote 0 l0).ls = [l0, l1] := by
  unfold Bl.ls
  rw [ex1_vs]
  rfl
theorem had_one (f : Nat → Bool) (h0 : f 0 = true) (h1 : ∀ j, 0 < j → f j = false) : ∀ k, hadN f (k + 1) = 1 := by
  intro k
  induction k with
  | zero => unfold hadN; rw [if_pos h0]
  | succ k ih => unfold hadN; rw [h1 (k + 1) (by omega), if_neg (by decide)]; exact ih
theorem ex1_had {l0 l1 : Li} (A : Option Addr) (c : Nat) (h0 : l0.es = [exB.put A c]) (h1 : l1.es = []) : hadN (hasE [l0, l1] 5) 192 = 1 := by
  have hb : ∀ ix, (bst [l0, l1] ix).isSome = decide (ix = 6) := by
    intro ix
    have hfl : flat [l0, l1] = [exB.put A c] := by unfold flat; simp [h0, h1]
    unfold bst bestOf
    rw [hfl, List.foldl_cons, List.foldl_nil]
    unfold bstep btr
    have hv : vd [exB.put A c] (exB.put A c) = false := by unfold vd; simp [En.voids, En.put, exB]
    rw [hv]
    by_cases h : ix = 6
    · subst h
      simp [exB, En.put]
    · have : ¬ (exB.put A c).ix = ix := fun e => h e.symm
      simp [h, this]
  refine had_one _ ?_ (fun j hj => ?_) 191
  · unfold hasE; rw [hb]; rfl
  · unfold hasE; rw [hb]; simp; omega
theorem cop_nil {es : List En} (h : Cop [] es) : es = [] := List.eq_nil_of_length_eq_zero h.1
theorem cop_one {es : List En} {e : En} (h : Cop [e] es) : ∃ A c, es = [e.put A c] := by
  obtain ⟨h1, h2⟩ := h
  obtain ⟨A, c, h3⟩ := h2 0 e rfl
  match es, h1, h3 with
  | [y], _, h3 => exact ⟨A, c, by rw [Option.some.inj h3]⟩
set_option maxHeartbeats 4000000 in
theorem lives26 (w : World) : Calls Try.prog 8 #[] w (TVal w (.bool true)) := by
  have HN : Calls Try.prog 9 #[.int .i64 3, .int .i64 1, .int .u64 7, .int .u64 5, .slice none 0 0] w (TNew w 3 1 7 5 []) := new_ok (es := []) ⟨Rd.nil_, rfl, fun _ h => by cases h⟩ (fun _ h => by cases h) (by decide) 3 1 7 5 (by decide) (by decide) (by decide) (by decide)
  have HN1 := Lib.hid HN
  clear HN
  unfold TVal
  go_enter Try.func8, Try.ntmps8
  go_wp2_with (first
    | (go_at_call 9
       refine HN1.out.mono ?_
       clear HN1
       rintro e w1 ⟨b, m, l1, rfl, hb, hm, hc1, hn1, hB1, hbl1⟩
       have HB1 := Lib.hid (show BlAt w1 b (ex0 m l1) from hB1)
       have HW1 := Lib.hid hbl1
       have HL1 := Lib.hid (cop_nil hc1)
       have HM := Lib.hid hm
       clear hc1 hn1 hB1 hbl1 hm hb)
    | (go_at_call 14
       refine (won_any HB1.out).mono ?_
       rw [ex0_lost]
       rintro e w2 ⟨rfl, hb2⟩
       have HB2 := Lib.hid (HB1.out.below hb2)
       have HW2 := Lib.hid (HW1.out.trans (hb2.mono HW1.out.size))
       clear HB1 HW1 hb2)
    | (go_at_call 10
       refine (grant_ok (k := 0) (es := [exB]) (HB2.out.below ((Below.refl _ _).alloc (Nat.le_refl _) (.cells exB.cells 55))) (by decide) (by rw [show (ex0 m l1).nd = nset 3 from rfl, nset_has 3 (by decide)]; rfl) rfl (ents_one (heap_alloc_new w2 (.cells exB.cells 55)) (exB_reads _)) (fun e he => by cases List.mem_singleton.1 he; decide) (by decide)).mono ?_
       rintro e w3 ⟨rfl, hg3, l0, hc0, hn0, hB3⟩
       have HB3 := Lib.hid hB3
       have HW3 := Lib.hid ((HW2.out.alloc HW2.out.size (.cells exB.cells 55)).grown hg3 (by have := HW2.out.size; simp; omega) (fun q e => by cases e; exact HM.out))
       have HL0 := Lib.hid (cop_one hc0)
       clear hg3 hc0 hn0 hB3)
    | (go_at_call 14
       refine (won_any HB3.out).mono ?_
       rw [ex1_won]
       rintro e w4 ⟨rfl, hb4⟩
       have HB4 := Lib.hid (HB3.out.below hb4)
       have HW4 := Lib.hid (HW3.out.trans (hb4.mono HW3.out.size))
       clear hb4)
    | (go_at_call 12
       refine (voters_any HB4.out).mono ?_
       rw [ex1_vset]
       rintro e w5 ⟨rfl, hb5⟩
       have HB5 := Lib.hid (HB4.out.below hb5)
       have HW5 := Lib.hid (HW4.out.trans (hb5.mono HW4.out.size))
       clear hb5)
    | (go_at_call 13
       refine (merge_won HB5.out (show (5 : Nat) ≤ 4611686018427387904 by decide) 1 (ex1_won m l0 l1)).mono ?_
       rw [ex1_ls, show ((ex0 m l1).vote 0 l0).bs = 5 from rfl, show ((ex0 m l1).vote 0 l0).tm = 7 from rfl]
       rintro e w6 ⟨A6, c6, es6, rfl, _, _, hb6⟩
       obtain ⟨A, c, h0⟩ := HL0.out
       rw [ex1_had A c h0 HL1.out]
       have HB6 := Lib.hid (HB5.out.below hb6)
       have HW6 := Lib.hid (HW5.out.trans (hb6.mono HW5.out.size))
       clear hb6 h0)
    | (go_at_call 17
       refine (term_row (show w6.heap[b]? = some (.cells #[.int .u64 ((nset 3 : Nat) : Int), .int .u64 7, .int .u64 5, .map (some m)] 46 (0, 0)) from HB6.out.row)).mono ?_
       rintro e w7 ⟨rfl, hb7⟩
       have HB7 := Lib.hid (HB6.out.below hb7)
       have HW7 := Lib.hid (HW6.out.trans (hb7.mono HW6.out.size))
       clear hb7)
    | (go_at_call 18
       refine (base_row (show w7.heap[b]? = some (.cells #[.int .u64 ((nset 3 : Nat) : Int), .int .u64 7, .int .u64 5, .map (some m)] 46 (0, 0)) from HB7.out.row)).mono ?_
       rintro e w8 ⟨rfl, hb8⟩
       have HW8 := Lib.hid (HW7.out.trans (hb8.mono HW7.out.size))
       clear hb8)
    | fail)
  go_ret
  exact ⟨rfl, HW8.out⟩
end Go.Proofs.Ytapfggpeodpflaa
