/- A ballot in memory; who has voted, and whether it is won. -/
import Derived.Test.YtenloljcaolkfaaBsd
import Derived.Test.YtenloljcaolkfaaBcp
import Derived.Test.YtenloljcaolkfaaQd
namespace Go.Proofs.Ytenloljcaolkfaa
open Go.RowKit
set_option maxRecDepth 20000

/-- A ballot: its nodes, term, base, the block of its map, and what each voter has. -/
structure Bl where
  nd : Nat
  tm : Nat
  bs : Nat
  m : Nat
  g : Nat → Option Li
def sv (g : Nat → Option Li) : SaysB := fun x => (g x).map Li.v
def Bl.cells (x : Bl) : Array Value := #[.int .u64 (x.nd : Int), .int .u64 (x.tm : Int), .int .u64 (x.bs : Int), .map (some x.m)]
/-- The voters, one by one. -/
def Bl.vs (x : Bl) : List Nat := keysOf (sv x.g)
/-- The set of them. -/
def Bl.vset (x : Bl) : Nat := Qu.withN 0 (x.vs.map fun (i : Nat) => (i : Int))
structure BlAt (w : World) (b : Nat) (x : Bl) : Prop where
  row : w.heap[b]? = some (.cells x.cells 46 (0, 0))
  map : MapB Try.prog 3 w x.m x.vs.length (sv x.g)
  keys : ∀ k l, x.g k = some l → k < 7
  lists : ∀ k l, x.g k = some l → Ents w l.A l.n l.c l.es
  bns : ∀ k l, x.g k = some l → ∀ e ∈ l.es, e.bn ≤ 200
  nd : x.nd < 128
  tm : x.tm < 18446744073709551616
  bs : x.bs < 18446744073709551616
theorem Bl.vs_len (x : Bl) : x.vs.length ≤ 7 := keysOf_len _
theorem sv_some (g : Nat → Option Li) (k : Nat) : (sv g k).isSome = (g k).isSome := by unfold sv; cases g k <;> rfl
theorem Bl.mem_vs (x : Bl) (k : Nat) : k ∈ x.vs ↔ k < 7 ∧ (x.g k).isSome = true := by
  unfold Bl.vs keysOf
  rw [List.mem_filter, List.mem_range, sv_some]
theorem Bl.vset_lt (x : Bl) : x.vset < 18446744073709551616 := Qu.withN_lt _ (by decide)
theorem Bl.vset_bit (x : Bl) (i : Nat) (h : i < 64) : x.vset.testBit i = decide (i < 7 ∧ (x.g i).isSome = true) := by
  unfold Bl.vset
  rw [Qu.withN_bit _ _ _ h, Nat.zero_testBit, Bool.false_or, Bool.eq_iff_iff, List.any_eq_true, decide_eq_true_eq, ← x.mem_vs]
  constructor
  · rintro ⟨z, hz, e⟩
    obtain ⟨k, hk, rfl⟩ := List.mem_map.1 hz
    have := of_decide_eq_true e
    obtain rfl : k = i := by omega
    exact hk
  · intro hk
    exact ⟨_, List.mem_map.2 ⟨i, hk, rfl⟩, by simp⟩
theorem BlAt.below {w w' : World} {b : Nat} {x : Bl} (h : BlAt w b x) (hb : Below w.heap.size w w') : BlAt w' b x :=
  ⟨row_below h.row hb, h.map.same (hb.block _ h.map.lt), h.keys, fun k l hk => (h.lists k l hk).below hb, h.bns, h.nd, h.tm, h.bs⟩
theorem ins_is (l : List Nat) : ins l = Qu.is (l.map fun (i : Nat) => (i : Int)) := by simp [ins, Qu.is]
def TVal (w : World) (v : Value) (e : Ending) (w' : World) : Prop := e = .returned v ∧ Below w.heap.size w w'
set_option maxHeartbeats 1000000 in
theorem voters_any {w : World} {b : Nat} {x : Bl} (h : BlAt w b x) : Calls Try.prog 12 #[.pointer (some ⟨b, 0, none⟩)] w (TVal w (.int .u64 (x.vset : Int))) := by
  have c3 := cell_of_row w b 3 _ _ _ h.row
  have HK := Lib.hid (keysf_any x.m w)
  have HM := Lib.hid (h.map.same (w' := w.alloc (.cells #[.map (some x.m)] 44)) (((Below.refl w.heap.size w).alloc (Nat.le_refl _) _).block _ h.map.lt))
  have HS := Lib.hid (sorted_any w.heap.size x.m x.vs.length (sv x.g) (fun k hk => by rw [sv_some] at hk; obtain ⟨l, hl⟩ := Option.isSome_iff_exists.1 hk; exact h.keys k l hl) (by have := x.vs_len; omega) (w.alloc (.cells #[.map (some x.m)] 44)) (by simp) (cell_of_row _ _ 0 _ _ _ (heap_alloc_new w _)) HM.out)
  have HL := Lib.hid x.vs_len
  unfold TVal Bl.vset Bl.vs at *
  generalize keysOf (sv x.g) = ks at *
  unfold Bl.cells at c3
  clear h HM
  go_enter Try.func12, Try.ntmps12
  go_wp2_with (first
    | (go_at_call 24; refine HK.out.mono ?_; rintro e w1 ⟨rfl, rfl⟩)
    | (go_at_call 23; refine HS.out.mono ?_; rintro e w2 ⟨A, c, rfl, hr, hA, hb⟩; rw [ins_is] at hr; have HR := Lib.hid hr; have HB := Lib.hid hb; clear hr hb hA)
    | (go_at_call 21; refine (Qu.with_any 0 (by decide) HR.out (by have := HL.out; omega)).mono ?_; rintro e w3 ⟨rfl, rfl⟩)
    | fail)
  go_ret
  exact ⟨rfl, ((Below.refl _ _).alloc (Nat.le_refl _) _).trans (HB.out.mono (by simp))⟩
set_option maxHeartbeats 1000000 in
theorem won_any {w : World} {b : Nat} {x : Bl} (h : BlAt w b x) : Calls Try.prog 14 #[.pointer (some ⟨b, 0, none⟩)] w (TVal w (.bool (Qu.majB x.vset x.nd))) := by
  have HV := Lib.hid (fun w' (hb : Below w.heap.size w w') => voters_any (h.below hb))
  have HC := Lib.hid (fun w' (hb : Below w.heap.size w w') => cell_of_row w' b 0 _ _ _ (h.below hb).row)
  have HQ := Lib.hid (fun W => Qu.maj_any x.vset x.nd W x.vset_lt (Nat.lt_trans h.nd (by decide)))
  unfold TVal Bl.cells at *
  generalize x.vset = V at *
  clear h
  go_enter Try.func14, Try.ntmps14
  go_wp2_with (fail)
  refine wp_low w.heap.size [([0, 1, 2, 3, 5, 6, 7, 8], 4), ([], 9)] [10, 11] (by kernel_rfl) (by kernel_rfl) (fun d _ _ _ _ h => by cases d <;> exact h) (Nat.le_refl _) fun wd hbd => ?_
  intro q hq
  have C0 := fun z => HC.out _ (hq z)
  simp only [pickI, Option.toList_some, List.cons_append, List.nil_append, List.getElem?_toArray, List.getElem?_cons_succ, List.getElem?_cons_zero]
  try go_frame
  go_big_quiet_step (fail)
  go_big_quiet_step (fail)
  go_big_quiet_step (fail)
  go_big_quiet_step (fail)
  go_big_quiet_step (fail)
  go_big_quiet_step (fail)
  go_big_quiet_step (fail)
  go_big_quiet_step (fail)
  refine wpQuiet_nil ?_
  clear hq q C0
  refine seg_op (by simp only [List.getElem?_toArray, List.getElem?_cons_succ, List.getElem?_cons_zero]; rfl) fun K hK => ?_
  go_simp
  refine (HV.out _ hbd).mono ?_
  rintro e v0 ⟨rfl, bv0⟩
  have zv0 := hbd.trans (bv0.mono hbd.size)
  refine hK.out _ _ (seg_keep zv0 ?_)
  clear hK K
  intro q hq
  refine wpQuiet_nil ?_
  clear hq q
  refine seg_op (by simp only [List.getElem?_toArray, List.getElem?_cons_succ, List.getElem?_cons_zero]; rfl) fun K hK => ?_
  go_simp
  refine (HQ.out _).mono ?_
  rintro e v1 ⟨rfl, rfl⟩
  have zv1 := zv0
  refine hK.out _ _ (seg_keep zv1 ?_)
  clear hK K
  intro q hq
  have C0 := fun z => HC.out _ (hq z)
  simp only [pickI, Option.toList_some, List.cons_append, List.nil_append, List.getElem?_toArray, List.getElem?_cons_succ, List.getElem?_cons_zero]
  try go_frame
  go_big_quiet_step (fail)
  go_big_quiet_step (fail)
  refine wpQuiet_nil ?_
  clear hq q C0
  go_wp2
  go_ret
  exact ⟨rfl, zv1⟩
end Go.Proofs.Ytenloljcaolkfaa
