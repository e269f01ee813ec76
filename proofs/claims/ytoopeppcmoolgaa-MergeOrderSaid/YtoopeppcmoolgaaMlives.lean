/- The chapter's example. -/
import Derived.Test.YtoopeppcmoolgaaMlight
namespace Go.Proofs.Ytoopeppcmoolgaa
open Go.RowKit
set_option maxRecDepth 20000

/-- The example's entry and list. -/
def exE : En := ⟨3, 1, 1, 1, 2, 5, 0, 0, [], none, 0, 0, []⟩
def exL (b : Nat) : Li := ⟨some ⟨b, 0, none⟩, 1, 1, [exE]⟩
theorem ex_bst (b ix : Nat) : bst [exL b] ix = if ix = 3 then some exE else none := by
  unfold bst flat exL bestOf
  simp only [List.flatMap_cons, List.flatMap_nil, List.append_nil, List.foldl_cons, List.foldl_nil]
  unfold bstep btr
  have hv : vd [exE] exE = false := rfl
  rw [hv]
  by_cases h : ix = 3
  · subst h
    simp [exE]
  · have : ¬ exE.ix = ix := fun e => h e.symm
    simp [h, this]
theorem ex_has (b j : Nat) : hasE [exL b] 1 j = decide (j = 1) := by
  unfold hasE
  rw [ex_bst]
  by_cases h : j = 1
  · subst h; simp
  · simp [h, show ¬ 1 + 1 + j = 3 by omega]
theorem ex_had (b : Nat) : ∀ k, hadN (hasE [exL b] 1) (k + 2) = 2 := by
  intro k
  induction k with
  | zero =>
    show (if hasE [exL b] 1 1 = true then 2 else _) = 2
    rw [ex_has]
    rfl
  | succ k ih =>
    show (if hasE [exL b] 1 (k + 2) = true then k + 3 else hadN (hasE [exL b] 1) (k + 2)) = 2
    rw [ex_has, ih]
    rw [if_neg (by simp)]
theorem ex_slc {w : World} {b : Nat} {t t' : TypeId} {fr fr' : Nat × Nat} (h1 : w.heap[b]? = some (.cells exE.cells t fr)) (h2 : w.heap[b + 1]? = some (.cells #[.slice (some ⟨b, 0, none⟩) 1 1] t' fr')) : Slc Li.lay w (some ⟨b + 1, 0, none⟩) 1 1 [exL b] := by
  have he : exE.Reads w := ⟨by decide, by decide, by decide, by decide, ⟨by decide, by decide, by decide, by decide⟩, Nat.zero_le _, Rd.nil_, rfl, fun _ h => by cases h⟩
  refine ⟨⟨Nat.le_refl _, by unfold maxLen; decide, rfl, fun _ => ⟨b + 1, 0, rfl, (Array.getElem?_eq_some_iff.1 h2).1, fun j u hu => ?_⟩⟩, rfl, fun o ho => ?_⟩
  · rw [Nat.zero_add, cell_of_row w _ j _ _ _ h2]
    have : (Li.lay.flat [exL b]) = (#[.slice (some ⟨b, 0, none⟩) 1 1] : Array Value).toList := rfl
    rw [this] at hu
    simpa using hu
  · cases List.mem_singleton.1 ho
    refine ⟨⟨Nat.le_refl _, by show (1 : Nat) ≤ maxLen; unfold maxLen; decide, rfl, fun _ => ⟨b, 0, rfl, (Array.getElem?_eq_some_iff.1 h1).1, fun j u hu => ?_⟩⟩, rfl, fun e he' => by cases List.mem_singleton.1 he'; exact he⟩
    rw [Nat.zero_add, cell_of_row w _ j _ _ _ h1]
    have : ens (exL b).es = exE.cells.toList := rfl
    rw [this] at hu
    simpa using hu
theorem ex_src0 (b : Nat) : srcE [exL b] 1 0 = ⟨2, 0, 0, 2, 0, 0, 0, 0, [], none, 0, 0, []⟩ := by unfold srcE; rw [ex_bst]; rfl
theorem ex_src1 (b : Nat) : srcE [exL b] 1 1 = exE := by unfold srcE; rw [ex_bst]; rfl
theorem ex_g0 (b : Nat) (A : Option Addr) (c : Nat) : ((goes 1 4 2 [exL b] 2 0).put A c).cells[0]? = some (.int .u64 2) ∧ ((goes 1 4 2 [exL b] 2 0).put A c).cells[3]? = some (.int .i64 2) := by
  unfold goes
  rw [ex_src0]
  exact ⟨rfl, rfl⟩
theorem ex_g1 (b : Nat) (A : Option Addr) (c : Nat) : ((goes 1 4 2 [exL b] 2 1).put A c).cells[1]? = some (.int .u64 4) ∧ ((goes 1 4 2 [exL b] 2 1).put A c).cells[2]? = some (.int .u64 4) ∧ ((goes 1 4 2 [exL b] 2 1).put A c).cells[4]? = some (.int .u64 2) ∧ ((goes 1 4 2 [exL b] 2 1).put A c).cells[9]? = some (.slice A 1 c) := by
  unfold goes
  rw [ex_src1]
  exact ⟨rfl, rfl, rfl, rfl⟩
set_option maxHeartbeats 4000000 in
theorem lives23 (w : World) : Calls Try.prog 9 #[] w fun r w' => r = .returned (.bool true) ∧ Below w.heap.size w w' := by
  obtain ⟨W, hW, hz, r0, r1, r2, hb⟩ := boxes3 w exE.cells exE.cells #[.slice (some ⟨w.heap.size + 1, 0, none⟩) 1 1] 29 29 32
  have hm := merge_any (ex_slc r1 r2) (fun e he => by
    have : flat [exL (w.heap.size + 1)] = [exE] := rfl
    rw [this] at he
    cases List.mem_singleton.1 he
    show 0 ≤ 200
    decide) 1 4 (by decide) (by decide) 2
  unfold TMerge at hm
  rw [show 192 = 190 + 2 from rfl, ex_had] at hm
  have HM := Lib.hid hm
  have HB := Lib.hid hb
  unfold exE En.cells at hW
  dsimp only at hW
  subst hW
  clear hm hb r0 r1 r2 hz
  go_enter Try.func9, Try.ntmps9
  go_wp2_with (first
    | (go_at_call 16
       refine HM.out.mono ?_
       rintro e w1 ⟨A9, c9, es, rfl, hE, hG, hb1⟩
       obtain ⟨B0, d0, h0⟩ := hG 0 (by decide)
       obtain ⟨B1, d1, h1⟩ := hG 1 (by decide)
       obtain ⟨b9, o9, rfl, _, hcc⟩ := hE.rd.2.2.2 (by decide)
       have k0 := hcc _ _ (ens_get es 0 _ h0 0 _ (ex_g0 _ _ _).1)
       have k3 := hcc _ _ (ens_get es 0 _ h0 3 _ (ex_g0 _ _ _).2)
       have k11 := hcc _ _ (ens_get es 1 _ h1 1 _ (ex_g1 _ _ _).1)
       have k12 := hcc _ _ (ens_get es 1 _ h1 2 _ (ex_g1 _ _ _).2.1)
       have k14 := hcc _ _ (ens_get es 1 _ h1 4 _ (ex_g1 _ _ _).2.2.1)
       have k19 := hcc _ _ (ens_get es 1 _ h1 9 _ (ex_g1 _ _ _).2.2.2)
       simp only [Nat.zero_mul, Nat.one_mul, Nat.zero_add, Nat.add_zero, Nat.reduceAdd] at k0 k3 k11 k12 k14 k19
       have hc9 := hE.rd.1
       have HB1 := Lib.hid (HB.out.trans (hb1.mono HB.out.size))
       clear hE hG hcc hb1)
    | fail)
  go_ret
  exact ⟨rfl, HB1.out⟩
end Go.Proofs.Ytoopeppcmoolgaa
