/- The document's Add, where nothing is added; all of it. -/
import Derived.Test.YtgejmeankppmhaaDoorRaddM
namespace Go.Proofs.YtgejmeankppmhaaDoor
open Go.RowKit

set_option maxRecDepth 20000 in
set_option maxHeartbeats 2000000 in
theorem radd_zero (T : List Cl) (c r : Nat) (w : World) (hT : Tok T) (hc : c = 0) :
    Calls Tryd.prog 31 #[tbv T, .int .u64 (c : Int), .int .u64 (r : Int)] w fun e w' => e = .returned (.tuple #[tbv T, .bool false]) ∧ Below w.heap.size w w' := by
  subst hc
  have HT := Lib.hid hT.1
  clear hT
  go_enter Tryd.func31, Tryd.ntmps31
  go_wp2_with (first
    | (refine wpL_tbox rfl (.tmp 0) rfl rfl ?_; intro W0 b3 hN; obtain ⟨hb3, hr3, hl3, hz3⟩ := hN)
    | (refine tabB.wpNew (o := ⟨some 6, _, _, _, _, _⟩) rfl rfl ?_; intro W1 b6 hN; obtain ⟨hb6, hr6, hl6, hz6⟩ := hN
       have h3 := Lib.hid (row_below hr3.out hl6)
       have lt3 : b3 < b6 := by have := hb6.out; have := hz3.out; omega)
    | (refine tabB.wpLoad (o := ⟨some 31, _, _, _, _, _⟩) rfl (.tmp 3) rfl rfl h3.out HT.out ?_)
    | (refine tabB.wpStore rfl (.tmp 6) (.tmp 31) rfl rfl rfl hr6.out rfl HT.out ?_; intro W9 hr9 hg9 hz9)
    | fail)
  have hfin : Below w.heap.size w W9 := (hl3.trans (hl6.mono hl3.size)).grown hg9 (hl3.trans (hl6.mono hl3.size)).size (fun k e => by cases e; have := hb3.out; omega)
  have HF := Lib.hid hfin
  clear hfin hg9
  refine bodyPost_ret (results_cell_tmp (fn := Tryd.f31) rfl _ b6 49 _ (0, 0) _ rfl hr9.out Tryd.underlying49 rfl (by rw [tabB.size]; simp [tcells_len, HT.out])) rfl ⟨rfl, HF.out⟩

set_option maxRecDepth 20000 in
set_option maxHeartbeats 2000000 in
theorem radd_far (T : List Cl) (c r : Nat) (w : World) (hT : Tok T) (hc : 8 < c) :
    Calls Tryd.prog 31 #[tbv T, .int .u64 (c : Int), .int .u64 (r : Int)] w fun e w' => e = .returned (.tuple #[tbv T, .bool false]) ∧ Below w.heap.size w w' := by
  have n1 : decide ((c : Int) < 1) = false := by simp; omega
  have n2 : decide ((8 : Int) < (c : Int)) = true := by simp; omega
  clear hc
  have HT := Lib.hid hT.1
  clear hT
  go_enter Tryd.func31, Tryd.ntmps31
  go_wp2_with (first
    | (refine wpL_tbox rfl (.tmp 0) rfl rfl ?_; intro W0 b3 hN; obtain ⟨hb3, hr3, hl3, hz3⟩ := hN)
    | (refine tabB.wpNew (o := ⟨some 6, _, _, _, _, _⟩) rfl rfl ?_; intro W1 b6 hN; obtain ⟨hb6, hr6, hl6, hz6⟩ := hN
       have h3 := Lib.hid (row_below hr3.out hl6)
       have lt3 : b3 < b6 := by have := hb6.out; have := hz3.out; omega)
    | (refine tabB.wpLoad (o := ⟨some 31, _, _, _, _, _⟩) rfl (.tmp 3) rfl rfl h3.out HT.out ?_)
    | (refine tabB.wpStore rfl (.tmp 6) (.tmp 31) rfl rfl rfl hr6.out rfl HT.out ?_; intro W9 hr9 hg9 hz9)
    | fail)
  have hfin : Below w.heap.size w W9 := (hl3.trans (hl6.mono hl3.size)).grown hg9 (hl3.trans (hl6.mono hl3.size)).size (fun k e => by cases e; have := hb3.out; omega)
  have HF := Lib.hid hfin
  clear hfin hg9
  refine bodyPost_ret (results_cell_tmp (fn := Tryd.f31) rfl _ b6 49 _ (0, 0) _ rfl hr9.out Tryd.underlying49 rfl (by rw [tabB.size]; simp [tcells_len, HT.out])) rfl ⟨rfl, HF.out⟩

set_option maxRecDepth 20000 in
set_option maxHeartbeats 2000000 in
theorem radd_old (T : List Cl) (c r : Nat) (w : World) (hT : Tok T) (h8 : 1 ≤ c ∧ c ≤ 8) (ho : oldN (T.getD (c - 1) (0, 0)).1 r = true) :
    Calls Tryd.prog 31 #[tbv T, .int .u64 (c : Int), .int .u64 (r : Int)] w fun e w' => e = .returned (.tuple #[tbv T, .bool false]) ∧ Below w.heap.size w w' := by
  have n1 : decide ((c : Int) < 1) = false := by simp; omega
  have n2 : decide ((8 : Int) < (c : Int)) = false := by simp; omega
  have hold := fun W => rold8_any T c r W hT
  rw [at8_in h8, ho] at hold
  have HO := Lib.hid hold
  clear hold ho h8
  have HT := Lib.hid hT.1
  clear hT
  go_enter Tryd.func31, Tryd.ntmps31
  go_wp2_with (first
    | (refine wpL_tbox rfl (.tmp 0) rfl rfl ?_; intro W0 b3 hN; obtain ⟨hb3, hr3, hl3, hz3⟩ := hN)
    | (refine tabB.wpNew (o := ⟨some 6, _, _, _, _, _⟩) rfl rfl ?_; intro W1 b6 hN; obtain ⟨hb6, hr6, hl6, hz6⟩ := hN
       have h3 := Lib.hid (row_below hr3.out hl6)
       have lt3 : b3 < b6 := by have := hb6.out; have := hz3.out; omega)
    | (refine tabB.wpLoadw (o := ⟨some 20, _, _, _, _, _⟩) rfl (.tmp 3) rfl rfl h3.out HT.out ?_)
    | (go_at_call 52; refine (HO.out _).mono ?_; rintro e w2 ⟨rfl, hb2⟩
       have h23 := Lib.hid (row_below h3.out hb2)
       have h26 := Lib.hid (row_below hr6.out hb2))
    | (refine tabB.wpLoad (o := ⟨some 31, _, _, _, _, _⟩) rfl (.tmp 3) rfl rfl h23.out HT.out ?_)
    | (refine tabB.wpStore rfl (.tmp 6) (.tmp 31) rfl rfl rfl h26.out rfl HT.out ?_; intro W9 hr9 hg9 hz9)
    | fail)
  have hfin : Below w.heap.size w W9 := ((hl3.trans (hl6.mono hl3.size)).trans (hb2.mono (Nat.le_trans hl3.size hl6.size))).grown hg9 ((hl3.trans (hl6.mono hl3.size)).trans (hb2.mono (Nat.le_trans hl3.size hl6.size))).size (fun k e => by cases e; have := hb3.out; omega)
  have HF := Lib.hid hfin
  clear hfin hg9
  refine bodyPost_ret (results_cell_tmp (fn := Tryd.f31) rfl _ b6 49 _ (0, 0) _ rfl hr9.out Tryd.underlying49 rfl (by rw [tabB.size]; simp [tcells_len, HT.out])) rfl ⟨rfl, HF.out⟩

set_option maxRecDepth 20000 in
set_option maxHeartbeats 2000000 in
theorem radd_has (T : List Cl) (c r : Nat) (w : World) (hT : Tok T) (h8 : 1 ≤ c ∧ c ≤ 8) (ho : oldN (T.getD (c - 1) (0, 0)).1 r = false) (hh : hasN (T.getD (c - 1) (0, 0)) r = true) :
    Calls Tryd.prog 31 #[tbv T, .int .u64 (c : Int), .int .u64 (r : Int)] w fun e w' => e = .returned (.tuple #[tbv T, .bool false]) ∧ Below w.heap.size w w' := by
  have n1 : decide ((c : Int) < 1) = false := by simp; omega
  have n2 : decide ((8 : Int) < (c : Int)) = false := by simp; omega
  have hold := fun W => rold8_any T c r W hT
  rw [at8_in h8, ho] at hold
  have HO := Lib.hid hold
  have hhas := fun W => rhas8_any T c r W hT
  rw [at8_in h8, hh] at hhas
  have HH := Lib.hid hhas
  clear hold ho hhas hh h8
  have HT := Lib.hid hT.1
  clear hT
  go_enter Tryd.func31, Tryd.ntmps31
  go_wp2_with (first
    | (refine wpL_tbox rfl (.tmp 0) rfl rfl ?_; intro W0 b3 hN; obtain ⟨hb3, hr3, hl3, hz3⟩ := hN)
    | (refine tabB.wpNew (o := ⟨some 6, _, _, _, _, _⟩) rfl rfl ?_; intro W1 b6 hN; obtain ⟨hb6, hr6, hl6, hz6⟩ := hN
       have h3 := Lib.hid (row_below hr3.out hl6)
       have lt3 : b3 < b6 := by have := hb6.out; have := hz3.out; omega)
    | (refine tabB.wpLoadw (o := ⟨some 20, _, _, _, _, _⟩) rfl (.tmp 3) rfl rfl h3.out HT.out ?_)
    | (go_at_call 52; refine (HO.out _).mono ?_; rintro e w2 ⟨rfl, hb2⟩
       have h23 := Lib.hid (row_below h3.out hb2)
       have h26 := Lib.hid (row_below hr6.out hb2))
    | (refine tabB.wpLoadw (o := ⟨some 26, _, _, _, _, _⟩) rfl (.tmp 3) rfl rfl h23.out HT.out ?_)
    | (go_at_call 53; refine (HH.out _).mono ?_; rintro e w3 ⟨rfl, hb3'⟩
       have h33 := Lib.hid (row_below h23.out hb3')
       have h36 := Lib.hid (row_below h26.out hb3'))
    | (refine tabB.wpLoad (o := ⟨some 31, _, _, _, _, _⟩) rfl (.tmp 3) rfl rfl h33.out HT.out ?_)
    | (refine tabB.wpStore rfl (.tmp 6) (.tmp 31) rfl rfl rfl h36.out rfl HT.out ?_; intro W9 hr9 hg9 hz9)
    | fail)
  have hfin : Below w.heap.size w W9 := (((hl3.trans (hl6.mono hl3.size)).trans (hb2.mono (Nat.le_trans hl3.size hl6.size))).trans (hb3'.mono (Nat.le_trans hl3.size (Nat.le_trans hl6.size hb2.size)))).grown hg9 (((hl3.trans (hl6.mono hl3.size)).trans (hb2.mono (Nat.le_trans hl3.size hl6.size))).trans (hb3'.mono (Nat.le_trans hl3.size (Nat.le_trans hl6.size hb2.size)))).size (fun k e => by cases e; have := hb3.out; omega)
  have HF := Lib.hid hfin
  clear hfin hg9
  refine bodyPost_ret (results_cell_tmp (fn := Tryd.f31) rfl _ b6 49 _ (0, 0) _ rfl hr9.out Tryd.underlying49 rfl (by rw [tabB.size]; simp [tcells_len, HT.out])) rfl ⟨rfl, HF.out⟩

theorem set_same {T : List Cl} {i : Nat} {p : Cl} (h : T[i]? = some p) : T.set i p = T := by
  apply List.ext_getElem?
  intro j
  rw [List.getElem?_set]
  split
  · next e =>
    subst e
    split
    · exact h.symm
    · next hl => rw [List.getElem?_eq_none (by omega)]
  · rfl
theorem set_other {T : List Cl} {i : Nat} {p q : Cl} (h : T[i]? = some p) (hq : q ≠ p) : T.set i q ≠ T := by
  intro e
  have h1 : (T.set i q)[i]? = some q := by
    rw [List.getElem?_set, if_pos rfl, if_pos (List.getElem?_eq_some_iff.1 h).1]
  rw [e, h] at h1
  exact hq (Option.some.inj h1).symm
theorem addT_out {T : List Cl} {c r : Nat} (h8 : ¬ (1 ≤ c ∧ c ≤ 8)) : addT T c r = T := by unfold addT; rw [at8_out h8]; rfl
theorem addT_old {T : List Cl} {c r : Nat} (h8 : 1 ≤ c ∧ c ≤ 8) (ho : oldN (T.getD (c - 1) (0, 0)).1 r = true) : addT T c r = T := by unfold addT; rw [at8_in h8, ho]; rfl
theorem addT_has {T : List Cl} (hT : Tok T) {c r : Nat} (h8 : 1 ≤ c ∧ c ≤ 8) (ho : oldN (T.getD (c - 1) (0, 0)).1 r = false) (hh : hasN (T.getD (c - 1) (0, 0)) r = true) : addT T c r = T := by
  unfold addT
  rw [at8_in h8, ho]
  simp only [Bool.not_false, if_true]
  rw [withN_has (hT.get _) hh ho]
  exact set_same (hT.at_ h8)
theorem addT_new {T : List Cl} (hT : Tok T) {c r : Nat} (h8 : 1 ≤ c ∧ c ≤ 8) (ho : oldN (T.getD (c - 1) (0, 0)).1 r = false) (hh : hasN (T.getD (c - 1) (0, 0)) r = false) : addT T c r = T.set (c - 1) (withN (T.getD (c - 1) (0, 0)) r) ∧ addT T c r ≠ T := by
  have e : addT T c r = T.set (c - 1) (withN (T.getD (c - 1) (0, 0)) r) := by
    unfold addT
    rw [at8_in h8, ho]
    simp only [Bool.not_false, if_true]
  refine ⟨e, ?_⟩
  rw [e]
  exact set_other (hT.at_ h8) (withN_new hh ho)

/-- The document's Add is the program's. -/
theorem radd8_any (T : List Cl) (c r : Nat) (w : World) (hT : Tok T) (hr : r < 18446744073709551616) :
    Calls Tryd.prog 31 #[tbv T, .int .u64 (c : Int), .int .u64 (r : Int)] w fun e w' => e = .returned (.tuple #[tbv (addT T c r), .bool (!decide (addT T c r = T))]) ∧ Below w.heap.size w w' := by
  by_cases h8 : 1 ≤ c ∧ c ≤ 8
  · cases ho : oldN (T.getD (c - 1) (0, 0)).1 r
    · cases hh : hasN (T.getD (c - 1) (0, 0)) r
      · obtain ⟨e1, e2⟩ := addT_new hT h8 ho hh
        have e3 : (!decide (addT T c r = T)) = true := by simp [e2]
        rw [e3, e1]
        exact radd_yes T c r w hT hr h8 ho hh
      · have e1 := addT_has hT h8 ho hh
        have e3 : (!decide (addT T c r = T)) = false := by simp [e1]
        rw [e3, e1]
        exact radd_has T c r w hT h8 ho hh
    · have e1 := addT_old (T := T) h8 ho
      have e3 : (!decide (addT T c r = T)) = false := by simp [e1]
      rw [e3, e1]
      exact radd_old T c r w hT h8 ho
  · have e1 := addT_out (T := T) (r := r) h8
    have e3 : (!decide (addT T c r = T)) = false := by simp [e1]
    rw [e3, e1]
    rcases Nat.lt_or_ge c 1 with h1 | h1
    · exact radd_zero T c r w hT (by omega)
    · exact radd_far T c r w hT (by omega)

end Go.Proofs.YtgejmeankppmhaaDoor
