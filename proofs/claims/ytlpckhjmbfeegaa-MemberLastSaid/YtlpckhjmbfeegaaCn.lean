/- Calls of a chain that is nil. -/
import Derived.Test.YtlpckhjmbfeegaaCl
namespace Go.Proofs.Ytlpckhjmbfeegaa
open Go.RowKit
set_option maxRecDepth 20000
def Seen (w : World) (e : Ending) (w' : World) : Prop := e = .returned (.pointer (some ⟨w.heap.size, 0, none⟩)) ∧ Ck w' w.heap.size w.heap.size (.slice none 0 0) ⟨0, 0, []⟩ ∧ Below w.heap.size w w'
theorem nseen (w : World) : Calls Try.prog 47 #[.pointer none] w (Seen w) := by
  go_enter Try.func47, Try.ntmps47
  go_wp2
  go_ret
  exact ⟨rfl, ⟨heap_alloc_new w _, World.ownsRow_nil _ _ _ _, Nat.le_refl _, Nat.zero_le _, by decide⟩, (Below.refl _ _).alloc (Nat.le_refl _) _⟩
theorem nbase (w : World) : Calls Try.prog 26 #[.pointer none] w fun e w' => e = .returned (.int .u64 0) ∧ Below w.heap.size w w' := by
  have HS := Lib.hid (nseen w)
  go_enter Try.func26, Try.ntmps26
  go_wp2_with (first
    | (go_at_call 47; refine HS.out.mono ?_; rintro e w2 ⟨rfl, hc, hb⟩; have c0 := hc.c0; have HB := Lib.hid hb; clear hb hc)
    | fail)
  go_ret
  exact ⟨rfl, HB.out⟩
theorem nlast (w : World) : Calls Try.prog 21 #[.pointer none] w fun e w' => e = .returned (.int .u64 0) ∧ Below w.heap.size w w' := by
  have HN := Lib.hid (nbase w)
  have HS := Lib.hid nseen
  go_enter Try.func21, Try.ntmps21
  go_wp2_with (first
    | (go_at_call 26; refine HN.out.mono ?_; rintro e w1 ⟨rfl, hb⟩; have HB1 := Lib.hid hb; clear hb)
    | (go_at_call 47; refine (HS.out _).mono ?_; rintro e w2 ⟨rfl, hc, hb⟩; have c2 := hc.c2; have HB := Lib.hid hb; clear hb hc)
    | fail)
  go_ret
  exact ⟨rfl, HB1.out.trans (HB.out.mono HB1.out.size)⟩
theorem nget (w : World) (i : Nat) (hi : i ≠ 0) : Calls Try.prog 25 #[.pointer none, .int .u64 (i : Int)] w (Got w none) := by
  have HN := Lib.hid nbase
  have HL := Lib.hid nlast
  have d1 : decide ((i : Int) ≤ 0) = false := by simp; omega
  have d2 : decide (i ≤ 0) = false := by simp; omega
  have d3 : decide ((0 : Int) < (i : Int)) = true := by simp; omega
  have d4 : decide (0 < i) = true := by simp; omega
  have d5 : ¬ i = 0 := hi
  obtain ⟨W, hW⟩ : ∃ W, W = w.alloc (.cells #[.int .u64 0, .int .i64 0, .string ⟨#[]⟩] 47) := ⟨_, rfl⟩
  have hr := heap_alloc_new w (.cells #[.int .u64 0, .int .i64 0, .string ⟨#[]⟩] 47)
  have hb := (Below.refl w.heap.size w).alloc (Nat.le_refl _) (.cells #[.int .u64 0, .int .i64 0, .string ⟨#[]⟩] 47)
  rw [← hW] at hr hb
  have HR := Lib.hid hr
  have HB := Lib.hid hb
  have HSZ := Lib.hid (show w.heap.size < W.heap.size by rw [hW]; simp)
  clear hr hb
  go_enter Try.func25, Try.ntmps25
  go_wp2_with (first
    | (go_at_call 26; rw [← hW]; clear hW; refine (HN.out _).mono ?_; rintro e w1 ⟨rfl, hb⟩; have HB1 := Lib.hid hb; clear hb)
    | (go_at_call 21; refine (HL.out _).mono ?_; rintro e w2 ⟨rfl, hb⟩
       have HB2 := Lib.hid (HB1.out.trans (hb.mono HB1.out.size))
       have HR2 := Lib.hid (row_below HR.out HB2.out)
       have k0 : w2.cell? ⟨w.heap.size, 0, none⟩ = some (.int .u64 0) := cell_of_row w2 _ 0 _ _ _ HR2.out
       have k1 : w2.cell? ⟨w.heap.size, 1, none⟩ = some (.int .i64 0) := cell_of_row w2 _ 1 _ _ _ HR2.out
       have k2 : w2.cell? ⟨w.heap.size, 2, none⟩ = some (.string ⟨#[]⟩) := cell_of_row w2 _ 2 _ _ _ HR2.out
       have f0 := frozen_of_row w2 _ 0 _ _ HR2.out
       have f1 := frozen_of_row w2 _ 1 _ _ HR2.out
       have f2 := frozen_of_row w2 _ 2 _ _ HR2.out
       clear hb)
    | fail)
  have q0 := heap_setCell_same w2 _ 0 _ _ (.int .u64 0) HR2.out
  have q1 := heap_setCell_same _ _ 1 _ _ (.int .i64 0) q0
  have q2 := heap_setCell_same _ _ 2 _ _ (.string ⟨#[]⟩) q1
  have z2 := HB.out.trans (HB2.out.mono HB.out.size)
  have z3 := z2.trans ((Keeps.set w2 w.heap.size 0 (.int .u64 0)).below z2.size (fun i hi => by omega))
  have z4 := z3.trans ((Keeps.set _ w.heap.size 1 (.int .i64 0)).below z3.size (fun i hi => by omega))
  have z5 := z4.trans ((Keeps.set _ w.heap.size 2 (.string ⟨#[]⟩)).below z4.size (fun i hi => by omega))
  exact bodyPost_ret (results_row_tmp rfl _ w.heap.size 47 _ (0, 0) _ rfl q2 Try.underlying47 rfl (by rw [it_size]; rfl)) rfl ⟨rfl, z5⟩
theorem nterm (w : World) (i : Nat) : Calls Try.prog 23 #[.pointer none, .int .u64 (i : Int)] w (Termed w (if i = 0 then some 0 else none)) := by
  have HN := Lib.hid nbase
  have HS := Lib.hid nseen
  by_cases hi : i = 0
  · subst hi
    rw [if_pos rfl, show ((0 : Nat) : Int) = 0 from rfl]
    go_enter Try.func23, Try.ntmps23
    go_wp2_with (first
      | (go_at_call 26; refine (HN.out _).mono ?_; rintro e w1 ⟨rfl, hb⟩; have HB1 := Lib.hid hb; clear hb)
      | (go_at_call 47; refine (HS.out _).mono ?_; rintro e w2 ⟨rfl, hc, hb⟩; have c1 := hc.c1; have HB := Lib.hid hb; clear hb hc)
      | fail)
    go_ret2
    exact ⟨rfl, HB1.out.trans (HB.out.mono HB1.out.size)⟩
  · rw [if_neg hi]
    have HG := Lib.hid (fun W => nget W i hi)
    unfold Got at HG
    simp only [Option.getD_none, Option.isSome_none, itNil, It.cells] at HG
    have d1 : ((i : Int) == 0) = false := by simp; omega
    have d2 : ¬ (i : Int) = 0 := by omega
    go_enter Try.func23, Try.ntmps23
    go_wp2_with (first
      | (go_at_call 26; refine (HN.out _).mono ?_; rintro e w1 ⟨rfl, hb⟩; have HB1 := Lib.hid hb; clear hb)
      | (go_at_call 25; refine (HG.out _).mono ?_; rintro e w2 ⟨rfl, hb⟩; have HB := Lib.hid (HB1.out.trans (hb.mono HB1.out.size)); clear hb)
      | fail)
    go_ret2
    exact ⟨rfl, HB.out.alloc HB.out.size _⟩
theorem nfrom (w : World) : Calls Try.prog 24 #[.pointer none, .int .u64 0] w (Rowed w 47 []) := by
  have HN := Lib.hid nbase
  have HL := Lib.hid nlast
  have HS := Lib.hid nseen
  go_enter Try.func24, Try.ntmps24
  go_wp2_with (first
    | (go_at_call 21; refine (HL.out _).mono ?_; rintro e w1 ⟨rfl, hb⟩; have HB1 := Lib.hid hb; clear hb)
    | (go_at_call 47; refine (HS.out _).mono ?_; rintro e w2 ⟨rfl, hc, hb⟩; have c2 := hc.c2; have HB2 := Lib.hid (HB1.out.trans (hb.mono HB1.out.size)); clear hb hc)
    | (go_at_call 26; refine (HN.out _).mono ?_; rintro e w3 ⟨rfl, hb⟩; have HB3 := Lib.hid (HB2.out.trans (hb.mono HB2.out.size)); clear hb)
    | (at_make; refine wpL_make rfl _ _ _ rfl (base := w.heap.size) E_it 0 rfl rfl rfl rfl (by omega) (by unfold maxLen; omega) HB3.out.size ?_; intro w4 hown4 hg4
       have HO := Lib.hid hown4
       have HB4 := Lib.hid (HB3.out.grown hg4 HB3.out.size (fun _ e => by cases e))
       clear hown4 hg4)
    | (refine wpL_cp rfl (.tmp 30) (.tmp 31) _ _ rfl E_it rfl rfl HO.out (Src.ofNil _ Try.underlying31 0) (Nat.zero_le _) ?_; intro w5 hown5 hg5
       have HO5 := Lib.hid hown5
       have HB5 := Lib.hid (HB4.out.grown hg5 HB4.out.size (fun k hk => by have := (HO.out.lt k hk).1; omega))
       clear hown5 hg5)
    | fail)
  go_ret
  have ho := HO5.out
  rw [mades3 0, List.append_nil] at ho
  exact ⟨_, 0, rfl, ho, HB5.out⟩
theorem nmatches (w : World) (prev term : Nat) : Calls Try.prog 43 #[.pointer none, .int .u64 (prev : Int), .int .u64 (term : Int)] w fun e w' => e = .returned (.bool (decide (prev = 0) && decide (term = 0))) ∧ Below w.heap.size w w' := by
  have HT := Lib.hid (nterm w prev)
  have HB := Lib.hid nbase
  unfold Termed at HT
  by_cases y1 : prev = 0
  · subst y1
    rw [if_pos rfl, show ((0 : Nat) : Int) = 0 from rfl] at HT
    rw [show ((0 : Nat) : Int) = 0 from rfl, decide_eq_true rfl, Bool.true_and]
    simp only [Option.getD_some, Option.isSome_some, Int.natCast_zero] at HT
    by_cases y2 : term = 0
    · subst y2
      rw [show ((0 : Nat) : Int) = 0 from rfl, decide_eq_true rfl]
      go_enter Try.func43, Try.ntmps43
      go_wp2_with (first
        | (go_at_call 23; refine HT.out.mono ?_; rintro e w2 ⟨rfl, hb2⟩; have HB2 := Lib.hid hb2; clear hb2)
        | (go_at_call 26; refine (HB.out _).mono ?_; rintro e w3 ⟨rfl, hb3⟩; have HB3 := Lib.hid (HB2.out.trans (hb3.mono HB2.out.size)); clear hb3)
        | fail)
      go_ret
      exact ⟨rfl, HB3.out⟩
    · rw [decide_eq_false y2]
      have d1 : ((0 : Int) == (term : Int)) = false := by simp; omega
      have d2 : ¬ (0 : Int) = (term : Int) := by omega
      have d3 : ¬ 0 = term := by omega
      go_enter Try.func43, Try.ntmps43
      go_wp2_with (first
        | (go_at_call 23; refine HT.out.mono ?_; rintro e w2 ⟨rfl, hb2⟩; have HB2 := Lib.hid hb2; clear hb2)
        | (go_at_call 26; refine (HB.out _).mono ?_; rintro e w3 ⟨rfl, hb3⟩; have HB3 := Lib.hid (HB2.out.trans (hb3.mono HB2.out.size)); clear hb3)
        | fail)
      go_ret
      exact ⟨rfl, HB3.out⟩
  · rw [if_neg y1] at HT
    rw [decide_eq_false y1, Bool.false_and]
    simp only [Option.getD_none, Option.isSome_none, Int.natCast_zero] at HT
    go_enter Try.func43, Try.ntmps43
    go_wp2_with (first
      | (go_at_call 23; refine HT.out.mono ?_; rintro e w2 ⟨rfl, hb2⟩; have HB2 := Lib.hid hb2; clear hb2)
      | (go_at_call 26; refine (HB.out _).mono ?_; rintro e w3 ⟨rfl, hb3⟩; have HB3 := Lib.hid (HB2.out.trans (hb3.mono HB2.out.size)); clear hb3)
      | fail)
    go_ret
    exact ⟨rfl, HB3.out⟩
theorem nput (w : World) (k : Nat) (A : Option Addr) (n c : Nat) : Calls Try.prog 41 #[.pointer none, .int .u64 (k : Int), .slice A n c] w fun e w' => e = .returned (.int .i64 1) ∧ w = w' := by
  go_enter Try.func41, Try.ntmps41
  go_wp2
  go_ret
  exact ⟨rfl, rfl⟩
theorem nadd (w : World) (A : Option Addr) (n c : Nat) : Calls Try.prog 13 #[.pointer none, .slice A n c] w fun e w' => e = .returned (.int .i64 1) ∧ Below w.heap.size w w' := by
  have HP := Lib.hid (fun W => nput W 0 A n c)
  rw [show ((0 : Nat) : Int) = 0 from rfl] at HP
  have HL := Lib.hid nlast
  go_enter Try.func13, Try.ntmps13
  go_wp2_with (first
    | (go_at_call 21; refine (HL.out _).mono ?_; rintro e w1 ⟨rfl, hb⟩; have HB1 := Lib.hid hb; clear hb)
    | (go_at_call 41; refine (HP.out _).mono ?_; rintro e w2 ⟨rfl, rfl⟩)
    | fail)
  go_ret
  exact ⟨rfl, HB1.out⟩
end Go.Proofs.Ytlpckhjmbfeegaa
