/- The reference's chain, in memory; its small calls; joined. -/
import Derived.Test.YtlpckhjmbfeegaaCt
namespace Go.Proofs.Ytlpckhjmbfeegaa
open Go.RowKit
set_option maxRecDepth 20000
/-- The reference's chain: its row g, its items A, n, c. -/
structure Rk (w : World) (g : Nat) (A : Option Addr) (c : Nat) (t : Cv) : Prop where
  row : w.heap[g]? = some (.cells #[.int .u64 (t.base : Int), .int .u64 (t.old : Int), .slice A t.l.length c] 70 (0, 0))
  rd : Rd w w.heap.size 3 A t.l.length c (its t.l)
  sep : 0 < t.l.length → ∀ b o, A = some ⟨b, o, none⟩ → b ≠ g
  room : t.l.length ≤ 4096
  bound : t.last < 9000000000000000000
/-- What a call makes of it. -/
def RMv (w : World) (g : Nat) (A : Option Addr) (m : Nat) (t' : Cv) (w' : World) : Prop := ∃ A' c', Rk w' g A' c' t' ∧ Keeps (fun i => i = g) w w' ∧ (0 < t'.l.length → ∀ b o, A' = some ⟨b, o, none⟩ → (0 < m ∧ ∃ o', A = some ⟨b, o', none⟩) ∨ w.heap.size ≤ b)
section
variable {w w' w1 : World} {g c : Nat} {A : Option Addr} {t : Cv}
theorem Rk.lt (h : Rk w g A c t) : g < w.heap.size := (Array.getElem?_eq_some_iff.1 h.row).1
theorem Rk.c0 (h : Rk w g A c t) : w.cell? ⟨g, 0, none⟩ = some (.int .u64 (t.base : Int)) := cell_of_row w g 0 _ _ _ h.row
theorem Rk.c1 (h : Rk w g A c t) : w.cell? ⟨g, 1, none⟩ = some (.int .u64 (t.old : Int)) := cell_of_row w g 1 _ _ _ h.row
theorem Rk.c2 (h : Rk w g A c t) : w.cell? ⟨g, 2, none⟩ = some (.slice A t.l.length c) := cell_of_row w g 2 _ _ _ h.row
theorem Rk.fr (h : Rk w g A c t) (i : Nat) : w.frozen? ⟨g, i, none⟩ = false := frozen_of_row w g i _ _ h.row
theorem Rk.keeps {F : Nat → Prop} (h : Rk w g A c t) (k : Keeps F w w') (hg : ¬ F g) (hF : 0 < t.l.length → ∀ b o, A = some ⟨b, o, none⟩ → ¬ F b) : Rk w' g A c t :=
  ⟨k.row h.row hg, (h.rd.apart (Nat.le_refl _) k hF).more k.size, h.sep, h.room, h.bound⟩
theorem Rk.below (h : Rk w g A c t) (hb : Below w.heap.size w w') : Rk w' g A c t := h.keeps (F := fun _ => False) (Keeps.of_below hb) (fun h => h) (fun _ _ _ _ h => h)
theorem Rk.bl (h : Rk w g A c t) : t.base < 9000000000000000000 := by have := h.bound; unfold Cv.last at this; omega
theorem RMv.same (h : Rk w g A c t) (hb : Below w.heap.size w w') : RMv w g A t.l.length t w' := ⟨A, c, h.below hb, Keeps.of_below hb, fun hn _ o hA => .inl ⟨hn, o, hA⟩⟩
theorem rlast_any (h : Rk w g A c t) : Calls Try.prog 38 #[.pointer (some ⟨g, 0, none⟩)] w fun e w' => e = .returned (.int .u64 (t.last : Int)) ∧ Below w.heap.size w w' := by
  have c0 := h.c0
  have c2 := h.c2
  have hl : (t.l.length : Int) ≤ 4096 := by have := h.room; omega
  have hb : (t.base : Int) < 9000000000000000000 := by have := h.bl; omega
  have wn : IntKind.u64.wrap (t.l.length : Int) = (t.l.length : Int) := u64w _ (by omega) (by omega)
  have wp : IntKind.u64.wrap ((t.base : Int) + (t.l.length : Int)) = (t.last : Int) := by rw [u64w _ (by omega) (by omega)]; unfold Cv.last; omega
  clear h
  go_enter Try.func38, Try.ntmps38
  go_wp2_with (fail)
  go_quiet (fail)
  go_wp2
  go_ret
  exact ⟨rfl, drewN_below _ _⟩
set_option maxHeartbeats 1000000 in
theorem rget_any (h : Rk w g A c t) (i : Nat) : Calls Try.prog 46 #[.pointer (some ⟨g, 0, none⟩), .int .u64 (i : Int)] w (Got w (t.at_ i)) := by
  obtain ⟨W, hW⟩ : ∃ W, W = w.alloc (.cells #[.int .u64 0, .int .i64 0, .string ⟨#[]⟩] 62) := ⟨_, rfl⟩
  have hr := heap_alloc_new w (.cells #[.int .u64 0, .int .i64 0, .string ⟨#[]⟩] 62)
  have hb := (Below.refl w.heap.size w).alloc (Nat.le_refl _) (.cells #[.int .u64 0, .int .i64 0, .string ⟨#[]⟩] 62)
  have hsz : w.heap.size < (w.alloc (.cells #[.int .u64 0, .int .i64 0, .string ⟨#[]⟩] 62)).heap.size := by simp
  rw [← hW] at hr hb hsz
  have h' := h.below hb
  have HL := Lib.hid (rlast_any h')
  have c0 := h'.c0
  have c2 := h'.c2
  have HR := Lib.hid hr
  have HB := Lib.hid hb
  have HH := Lib.hid h'
  by_cases h1 : i ≤ t.base
  · rw [at_none h1]
    have d1 : decide ((i : Int) ≤ (t.base : Int)) = true := by simpa using h1
    have d2 : decide (i ≤ t.base) = true := by simpa using h1
    have k0 : W.cell? ⟨w.heap.size, 0, none⟩ = some (.int .u64 0) := cell_of_row W _ 0 _ _ _ hr
    clear h h' hr hb
    subst hW
    go_enter Try.func46, Try.ntmps46
    go_wp2_with (fail)
    refine bodyPost_ret (results_row_tmp rfl _ w.heap.size 62 _ (0, 0) _ rfl HR.out Try.underlying62 rfl (by rw [rit_size]; rfl)) rfl ⟨rfl, HB.out⟩
  · have d1 : decide ((i : Int) ≤ (t.base : Int)) = false := by simpa using h1
    have d2 : decide (i ≤ t.base) = false := by simpa using h1
    by_cases h2 : t.last < i
    · rw [at_far h2]
      have d3 : decide ((t.last : Int) < (i : Int)) = true := by simpa using h2
      have d4 : decide (t.last < i) = true := by simpa using h2
      clear h h' hr hb
      go_enter Try.func46, Try.ntmps46
      go_upto_region 1 with (fail)
      rw [← hW]
      clear hW
      go_wp2_with (first
        | (go_at_call 38; refine HL.out.mono ?_; rintro e w2 ⟨rfl, hb2⟩
           have HB2 := Lib.hid hb2
           have HR2 := Lib.hid (row_below HR.out hb2)
           have k0 : w2.cell? ⟨w.heap.size, 0, none⟩ = some (.int .u64 0) := cell_of_row w2 _ 0 _ _ _ HR2.out
           have k1 : w2.cell? ⟨w.heap.size, 1, none⟩ = some (.int .i64 0) := cell_of_row w2 _ 1 _ _ _ HR2.out
           have k2 : w2.cell? ⟨w.heap.size, 2, none⟩ = some (.string ⟨#[]⟩) := cell_of_row w2 _ 2 _ _ _ HR2.out
           have f0 := frozen_of_row w2 _ 0 _ _ HR2.out
           have f1 := frozen_of_row w2 _ 1 _ _ HR2.out
           have f2 := frozen_of_row w2 _ 2 _ _ HR2.out
           clear hb2)
        | fail)
      have q0 := heap_setCell_same w2 _ 0 _ _ (.int .u64 0) HR2.out
      have q1 := heap_setCell_same _ _ 1 _ _ (.int .i64 0) q0
      have q2 := heap_setCell_same _ _ 2 _ _ (.string ⟨#[]⟩) q1
      have z2 := HB.out.trans (HB2.out.mono HB.out.size)
      have z3 := z2.trans ((Keeps.set w2 w.heap.size 0 (.int .u64 0)).below z2.size (fun i hi => by omega))
      have z4 := z3.trans ((Keeps.set _ w.heap.size 1 (.int .i64 0)).below z3.size (fun i hi => by omega))
      have z5 := z4.trans ((Keeps.set _ w.heap.size 2 (.string ⟨#[]⟩)).below z4.size (fun i hi => by omega))
      exact bodyPost_ret (results_row_tmp rfl _ w.heap.size 62 _ (0, 0) _ rfl q2 Try.underlying62 rfl (by rw [rit_size]; rfl)) rfl ⟨rfl, z5⟩
    · have d3 : decide ((t.last : Int) < (i : Int)) = false := by simpa using h2
      have d4 : decide (t.last < i) = false := by simpa using h2
      obtain ⟨x, hx, hx2⟩ := at_in (Nat.lt_of_not_le h1) (Nat.le_of_not_lt h2)
      rw [hx]
      clear hx
      obtain ⟨k, hk⟩ : ∃ k, k = i - t.base - 1 := ⟨_, rfl⟩
      rw [← hk] at hx2
      have hkl : k < t.l.length := (List.getElem?_eq_some_iff.1 hx2).1
      have hk2 : (k : Int) < 4096 := by have := h.room; omega
      have hbl : (t.base : Int) < 9000000000000000000 := by have := h.bl; omega
      have u1 : IntKind.u64.wrap ((i : Int) - (t.base : Int)) = (k : Int) + 1 := by rw [u64w _ (by omega) (by omega)]; omega
      have u2 : (i : Int) - (t.base : Int) = (k : Int) + 1 := by omega
      have hkl2 : (k : Int) < (t.l.length : Int) := by omega
      obtain ⟨b, o, rfl, hbb, _, _, _⟩ := h.rd.item rfl hx2
      have hne : b ≠ w.heap.size := by omega
      have HX := Lib.hid hx2
      clear h h' hr hb hx2 hk
      go_enter Try.func46, Try.ntmps46
      go_upto_region 1 with (fail)
      rw [← hW]
      clear hW
      go_wp2_with (first
        | (go_at_call 38; refine HL.out.mono ?_; rintro e w2 ⟨rfl, hb2⟩
           have HB2 := Lib.hid hb2
           have HR2 := Lib.hid (row_below HR.out hb2)
           have h2 := HH.out.below hb2
           have c0 := h2.c0
           have c2 := h2.c2
           obtain ⟨b', o', hA', _, e0, e1, e2⟩ := h2.rd.item rfl HX.out
           cases hA'
           have f0 := frozen_of_row w2 _ 0 _ _ HR2.out
           have f1 := frozen_of_row w2 _ 1 _ _ HR2.out
           have f2 := frozen_of_row w2 _ 2 _ _ HR2.out
           have k0 : w2.cell? ⟨w.heap.size, 0, none⟩ = some (.int .u64 0) := cell_of_row w2 _ 0 _ _ _ HR2.out
           have k1 : w2.cell? ⟨w.heap.size, 1, none⟩ = some (.int .i64 0) := cell_of_row w2 _ 1 _ _ _ HR2.out
           have k2 : w2.cell? ⟨w.heap.size, 2, none⟩ = some (.string ⟨#[]⟩) := cell_of_row w2 _ 2 _ _ _ HR2.out
           clear hb2 h2)
        | fail)
      go_big_region
      all_goals go_wp2
      have q0 := heap_setCell_same w2 _ 0 _ _ (.int .u64 (x.tm : Int)) HR2.out
      have q1 := heap_setCell_same _ _ 1 _ _ (.int .i64 x.kd) q0
      have q2 := heap_setCell_same _ _ 2 _ _ (.string (str x.tx)) q1
      have z2 := HB.out.trans (HB2.out.mono HB.out.size)
      have z3 := z2.trans ((Keeps.set w2 w.heap.size 0 (.int .u64 (x.tm : Int))).below z2.size (fun i hi => by omega))
      have z4 := z3.trans ((Keeps.set _ w.heap.size 1 (.int .i64 x.kd)).below z3.size (fun i hi => by omega))
      have z5 := z4.trans ((Keeps.set _ w.heap.size 2 (.string (str x.tx))).below z4.size (fun i hi => by omega))
      exact bodyPost_ret (results_row_tmp rfl _ w.heap.size 62 _ (0, 0) _ rfl q2 Try.underlying62 rfl (by rw [rit_size]; rfl)) rfl ⟨rfl, z5.drew⟩
set_option maxHeartbeats 1000000 in
theorem rterm_any (h : Rk w g A c t) (i : Nat) : Calls Try.prog 45 #[.pointer (some ⟨g, 0, none⟩), .int .u64 (i : Int)] w (Termed w (t.tm i)) := by
  have HG := Lib.hid (rget_any h i)
  have c0 := h.c0
  have c1 := h.c1
  unfold Cv.tm
  by_cases h1 : i = t.base
  · rw [if_pos h1]
    clear h HG
    subst h1
    go_enter Try.func45, Try.ntmps45
    go_wp2_with (fail)
    go_ret2
    exact ⟨rfl, Below.refl _ _⟩
  · rw [if_neg h1]
    have d1 : decide ((i : Int) = (t.base : Int)) = false := by simp; omega
    have d2 : ((i : Int) == (t.base : Int)) = false := by simp; omega
    clear h
    unfold Got at HG
    have hx : ∀ e w', (e = .returned (.tuple #[.int .u64 ((((t.at_ i).getD itNil).tm : Nat) : Int), .bool (t.at_ i).isSome]) ∧ Below w.heap.size w w') → Termed w ((t.at_ i).map It.tm) e w' := by
      rcases t.at_ i with _ | x
      · exact fun _ _ h => h
      · exact fun _ _ h => h
    refine Calls.mono ?_ hx
    clear hx
    generalize (t.at_ i).isSome = ok at *
    generalize (t.at_ i).getD itNil = x at *
    obtain ⟨tm, kd, tx⟩ := x
    unfold It.cells at HG
    dsimp only at *
    go_enter Try.func45, Try.ntmps45
    go_wp2_with (first
      | (go_at_call 46; refine HG.out.mono ?_; rintro e w2 ⟨rfl, hb2⟩; have HB2 := Lib.hid hb2; clear hb2)
      | fail)
    go_ret2
    exact ⟨rfl, HB2.out.alloc HB2.out.size _⟩
theorem rnewer_any (h : Rk w g A c t) (last term : Nat) : Calls Try.prog 51 #[.pointer (some ⟨g, 0, none⟩), .int .u64 (last : Int), .int .u64 (term : Int)] w fun e w' => e = .returned (.bool (t.newer last term)) ∧ Below w.heap.size w w' := by
  have HL := Lib.hid (rlast_any h)
  have HT := Lib.hid (fun W (hb : Below w.heap.size w W) => rterm_any (h.below hb) t.last)
  have HL2 := Lib.hid (fun W (hb : Below w.heap.size w W) => rlast_any (h.below hb))
  unfold Cv.newer Cv.term
  unfold Termed at HT
  generalize (t.tm t.last).getD 0 = own at *
  generalize (t.tm t.last).isSome = ok at *
  generalize t.last = m at *
  clear h
  by_cases y1 : own < term
  · have q1 : decide ((own : Int) < (term : Int)) = true := by simpa using y1
    have q2 : decide (own < term) = true := by simpa using y1
    rw [q2, Bool.true_or]
    go_enter Try.func51, Try.ntmps51
    go_wp2_with (first
      | (go_at_call 45; refine (HT.out _ HB3.out).mono ?_; rintro e w2 ⟨rfl, hb2⟩; have HB2 := Lib.hid (HB3.out.trans (hb2.mono HB3.out.size)); clear hb2)
      | (go_at_call 38; refine HL.out.mono ?_; rintro e w3 ⟨rfl, hb3⟩; have HB3 := Lib.hid hb3; clear hb3)
      | fail)
    go_ret
    exact ⟨rfl, HB2.out⟩
  · have q1 : decide ((own : Int) < (term : Int)) = false := by simpa using y1
    have q2 : decide (own < term) = false := by simpa using y1
    rw [q2, Bool.false_or]
    by_cases y2 : term = own
    · have q3 : decide (term = own) = true := by simpa using y2
      rw [q3, Bool.true_and]
      have q4 : decide ((m : Int) ≤ (last : Int)) = decide (m ≤ last) := by simp
      subst y2
      by_cases y3 : m ≤ last
      · have q4 : decide ((m : Int) ≤ (last : Int)) = true := by simpa using y3
        have q5 : decide (m ≤ last) = true := by simpa using y3
        rw [q5]
        go_enter Try.func51, Try.ntmps51
        go_wp2_with (first
          | (go_at_call 45; refine (HT.out _ HB3.out).mono ?_; rintro e w2 ⟨rfl, hb2⟩; have HB2 := Lib.hid (HB3.out.trans (hb2.mono HB3.out.size)); clear hb2)
          | (go_at_call 38; refine (HL2.out _ HB2.out).mono ?_; rintro e w3 ⟨rfl, hb3⟩; have HB4 := Lib.hid (HB2.out.trans (hb3.mono HB2.out.size)); clear hb3)
          | (go_at_call 38; refine HL.out.mono ?_; rintro e w3 ⟨rfl, hb3⟩; have HB3 := Lib.hid hb3; clear hb3)
          | fail)
        go_ret
        exact ⟨rfl, HB4.out⟩
      · have q4 : decide ((m : Int) ≤ (last : Int)) = false := by simpa using y3
        have q5 : decide (m ≤ last) = false := by simpa using y3
        rw [q5]
        go_enter Try.func51, Try.ntmps51
        go_wp2_with (first
          | (go_at_call 45; refine (HT.out _ HB3.out).mono ?_; rintro e w2 ⟨rfl, hb2⟩; have HB2 := Lib.hid (HB3.out.trans (hb2.mono HB3.out.size)); clear hb2)
          | (go_at_call 38; refine (HL2.out _ HB2.out).mono ?_; rintro e w3 ⟨rfl, hb3⟩; have HB4 := Lib.hid (HB2.out.trans (hb3.mono HB2.out.size)); clear hb3)
          | (go_at_call 38; refine HL.out.mono ?_; rintro e w3 ⟨rfl, hb3⟩; have HB3 := Lib.hid hb3; clear hb3)
          | fail)
        go_ret
        exact ⟨rfl, HB4.out⟩
    · have q3 : decide (term = own) = false := by simpa using y2
      have q6 : ((term : Int) == (own : Int)) = false := by simp; omega
      have q7 : decide ((term : Int) = (own : Int)) = false := by simp; omega
      rw [q3, Bool.false_and]
      go_enter Try.func51, Try.ntmps51
      go_wp2_with (first
        | (go_at_call 45; refine (HT.out _ HB3.out).mono ?_; rintro e w2 ⟨rfl, hb2⟩; have HB2 := Lib.hid (HB3.out.trans (hb2.mono HB3.out.size)); clear hb2)
        | (go_at_call 38; refine HL.out.mono ?_; rintro e w3 ⟨rfl, hb3⟩; have HB3 := Lib.hid hb3; clear hb3)
        | fail)
      go_ret
      exact ⟨rfl, HB2.out⟩
end
end Go.Proofs.Ytlpckhjmbfeegaa
