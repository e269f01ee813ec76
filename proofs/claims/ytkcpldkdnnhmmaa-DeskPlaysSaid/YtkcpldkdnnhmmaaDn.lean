/- New, All. -/
import Derived.Test.YtkcpldkdnnhmmaaDs
namespace Go.Proofs.Ytkcpldkdnnhmmaa
open Go.RowKit
set_option maxRecDepth 20000

theorem lit_is {w w1 : World} (n : Int) (hb : w1 = w.alloc (.cells #[.int .i64 n] 3)) : Rd w1 w1.heap.size 1 (some ⟨w.heap.size, 0, none⟩) 1 1 (Qu.is [n]) := by
  have h := Rd.lit w (B := w1.heap.size) (n := 1) (fr := (0, 0)) #[.int .i64 n] 3 rfl (by decide) (by rw [hb]; simp)
  rw [← hb] at h
  exact h
theorem nset_with (k : Nat) (h : k < 7) : Qu.withN (nset k) [(k : Int)] = nset (k + 1) := by
  have : ∀ m : Fin 7, Qu.withN (nset m.val) [(m.val : Int)] = nset (m.val + 1) := by decide +kernel
  exact this ⟨k, h⟩
def newDk (n self : Nat) : Dk := ⟨n, self, 0, [0, 0, 0, 0, 0, 0, 0], []⟩
theorem newDk_ok {n self : Nat} (h1 : 1 ≤ n) (h7 : n ≤ 7) (hs : self < n) : (newDk n self).Ok := ⟨h1, h7, hs, rfl, Nat.zero_le _, fun x hx => by cases hx⟩
def NewOk (w : World) (n self : Nat) (e : Ending) (w' : World) : Prop := e = .returned (.pointer (some ⟨w.heap.size, 0, none⟩)) ∧ Dg w' w.heap.size w.heap.size (.slice none 0 0) (newDk n self) ∧ Below w.heap.size w w'
theorem dnew_none (n self : Int) (w : World) (h : n < 1 ∨ 7 < n ∨ self < 0 ∨ n ≤ self) : Calls Try.prog 8 #[.int .i64 n, .int .i64 self] w fun e w' => e = .returned (.pointer none) ∧ w = w' := by
  by_cases h1 : n < 1
  · have d1 : decide (n < 1) = true := by simpa using h1
    clear h
    go_enter Try.func8, Try.ntmps8
    go_wp2
    go_ret
    exact ⟨rfl, rfl⟩
  · have d1 : decide (n < 1) = false := by simpa using h1
    by_cases h2 : 7 < n
    · have d2 : decide (7 < n) = true := by simpa using h2
      clear h
      go_enter Try.func8, Try.ntmps8
      go_wp2
      go_ret
      exact ⟨rfl, rfl⟩
    · have d2 : decide (7 < n) = false := by simpa using h2
      by_cases h3 : self < 0
      · have d3 : decide (self < 0) = true := by simpa using h3
        clear h
        go_enter Try.func8, Try.ntmps8
        go_wp2
        go_ret
        exact ⟨rfl, rfl⟩
      · have d3 : decide (self < 0) = false := by simpa using h3
        have h4 : n ≤ self := by omega
        have d4 : decide (n ≤ self) = true := by simpa using h4
        clear h
        go_enter Try.func8, Try.ntmps8
        go_wp2
        go_ret
        exact ⟨rfl, rfl⟩
/-- The row of a desk that is being made. -/
def NRow (w : World) (self i : Nat) (wr : World) : Prop := wr.heap[w.heap.size]? = some (.cells ((newDk i self).cells (.slice none 0 0)).toArray 58 (0, 0)) ∧ Below w.heap.size w wr
set_option maxHeartbeats 2000000 in
theorem dnew_any (n self : Nat) (w : World) (h1 : 1 ≤ n) (h7 : n ≤ 7) (hs : self < n) : Calls Try.prog 8 #[.int .i64 (n : Int), .int .i64 (self : Int)] w (NewOk w n self) := by
  have d1 : decide ((n : Int) < 1) = false := by simp; omega
  have d2 : decide (7 < (n : Int)) = false := by simp; omega
  have d3 : decide ((self : Int) < 0) = false := by simp
  have d4 : decide ((n : Int) ≤ (self : Int)) = false := by simp; omega
  have e1 : ¬ (n : Int) < 1 := by omega
  have e2 : ¬ 7 < (n : Int) := by omega
  have e4 : ¬ (n : Int) ≤ (self : Int) := by omega
  have HOK := Lib.hid (newDk_ok h1 h7 hs)
  have H7 := Lib.hid h7
  unfold NewOk
  have q0 : NRow w self 0 (w.alloc (.cells ((newDk 0 self).cells (.slice none 0 0)).toArray 58)) := ⟨heap_alloc_new w _, (Below.refl _ _).alloc (Nat.le_refl _) _⟩
  have Q0 := Lib.hid q0
  clear h1 h7 hs q0
  go_enter Try.func8, Try.ntmps8
  go_wp2_with (fail)
  go_loopw [26] (fun ir wr => ∃ i : Nat, i ≤ n ∧ ir = .int .i64 (i : Int) ∧ Hid (NRow w self i wr)) (fun ir _ => n - (intOf ir).toNat)
  case atStart => exact ⟨0, Nat.zero_le _, rfl, Q0⟩
  case round =>
    clear Q0
    obtain ⟨i, hi, rfl, HN⟩ := hrel
    by_cases hlt : i < n
    · have hi7 : i < 7 := by have := H7.out; omega
      have c0 : wr.cell? ⟨w.heap.size, 0, none⟩ = some (.int .u64 (nset i : Int)) := cell_of_row wr _ 0 _ _ _ HN.out.1
      have f0 : wr.frozen? ⟨w.heap.size, 0, none⟩ = false := frozen_of_row wr _ 0 _ _ HN.out.1
      obtain ⟨w1, hw1⟩ : ∃ w1, w1 = wr.alloc (.cells #[.int .i64 (i : Int)] 3) := ⟨_, rfl⟩
      have hb1 : Below wr.heap.size wr w1 := by rw [hw1]; exact (Below.refl _ _).alloc (Nat.le_refl _) _
      have hwith := Qu.with_any (nset i) (by have := nset_lt (n := i) (by omega); omega) (lit_is (i : Int) hw1) (by decide)
      rw [nset_with i hi7] at hwith
      have HW := Lib.hid hwith
      have HW1 := Lib.hid hw1
      have hlt0 : w.heap.size < wr.heap.size := (Array.getElem?_eq_some_iff.1 HN.out.1).1
      have r1 := (hb1.block _ hlt0).trans HN.out.1
      have c1 : w1.cell? ⟨w.heap.size, 0, none⟩ = some (.int .u64 (nset i : Int)) := cell_of_row w1 _ 0 _ _ _ r1
      have f1 : w1.frozen? ⟨w.heap.size, 0, none⟩ = false := frozen_of_row w1 _ 0 _ _ r1
      have hend : NRow w self (i + 1) (w1.setCell ⟨w.heap.size, 0, none⟩ (.int .u64 (nset (i + 1) : Int))) := by
        refine ⟨?_, ?_⟩
        · rw [heap_setCell_same w1 w.heap.size 0 _ _ _ r1, List.setIfInBounds_toArray]
          rfl
        · exact (HN.out.2.trans (hb1.mono HN.out.2.size)).grown (setCell_by (World.grownBy.refl w1 (some w.heap.size)) (p := ⟨w.heap.size, 0, none⟩) rfl _) (Nat.le_trans HN.out.2.size hb1.size) (fun q e => by cases e; exact Nat.le_refl _)
      have HE := Lib.hid hend
      have d5 : decide ((i : Int) < (n : Int)) = true := by simpa using hlt
      have hi7i : (i : Int) ≤ 7 := by omega
      have HLT := Lib.hid hlt
      clear hwith hw1 hb1 r1 hend hlt0
      generalize nset (i + 1) = s2 at *
      generalize nset i = s1 at *
      go_wp2_with (first
        | (go_at_call 22; rw [← HW1.out]; refine HW.out.mono ?_; rintro e w3 ⟨rfl, rfl⟩)
        | fail)
      go_roundw
      case rel => exact ⟨i + 1, by have := HLT.out; omega, by go_num, HE⟩
      case measure => have := HLT.out; simp [intOf]; omega
    · obtain rfl : i = n := by omega
      have d5 : decide ((i : Int) < (i : Int)) = false := by simp
      clear hlt
      go_wp2
      go_ret
      refine ⟨rfl, ⟨HN.out.1, World.ownsRow_nil _ _ _ _, (by intro e; cases e), Nat.le_refl _, HOK.out⟩, HN.out.2⟩
/-- A copy of what waits. -/
def Copied (w : World) (l : List Wt) (e : Ending) (w' : World) : Prop := ∃ A c, e = .returned (.slice A l.length c) ∧ w'.ownsRow w.heap.size 55 6 (.slice A l.length c) l.length (wts l) ∧ Below w.heap.size w w'
theorem sclone_any {w : World} {A : Option Addr} {n c : Nat} {l : List Wt} (h : Rd w w.heap.size 6 A n c (wts l)) (hl : l.length = n) (hn : n ≤ 1000) :
    Calls Try.prog 27 #[.slice A n c] w (Copied w l) := by
  subst hl
  have q := Lib.run_eql_slice_nil (P := Try.prog) w 39 _ A l.length c 0 0 Try.underlying39
  have hone := wts_one l
  cases A with
  | none =>
    have hl0 : l = [] := by
      rcases Nat.eq_zero_or_pos l.length with h0 | h0
      · exact List.eq_nil_of_length_eq_zero h0
      · obtain ⟨_, _, h1, _⟩ := h.2.2.2 h0
        cases h1
    subst hl0
    unfold Copied
    simp only [List.length_nil] at q ⊢
    go_enter Try.func27, Try.ntmps27
    go_wp2
    go_ret
    exact ⟨none, 0, rfl, World.ownsRow_nil _ _ _ _, Below.refl _ _⟩
  | some a =>
    have HH := Lib.hid h
    clear h
    go_enter Try.func27, Try.ntmps27
    go_wp2_with (first
      | (at_builtin; refine wpL_app (o := ⟨some 7, _, _, _, _, _⟩) (v := .slice (some ⟨w.heap.size, 0, none⟩) 0 0) (y := .slice (some a) l.length c) rfl (.tmp 5) (.tmp 6) _ _ rfl E_wt rfl rfl (World.ownsRow_lit (base := w.heap.size) w #[] 0 (Nat.le_refl _) (Nat.zero_le _) rfl)
           ((HH.out.below ((Below.refl _ _).alloc (Nat.le_refl _) _)).src Try.underlying39 hone) (by unfold maxLen; omega) (by omega) (by simp) ?_; intro v3 w3 hown3 hg3 hat3)
      | fail)
    go_ret
    have hb3 : Below w.heap.size w w3 := ((Below.refl _ _).alloc (Nat.le_refl _) _).grown hg3 (by simp) (fun j e => by cases e; exact Nat.le_refl _)
    obtain ⟨A3, c3, rfl⟩ := ownsRow_form hown3
    rw [Nat.zero_add] at hown3
    refine ⟨A3, c3, ?_, hown3, hb3⟩
    rw [Nat.zero_add]
    rfl
theorem all_any {w : World} {B g : Nat} {v : Value} {t : Dk} (h : Dg w B g v t) : Calls Try.prog 12 #[.pointer (some ⟨g, 0, none⟩)] w (Copied w t.l) := by
  obtain ⟨A, c, rfl⟩ := h.form
  have HC := Lib.hid (sclone_any ((ownsRow_rd h.own).more (Nat.le_refl _)) rfl (by have := h.ok.room; omega))
  have c10 := h.c10
  clear h
  unfold Copied at HC ⊢
  go_enter Try.func12, Try.ntmps12
  go_wp2_with (first
    | (go_at_call 27; refine HC.out.mono ?_; clear HC; rintro e w2 ⟨A2, c2, rfl, ho2, hb2⟩)
    | fail)
  go_ret
  exact ⟨A2, c2, rfl, ho2, hb2⟩
end Go.Proofs.Ytkcpldkdnnhmmaa
