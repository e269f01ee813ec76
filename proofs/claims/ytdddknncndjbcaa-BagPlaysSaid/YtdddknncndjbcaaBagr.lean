/- All that is in a bag: slices.Clone, All, and what it yields. -/
import Derived.Test.YtdddknncndjbcaaBagl
import Derived.Test.YtdddknncndjbcaaRange
import Derived.Sort.QuietIn
import Derived.Deep.DeepCutAuto
import Derived.Deep.CutBlock
namespace Go.Proofs.Ytdddknncndjbcaa
open Go.RowKit
attribute [local go_sem] Oper.semAt_some

/-- A copy of what is read. -/
def Copied (w : World) (n : Nat) (l : List Int) (e : Ending) (w' : World) : Prop := ∃ A c, e = .returned (.slice A n c) ∧ w'.ownsRow w.heap.size 3 1 (.slice A n c) n (is l) ∧ Below w.heap.size w w'
theorem sclone_any {w : World} {A : Option Addr} {n c : Nat} {l : List Int} (h : Rd w w.heap.size 1 A n c (is l)) (hn : n ≤ 1000000) :
    Calls Try.prog 21 #[.slice A n c] w (Copied w n l) := by
  have q := Lib.run_eql_slice_nil (P := Try.prog) w 26 _ A n c 0 0 Try.underlying26
  have hone := is_one l
  cases A with
  | none =>
    obtain rfl : n = 0 := by
      rcases Nat.eq_zero_or_pos n with h0 | h0
      · exact h0
      · obtain ⟨_, _, h1, _⟩ := h.2.2.2 h0
        cases h1
    obtain rfl : l = [] := by
      have := h.len
      rw [is_len] at this
      exact List.eq_nil_of_length_eq_zero this
    go_enter Try.func21, Try.ntmps21
    go_wp2
    go_ret
    exact ⟨none, 0, rfl, World.ownsRow_nil _ _ _ _, Below.refl _ _⟩
  | some a =>
    have HH := Lib.hid h
    clear h
    go_enter Try.func21, Try.ntmps21
    go_wp2_with (first
      | (at_builtin; refine wpL_app (o := ⟨some 7, _, _, _, _, _⟩) (v := .slice (some ⟨w.heap.size, 0, none⟩) 0 0) (y := .slice (some a) n c) rfl (.tmp 5) (.tmp 6) _ _ rfl Ei rfl rfl (World.ownsRow_lit (base := w.heap.size) w #[] 0 (Nat.le_refl _) (Nat.zero_le _) rfl)
           ((HH.out.below ((Below.refl _ _).alloc (Nat.le_refl _) _)).src Try.underlying26 hone) (by unfold maxLen; omega) (by omega) (by simp) ?_; intro v3 w3 hown3 hg3 hat3)
      | fail)
    go_ret
    have hb3 : Below w.heap.size w w3 := ((Below.refl _ _).alloc (Nat.le_refl _) _).grown hg3 (by simp) (fun j e => by cases e; exact Nat.le_refl _)
    obtain ⟨A3, c3, rfl⟩ := ownsRow_form hown3
    rw [Nat.zero_add] at hown3
    refine ⟨A3, c3, ?_, hown3, hb3⟩
    rw [Nat.zero_add]
    rfl
/-- What All tells. -/
def Alls (w : World) (n : Nat) (l : List Int) (e : Ending) (w' : World) : Prop := ∃ A c, e = .returned (.func (.func 22) #[] #[.pointer (some ⟨w.heap.size, 0, none⟩)]) ∧ w'.heap[w.heap.size]? = some (.cells #[.slice A n c] 26 (0, 0)) ∧ w'.ownsRow (w.heap.size + 1) 3 1 (.slice A n c) n (is l) ∧ Below w.heap.size w w'
theorem all_any {w : World} {B g : Nat} {v : Value} {t : Bv} (h : Bg w B g v t) : Calls Try.prog 20 #[.pointer (some ⟨g, 0, none⟩)] w (Alls w t.l.length t.l) := by
  have hsz : t.l.length ≤ 256 := by have := h.room; have := h.most; omega
  obtain ⟨A, c, rfl⟩ := h.form
  have hW : Below w.heap.size w (w.alloc (.cells #[.slice none 0 0] 26)) := (Below.refl _ _).alloc (Nat.le_refl _) _
  have hB := h.below hW
  have c0 := hB.c0
  have HC := Lib.hid (sclone_any (ownsRow_rd hB.own) (by omega))
  have HN := Lib.hid (heap_alloc_new w (.cells #[.slice none 0 0] 26))
  have HBW := Lib.hid hW
  have hg := h.lt
  have e0 := h.c0
  clear hB h hsz hW c0
  unfold Copied at HC
  unfold Alls
  go_enter Try.func20, Try.ntmps20
  go_wp2_with (first
    | (go_at_call 21; refine HC.out.mono ?_; clear HC; rintro e w2 ⟨A2, c2, rfl, ho2, hb2⟩
       have hr2 := row_below HN.out hb2
       have d0 : w2.cell? ⟨w.heap.size, 0, none⟩ = some (.slice none 0 0) := cell_of_row w2 _ 0 _ _ _ hr2
       have f0 := frozen_of_row w2 _ 0 _ _ hr2
       have HO := Lib.hid ho2
       have HB2 := Lib.hid hb2
       have HR2 := Lib.hid hr2
       clear ho2 hb2 hr2)
    | fail)
  go_ret
  have hs := Keeps.set w2 w.heap.size 0 (.slice A2 t.l.length c2)
  have hb : Below w.heap.size w w2 := HBW.out.trans (HB2.out.mono (by simp))
  refine ⟨A2, c2, rfl, ?_, ?_, ⟨hb.os, hb.tape, hb.output, Nat.le_trans hb.size hs.size, fun i hi => (hs.block i (Nat.lt_of_lt_of_le hi hb.size) (by omega)).trans (hb.block i hi)⟩⟩
  · rw [heap_setCell_same w2 w.heap.size 0 _ _ _ HR2.out]; rfl
  · have := hs.own HO.out (fun q hq e => by have := (HO.out.lt q hq).1; simp at this; omega)
    simpa using this
end Go.Proofs.Ytdddknncndjbcaa
