/- Contracts of octet's Reader. -/
import Derived.Test.YtlpckhjmbfeegaaOctet
namespace Go.Proofs.Ytlpckhjmbfeegaa
open Go.RowKit

/-- What a reader has left, and whether it is bad. -/
structure St where
  l : List UInt8
  bad : Bool
def St.next (s : St) (n : Int) : List UInt8 × St := if 0 ≤ n ∧ n ≤ s.l.length then (s.l.take n.toNat, ⟨s.l.drop n.toNat, s.bad⟩) else ([], ⟨[], true⟩)

def Rdr (w : World) (g : Nat) (s : St) : Prop := w.heap[g]? = some (.cells #[.string (str s.l), .bool s.bad] 98 (0, 0)) ∧ s.l.length ≤ 1000000

theorem Rdr.cell0 {w : World} {g : Nat} {s : St} (h : Rdr w g s) : w.cell? ⟨g, 0, none⟩ = some (.string (str s.l)) := cell_of_row w g 0 _ _ _ h.1
theorem Rdr.cell1 {w : World} {g : Nat} {s : St} (h : Rdr w g s) : w.cell? ⟨g, 1, none⟩ = some (.bool s.bad) := cell_of_row w g 1 _ _ _ h.1
theorem Rdr.free {w : World} {g : Nat} {s : St} (h : Rdr w g s) (i : Nat) : w.frozen? ⟨g, i, none⟩ = false := frozen_of_row w g i _ _ h.1

theorem Rdr.lt {w : World} {g : Nat} {s : St} (h : Rdr w g s) : g < w.heap.size := (Array.getElem?_eq_some_iff.1 h.1).1
theorem Rdr.kept {w w' : World} {g : Nat} {s : St} {row : Option Nat} (h : Rdr w g s) (hg : w.grownBy w' row) (hne : some g ≠ row) : Rdr w' g s := ⟨(hg.block g h.lt hne).trans h.1, h.2⟩
theorem Rdr.put0 {w : World} {g : Nat} {s : St} (h : Rdr w g s) (l : List UInt8) (hl : l.length ≤ 1000000) : Rdr (w.setCell ⟨g, 0, none⟩ (.string (str l))) g ⟨l, s.bad⟩ := by
  refine ⟨?_, hl⟩
  rw [heap_setCell_same w g 0 _ _ _ h.1]
  rfl
theorem Rdr.put1 {w : World} {g : Nat} {s : St} (h : Rdr w g s) (b : Bool) : Rdr (w.setCell ⟨g, 1, none⟩ (.bool b)) g ⟨s.l, b⟩ := by
  refine ⟨?_, h.2⟩
  rw [heap_setCell_same w g 1 _ _ _ h.1]
  rfl

theorem size_any (g o : Nat) (l : List UInt8) (w : World) (h : w.cell? ⟨g, o, none⟩ = some (.string (str l))) :
    Calls Try.prog 68 #[.pointer (some ⟨g, o, none⟩)] w fun e w' => e = .returned (.int .i64 (l.length : Nat)) ∧ w = w' := by
  have hs : (str l).size = l.length := rfl
  go_enter Try.func68, Try.ntmps68
  go_wp2
  go_ret
  exact ⟨rfl, rfl⟩

theorem rdcut_any (g o : Nat) (l : List UInt8) (n : Int) (w : World) (h : w.cell? ⟨g, o, none⟩ = some (.string (str l))) (hf : w.frozen? ⟨g, o, none⟩ = false) (h0 : 0 ≤ n) (hn : n ≤ l.length) :
    Calls Try.prog 69 #[.pointer (some ⟨g, o, none⟩), .int .i64 n] w fun e w' => e = .returned (.string (str (l.take n.toNat))) ∧ w' = w.setCell ⟨g, o, none⟩ (.string (str (l.drop n.toNat))) := by
  have hs : (str l).size = l.length := rfl
  go_enter Try.func69, Try.ntmps69
  go_wp2
  go_ret
  exact ⟨by rw [← str_take]; rfl, by rw [← str_drop]⟩

theorem fail_nil (w : World) : Calls Try.prog 62 #[.pointer none] w fun e w' => e = .returned (.tuple #[]) ∧ w = w' := by
  go_enter Try.func62, Try.ntmps62
  go_wp2
  go_returns
  exact ⟨rfl, rfl⟩
theorem fail_any (g : Nat) (s : St) (w : World) (h : Rdr w g s) :
    Calls Try.prog 62 #[.pointer (some ⟨g, 0, none⟩)] w fun e w' => e = .returned (.tuple #[]) ∧ Rdr w' g ⟨[], true⟩ ∧ w.grownBy w' (some g) := by
  have hc := h.cell0
  have hd := h.cell1
  have f0 := h.free 0
  have f1 := h.free 1
  have hR : Rdr ((w.setCell ⟨g, 1, none⟩ (.bool true)).setCell ⟨g, 0, none⟩ (.string { data := #[] })) g ⟨[], true⟩ := (h.put1 true).put0 [] (by simp)
  have hB : w.grownBy ((w.setCell ⟨g, 1, none⟩ (.bool true)).setCell ⟨g, 0, none⟩ (.string { data := #[] })) (some g) := setCell_by (w' := w.setCell ⟨g, 1, none⟩ (.bool true)) (p := ⟨g, 0, none⟩) (setCell_by (w' := w) (p := ⟨g, 1, none⟩) (World.grownBy.refl w (some g)) rfl (.bool true)) rfl (.string { data := #[] })
  have HR := Lib.hid hR
  have HB := Lib.hid hB
  clear hR hB
  go_enter Try.func62, Try.ntmps62
  go_wp2
  go_returns
  exact ⟨rfl, HR.out, HB.out⟩
def St.end_ (s : St) : Int := if s.bad = true ∨ 0 < s.l.length then 10 else 0
/-- Only the block g (and what is new) turns. -/
theorem next_nil (n : Int) (w : World) : Calls Try.prog 63 #[.pointer none, .int .i64 n] w fun e w' => e = .returned (.string (str [])) ∧ w = w' := by
  go_enter Try.func63, Try.ntmps63
  go_wp2
  go_ret
  exact ⟨rfl, rfl⟩
theorem next_any (g : Nat) (s : St) (n : Int) (w : World) (h : Rdr w g s) :
    Calls Try.prog 63 #[.pointer (some ⟨g, 0, none⟩), .int .i64 n] w fun e w' => e = .returned (.string (str (s.next n).1)) ∧ Rdr w' g (s.next n).2 ∧ w.grownBy w' (some g) := by
  have hc := h.cell0
  have hf := h.free 0
  have hl := h.2
  by_cases hn : 0 ≤ n ∧ n ≤ s.l.length
  · have hfin : s.next n = (s.l.take n.toNat, ⟨s.l.drop n.toNat, s.bad⟩) := by unfold St.next; rw [if_pos hn]
    have hR := h.put0 (s.l.drop n.toNat) (by rw [List.length_drop]; omega)
    have hB := setCell_by (World.grownBy.refl w (some g)) (p := ⟨g, 0, none⟩) rfl (.string (str (s.l.drop n.toNat)))
    have H := Lib.hid hfin
    have HR := Lib.hid hR
    have HB := Lib.hid hB
    clear hfin hR hB
    obtain ⟨h0, h1⟩ := hn
    go_enter Try.func63, Try.ntmps63
    go_wp2_with (first
      | (go_at_call 68; refine (size_any _ _ _ _ hc).mono ?_; rintro e w' ⟨rfl, rfl⟩)
      | (go_at_call 69; refine (rdcut_any _ _ _ _ _ hc hf h0 h1).mono ?_; rintro e w' ⟨rfl, rfl⟩))
    go_ret
    exact ⟨by rw [H.out]; rfl, by rw [H.out]; exact HR.out, HB.out⟩
  · have hfin : s.next n = ([], ⟨[], true⟩) := by unfold St.next; rw [if_neg hn]
    have H := Lib.hid hfin
    clear hfin
    rcases Int.lt_or_le n 0 with h0 | h0
    · clear hn
      go_enter Try.func63, Try.ntmps63
      go_wp2_with (go_at_call 62; refine (fail_any _ _ _ h).mono ?_; rintro e w' ⟨rfl, hR, hB⟩)
      go_ret
      exact ⟨by rw [H.out]; rfl, by rw [H.out]; exact hR, hB⟩
    · have h1 : (s.l.length : Int) < n := by omega
      clear hn
      go_enter Try.func63, Try.ntmps63
      go_wp2_with (first
        | (go_at_call 68; refine (size_any _ _ _ _ hc).mono ?_; rintro e w' ⟨rfl, rfl⟩)
        | (go_at_call 62; refine (fail_any _ _ _ h).mono ?_; rintro e w' ⟨rfl, hR, hB⟩))
      go_ret
      exact ⟨by rw [H.out]; rfl, by rw [H.out]; exact hR, hB⟩

end Go.Proofs.Ytlpckhjmbfeegaa
