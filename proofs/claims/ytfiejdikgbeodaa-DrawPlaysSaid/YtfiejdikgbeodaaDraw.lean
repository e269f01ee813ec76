/- Contracts of draw's Source, and of the document's own. -/
import Derived.Test.YtfiejdikgbeodaaLens
namespace Go.Proofs.Ytfiejdikgbeodaa
open Go.RowKit

/-- The block of a pointer. -/
def gof (p : Option Addr) : Option Nat := p.map (·.block)
/-- A Source of type T behind p has l left: p is nil and there is none, or its block has a slice that reads l, below it. -/
def Sr (B : Nat) (T : TypeId) (w : World) (p : Option Addr) (l : List UInt8) : Prop :=
  (p = none ∧ l = []) ∨ ∃ g A n c, p = some ⟨g, 0, none⟩ ∧ B ≤ g ∧ w.heap[g]? = some (.cells #[.slice A n c] T (0, 0)) ∧ Rd w B 1 A n c (u8s l)
theorem Rd.tail {w : World} {B n c : Nat} {b o : Nat} {l : List UInt8} (h : Rd w B 1 (some ⟨b, o, none⟩) (n + 1) c (u8s l)) : Rd w B 1 (some ⟨b, o + 1, none⟩) n (c - 1) (u8s l.tail) := by
  have := h.cut (k := 1) (m := n) (by omega)
  have hl := h.len
  rw [u8s_len] at hl
  have e : ((u8s l).drop 1).take n = u8s l.tail := by
    rw [List.take_of_length_le (by rw [List.length_drop, u8s_len]; omega), ← u8s_drop, List.drop_one]
  rw [e] at this
  simpa [addOff] using this
theorem Sr.below {B : Nat} {T : TypeId} {w w' : World} {p : Option Addr} {l : List UInt8} (h : Sr B T w p l) (hb : Below w.heap.size w w') : Sr B T w' p l := by
  rcases h with h | ⟨g, A, n, c, rfl, hBg, hrow, hrd⟩
  · exact .inl h
  · have hlt : g < w.heap.size := (Array.getElem?_eq_some_iff.1 hrow).1
    refine .inr ⟨g, A, n, c, rfl, hBg, (hb.block g hlt).trans hrow, ?_⟩
    exact hrd.keep fun b o k => hb.cell (p := ⟨b, o, none⟩) (by show b < _; omega)
/-- What any of the Source's calls leaves: a Source of l', its own block alone turned. -/
theorem Sr.step {B : Nat} {T : TypeId} {w : World} {g n c n' c' : Nat} {A A' : Option Addr} {l' : List UInt8} (hBg : B ≤ g) (hrow : w.heap[g]? = some (.cells #[.slice A n c] T (0, 0))) (hrd : Rd w B 1 A' n' c' (u8s l')) :
    Sr B T (w.setCell ⟨g, 0, none⟩ (.slice A' n' c')) (some ⟨g, 0, none⟩) l' ∧ w.grownBy (w.setCell ⟨g, 0, none⟩ (.slice A' n' c')) (gof (some ⟨g, 0, none⟩)) :=
  ⟨.inr ⟨g, A', n', c', rfl, hBg, by rw [heap_setCell_same w g 0 _ _ _ hrow]; rfl, hrd.setFar hBg _⟩, setCell_by (World.grownBy.refl w (some g)) (p := ⟨g, 0, none⟩) rfl _⟩

def hd (l : List UInt8) : Nat := (l.headD 0).toNat
theorem hd_lt (l : List UInt8) : hd l < 256 := (l.headD 0).toNat_lt

theorem left_of {B : Nat} {w : World} {p : Option Addr} {l : List UInt8} (h : Sr B 61 w p l) :
    Calls Try.prog 35 #[.pointer p] w fun e w' => e = .returned (.int .i64 (l.length : Nat)) ∧ w = w' := by
  rcases h with ⟨rfl, rfl⟩ | ⟨g, A, n, c, rfl, hBg, hrow, hrd⟩
  · go_enter Try.func35, Try.ntmps35
    go_wp2
    go_ret
    exact ⟨rfl, rfl⟩
  · have hc := cell_of_row w g 0 _ _ _ hrow
    have hl : l.length = n := by have := hrd.len; rwa [u8s_len] at this
    rw [hl]
    go_enter Try.func35, Try.ntmps35
    go_wp2
    go_ret
    exact ⟨rfl, rfl⟩

theorem byte_of {B : Nat} {w : World} {p : Option Addr} {l : List UInt8} (h : Sr B 61 w p l) :
    Calls Try.prog 23 #[.pointer p] w fun e w' => e = .returned (.int .u8 ((hd l : Nat) : Int)) ∧ Sr B 61 w' p l.tail ∧ w.grownBy w' (gof p) := by
  have h0 := h
  rcases h with ⟨rfl, rfl⟩ | ⟨g, A, n, c, rfl, hBg, hrow, hrd⟩
  · go_enter Try.func23, Try.ntmps23
    go_wp2_with (go_at_call 35; refine (left_of h0).mono ?_; rintro e w1 ⟨rfl, rfl⟩)
    go_ret
    exact ⟨rfl, .inl ⟨rfl, rfl⟩, World.grownBy.refl _ _⟩
  · cases l with
    | nil =>
      go_enter Try.func23, Try.ntmps23
      go_wp2_with (go_at_call 35; refine (left_of h0).mono ?_; rintro e w1 ⟨rfl, rfl⟩)
      go_ret
      exact ⟨rfl, h0, World.grownBy.refl _ _⟩
    | cons x l =>
      have hl := hrd.len
      rw [u8s_len, List.length_cons] at hl
      obtain ⟨m, rfl⟩ : ∃ m, n = m + 1 := ⟨l.length, by omega⟩
      obtain ⟨b, o, u, rfl, hb, hu, hx⟩ := hrd.at_ (k := 0) (by omega)
      obtain rfl : u = .int .u8 (x.toNat : Int) := by simpa [u8s, u8] using hu.symm
      have hc : w.cell? ⟨g, 0, none⟩ = some (.slice (some ⟨b, o, none⟩) (m + 1) c) := cell_of_row w g 0 _ _ _ hrow
      have hf := frozen_of_row w g 0 _ _ hrow
      have hfin := Sr.step hBg hrow hrd.tail
      have HF := Lib.hid hfin
      have hfin2 : c ≤ 1 → Sr B 61 (w.setCell ⟨g, 0, none⟩ (.slice (some ⟨b, o, none⟩) m 0)) (some ⟨g, 0, none⟩) l ∧ w.grownBy (w.setCell ⟨g, 0, none⟩ (.slice (some ⟨b, o, none⟩) m 0)) (gof (some ⟨g, 0, none⟩)) := by
        intro h1
        have := hrd.1
        obtain rfl : m = 0 := by omega
        obtain rfl : l = [] := List.eq_nil_of_length_eq_zero (by omega)
        exact Sr.step hBg hrow (Rd.empty (Nat.zero_le _))
      have HG := Lib.hid hfin2
      clear hfin2
      have hnc := hrd.1
      have e0 : ((((x :: l).length : Nat) : Int) == 0) = false := by simp; omega
      clear hfin hu
      rw [Nat.add_zero] at hx
      go_enter Try.func23, Try.ntmps23
      go_wp2_with (go_at_call 35; refine (left_of h0).mono ?_; rintro e w1 ⟨rfl, rfl⟩)
      all_goals go_ret
      all_goals refine ⟨rfl, ?_⟩
      all_goals first | exact HF.out | exact HG.out (by omega)

theorem rleft_of {B : Nat} {w : World} {g : Nat} {l : List UInt8} (h : Sr B 48 w (some ⟨g, 0, none⟩) l) :
    Calls Try.prog 36 #[.pointer (some ⟨g, 0, none⟩)] w fun e w' => e = .returned (.int .i64 (l.length : Nat)) ∧ w = w' := by
  rcases h with ⟨h, _⟩ | ⟨g', A, n, c, h, hBg, hrow, hrd⟩
  · cases h
  · cases h
    have hc := cell_of_row w g 0 _ _ _ hrow
    have hl : l.length = n := by have := hrd.len; rwa [u8s_len] at this
    rw [hl]
    go_enter Try.func36, Try.ntmps36
    go_wp2
    go_ret
    exact ⟨rfl, rfl⟩

theorem rbyte_of {B : Nat} {w : World} {g : Nat} {l : List UInt8} (h : Sr B 48 w (some ⟨g, 0, none⟩) l) :
    Calls Try.prog 24 #[.pointer (some ⟨g, 0, none⟩)] w fun e w' => e = .returned (.int .u8 ((hd l : Nat) : Int)) ∧ Sr B 48 w' (some ⟨g, 0, none⟩) l.tail ∧ w.grownBy w' (some g) := by
  have h0 := h
  rcases h with ⟨h, _⟩ | ⟨g', A, n, c, h, hBg, hrow, hrd⟩
  · cases h
  · cases h
    cases l with
    | nil =>
      have hl := hrd.len
      rw [u8s_len, List.length_nil] at hl
      subst hl
      have hc : w.cell? ⟨g, 0, none⟩ = some (.slice A 0 c) := cell_of_row w g 0 _ _ _ hrow
      go_enter Try.func24, Try.ntmps24
      go_wp2
      go_ret
      exact ⟨rfl, h0, World.grownBy.refl _ _⟩
    | cons x l =>
      have hl := hrd.len
      rw [u8s_len, List.length_cons] at hl
      obtain ⟨m, rfl⟩ : ∃ m, n = m + 1 := ⟨l.length, by omega⟩
      obtain ⟨b, o, u, rfl, hb, hu, hx⟩ := hrd.at_ (k := 0) (by omega)
      obtain rfl : u = .int .u8 (x.toNat : Int) := by simpa [u8s, u8] using hu.symm
      have hc : w.cell? ⟨g, 0, none⟩ = some (.slice (some ⟨b, o, none⟩) (m + 1) c) := cell_of_row w g 0 _ _ _ hrow
      have hf := frozen_of_row w g 0 _ _ hrow
      have hfin := Sr.step hBg hrow hrd.tail
      have HF := Lib.hid hfin
      have hfin2 : c ≤ 1 → Sr B 48 (w.setCell ⟨g, 0, none⟩ (.slice (some ⟨b, o, none⟩) m 0)) (some ⟨g, 0, none⟩) l ∧ w.grownBy (w.setCell ⟨g, 0, none⟩ (.slice (some ⟨b, o, none⟩) m 0)) (gof (some ⟨g, 0, none⟩)) := by
        intro h1
        have := hrd.1
        obtain rfl : m = 0 := by omega
        obtain rfl : l = [] := List.eq_nil_of_length_eq_zero (by omega)
        exact Sr.step hBg hrow (Rd.empty (Nat.zero_le _))
      have HG := Lib.hid hfin2
      clear hfin2
      have hnc := hrd.1
      clear hfin hu
      rw [Nat.add_zero] at hx
      go_enter Try.func24, Try.ntmps24
      go_wp2
      all_goals go_ret
      all_goals refine ⟨rfl, ?_⟩
      all_goals first | exact HF.out | exact HG.out (by omega)

end Go.Proofs.Ytfiejdikgbeodaa
