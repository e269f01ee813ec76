/- Pick, Clone, and the chapter's example of layer 6. -/
import Derived.Test.YtfiejdikgbeodaaDrcalls
namespace Go.Proofs.Ytfiejdikgbeodaa
open Go.RowKit

theorem ints_len (l : List Nat) : (ints l).length = l.length := by simp [ints]
theorem Sr.drew {B : Nat} {T : TypeId} {w : World} {p : Option Addr} {l : List UInt8} (h : Sr B T w p l) : Sr B T w.drew p l := h
theorem pick_of {B : Nat} {w : World} {p : Option Addr} {l : List UInt8} {n c b o : Nat} (xs : List Nat) (hS : Sr B 61 w p l) (hr : Rd w w.heap.size 1 (some ⟨b, o, none⟩) n c (ints xs)) (hn0 : 0 < n) (hn : n ≤ 1000) (hne : gof p ≠ some b) :
    Calls Try.prog 33 #[.pointer p, .slice (some ⟨b, o, none⟩) n c] w fun e w' => e = .returned (.int .i64 ((xs.getD (numOf n l) 0 : Nat) : Int)) ∧ Sr B 61 w' p (l.drop (numUsed n)) ∧ w.grownBy w' (gof p) := by
  have hN := num_of (n : Int) (by simp [Lit.wf, IntKind.min, IntKind.max, IntKind.signed, IntKind.bits]; omega) hS
  have hlt := numOf_lt (n : Int) l (by omega)
  have hl : xs.length = n := by have := hr.len; rwa [ints_len] at this
  obtain ⟨x, hx⟩ : ∃ x, x = numOf (n : Int) l := ⟨_, rfl⟩
  rw [← hx] at hN hlt ⊢
  obtain ⟨b', o', hA, hb, hc⟩ := hr.2.2.2 hn0
  cases hA
  have hxn : x < xs.length := by omega
  have hg : xs.getD x 0 = xs[x] := by simp [List.getD, hxn]
  have hc0 : w.cell? ⟨b, o + x, none⟩ = some (.int .i64 ((xs.getD x 0 : Nat) : Int)) := hc x _ (by rw [hg, ints, List.getElem?_map, List.getElem?_eq_getElem hxn]; rfl)
  generalize xs.getD x 0 = y at *
  have kc : ∀ w', w.grownBy w' (gof p) → w'.cell? ⟨b, o + x, none⟩ = some (.int .i64 (y : Int)) := by
    intro w' hg'
    unfold World.cell? at hc0 ⊢
    rw [hg'.block b hb (fun e => hne e.symm)]
    exact hc0
  have HK := Lib.hid kc
  have HX := Lib.hid hx
  clear kc hx hl hg hc hr
  have hn1 : ((n : Int) == 0) = false := by simp; omega
  have hx0 : (0 : Int) ≤ (x : Int) := by omega
  go_enter Try.func33, Try.ntmps33
  go_wp2_with (go_at_call 25; refine hN.mono ?_; rintro e w1 ⟨rfl, hS1, hg1⟩; have hcc := HK.out w1 hg1)
  go_ret
  exact ⟨rfl, hS1, hg1⟩
theorem pick_nil {w : World} {p : Option Addr} :
    Calls Try.prog 33 #[.pointer p, .slice none 0 0] w fun e w' => e = .returned (.int .i64 0) ∧ w = w' := by
  go_enter Try.func33, Try.ntmps33
  go_wp2
  go_ret
  exact ⟨rfl, rfl⟩
theorem clone_nil {w : World} : Calls Try.prog 34 #[.pointer none] w fun e w' => e = .returned (.pointer none) ∧ w = w' := by
  go_enter Try.func34, Try.ntmps34
  go_wp2
  go_ret
  exact ⟨rfl, rfl⟩
theorem clone_of {B : Nat} {w : World} {g : Nat} {l : List UInt8} (hS : Sr B 61 w (some ⟨g, 0, none⟩) l) (hl : l.length ≤ 1000000) :
    Calls Try.prog 34 #[.pointer (some ⟨g, 0, none⟩)] w fun e w' => ∃ g', e = .returned (.pointer (some ⟨g', 0, none⟩)) ∧ w.heap.size ≤ g' ∧ Sr g' 61 w' (some ⟨g', 0, none⟩) l ∧ Below w.heap.size w w' := by
  rcases hS with ⟨h, _⟩ | ⟨g', A, n, c, h, hBg, hrow, hrd⟩
  · cases h
  · cases h
    have hlt : g < w.heap.size := (Array.getElem?_eq_some_iff.1 hrow).1
    have hc : w.cell? ⟨g, 0, none⟩ = some (.slice A n c) := cell_of_row w g 0 _ _ _ hrow
    have hn : n ≤ 1000000 := by have := hrd.len; rw [u8s_len] at this; omega
    have hN := new_of A n c l (hrd.more (by omega)) hn
    clear hn hl
    go_enter Try.func34, Try.ntmps34
    go_wp2_with (go_at_call 22; refine hN.mono ?_; rintro e w1 ⟨g', rfl, hg', hS1, hb1⟩)
    go_ret
    exact ⟨g', rfl, hg', hS1, hb1⟩

theorem wd299 : wd 299 = 2 := by rw [wd_hi (by decide), wd_lo (by decide)]
theorem live1 : numOf 5 [7, 1] = 2 ∧ numUsed 5 = 1 := by
  unfold numOf numUsed
  rw [if_neg (by decide), if_neg (by decide), show (5 : Int).toNat - 1 = 4 from rfl, wd_lo (by decide)]
  exact ⟨rfl, rfl⟩
theorem live2 : numOf 300 [1] = 256 ∧ numUsed 300 = 2 := by
  unfold numOf numUsed
  rw [if_neg (by decide), if_neg (by decide), show (300 : Int).toNat - 1 = 299 from rfl, wd299]
  exact ⟨rfl, rfl⟩
theorem dlives (w : World) : Calls Try.prog 21 #[] w fun e w' => e = .returned (.bool true) ∧ Below w.heap.size w w' := by
  go_enter Try.func21, Try.ntmps21
  go_wp2_with (first
    | (go_at_call 22; refine (new_of _ 2 2 [7, 1] (Rd.lit w #[.int .u8 7, .int .u8 1] _ rfl (by unfold maxLen; omega) (by simp)) (by omega)).mono ?_
       rintro e w1 ⟨g, rfl, hg, hS, hb⟩
       have h1 := fun (w : World) (h : Sr g 61 w (some ⟨g, 0, none⟩) [7, 1]) => num_of (w := w) 5 (by decide) h
       rw [live1.1, live1.2] at h1
       have h2 := fun (w : World) (h : Sr g 61 w (some ⟨g, 0, none⟩) [1]) => num_of (w := w) 300 (by decide) h
       rw [live2.1, live2.2] at h2)
    | (go_at_call 25; (first | refine (h1 _ hS).mono ?_ | refine (h2 _ hS2).mono ?_); first | (rintro e w2 ⟨rfl, hS2, hg2⟩; clear h1) | (rintro e w3 ⟨rfl, hS3, hg3⟩))
    | (go_at_call 35; refine (left_of hS3).mono ?_; rintro e w4 ⟨rfl, rfl⟩))
  go_ret
  refine ⟨rfl, ?_⟩
  have hb0 : Below w.heap.size w w1 := ((Below.refl _ _).alloc (Nat.le_refl _) _).trans (hb.mono (by simp))
  have hgg : w.heap.size ≤ g := by simp at hg; omega
  exact (hb0.grown hg2 hb0.size (fun k e => by obtain rfl : g = k := Option.some.inj e; exact hgg)).grown hg3 (Nat.le_trans hb0.size hg2.size) (fun k e => by obtain rfl : g = k := Option.some.inj e; exact hgg)

end Go.Proofs.Ytfiejdikgbeodaa
