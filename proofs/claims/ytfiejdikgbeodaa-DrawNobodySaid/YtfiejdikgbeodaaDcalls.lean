/- Contracts of draw's calls. -/
import Derived.Test.YtfiejdikgbeodaaDlista
import Derived.Test.YtfiejdikgbeodaaDlistb
import Derived.Test.YtfiejdikgbeodaaDlistc
namespace Go.Proofs.Ytfiejdikgbeodaa
open Go.RowKit

theorem Sr.lt {B : Nat} {T : TypeId} {w : World} {p : Option Addr} {l : List UInt8} (h : Sr B T w p l) : ∀ g, gof p = some g → g < w.heap.size := by
  intro g hg
  rcases h with ⟨rfl, _⟩ | ⟨g', A, n, c, rfl, hBg, hrow, _⟩
  · cases hg
  · cases hg; exact (Array.getElem?_eq_some_iff.1 hrow).1
/-- How many are drawn when n are asked for. -/
def cap (n : Int) : Nat := (min n 65536).toNat
def bytesL (k : Nat) (l : List UInt8) : List UInt8 := (numsL 256 k l).map UInt8.ofNat
def textL (k : Nat) (l : List UInt8) : List UInt8 := (numsL 26 k l).map fun x => UInt8.ofNat (97 + x)
def ints (l : List Nat) : List Value := l.map fun x : Nat => .int .i64 (x : Int)
theorem bytesL_val (k : Nat) (l : List UInt8) : (numsL 256 k l).map (fun x : Nat => Value.int .u8 (IntKind.u8.wrap (x : Int))) = u8s (bytesL k l) := by
  rw [u8s, bytesL, List.map_map]
  refine List.map_congr_left fun x _ => ?_
  simp only [Function.comp, u8, UInt8.toNat_ofNat', IntKind.wrap_u8]
  rfl
theorem textL_val (k : Nat) (l : List UInt8) : (numsL 26 k l).map (fun x : Nat => Value.int .u8 (IntKind.u8.wrap (97 + IntKind.u8.wrap (x : Int)))) = u8s (textL k l) := by
  rw [u8s, textL, List.map_map]
  refine List.map_congr_left fun x _ => ?_
  simp only [Function.comp, u8, UInt8.toNat_ofNat', IntKind.wrap_u8]
  congr 1
  omega
theorem used256 : numUsed 256 = 1 := by unfold numUsed; rw [if_neg (by decide), wd_lo (by decide)]
theorem used26 : numUsed 26 = 1 := by unfold numUsed; rw [if_neg (by decide), wd_lo (by decide)]

theorem nums_of {w : World} (p : Option Addr) (cnt N : Int) :
    Calls Try.prog 58 #[.pointer p, .int .i64 cnt, .int .i64 N] w fun e w' => e = .returned (.func (.func 79) #[] #[.pointer (some ⟨w.heap.size + 1, 0, none⟩), .pointer (some ⟨w.heap.size, 0, none⟩), .pointer (some ⟨w.heap.size + 2, 0, none⟩)]) ∧
      w'.cell? ⟨w.heap.size, 0, none⟩ = some (.pointer p) ∧ w'.cell? ⟨w.heap.size + 1, 0, none⟩ = some (.int .i64 cnt) ∧ w'.cell? ⟨w.heap.size + 2, 0, none⟩ = some (.int .i64 N) ∧ w'.heap.size = w.heap.size + 3 ∧ Below w.heap.size w w' := by
  go_enter Try.func58, Try.ntmps58
  go_wp2
  obtain ⟨W0, hW0, hz0, hr0, hr1, hr2, hb0⟩ := boxes3 w #[.pointer p] #[.int .i64 cnt] #[.int .i64 N] 44 3 3
  rw [← hW0]
  go_ret
  exact ⟨rfl, cell_of_row _ _ 0 _ _ _ hr0, cell_of_row _ _ 0 _ _ _ hr1, cell_of_row _ _ 0 _ _ _ hr2, hz0, hb0⟩

theorem below_grown {w w' : World} (h : Below w.heap.size w w') (row : Option Nat) : w.grownBy w' row := ⟨h.os, h.tape, h.output, h.size, fun i hi _ => h.block i hi⟩
/-- What listed's contracts want, of what nums leaves. -/
theorem bytes_of {B : Nat} {w : World} {p : Option Addr} {l : List UInt8} (n : Int) (hS : Sr B 61 w p l) :
    Calls Try.prog 27 #[.pointer p, .int .i64 n] w fun e w' => ∃ v, e = .returned v ∧ w'.ownsRow w.heap.size 5 1 v (cap n) (u8s (bytesL (cap n) l)) ∧ Sr B 61 w' p (l.drop (cap n)) ∧ w.grownBy w' (gof p) := by
  obtain ⟨K, hK⟩ : ∃ K, K = cap n := ⟨_, rfl⟩
  rw [← hK]
  have HK := Lib.hid hK
  clear hK
  have hlt := hS.lt
  go_enter Try.func27, Try.ntmps27
  go_wp2_with (first
    | (go_at_call 58; refine (nums_of p n 256).mono ?_; rintro e w1 ⟨rfl, c0, c1, c2, hz, hb⟩)
    | (go_at_call 57; refine (listed_a p l _ _ _ K n 256 (by decide) (hS.below hb) HK.out ⟨by omega, by omega, by omega⟩ c1 c0 c2 (fun g hg => by have := hlt g hg; omega)).mono ?_; rintro e w2 ⟨v, rfl, hown, hS2, hg2⟩))
  go_ret
  rw [bytesL_val] at hown
  rw [used256, Nat.mul_one] at hS2
  exact ⟨v, rfl, ownsRow_low hown (by omega), hS2, (below_grown hb _).trans hg2⟩
theorem nums_of' {B : Nat} {w : World} {p : Option Addr} {l : List UInt8} (n N : Int) (hN : (Lit.int .i64 N).wf = true) (hS : Sr B 61 w p l) :
    Calls Try.prog 31 #[.pointer p, .int .i64 n, .int .i64 N] w fun e w' => ∃ v, e = .returned v ∧ w'.ownsRow w.heap.size 3 1 v (cap n) (ints (numsL N (cap n) l)) ∧ Sr B 61 w' p (l.drop (cap n * numUsed N)) ∧ w.grownBy w' (gof p) := by
  obtain ⟨K, hK⟩ : ∃ K, K = cap n := ⟨_, rfl⟩
  rw [← hK]
  have HK := Lib.hid hK
  clear hK
  have hlt := hS.lt
  go_enter Try.func31, Try.ntmps31
  go_wp2_with (first
    | (go_at_call 58; refine (nums_of p n N).mono ?_; rintro e w1 ⟨rfl, c0, c1, c2, hz, hb⟩)
    | (go_at_call 61; refine (listed_c p l _ _ _ K n N hN (hS.below hb) HK.out ⟨by omega, by omega, by omega⟩ c1 c0 c2 (fun g hg => by have := hlt g hg; omega)).mono ?_; rintro e w2 ⟨v, rfl, hown, hS2, hg2⟩; have HZ := Lib.hid hz; clear hz hlt c0 c1 c2))
  go_ret
  exact ⟨v, rfl, ownsRow_low hown (by have := HZ.out; omega), hS2, (below_grown hb _).trans hg2⟩
set_option maxRecDepth 20000 in
theorem text_of {B : Nat} {w : World} {p : Option Addr} {l : List UInt8} (n : Int) (hS : Sr B 61 w p l) :
    Calls Try.prog 29 #[.pointer p, .int .i64 n] w fun e w' => e = .returned (.string (str (textL (cap n) l))) ∧ Sr B 61 w' p (l.drop (cap n)) ∧ w.grownBy w' (gof p) := by
  obtain ⟨K, hK⟩ : ∃ K, K = cap n := ⟨_, rfl⟩
  rw [← hK]
  have HK := Lib.hid hK
  clear hK
  have hlt := hS.lt
  go_enter Try.func29, Try.ntmps29
  go_wp2_with (first
    | (go_at_call 58; refine (nums_of p n 26).mono ?_; rintro e w1 ⟨rfl, c0, c1, c2, hz, hb⟩)
    | (go_at_call 57; refine (listed_b p l _ _ _ K n 26 (by decide) (hS.below hb) HK.out ⟨by omega, by omega, by omega⟩ c1 c0 c2 (fun g hg => by have := hlt g hg; omega)).mono ?_; rintro e w2 ⟨v, rfl, hown, hS2, hg2⟩
       rw [textL_val K l] at hown
       have HZ := Lib.hid hz
       have HLT := Lib.hid hlt
       clear hz hlt c0 c1 c2
       obtain ⟨A, c, rfl⟩ := ownsRow_form hown
       have hrd := ownsRow_rd hown)
    | (refine wpL_str (o := ⟨some 9, _, _, _, _, _⟩) (A := A) (n := K) (c := c) rfl (.tmp 8) 23 9 rfl Try.underlying23 Try.underlying5 Try.underlying9 rfl hrd ?_)
    | fail)
  go_ret
  rw [used26, Nat.mul_one] at hS2
  exact ⟨rfl, hS2, (below_grown hb _).trans hg2⟩

set_option maxRecDepth 8000 in
theorem copied_of {w : World} (A : Option Addr) (n c : Nat) (l : List UInt8) (h : Rd w w.heap.size 1 A n c (u8s l)) (hn : n ≤ 1000000) :
    Calls Try.prog 54 #[.slice A n c] w fun e w' => ∃ v, e = .returned v ∧ w'.ownsRow w.heap.size 5 1 v n (u8s l) ∧ Below w.heap.size w w' := by
  go_enter Try.func54, Try.ntmps54
  go_wp2_with (first
    | (at_make; refine wpL_make rfl _ _ _ rfl (base := w.heap.size) E8 n rfl rfl (by omega) (by omega) (by omega) (by unfold maxLen; omega) (by omega) ?_; intro w2 hown2 hg2
       have hb2 : Below w.heap.size w w2 := (Below.refl _ _).grown hg2 (Nat.le_refl _) (fun k hk => by cases hk))
    | (refine wpL_cp (o := ⟨some 9, _, _, _, _, _⟩) (y := .slice A n c) (m := n) rfl (.tmp 7) (.tmp 8) 23 23 rfl E8 rfl rfl hown2 ((h.below hb2).src Try.underlying23 (u8s_one l)) (by omega) ?_; intro w3 hown3 hg3))
  go_ret
  refine ⟨_, rfl, ?_, hb2.grown hg3 hb2.size (fun k hk => (hown2.lt k hk).1)⟩
  rw [List.drop_of_length_le, List.append_nil] at hown3
  · exact hown3
  · rw [hown2.1]; exact Nat.le_refl _

theorem new_of {w : World} (A : Option Addr) (n c : Nat) (l : List UInt8) (h : Rd w w.heap.size 1 A n c (u8s l)) (hn : n ≤ 1000000) :
    Calls Try.prog 22 #[.slice A n c] w fun e w' => ∃ g, e = .returned (.pointer (some ⟨g, 0, none⟩)) ∧ w.heap.size ≤ g ∧ Sr g 61 w' (some ⟨g, 0, none⟩) l ∧ Below w.heap.size w w' := by
  go_enter Try.func22, Try.ntmps22
  go_wp2_with (go_at_call 54; refine (copied_of A n c l h hn).mono ?_; rintro e w1 ⟨v, rfl, hown, hb⟩; obtain ⟨A1, c1, rfl⟩ := ownsRow_form hown)
  go_ret
  have hz := hb.size
  refine ⟨w1.heap.size, rfl, hz, .inr ⟨_, A1, n, c1, rfl, Nat.le_refl _, heap_alloc_new w1 _, ?_⟩, hb.alloc hz _⟩
  exact (ownsRow_rd hown).below ((Below.refl _ _).alloc (Nat.le_refl _) _)

end Go.Proofs.Ytfiejdikgbeodaa
