/- Contracts of octet's Reader: texts, bytes; Read; Text. -/
import Derived.Test.YtccfiblkgngecaaNum
namespace Go.Proofs.Ytccfiblkgngecaa
open Go.RowKit

theorem unle_le (k N : Nat) : unle (le k N) = N % 256 ^ k := by
  induction k generalizing N with
  | zero => simp [le, unle, Nat.mod_one]
  | succ k ih =>
    rw [le, unle, ih, Nat.pow_succ, Nat.mul_comm (256 ^ k) 256, Nat.mod_mul]
    simp
theorem le_unle (l : List UInt8) : le l.length (unle l) = l := by
  induction l with
  | nil => rfl
  | cons b l ih =>
    have hb := b.toNat_lt
    have e1 : (b.toNat + 256 * unle l) % 256 = b.toNat := by omega
    have e2 : (b.toNat + 256 * unle l) / 256 = unle l := by omega
    rw [unle, List.length_cons, le, e1, e2, ih]
    simp

def St.text (s : St) : List UInt8 × St := if 16384 < (s.num 2).1 then ([], ⟨[], true⟩) else (s.num 2).2.next (s.num 2).1

theorem byteCells_str (l : List UInt8) : byteCells (str l) = u8s l := rfl

theorem take_any (g : Nat) (s : St) (n : Int) (w : World) (h : Rdr w g s) :
    Calls Try.prog 22 #[.pointer (some ⟨g, 0, none⟩), .int .i64 n] w fun e w' => ∃ v, e = .returned v ∧ w'.ownsRow w.heap.size 5 1 v (s.next n).1.length (u8s (s.next n).1) ∧ Rdr w' g (s.next n).2 ∧ w.grownBy w' (some g) := by
  have hn := next_any g s n w h
  have hb : (s.next n).1.length ≤ 1000000 := by
    have := h.2
    unfold St.next
    split
    · simp only [List.length_take]; omega
    · simp
  have hg : g < w.heap.size := (Array.getElem?_eq_some_iff.1 h.1).1
  generalize s.next n = r at *
  obtain ⟨t, s'⟩ := r
  dsimp only at hn hb
  have HN := Lib.hid hn
  clear hn
  have hs : (str t).size = t.length := rfl
  go_enter Try.func22, Try.ntmps22
  go_wp2_with (first
    | (go_at_call 39; refine (HN.out).mono ?_; rintro e w1 ⟨rfl, hR, hB⟩; have hz1 := hB.size)
    | (at_make; refine wpL_make rfl _ _ _ rfl (base := w.heap.size) E_u8 t.length rfl rfl (by omega) (by omega) (by omega) (by unfold maxLen; omega) (by omega) ?_; intro w2 hown2 hg2)
    | (refine wpL_cp (o := ⟨some 15, _, _, _, _, _⟩) (y := .string (str t)) rfl (.tmp 13) (.tmp 14) 23 9 rfl E_u8 rfl rfl hown2 (Src.ofString _ Try.underlying9 (str t)) (Nat.le_refl _) ?_; intro w3 hown3 hg3))
  go_ret
  refine ⟨_, rfl, ?_, ?_, ?_⟩
  · rw [byteCells_str, List.drop_of_length_le (by rw [Array.length_toList, size_madeCells, str_size]; exact Nat.le_refl _), List.append_nil] at hown3
    exact hown3
  · exact (hR.kept hg2 (by simp)).kept hg3 (by simp [Value.ownBlock]; omega)
  · exact grownBy_trans (grownBy_trans hB hg2 (.inr fun _ e => by cases e)) hg3 (.inr fun k e => by simp [Value.ownBlock] at e; omega)
theorem take_nil (n : Int) (w : World) : Calls Try.prog 22 #[.pointer none, .int .i64 n] w fun e w' => ∃ v, e = .returned v ∧ w'.ownsRow w.heap.size 5 1 v 0 [] ∧ Below w.heap.size w w' := by
  have hs : (str []).size = 0 := rfl
  go_enter Try.func22, Try.ntmps22
  go_wp2_with (first
    | (go_at_call 39; refine (next_nil _ _).mono ?_; rintro e w1 ⟨rfl, rfl⟩)
    | (at_make; refine wpL_make rfl _ _ _ rfl (base := w.heap.size) E_u8 0 rfl rfl (by omega) (by omega) (by omega) (by unfold maxLen; omega) (by omega) ?_; intro w2 hown2 hg2)
    | (refine wpL_cp (o := ⟨some 15, _, _, _, _, _⟩) (y := .string (str [])) rfl (.tmp 13) (.tmp 14) 23 9 rfl E_u8 rfl rfl hown2 (Src.ofString _ Try.underlying9 (str [])) (Nat.le_refl _) ?_; intro w3 hown3 hg3))
  go_ret
  refine ⟨_, rfl, ?_, ?_⟩
  · rw [byteCells_str, List.drop_of_length_le (by rw [Array.length_toList, size_madeCells, str_size]; exact Nat.le_refl _), List.append_nil] at hown3
    exact hown3
  · exact ((Below.refl _ _).grown hg2 (Nat.le_refl _) (fun k e => by cases e)).grown hg3 hg2.size (fun k e => by simp [Value.ownBlock] at e; omega)

theorem read_any (A : Option Addr) (n c : Nat) (l : List UInt8) (w : World) (h : Rd w w.heap.size 1 A n c (u8s l)) (hn : n ≤ 1000000) :
    Calls Try.prog 20 #[.slice A n c] w fun e w' => ∃ g, e = .returned (.pointer (some ⟨g, 0, none⟩)) ∧ w.heap.size ≤ g ∧ Rdr w' g ⟨l, false⟩ ∧ Below w.heap.size w w' := by
  have hln : l.length = n := by have := h.len; rwa [u8s_len] at this
  have HL := Lib.hid hln
  clear hln
  go_enter Try.func20, Try.ntmps20
  go_wp2_with (refine wpL_str (o := ⟨some 4, _, _, _, _, _⟩) (A := A) (n := n) (c := c) (l := l) rfl (.tmp 3) 23 9 rfl Try.underlying23 Try.underlying5 Try.underlying9 rfl h ?_)
  go_ret
  refine ⟨w.heap.size, rfl, Nat.le_refl _, ⟨heap_alloc_new w _, ?_⟩, (Below.refl _ _).alloc (Nat.le_refl _) _⟩
  rw [HL.out]; exact hn

end Go.Proofs.Ytccfiblkgngecaa
